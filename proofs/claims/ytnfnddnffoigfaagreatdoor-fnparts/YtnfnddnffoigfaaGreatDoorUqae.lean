/- Texts of Tree2, Tree3, Tree4, Tree5, RegC, RegD, RegE, RegK3, RegT, IntG, Ops1, Ops2, Ops3, Or0, OpsV1, OpsV2, OpsV3. Own work of the verifier. -/
import Derived.Test.YtnfnddnffoigfaaGreatDoorUqaa
import Derived.Deep.RegionLaw
import Derived.Deep.Cut
import Derived.Test.YtnfnddnffoigfaaGreatDoorUqab
import Derived.Lib.BytesEntry
import Derived.Sort.Grow
namespace Go.Proofs.YtnfnddnffoigfaaGreatDoor
set_option maxHeartbeats 2000000
set_option linter.unusedVariables false
set_option maxRecDepth 100000
section
open Go Go.RowKit
theorem infoTerm:(Tryz.prog.info? 48).map (fun i=>(i.zero,i.size,i.bytes))=some (some .nilIface,1,16):=by kernel_rfl
theorem firstLeaf_any (c:Cel)(p:Option Addr)(f:Nat)(a:List Cel)(F w:World)(U:Below F.heap.size F w)(R:c.1≠3)(d:cellB c.1 c.2.1 c.2.2.length=true)(C:a.length+1<=f)(hn:f<=9223372036854775807)(T:CIn F p (c :: a)) :
  Calls Tryz.prog 42 #[.slice p (a.length+1) f] w fun e V=>∃ v q,e = .returned (.tuple #[v,.slice q a.length (f-1)])/\CIn F q a/\FoIn V w.heap.size (.node c .nil .nil) [v]/\Below w.heap.size w V:=by
 obtain⟨b,o,rfl,u⟩:=T (by simp);obtain⟨l,g,z,B,y,G⟩:=(u 0 (by simp)).below U;simp only[List.getD_cons_zero,Nat.zero_mul,Nat.add_zero] at z B y G
 have s:Hid (∀ A,(a.length≠0->A=some ⟨b,o+3,none⟩)->CIn F A a):=fun A Z hl=>⟨b,o+3,Z (by omega),fun i hi=>by
  have:=u (i+1) (by simpa using hi);rw[show o+(i+1) * 3=o+3+i * 3 by omega] at this
  simpa using this⟩
 clear u U;obtain⟨k,n,J⟩:=c;simp only at R d z B y G
 have hk:k=0∨k=1∨k=2:=by simp[cellB] at d;omega
 clear R;have HC:Hid _:=d;clear d
 obtain⟨t,O⟩:∃ t,t=a.length:=⟨_,rfl⟩
 rw[<-O] at C s ⊢
 obtain⟨m,I⟩:∃ m,m=J.length:=⟨_,rfl⟩
 rw[<-I] at y
 have h5:(1:Int)<=(t:Int)+1:=by omega
 have h6:(0:Int)<(t:Int)+1:=by omega
 have X:=hid G;have Y:=hid I;clear T O G I
 rcases hk with rfl | rfl | rfl
 ·have L:∀ x,(w.alloc x).cell? ⟨b,o,none⟩=some (.int .i64 0):=fun x=>Lib.cell?_alloc_marked x z
  have M:∀ x,(w.alloc x).cell? ⟨b,o+1,none⟩=some (.int .i64 n):=fun x=>Lib.cell?_alloc_marked x B
  have N:∀ x,(w.alloc x).cell? ⟨b,o+2,none⟩=some (.slice l m g):=fun x=>Lib.cell?_alloc_marked x y
  have j:Hid (Below w.heap.size w (w.alloc (Obj.cells #[Value.int IntKind.i64 0,Value.int IntKind.i64 n,Value.slice l m g] 27)).drew):=((Below.refl _ _).alloc (Nat.le_refl _) _).drew
  go_enter Tryz.func42,Tryz.ntmps42
  go_wp2
  go_region
  all_goals go_wp2
  ·refine bodyPost_ret (v:=.tuple #[.iface 65 (.int .i64 n),.slice (some ⟨b,o,none⟩) t 0]) (by simp[results,Tryz.results42,go_sem]) rfl ⟨_,_,rfl,s.o _ (fun h=>by omega),⟨_,[],rfl,.inl ⟨rfl,rfl⟩,rfl⟩,j.o⟩
  ·refine bodyPost_ret (v:=.tuple #[.iface 65 (.int .i64 n),.slice (some ⟨b,o+3,none⟩) t (f-1)]) (by simp[results,Tryz.results42,go_sem]) rfl ⟨_,_,rfl,s.o _ (fun h=>rfl),⟨_,[],rfl,.inl ⟨rfl,rfl⟩,rfl⟩,j.o⟩
 ·have L:∀ x,(w.alloc x).cell? ⟨b,o,none⟩=some (.int .i64 1):=fun x=>Lib.cell?_alloc_marked x z
  have M:∀ x,(w.alloc x).cell? ⟨b,o+1,none⟩=some (.int .i64 n):=fun x=>Lib.cell?_alloc_marked x B
  have N:∀ x,(w.alloc x).cell? ⟨b,o+2,none⟩=some (.slice l m g):=fun x=>Lib.cell?_alloc_marked x y
  have j:Hid (Below w.heap.size w (w.alloc (Obj.cells #[Value.int IntKind.i64 1,Value.int IntKind.i64 n,Value.slice l m g] 27)).drew):=((Below.refl _ _).alloc (Nat.le_refl _) _).drew
  go_enter Tryz.func42,Tryz.ntmps42
  go_wp2
  go_region
  all_goals go_wp2
  ·refine bodyPost_ret (v:=.tuple #[.iface 146 (.int .i64 n),.slice (some ⟨b,o,none⟩) t 0]) (by simp[results,Tryz.results42,go_sem]) rfl ⟨_,_,rfl,s.o _ (fun h=>by omega),⟨_,[],rfl,.inr (.inl ⟨rfl,rfl⟩),rfl⟩,j.o⟩
  ·refine bodyPost_ret (v:=.tuple #[.iface 146 (.int .i64 n),.slice (some ⟨b,o+3,none⟩) t (f-1)]) (by simp[results,Tryz.results42,go_sem]) rfl ⟨_,_,rfl,s.o _ (fun h=>rfl),⟨_,[],rfl,.inr (.inl ⟨rfl,rfl⟩),rfl⟩,j.o⟩
 ·have L:∀ x,(w.alloc x).cell? ⟨b,o,none⟩=some (.int .i64 2):=fun x=>Lib.cell?_alloc_marked x z
  have M:∀ x,(w.alloc x).cell? ⟨b,o+1,none⟩=some (.int .i64 n):=fun x=>Lib.cell?_alloc_marked x B
  have N:∀ x,(w.alloc x).cell? ⟨b,o+2,none⟩=some (.slice l m g):=fun x=>Lib.cell?_alloc_marked x y
  have j:Hid (Below w.heap.size w (w.alloc (Obj.cells #[Value.int IntKind.i64 2,Value.int IntKind.i64 n,Value.slice l m g] 27)).drew):=((Below.refl _ _).alloc (Nat.le_refl _) _).drew
  have D:=fun (W:World) (h:Below w.heap.size w W)=>conv_str (X.o.below h) m g Y.o 55 Tryz.underlying55
  have r:=D _ j.o;have E:(convert 22 55 (.slice l m g)).run Tryz.prog (w.alloc (Obj.cells #[Value.int IntKind.i64 2,Value.int IntKind.i64 n,Value.slice l m g] 27)).drew = .ok (.string (strOfNums J)) (w.alloc (Obj.cells #[Value.int IntKind.i64 2,Value.int IntKind.i64 n,Value.slice l m g] 27)).drew:=r;clear D r
  obtain⟨str,H⟩:∃ str,str=strOfNums J:=⟨_,rfl⟩
  rw[<-H] at E;have K:=hid H;clear H
  go_enter Tryz.func42,Tryz.ntmps42
  go_wp2
  go_region
  all_goals go_wp2
  ·refine bodyPost_ret (v:=.tuple #[.iface 55 (.string str),.slice (some ⟨b,o,none⟩) t 0]) (by simp[results,Tryz.results42,go_sem]) rfl ⟨_,_,rfl,s.o _ (fun h=>by omega),⟨_,[],rfl,.inr (.inr (.inl ⟨rfl,by rw[K.o]⟩)),rfl⟩,j.o⟩
  ·refine bodyPost_ret (v:=.tuple #[.iface 55 (.string str),.slice (some ⟨b,o+3,none⟩) t (f-1)]) (by simp[results,Tryz.results42,go_sem]) rfl ⟨_,_,rfl,s.o _ (fun h=>rfl),⟨_,[],rfl,.inr (.inr (.inl ⟨rfl,by rw[K.o]⟩)),rfl⟩,j.o⟩
theorem NodeIn.iface {w:World}{B:Nat}{c:Cel}{K:List Value->Prop}{v:Value}(h:NodeIn w B c K v):∃ t x,v = .iface t x:=by
 rcases h with h | h | h | ⟨h,b,g,d,a,_⟩
 ·exact⟨_,_,h.2⟩
 ·exact⟨_,_,h.2⟩
 ·exact⟨_,_,h.2⟩
 ·exact⟨_,_,a⟩
theorem FoIn.iface {w:World}{B:Nat}{c:Cel}{k r:Fo}{v:Value}{b:List Value}(h:FoIn w B (.node c k r) (v :: b)):∃ t x,v = .iface t x:=by
 obtain⟨d,f,e,a,_⟩:=h;obtain⟨rfl,rfl⟩:=List.cons.inj e;exact a.iface
def FirstOut (w0 w:World)(c:Cel)(k:Fo)(tail:List Cel)(cap:Nat)(e:Ending)(w':World):Prop:=
 ∃ v q l cp,e = .returned (.tuple #[v,.slice q l cp])/\l=tail.length/\cp+1+k.cells.length=cap/\CIn w0 q tail/\FoIn w' w.heap.size (.node c k .nil) [v]/\Below w.heap.size w w'
theorem row_next {B g n:Nat}{w:World}{a:List Value}{j:Nat}(h:w.ownsRow B 48 1 (.slice (some ⟨g,0,none⟩) n n) n (a ++ List.replicate (n-j) .nilIface))(c:a.length=j)(b:j<n)(v:Value) :
  (w.setCell ⟨g,j,none⟩ v).ownsRow B 48 1 (.slice (some ⟨g,0,none⟩) n n) n ((a ++ [v]) ++ List.replicate (n-(j+1)) .nilIface):=by
 have:=(h.stored j v).1;rw[List.set_append_right _ _ (by omega),show j-a.length=0 by omega,show n-j=(n-(j+1))+1 by omega,List.replicate_succ,List.set_cons_zero] at this;rw[List.append_assoc];exact this
theorem firstTerm_any:∀ (N:Nat) (c:Cel) (k:Fo) (p:Option Addr) (l g:Nat) (f:List Cel) (F w:World),Below F.heap.size F w->k.cells.length<=N->(Fo.node c k .nil).ok->l=k.cells.length+f.length+1->l<=g->g<=9223372036854775807->CIn F p (c :: (k.cells ++ f))->
  Calls Tryz.prog 42 #[.slice p l g] w (FirstOut F w c k f g):=by
 intro N
 induction N with
 | zero=>
   intro c k p l g f F w hw hN u hl y hn hc
   have hk:k = .nil:=by cases k with | nil=>rfl | node a b d=>simp[Fo.cells] at hN
   subst hk
   have z:c.1≠3:=fun e=>by
    have H:=u.2.2.1 e;have I:=cellB_comp (e▸u.1)
    simp[Fo.count] at H;omega
   subst hl;have:=firstLeaf_any c p g f F w hw z u.1 (by simpa [Fo.cells] using y) hn hc;simp only[Fo.cells,List.length_nil,Nat.zero_add]
   refine this.mono fun e w' ⟨v,q,H,I,z,U⟩=>⟨v,q,_,_,H,rfl,by simp[Fo.cells];simp[Fo.cells] at y;omega,I,z,U⟩
 | succ N ih=>
   intro c k p l g f F w hw hN u hl y hn hc
   by_cases z:c.1=3
   ·obtain⟨b,o,rfl,h9⟩:=hc (by simp)
    obtain⟨p0,q0,h0,H,I,U⟩:=(h9 0 (by simp)).below hw;simp only[List.getD_cons_zero,Nat.zero_mul,Nat.add_zero] at h0 H I U;have x9:=hid hw
    have HT:Hid (CIn F (some ⟨b,o+3,none⟩) (k.cells ++ f)):=fun hl=>⟨b,o+3,rfl,fun i hi=>by
     have:=h9 (i+1) (by simpa using hi);rw[show o+(i+1) * 3=o+3+i * 3 by omega] at this
     simpa using this⟩
    clear h9 hc hw;have B:=u.2.2.1 z;have w6:=cellB_comp (z▸u.1);have x7:Hid k.ok:=u.2.2.2.2.1;obtain⟨kd,n0,xs⟩:=c;simp only at z h0 H I U B w6;subst z;have h8:=Fo.count_le k
    obtain⟨n,en⟩:∃ n,n=k.count:=⟨_,rfl⟩
    have HE:=hid en;rw[<-en] at B h8;subst B
    have h7:¬ g=1:=by omega
    have w7:(g=1)=False:=by simpa using h7
    obtain⟨m,hm⟩:∃ m,m=xs.length:=⟨_,rfl⟩
    rw[<-hm] at I;have HM:=hid hm;have H4:=hid U;have HL:=hid hl;have HN:=hid hN;have b8:=hid h8
    obtain⟨l',el⟩:∃ l',l=l'+1:=⟨l-1,by omega⟩
    subst el;have x5:Hid _:=ih;clear en U hm hl hN ih u h8
    have a0:∀ x,(w.alloc x).cell? ⟨b,o,none⟩=some (.int .i64 3):=fun x=>Lib.cell?_alloc_marked x h0
    have a1:∀ x,(w.alloc x).cell? ⟨b,o+1,none⟩=some (.int .i64 n):=fun x=>Lib.cell?_alloc_marked x H
    have a2:∀ x,(w.alloc x).cell? ⟨b,o+2,none⟩=some (.slice p0 m q0):=fun x=>Lib.cell?_alloc_marked x I
    have b2:(1:Int)<=(l':Int)+1:=by omega
    have e8:(0:Int)<(l':Int)+1:=by omega
    obtain⟨i0,hi,k5,k6,k7⟩:=info_parts infoTerm
    have b3:n<=maxLen:=by unfold maxLen;omega
    go_enter Tryz.func42,Tryz.ntmps42
    go_wp2_with fail
    go_region
    all_goals go_wp2_with (at_make;refine wpList_make_full _ rfl _ _ 52 rfl (w.heap.size+1) 48 i0 .nilIface 1 Tryz.underlying52 hi k5 k6 _ _ _ _ n rfl rfl rfl rfl (by rw[k7];omega) b3 (by simp) ?_;intro w1 Y E)
    have k1:Hid (w1.ownsRow (w.heap.size+1) 48 1 (.slice (some ⟨w.heap.size+1,0,none⟩) n n) n ([] ++ List.replicate (n-0) .nilIface)):=by
     have:=Y
     simp[Value.cells,toList_madeCells_one] at this
     exact this
    have h5:Hid (Below (w.heap.size+1) (w.alloc (Obj.cells #[Value.int IntKind.i64 3,Value.int IntKind.i64 n,Value.slice p0 m q0] 27)).drew w1):=(Below.refl _ _).grown E (by simp) (fun k h=>by cases h);have w4:Hid (Box3 w1 w.heap.size (.int .i64 3) (.int .i64 n) (.slice p0 m q0)):=Box3.of_block (t:=27) ((h5.o.block _ (by omega)).trans (heap_alloc_new _ _));have w3:Hid (Below w.heap.size w w1):=((Below.refl _ _).alloc (Nat.le_refl _) _).drew.trans (h5.o.mono (by omega))
    have b4:w.heap.size+2<=w1.heap.size:=by
     rcases k1.o.2 with ⟨h',_⟩ | ⟨g',b7,b9,hv,c1,w9,_⟩
     ·simp at h'
     ·simp only[Value.slice.injEq,Option.some.injEq,Addr.mk.injEq,and_true,true_and] at hv
      have:=(Array.getElem?_eq_some_iff.1 w9).1
      omega
    clear Y E hi k5 k6 k7 a0 a1 a2 h0 H I b2 e8 h5
    go_loopw [5,39] (fun s i wr=>∃ (D R:Fo) (L:List Value) (q:Option Addr) (j Z G:Nat),j<=n/\Z<=G/\G<=g/\i = .int .i64 j/\s = .slice q Z G/\Hid (k=D.cat R/\D.count=j/\L.length=j/\Z=R.cells.length+f.length/\G+1+D.cells.length=g)/\
     Hid (CIn F q (R.cells ++ f))/\Hid (FoIn wr (w.heap.size+2) D L)/\Hid (wr.ownsRow (w.heap.size+1) 48 1 (.slice (some ⟨w.heap.size+1,0,none⟩) n n) n (L ++ List.replicate (n-j) .nilIface))/\
     Hid (Below w.heap.size w wr)/\Hid (Box3 wr w.heap.size (.int .i64 3) (.int .i64 n) (.slice p0 m q0))/\w.heap.size+2<=wr.heap.size) (fun _ i _=>n-(intOf i).toNat)
    case atStart=>exact⟨.nil,k,[],_,0,l',g-1,Nat.zero_le _,by omega,by omega,rfl,rfl,⟨rfl,rfl,rfl,by have:=HL.o;omega,by simp[Fo.cells];omega⟩,HT.o,rfl,k1,w3,w4,b4⟩
    case round=>
     obtain⟨D,R,L,q,j,Z,G,hj,b1,c4,rfl,rfl,M,HC,HI,HR,HB,HX,b5⟩:=hrel
     by_cases e8:j<n
     ·obtain⟨T,J,K,rfl⟩:∃ T J K,R = .node T J K:=by
       cases R with
       | nil=>
         have:=M.o;rw[Fo.cat_nil] at this;have e:=HE.o;rw[this.1,this.2.1] at e
         omega
       | node T J K=>exact⟨T,J,K,rfl⟩
      have r:=(Fo.ok_cat D (.node T J K)).1 (M.o.1▸x7.o)
      have W:D.cells.length+(J.cells.length+K.cells.length+1)=k.cells.length:=by
       rw[M.o.1,Fo.cells_cat];simp[Fo.cells]
      have HS:=x5.o T J q Z G (K.cells ++ f) F wr (Below.on x9.o HB.o) (by have:=HN.o;omega) ⟨r.2.1,r.2.2.1,r.2.2.2.1,r.2.2.2.2.1,r.2.2.2.2.2.1,trivial⟩ (by rw[M.o.2.2.2.1];simp[Fo.cells];omega) b1 (by omega)
       (by have:=HC.o;simpa [Fo.cells,List.append_assoc] using this)
      have b6:Hid K.ok:=r.2.2.2.2.2.2;have e9:Hid _:=W;clear r W;go_wp2_with fail;refine HS.mono ?_;rintro e w2 ⟨v,q2,l3,c3,rfl,k3,k2,V,C,O⟩;obtain⟨vt,vx,rfl⟩:=C.iface
      have d0:w2.cell? ⟨w.heap.size+1,j,none⟩=some .nilIface:=by
       rw[O.cell (p:=⟨w.heap.size+1,j,none⟩) (show w.heap.size+1<_ by omega),HR.o.cellAt j (by omega),List.getElem?_append_right (by have:=M.o.2.2.1;omega),List.getElem?_replicate,if_pos (by have:=M.o.2.2.1;omega)]
      have d1:w2.frozen? ⟨w.heap.size+1,j,none⟩=false:=(O.frozen (p:=⟨w.heap.size+1,j,none⟩) (show w.heap.size+1<_ by omega)).trans (HR.o.frozenAt j);have A:=hid O;have x4:=hid V;have k9:=hid C
      have x6:Hid (l3=(K.cells ++ f).length/\c3+1+J.cells.length=G):=⟨k3,k2⟩
      clear O V C k3 k2 HS
      go_wp2
      have k8:=hid (Below.on HB.o A.o);have x8:=hid (row_below HR.o A.o);have x3:Hid (FoIn w2 (w.heap.size+2) (D.cat (.node T J .nil)) (L ++ [.iface vt vx])):=FoIn.cat _ _ _ _ (HI.o.below A.o) (k9.o.mono (by omega));have w5:Hid (Box3 w2 w.heap.size (.int .i64 3) (.int .i64 n) (.slice p0 m q0)):=HX.o.below A.o (by omega);have k4:w.heap.size+2<=w2.heap.size:=Nat.le_trans b5 A.o.size;obtain⟨e1,e2,e3,e4,e5⟩:=M.o;have e6:=e9.o;have e7:=x6.o;have G1:=x3.o.setCell (a:=⟨w.heap.size+1,j,none⟩) (show w.heap.size+1<w.heap.size+2 by omega) (Value.iface vt vx);have G2:=row_next x8.o e3 e8 (Value.iface vt vx);have G3:=w5.o.setCell (a:=⟨w.heap.size+1,j,none⟩) (show w.heap.size+1≠w.heap.size by omega) (Value.iface vt vx)
      have G4:=k8.o.setCell (p:=⟨w.heap.size+1,j,none⟩) (show w.heap.size<=w.heap.size+1 by omega) (Value.iface vt vx);go_roundw
      case rel=>exact⟨D.cat (.node T J .nil),K,L ++ [Value.iface vt vx],q2,j+1,l3,c3,by omega,by rw[e7.1,List.length_append];have:=HL.o;omega,by omega,by go_num,rfl,
       ⟨by rw[Fo.cat_assoc];exact e1,by rw[Fo.count_cat,e2];rfl,by simp[e3],by rw[e7.1,List.length_append],by rw[Fo.cells_cat];simp[Fo.cells];omega⟩,x4,G1,G2,G4,G3,by simpa using k4⟩
      case measure=>simp[intOf];omega
     ·obtain rfl:j=n:=by omega
      obtain⟨e1,e2,e3,e4,e5⟩:=M.o
      obtain rfl:R = .nil:=by
       have e:=HE.o;rw[e1,Fo.count_cat] at e
       cases R with
       | nil=>rfl
       | node a b d=>simp[Fo.count] at e;omega
      rw[Fo.cat_nil] at e1;subst e1;have w8:=conv_str (H4.o.below HB.o) m q0 HM.o 9 Tryz.underlying9
      obtain⟨str,es⟩:∃ str,str=strOfNums xs:=⟨_,rfl⟩
      rw[<-es] at w8;have HS:=hid es;obtain⟨x0,x1,x2,_⟩:=HX.o
      have h6:Hid (Z=f.length/\G+1+k.cells.length=g/\L.length=j):=⟨by simpa [Fo.cells] using e4,e5,e3⟩
      clear es e2 e3 e4 e5 M;have HA:Hid (Below w.heap.size w (wr.alloc (Obj.cells #[Value.string str,Value.slice (some ⟨w.heap.size+1,0,none⟩) j j] 105))):=HB.o.alloc HB.o.size _
      go_wp2
      refine bodyPost_ret (v:=.tuple #[.iface 101 (.pointer (some ⟨wr.heap.size,0,none⟩)),.slice q Z G]) (by simp[results,Tryz.results42,go_sem]) rfl ⟨_,q,Z,G,rfl,h6.o.1,h6.o.2.1,HC.o,?_,HA.o⟩;have hv:=h6.o.2.2;subst hv;have X:=heap_alloc_new wr (Obj.cells #[Value.string str,Value.slice (some ⟨w.heap.size+1,0,none⟩) L.length L.length] 105);refine⟨_,[],rfl,.inr (.inr (.inr ⟨rfl,wr.heap.size,w.heap.size+1,L,rfl,by omega,by omega,by rw[<-HS.o];exact(cell_of_row _ _ 0 _ _ _ X),cell_of_row _ _ 1 _ _ _ X,by simp;omega,fun i hi=>?_,?_⟩)),rfl⟩
      ·refine Lib.cell?_alloc_marked _ ?_
       rw[HR.o.cellAt i (by omega),List.getElem?_append_left (by omega)]
       simp[List.getD,hi]
      ·exact(HI.o.below ((Below.refl _ _).alloc (Nat.le_refl _) _)).mono (by omega)
   ·have hk:k = .nil:=u.2.2.2.1 z
    subst hk;subst hl;have:=firstLeaf_any c p g f F w hw z u.1 (by simpa [Fo.cells] using y) hn hc;simp only[Fo.cells,List.length_nil,Nat.zero_add]
    refine this.mono fun e w' ⟨v,q,H,I,z,U⟩=>⟨v,q,_,_,H,rfl,by simp[Fo.cells];simp[Fo.cells] at y;omega,I,z,U⟩
theorem flat_one (r:RC):flat [r]=rcV r:=by simp[flat]
theorem ownC_grew {r w w':World}{B g n I N:Nat}{p:Option Addr}{s:List Cel}{d:List RC}(hn:n=s.length)(hl:d.length=s.length)(h4:r.ownsRow B 27 3 (.slice p n N) n (flat d))
  (O:∀ i,i<s.length->Fits r B (d.getD i RC.zero) (s.getD i Cel.none)) (ha:ApartC p d) (C:Below r.heap.size r w) (hB:B<=r.heap.size)
  {F G:Int} {u:Option Addr} {E H:Nat} {t:List Int} (ht:OwnT w r.heap.size u E H t)
  (hr:w'.ownsRow B 27 3 (.slice (some ⟨g,0,none⟩) (n+1) I) (n+1) (flat d ++ rcV (F,G,u,E,H))) (R:w.grownBy w' (Value.ownBlock (.slice p n N))) (K:Value.ownBlock (.slice p n N)=some g∨g=w.heap.size) :
  OwnC w' B (some ⟨g,0,none⟩) (n+1) I (s ++ [(F,G,t)]):=by
 have m:∀ k,Value.ownBlock (.slice p n N)=some k->p=some ⟨k,0,none⟩/\k<r.heap.size:=fun k x=>by
  rcases h4.2 with ⟨M,_⟩ | ⟨g',h5,h6,M,hb,U,_⟩
  ·simp only[Value.slice.injEq] at M;rw[M.1] at x;simp[Value.ownBlock] at x
  ·simp only[Value.slice.injEq] at M
   rw[M.1] at x ⊢
   simp[Value.ownBlock] at x
   subst x;exact⟨rfl,(Array.getElem?_eq_some_iff.1 U).1⟩
 have L:∀ i,i<s.length->OwnT w B (d.getD i RC.zero).2.2.1 (d.getD i RC.zero).2.2.2.1 (d.getD i RC.zero).2.2.2.2 (s.getD i Cel.none).2.2:=fun i v=>(O i v).2.2.below C
 have l:∀ i,i<s.length->0<(d.getD i RC.zero).2.2.2.1->∃ k,(d.getD i RC.zero).2.2.1=some ⟨k,0,none⟩/\k<r.heap.size:=fun i v o=>by
  obtain⟨k,e,_,Y,_⟩:=(O i v).2.2.2 o;exact⟨k,e,Y⟩
 have b:0<E->∃ k,u=some ⟨k,0,none⟩/\r.heap.size<=k/\k<w.heap.size:=fun o=>by
  obtain⟨k,e,A,J,_⟩:=ht.2 o;exact⟨k,e,A,J⟩
 have Z:g<r.heap.size∨g=w.heap.size:=by
  rcases K with h | h
  ·exact .inl (m g h).2
  ·exact .inr h
 refine⟨by simp;omega,d ++ [(F,G,u,E,H)],by simp;omega,by rw[flat_append,flat_one];exact hr,fun i v=>?_,fun i v o=>?_,fun i j v hj V c f=>?_⟩
 ·have q:i<=s.length:=by simp at v;omega
  rw[rs_append_at _ _ _ (by omega),cs_append_at _ _ _ q]
  by_cases e:i=s.length
  ·rw[if_pos (by omega),if_pos e]
   refine⟨rfl,rfl,(ht.mono hB).other R.size (fun k y z=>?_)⟩;obtain⟨D,a,A,J⟩:=b y
   have X:k=D:=by
    have:=z.symm.trans a;exact congrArg Addr.block (Option.some.inj this)
   refine R.block k (by omega) (fun x=>?_);have:=(m k x.symm).2
   omega
  ·rw[if_neg (by omega),if_neg e]
   refine⟨(O i (by omega)).1,(O i (by omega)).2.1,(L i (by omega)).other R.size (fun k y z=>?_)⟩;obtain⟨D,a,A⟩:=l i (by omega) y;have X:k=D:=congrArg Addr.block (Option.some.inj (z.symm.trans a));refine R.block k (by have:=C.size;omega) (fun x=>?_);exact ha.1 i (by omega) y (by rw[z,(m k x.symm).1])
 ·have q:i<=d.length:=by simp at v;omega
  rw[rs_append_at _ _ _ q] at o ⊢
  by_cases e:i=d.length
  ·rw[if_pos e] at o ⊢
   obtain⟨D,a,A,J⟩:=b o;rw[show((F,G,u,E,H):RC).2.2.1=u from rfl,a];exact ne_block (by omega) o
  ·rw[if_neg e] at o ⊢
   obtain⟨D,a,A⟩:=l i (by omega) o
   rcases K with h | h
   ·rw[<-(m g h).1]
    exact ha.1 i (by omega) o
   ·rw[a]
    exact ne_block (by have:=C.size;omega) o
 ·have q:i<=d.length:=by simp at v;omega
  have W:j<=d.length:=by simp at hj;omega
  rw[rs_append_at _ _ _ q] at c ⊢;rw[rs_append_at _ _ _ W] at f ⊢
  by_cases e:i=d.length
  ·rw[if_pos e] at c ⊢
   rw[if_neg (by omega)] at f ⊢;obtain⟨D,a,A,J⟩:=b c;obtain⟨k2,T,h3⟩:=l j (by omega) f;rw[show((F,G,u,E,H):RC).2.2.1=u from rfl,a,T];exact ne_block (by omega) c
  ·rw[if_neg e] at c ⊢
   by_cases z:j=d.length
   ·rw[if_pos z] at f ⊢
    obtain⟨D,a,A,J⟩:=b f;obtain⟨k2,T,h3⟩:=l i (by omega) c;rw[show((F,G,u,E,H):RC).2.2.1=u from rfl,a,T];exact ne_block (by omega) c
   ·rw[if_neg z] at f ⊢
    exact ha.2 i j (by omega) (by omega) V c f
theorem rcV_one (r:RC):∀ u ∈ rcV r,u.oneCell'=true:=fun u a=>by
 simp[rcV] at a
 rcases a with rfl | rfl | rfl <;> rfl
theorem app_cell (m w:World){ops:Array Oper}{f:List Oper}{o:Oper}{a:Act}{Q:Exit->Act->World->Prop}(A:o.guard=none)(s x:Operand)
  (Y:o.op = .call { callee:=.builtin .append,args:=#[s,x],argTypes:=#[23,23] }) (B:Nat) (p:Option Addr) (n c:Nat) (N:List Cel)
  (Z:a.eval s = .slice p n c) (q:OwnC m B p n c N) (e:Below m.heap.size m w) (y:B<=m.heap.size) (v:Addr) (M:Nat) (hx:a.eval x = .slice (some v) 1 M) (G I:Int) (L:Option Addr) (K J:Nat) (t:List Int)
  (ht:OwnT w m.heap.size L K J t) (i:∀ j u,(rcV (G,I,L,K,J))[j]?=some u->w.cell? (v.add j)=some u) (O:n+1<=1000000000)
  (h:∀ g H d r,OwnC r B (some ⟨g,0,none⟩) H d (N ++ [(G,I,t)])->Below B w r->Hid (H=n+1)->wpList Tryz.prog ops Q f (a.put o.dst (.slice (some ⟨g,0,none⟩) H d)) r):wpList Tryz.prog ops Q (o :: f) a w:=by
 obtain⟨i0,T,D,E,F⟩:=info_parts infoCell;obtain⟨X,rs,V,C,R,ha⟩:=q;refine wpList_append_lies w A s x 23 Y B 27 i0 (.agg #[.int .i64 0,.int .i64 0,.slice none 0 0]) 3 40 Tryz.underlying23 T D E F rfl (by decide) (.slice p n c) n (flat rs) Z (row_below C e) v 1 M (rcV (G,I,L,K,J)) hx rfl i (rcV_one _) (by decide) (by unfold maxLen;omega) (by omega) (Nat.le_trans y e.size) w.heap.size rfl ?_
 intro g d r l b z W
 refine h g _ d r (ownC_grew X V C R ha e y ht l b z) ((Below.refl _ _).grown b (Nat.le_trans y e.size) (fun k U=>?_)) rfl;exact(C.lt k U).1
theorem step_app_cell (l w:World){ops:Array Oper}{o:Oper}{a:Act}{K:Act->World->Prop}{Q:Exit->Act->World->Prop}{E:Prop}(z:o.guard=none)(s x:Operand)
  (Z:o.op = .call { callee:=.builtin .append,args:=#[s,x],argTypes:=#[23,23] }) (B:Nat) (p:Option Addr) (n c:Nat) (O:List Cel)
  (hs:a.eval s = .slice p n c) (m:OwnC l B p n c O) (e:Below l.heap.size l w) (v:B<=l.heap.size) (r:Addr) (N:Nat) (hx:a.eval x = .slice (some r) 1 N) (G I:Int) (M:Option Addr) (L J:Nat) (t:List Int)
  (ht:OwnT w l.heap.size M L J t) (f:∀ j u,(rcV (G,I,M,L,J))[j]?=some u->w.cell? (r.add j)=some u) (R:n+1<=1000000000)
  (h:∀ g H d q,OwnC q B (some ⟨g,0,none⟩) H d (O ++ [(G,I,t)])->Below B w q->Hid (H=n+1)->K (a.put o.dst (.slice (some ⟨g,0,none⟩) H d)) q) :
  if Region.wanted o (yielded ops a.tmps)=true then Oper.wp Tryz.prog o a w K Q else E:=by
 obtain⟨i0,U,C,D,F⟩:=info_parts infoCell;obtain⟨Y,rs,W,A,T,ha⟩:=m;refine step_append_lies w z s x 23 Z B 27 i0 (.agg #[.int .i64 0,.int .i64 0,.slice none 0 0]) 3 40 Tryz.underlying23 U C D F rfl (by decide) (.slice p n c) n (flat rs) hs (row_below A e) r 1 N (rcV (G,I,M,L,J)) hx rfl f (rcV_one _) (by decide) (by unfold maxLen;omega) (by omega) (Nat.le_trans v e.size) w.heap.size rfl ?_
 intro g d q i b y X
 refine h g _ d q (ownC_grew Y W A T ha e v ht i b y) ((Below.refl _ _).grown b (Nat.le_trans v e.size) (fun k V=>?_)) rfl;exact(A.lt k V).1
def AppOut (w:World)(B:Nat)(cs ds:List Cel)(e:Ending)(w':World):Prop:=
 ∃ p n c,e = .returned (.slice p n c)/\OwnC w' B p n c (cs ++ ds)/\Below B w w'
theorem news_rc {w:World}{d:Nat}{r:RC}(h:Box3 w d (.int .i64 r.1) (.int .i64 r.2.1) (.slice r.2.2.1 r.2.2.2.1 r.2.2.2.2)):∀ j u,(rcV r)[j]?=some u->w.cell? ((⟨d,0,none⟩:Addr).add j)=some u:=fun j u a=>by
 have e:(⟨d,0,none⟩:Addr).add j=⟨d,j,none⟩:=by unfold Addr.add;split <;> simp_all
 rw[e]
 rcases j with _ | _ | _ | j
 ·simp only[rcV,List.getElem?_cons_zero,Option.some.injEq] at a;rw[<-a];exact h.1
 ·simp only[rcV,List.getElem?_cons_succ,List.getElem?_cons_zero,Option.some.injEq] at a;rw[<-a];exact h.2.1
 ·simp only[rcV,List.getElem?_cons_succ,List.getElem?_cons_zero,Option.some.injEq] at a;rw[<-a];exact h.2.2.1
 ·simp[rcV] at a
theorem appVar_any (x:Int)(p:Option Addr)(n c:Nat)(b:List Cel)(B:Nat)(w:World)(e:B<=w.heap.size)(r:n<=100000000)(i:OwnC w B p n c b) :
  Calls Tryz.prog 435 #[.int .i64 x,.slice p n c] w (AppOut w B b [(0,x,[])]):=by
 have k:=hid i;have f:Below w.heap.size w (w.alloc (Obj.cells #[Value.int IntKind.i64 0,Value.int IntKind.i64 x,Value.slice none 0 0] 27)):=(Below.refl _ _).alloc (Nat.le_refl _) _;have j:Hid _:=f;have l:Hid (Box3 (w.alloc (Obj.cells #[Value.int IntKind.i64 0,Value.int IntKind.i64 x,Value.slice none 0 0] 27)) w.heap.size (.int .i64 0) (.int .i64 x) (.slice none 0 0)):=Box3.of_block (t:=27) (heap_alloc_new _ _);clear i f
 go_enter Tryz.func435,Tryz.ntmps435
 go_wp2_with (at_builtin;refine app_cell w _ rfl _ _ rfl B p n c b rfl k.o j.o e ⟨w.heap.size,0,none⟩ 1 rfl 0 x none 0 0 [] ⟨rfl,fun h=>absurd h (Nat.lt_irrefl 0)⟩ (news_rc l.o) (by omega) ?_;intro g s m u a d q);go_ret;exact⟨_,_,_,rfl,a,((Below.refl _ _).alloc e _).trans d⟩
theorem appNum_any (x:Int)(p:Option Addr)(n c:Nat)(b:List Cel)(B:Nat)(w:World)(e:B<=w.heap.size)(r:n<=100000000)(i:OwnC w B p n c b) :
  Calls Tryz.prog 438 #[.int .i64 x,.slice p n c] w (AppOut w B b [(1,x,[])]):=by
 have k:=hid i;have f:Below w.heap.size w (w.alloc (Obj.cells #[Value.int IntKind.i64 1,Value.int IntKind.i64 x,Value.slice none 0 0] 27)):=(Below.refl _ _).alloc (Nat.le_refl _) _;have j:Hid _:=f;have l:Hid (Box3 (w.alloc (Obj.cells #[Value.int IntKind.i64 1,Value.int IntKind.i64 x,Value.slice none 0 0] 27)) w.heap.size (.int .i64 1) (.int .i64 x) (.slice none 0 0)):=Box3.of_block (t:=27) (heap_alloc_new _ _);clear i f
 go_enter Tryz.func438,Tryz.ntmps438
 go_wp2_with (at_builtin;refine app_cell w _ rfl _ _ rfl B p n c b rfl k.o j.o e ⟨w.heap.size,0,none⟩ 1 rfl 1 x none 0 0 [] ⟨rfl,fun h=>absurd h (Nat.lt_irrefl 0)⟩ (news_rc l.o) (by omega) ?_;intro g s m u a d q);go_ret;exact⟨_,_,_,rfl,a,((Below.refl _ _).alloc e _).trans d⟩
theorem appAtom_any (e:List Int)(x:Byte e)(p:Option Addr)(n c:Nat)(i:List Cel)(B:Nat)(w:World)(u:B<=w.heap.size)(G:n<=100000000)(v:OwnC w B p n c i) :
  Calls Tryz.prog 431 #[.string (strOfNums e),.slice p n c] w (AppOut w B i [(2,0,e)]):=by
 have y:=hid v;obtain⟨f,a,h,b,l⟩:=conv_bytes w e x 55 Tryz.underlying55
 obtain⟨m,r⟩:∃ m,m=e.length:=⟨_,rfl⟩
 obtain⟨str,s⟩:∃ str,str=strOfNums e:=⟨_,rfl⟩
 rw[<-r] at h l;rw[<-s] at h ⊢;have F:=b.size;have j:Below f.heap.size f (f.alloc (Obj.cells #[Value.int IntKind.i64 2,Value.int IntKind.i64 0,Value.slice (some ⟨w.heap.size,0,none⟩) m a] 27)):=(Below.refl _ _).alloc (Nat.le_refl _) _;have q:=hid (Below.on b j);have A:=hid (l.below j);have C:Hid (Box3 (f.alloc (Obj.cells #[Value.int IntKind.i64 2,Value.int IntKind.i64 0,Value.slice (some ⟨w.heap.size,0,none⟩) m a] 27)) f.heap.size (.int .i64 2) (.int .i64 0) (.slice (some ⟨w.heap.size,0,none⟩) m a)):=Box3.of_block (t:=27) (heap_alloc_new _ _)
 have z:=hid (q.o.mono u);clear v j b l r s x
 go_enter Tryz.func431,Tryz.ntmps431
 go_wp2_with (at_builtin;refine app_cell w _ rfl _ _ rfl B p n c i rfl y.o q.o u ⟨f.heap.size,0,none⟩ 1 rfl 2 0 (some ⟨w.heap.size,0,none⟩) m a e A.o (news_rc C.o) (by omega) ?_;intro g H D I d k E);go_ret;exact⟨_,_,_,rfl,d,z.o.trans k⟩
def CompAt (w:World)(B:Nat)(s:List Int)(k:Fo)(b g:Nat)(vs:List Value):Prop:=
 B<=b/\B<=g/\w.cell? ⟨b,0,none⟩=some (.string (strOfNums s))/\w.cell? ⟨b,1,none⟩=some (.slice (some ⟨g,0,none⟩) vs.length vs.length)/\g<w.heap.size/\(∀ i,i<vs.length->w.cell? ⟨g,i,none⟩=some (vs.getD i .nilIface))/\FoIn w B k vs
theorem appComp_any:∀ (N:Nat) (s:List Int) (k:Fo) (b g:Nat) (vs:List Value) (p:Option Addr) (n cp:Nat) (cs:List Cel) (Bt B:Nat) (Z w:World),k.cells.length<=N->k.ok->Byte s->CompAt Z Bt s k b g vs->Below Z.heap.size Z w->Z.heap.size<=B->B<=w.heap.size->
  OwnC w B p n cp cs->n+1+k.cells.length<=1000000->Calls Tryz.prog 436 #[.pointer (some ⟨b,0,none⟩),.slice p n cp] w (AppOut w B cs ((3,k.count,s) :: k.cells)):=by
 intro N
 induction N using Nat.strongRecOn with
 | _ N ih=>
   intro s k b g vs p n cp cs Bt B Z w hN x3 hs h hw k1 hB ho hn
   have HO:=hid ho;have HC:=hid h;have HW:=hid hw;obtain⟨w1,x,h7,h9,ht⟩:=conv_bytes w.drew s hs 9 Tryz.underlying9;have k5:vs.length=k.count:=FoIn.count _ _ h.2.2.2.2.2.2;have c0:=(hw.cell (World.block_lt_of_cell? _ _ h.2.2.1)).trans h.2.2.1;have O:=(hw.cell (World.block_lt_of_cell? _ _ h.2.2.2.1)).trans h.2.2.2.1;have h8:Below w.heap.size w w1:=(Below.refl _ _).drew.trans h9;have d0:=(h8.cell (World.block_lt_of_cell? _ _ c0)).trans c0;have d1:=(h8.cell (World.block_lt_of_cell? _ _ O)).trans O
   obtain⟨m,em⟩:∃ m,m=s.length:=⟨_,rfl⟩
   obtain⟨str,es⟩:∃ str,str=strOfNums s:=⟨_,rfl⟩
   obtain⟨q,eq⟩:∃ q,q=vs.length:=⟨_,rfl⟩
   rw[<-em] at h7 ht;rw[<-es] at h7 c0 d0;rw[<-eq] at O d1;have x5:=h9.size;have k3:(convert 9 22 (.string str)).run Tryz.prog w.drew = .ok (.slice (some ⟨w.heap.size,0,none⟩) m x) w1:=h7;have k4:OwnT w1 w.heap.size (some ⟨w.heap.size,0,none⟩) m x s:=ht;have hb:Below w1.heap.size w1 (w1.alloc (Obj.cells #[Value.int IntKind.i64 3,Value.int IntKind.i64 q,Value.slice (some ⟨w.heap.size,0,none⟩) m x] 27)):=(Below.refl _ _).alloc (Nat.le_refl _) _;have HB:=hid (Below.on h8 hb);have HT:=hid (k4.below hb)
   have HX:Hid (Box3 (w1.alloc (Obj.cells #[Value.int IntKind.i64 3,Value.int IntKind.i64 q,Value.slice (some ⟨w.heap.size,0,none⟩) m x] 27)) w1.heap.size (.int .i64 3) (.int .i64 q) (.slice (some ⟨w.heap.size,0,none⟩) m x)):=Box3.of_block (t:=27) (heap_alloc_new _ _);have W:Hid _:=ih
   have HE:Hid (q=vs.length/\vs.length=k.count):=⟨eq,k5⟩
   have hq:q<=1000000:=by have:=Fo.count_le k;omega
   clear ih ho h hw em es eq k5 h9 ht k4 h7 hb h8
   go_enter Tryz.func436,Tryz.ntmps436
   go_upto_region 1 with fail
   go_cut [1] from 7 (fun v wc=>∃ g2 n2 c2,v = .slice (some ⟨g2,0,none⟩) n2 c2/\Hid (OwnC wc B (some ⟨g2,0,none⟩) n2 c2 (cs ++ [((3,(q:Int),s):Cel)]))/\Hid (Below B w wc)/\n2=n+1)
   case first=>
    go_region_law (refine step_app_cell w _ rfl _ _ rfl B p n cp cs rfl HO.o HB.o hB ⟨w1.heap.size,0,none⟩ 1 rfl 3 q (some ⟨w.heap.size,0,none⟩) m x s HT.o (news_rc HX.o) (by omega) ?_;intro g1 n1 e8 w2 e6 k8 x1)
    all_goals go_wp2_with fail
    all_goals go_meet
    all_goals exact⟨g1,n1,e8,rfl,e6,(HB.o.mono hB).trans k8,x1⟩
   case rest=>
    obtain⟨g2,n2,c2,rfl,k7,e7,x2⟩:=hcut;have e1:wc.cell? ⟨b,1,none⟩=some (.slice (some ⟨g,0,none⟩) q q):=(e7.o.cell (p:=⟨b,1,none⟩) (by have:=World.block_lt_of_cell? _ _ HC.o.2.2.2.1;show b<B;simp at this;omega)).trans O;clear c0 O d0 d1 k3 HO HB HT HX;go_wp2_with fail
    go_loopw [1,26] (fun v i wr=>∃ (D R:Fo) (us E:List Value) (j:Nat) (p4:Option Addr) (H c4:Nat),j<=q/\H<=1000000/\i = .int .i64 j/\v = .slice p4 H c4/\Hid (k=D.cat R/\vs=us ++ E/\us.length=j/\H=n+1+D.cells.length)/\Hid (FoIn Z Bt R E)/\
     Hid (OwnC wr B p4 H c4 (cs ++ ((3,(q:Int),s):Cel) :: D.cells))/\Hid (Below B w wr)) (fun _ i _=>q-(intOf i).toNat)
    case atStart=>exact⟨.nil,k,[],vs,0,_,_,_,Nat.zero_le _,by omega,rfl,rfl,⟨rfl,rfl,rfl,by simp[Fo.cells,x2]⟩,HC.o.2.2.2.2.2.2,k7,e7⟩
    case round=>
     obtain⟨D,R,us,E,j,p4,H,c4,hj,x4,rfl,rfl,I,HR,u,h4⟩:=hrel
     by_cases k9:j<q
     ·obtain⟨X,L,r',rfl⟩:∃ X L r',R = .node X L r':=by
       cases R with
       | nil=>
         have h1:=I.o;have h2:E = []:=HR.o;have h3:=HE.o.1;rw[h1.2.1,h2,List.append_nil] at h3
         omega
       | node X L r'=>exact⟨X,L,r',rfl⟩
      obtain⟨v,vr,rfl,e2,r⟩:=HR.o;have c:=(Fo.ok_cat D (.node X L r')).1 (I.o.1▸x3)
      have G:D.cells.length+(L.cells.length+r'.cells.length+1)=k.cells.length:=by
       rw[I.o.1,Fo.cells_cat];simp[Fo.cells]
      have J:Z.cell? ⟨g,j,none⟩=some v:=by
       rw[HC.o.2.2.2.2.2.1 j (by rw[<-HE.o.1];exact k9),I.o.2.1]
       simp[List.getD,I.o.2.2.1]
      have K:Below Z.heap.size Z wr:=HW.o.trans (h4.o.mono k1);have c5:wr.cell? ⟨g,j,none⟩=some v:=(K.cell (World.block_lt_of_cell? _ _ J)).trans J
      have next:∀ V U T M,OwnC M B V U T ((cs ++ ((3,(q:Int),s):Cel) :: D.cells) ++ (X :: L.cells))->Below B wr M->
        ∃ (D R:Fo) (us E:List Value) (j':Nat) (p4:Option Addr) (H c4:Nat),j'<=q/\H<=1000000/\Value.int .i64 ((j:Int)+1) = .int .i64 j'/\Value.slice V U T = .slice p4 H c4/\Hid (k=D.cat R/\vs=us ++ E/\us.length=j'/\H=n+1+D.cells.length)/\Hid (FoIn Z Bt R E)/\
          Hid (OwnC M B p4 H c4 (cs ++ ((3,(q:Int),s):Cel) :: D.cells))/\Hid (Below B w M):=fun V U T M h1 h2=>by
       have e3:=h1.1;have e4:=u.o.1;have e5:=I.o.2.2.2;simp only[List.length_append,List.length_cons] at e3 e4;refine⟨D.cat (.node X L .nil),r',us ++ [v],vr,j+1,V,U,T,by omega,by omega,by go_num,rfl,⟨by rw[Fo.cat_assoc];exact I.o.1,by rw[I.o.2.1];simp,by simp[I.o.2.2.1],?_⟩,r,?_,h4.o.trans h2⟩
       ·rw[Fo.cells_cat];simp[Fo.cells];omega
       ·show OwnC _ _ _ _ _ _
        rw[Fo.cells_cat];simpa [Fo.cells] using h1
      have F:Hid _:=next
      clear next
      have h6:B<=wr.heap.size:=Nat.le_trans hB h4.o.size
      rcases e2 with ⟨z,rfl⟩ | ⟨z,rfl⟩ | ⟨z,rfl⟩ | ⟨z,b5,g5,kv,rfl,h5⟩
      ·have Y:L = .nil:=c.2.2.2.2.1 (by rw[z];decide)
       have f:=c.2.1;obtain⟨c0,O,y⟩:=X;simp only at z f;subst z Y
       have e:y = []:=by simp[cellB] at f;exact f.2.2
       subst e;have HS:=appVar_any O p4 H c4 _ B wr h6 (by omega) u.o;clear c G J f r K u HR W;go_wp2_with fail;refine HS.mono ?_;rintro e M ⟨V,U,T,rfl,l,A⟩;go_wp2_with fail;go_roundw
       case rel=>exact F.o V U T M l A
       case measure=>simp[intOf];omega
      ·have Y:L = .nil:=c.2.2.2.2.1 (by rw[z];decide)
       have f:=c.2.1;obtain⟨c0,O,y⟩:=X;simp only at z f;subst z Y
       have e:y = []:=by simp[cellB] at f;exact f.2.2
       subst e;have HS:=appNum_any O p4 H c4 _ B wr h6 (by omega) u.o;clear c G J f r K u HR W;go_wp2_with fail;refine HS.mono ?_;rintro e M ⟨V,U,T,rfl,l,A⟩;go_wp2_with fail;go_roundw
       case rel=>exact F.o V U T M l A
       case measure=>simp[intOf];omega
      ·have Y:L = .nil:=c.2.2.2.2.1 (by rw[z];decide)
       have f:=c.2.1;have C:=c.2.2.1;obtain⟨c0,O,y⟩:=X;simp only at z f C c5;subst z Y
       have e:O=0:=by simp[cellB] at f;exact f.2
       subst e;have HS:=appAtom_any y C p4 H c4 _ B wr h6 (by omega) u.o
       obtain⟨st,e9⟩:∃ st,st=strOfNums y:=⟨_,rfl⟩
       rw[<-e9] at HS c5;clear c G J f r K u HR W C e9;go_wp2_with fail;refine HS.mono ?_;rintro e M ⟨V,U,T,rfl,l,A⟩;go_wp2_with fail;go_roundw
       case rel=>exact F.o V U T M l A
       case measure=>simp[intOf];omega
      ·have f:=c.2.1
       have C:=c.2.2.1;have k2:=c.2.2.2.1 z;obtain⟨c0,O,y⟩:=X;simp only at z f C k2 h5;subst z k2;have HS:=W.o L.cells.length (by omega) y L b5 g5 kv p4 H c4 _ Bt B Z wr (Nat.le_refl _) c.2.2.2.2.2.1 C h5 K k1 h6 u.o (by have:=I.o.2.2.2;omega);clear c G J f r K u HR W C h5;go_wp2_with fail;refine HS.mono ?_;rintro e M ⟨V,U,T,rfl,l,A⟩;go_wp2_with fail;go_roundw
       case rel=>exact F.o V U T M l A
       case measure=>simp[intOf];omega
     ·obtain rfl:j=q:=by omega
      obtain rfl:R = .nil:=by
       have h1:=FoIn.count _ _ HR.o;have h2:=HE.o;rw[I.o.2.1,List.length_append] at h2;have h3:=I.o.2.2.1
       cases R with
       | nil=>rfl
       | node a b d=>simp[Fo.count] at h1;omega
      have k6:Hid (D=k):=by have:=I.o.1;rw[Fo.cat_nil] at this;exact this.symm
      go_wp2_with fail;go_ret;refine⟨_,_,_,rfl,?_,h4.o⟩;have h1:=u.o;rw[k6.o,HE.o.1,HE.o.2] at h1;exact h1
end
section
open Go
section
variable {P:Program}{ops:Array Oper}{Q:Exit->Act->World->Prop}{md:Region.Mode}{S:World->Prop}
def RestQ (Q:Exit->Act->World->Prop)(R:Act->World->Prop):Exit->Act->World->Prop
 | .normal,a,w=>R a w
 | e,a,w=>Q e a w
theorem wpOp_rest {R:Act->World->Prop}{i:Nat}{K:Act->World->Prop}{a:Act}{w:World}(h:wpOp P ops (RestQ Q R) i K a w):wpOp P ops Q i K a w:=by
 unfold wpOp at *
 split
 ·rename_i b;simpa [b] using h
 ·rename_i o b
  simp only[b] at h
  split
  ·rename_i c
   simp only[c,if_true] at h
   have f:LetsOut (RestQ Q R)->LetsOut Q:=fun ⟨a,w,g⟩=>⟨a,w,g⟩
   refine h.imp (fun h=>?_) (fun h=>⟨h.1,f h.2⟩)
   unfold Oper.wp at *
   generalize (execOp a.eval o).run P w=r at *
   cases r with
   | ok n j=>
     cases n <;> simp only[Oper.upon] at h ⊢ <;>
      first
       | exact h
       | exact Calls.mono h (fun e k d=>by cases e <;> first | exact d | exact f d)
   | halt x j=>cases x <;> simp only[Oper.upon] at h ⊢ <;> exact h
  ·rename_i c;simp only[c] at h;exact h
end
section
variable {P:Program}{ops:Array Oper}{Q:Exit->Act->World->Prop}{md:Region.Mode}{S:World->Prop}
theorem getD_two {L:Array Bool}{i:Nat}(a:i<L.size):L.getD i true=L.getD i false:=by simp[a]
end
def tailB (md:Region.Mode)(ops:Array Oper)(p:Nat):Bool:=
 decide (ops.size=p+2) && ((List.range ops.size).all fun i=>((ops[i]?).map (·.after.all fun e=>!Region.binds md e || decide (e.on<i))).getD true) &&
 ((List.range p).all fun j=>(List.range (p+1)).any fun i=>decide (j<i) && ((ops[i]?).map (·.after.any fun e=>Region.binds md e && decide (e.on=j))).getD false) &&
 ((ops[p+1]?).map (·.after.any fun e=>Region.binds md e && decide (e.on=p))).getD false
section
variable {P:Program}{ops:Array Oper}{Q:Exit->Act->World->Prop}{md:Region.Mode}{S:World->Prop}
theorem tailB_parts {p:Nat}(g:tailB md ops p=true):ops.size=p+2/\(∀ i o,ops[i]?=some o->∀ e ∈ o.after,Region.binds md e=true->e.on<i)/\(∀ j,j<p->∃ i o,j<i/\i<=p/\ops[i]?=some o/\∃ e ∈ o.after,Region.binds md e=true/\e.on=j)/\∃ o,ops[p+1]?=some o/\∃ e ∈ o.after,Region.binds md e=true/\e.on=p:=by
 simp only[tailB,Bool.and_eq_true,decide_eq_true_eq] at g;obtain⟨⟨⟨k,l⟩,m⟩,n⟩:=g
 have a:∀ (i j:Nat),((ops[i]?).map (·.after.any fun e=>Region.binds md e && decide (e.on=j))).getD false=true->∃ o,ops[i]?=some o/\∃ e ∈ o.after,Region.binds md e=true/\e.on=j:=fun i j h=>by
  cases b:ops[i]? with
  | none=>rw[b] at h;cases h
  | some o=>
    rw[b] at h;simp only[Option.map_some,Option.getD_some,Array.any_eq_true'] at h;obtain⟨e,c,h⟩:=h;rw[Bool.and_eq_true,decide_eq_true_eq] at h;exact⟨o,rfl,e,c,h.1,h.2⟩
 refine⟨k,fun i o b e c d=>?_,fun j q=>?_,a _ _ n⟩
 ·have f:i<ops.size:=(Array.getElem?_eq_some_iff.1 b).1
  have:=List.all_eq_true.1 l i (by simpa using f);rw[b] at this;simp only[Option.map_some,Option.getD_some,Array.all_eq_true'] at this;have:=this e c;rw[d] at this
  simpa using this
 ·have:=List.all_eq_true.1 m j (by simpa using q)
  rw[List.any_eq_true] at this;obtain⟨i,f,h⟩:=this;rw[Bool.and_eq_true,decide_eq_true_eq] at h;obtain⟨o,b,c⟩:=a _ _ h.2;exact⟨i,o,h.1,by have:=List.mem_range.1 f;omega,b,c⟩
def Clo (md:Region.Mode)(ops:Array Oper)(L:Array Bool):Prop:=∀ i o,ops[i]?=some o->L.getD i false=true->∀ e ∈ o.after,Region.binds md e=true->L.getD e.on false=true
theorem clo_start (md:Region.Mode)(ops:Array Oper)(n:Nat):Clo md ops (Array.replicate n false):=fun i o _ h=>by
 exfalso
 by_cases a:i<n <;> simp[a] at h
theorem Clo.set {L:Array Bool}(h:Clo md ops L){i:Nat}(l:i ∈ Region.ready md ops L):Clo md ops (L.setIfInBounds i true):=fun j o k g e f b=>by
 by_cases d:i=j
 ·subst d
  obtain⟨_,m,c,a⟩:=mem_ready.1 l;rw[k] at c
  cases c
  exact getD_set_true (a e f b)
 ·rw[getD_set_ne false d] at g
  exact getD_set_true (h j o k g e f b)
theorem ready_some2 (h:∀ i o,ops[i]?=some o->∀ e ∈ o.after,Region.binds md e=true->e.on<i){L:Array Bool}(q:L.size=ops.size):∀ (k:Nat),k<ops.size->L.getD k true=false->∃ i,i ∈ Region.ready md ops L:=by
 intro k
 induction k using Nat.strongRecOn with
 | ind k p=>
   intro m n
   obtain⟨o,g⟩:∃ o,ops[k]?=some o:=⟨ops[k],by simp[m]⟩
   by_cases a:∀ e ∈ o.after,Region.binds md e=true->L.getD e.on false=true
   ·exact⟨k,mem_ready.2 ⟨n,o,g,a⟩⟩
   ·obtain⟨e,j⟩:=Classical.not_forall.1 a
    obtain⟨c,d⟩:=Classical.not_imp.1 j;obtain⟨b,l⟩:=Classical.not_imp.1 d;have f:=h k o g e c b;refine p e.on f (by omega) ?_;rw[getD_two (by omega)]
    simpa using l
theorem wpAny_tail_step {p:Nat}(Z:tailB md ops p=true){L:Array Bool}{a:Act}{w:World}(R:L.size=ops.size)(hc:Clo md ops L)(O:L.getD p true=false)(hq:L.getD (p+1) true=false)(f:Nat)
  (H:wpAnyH P md ops (RestQ Q (wpOp P ops Q p (wpOp P ops Q (p+1) (Q .normal)))) S f ((L.setIfInBounds p true).setIfInBounds (p+1) true) a w)
  (g:∀ i,i ∈ Region.ready md ops L->i≠p->i≠p+1->i ∈ Region.ready md ops ((L.setIfInBounds p true).setIfInBounds (p+1) true)->wpOp P ops Q i (wpAny P md ops Q (f+1) (L.setIfInBounds i true)) a w):wpAny P md ops Q (f+2) L a w:=by
 obtain⟨h1,K,X,oq,F,eq,C,B,x⟩:=tailB_parts Z;refine⟨fun A=>?_,fun i l=>?_⟩
 ·obtain⟨i,l⟩:=ready_some2 K R p (by omega) O
  rw[A] at l;cases l
 ·have u:i≠p+1:=fun e=>by
   subst e;obtain⟨_,o,N,c⟩:=mem_ready.1 l;rw[F] at N
   cases N
   have:=c eq C B;rw[x,<-getD_two (by omega),O] at this
   cases this
  by_cases e:i=p
  ·subst e
   -- all others are listed
   obtain⟨_,oi,E,c⟩:=mem_ready.1 l
   have b:∀ d j,i-j<=d->j<i->L.getD j false=true:=by
    intro d
    induction d with
    | zero=>intro j hd q;omega
    | succ d G=>
      intro j hd q
      obtain⟨k,ok,h4,h5,n,I,t,s,v⟩:=X j q
      by_cases V:k=i
      ·subst V
       rw[E] at n
       cases n
       rw[<-v];exact c I t s
      ·rw[<-v]
       exact hc k ok n (G k (by omega) (by omega)) I t s
   have y:Region.ready md ops ((L.setIfInBounds i true).setIfInBounds (i+1) true) = []:=by
    rw[List.eq_nil_iff_forall_not_mem]
    intro j q
    obtain⟨h,oj,m,_⟩:=mem_ready.1 q;have D:j<ops.size:=(Array.getElem?_eq_some_iff.1 m).1
    by_cases J:i+1=j
    ·subst J
     have:i+1<L.size:=by omega
     simp[this] at h
    ·rw[getD_set_ne true J] at h
     by_cases r:i=j
     ·subst r
      have:i<L.size:=by omega
      simp[this] at h
     ·rw[getD_set_ne true r,getD_two (by omega),b (i-j) j (Nat.le_refl _) (by omega)] at h
      cases h
   have Y:wpOp P ops Q i (wpOp P ops Q (i+1) (Q .normal)) a w:=by
    cases f with
    | zero=>exact H.2
    | succ f=>exact H.1 y
   refine wpOp_mono (fun a' w' W=>?_) Y;refine⟨fun A=>?_,fun j q=>?_⟩
   ·obtain⟨k,M⟩:=ready_some2 K (L:=L.setIfInBounds i true) (by simpa using R) (i+1) (by omega) (by rw[getD_set_ne true (by omega)];exact hq)
    rw[A] at M;cases M
   ·obtain rfl:j=i+1:=by
     obtain⟨h,oj,m,_⟩:=mem_ready.1 q;have D:j<ops.size:=(Array.getElem?_eq_some_iff.1 m).1
     by_cases r:i=j
     ·subst r
      have:i<L.size:=by omega
      simp[this] at h
     ·by_cases U:j<i
      ·rw[getD_set_ne true r,getD_two (by omega),b (i-j) j (Nat.le_refl _) U] at h
       cases h
      ·omega
    exact wpOp_mono (fun T h6 z=>wpAny_done y z f) W
  ·exact g i l e u (ready_mono (ready_mono l e) u)
theorem wpAny_tail {p:Nat}(k:tailB md ops p=true):∀ (f:Nat) (L:Array Bool) (a:Act) (w:World),L.size=ops.size->Clo md ops L->L.getD p true=false->L.getD (p+1) true=false->
  wpAnyH P md ops (RestQ Q (wpOp P ops Q p (wpOp P ops Q (p+1) (Q .normal)))) S f ((L.setIfInBounds p true).setIfInBounds (p+1) true) a w->wpAny P md ops Q (f+2) L a w:=by
 obtain⟨y,z,A,B,t,eq,s,r,n⟩:=tailB_parts k
 intro f
 induction f with
 | zero=>
   intro L a w j d e g H
   exact wpAny_tail_step k j d e g 0 H (fun i m b c h=>by
    rw[H.1] at h;cases h)
 | succ f u=>
   intro L a w j d e g H
   exact wpAny_tail_step k j d e g (f+1) H (fun i m b c h=>by
    refine wpOp_mono (fun o v q=>?_) (wpOp_rest (H.2 i h));refine u (L.setIfInBounds i true) o v (by simpa using j) (d.set m) (by rw[getD_set_ne true b];exact e) (by rw[getD_set_ne true c];exact g) ?_;have l:=q.2;rw[Array.setIfInBounds_comm _ _ (fun x=>c x.symm),Array.setIfInBounds_comm _ _ (fun x=>b x.symm)] at l
    exact l)
theorem op_valT {i:Nat}{o:Oper}{a:Act}{w b:World}{v:Value}{K:Act->World->Prop}(d:ops[i]?=some o)(c:o.guard=none)(e:(execOp a.eval o).run P w = .ok (.value v) b)(h:K (a.put o.dst v) b):wpOp P ops Q i K a w:=by
 have f:Region.wanted o (yielded ops a.tmps)=true:=by simp[Region.wanted,c]
 unfold wpOp
 simp only[d,f,if_true];refine .inl ?_
 unfold Oper.wp
 rw[e];exact h
end
end
section
open Go Go.RowKit
theorem op_skipS {P:Program}{ops:Array Oper}{Q:Exit->Act->World->Prop}{i:Nat}{o:Oper}{a:Act}{w b:World}{K:Act->World->Prop}(e:ops[i]?=some o)(d:o.guard=none)(c:o.dst=none)(f:(execOp a.eval o).run P w = .ok .skip b)(h:K a b):wpOp P ops Q i K a w:=by
 unfold wpOp
 have g:Region.wanted o (yielded ops a.tmps)=true:=by simp[Region.wanted,d]
 simp only[e,g,if_true];refine .inl ?_
 unfold Oper.wp
 rw[f]
 simpa [Oper.upon,c,Act.put] using h
theorem tail_store {P:Program}{ops:Array Oper}{Q:Exit->Act->World->Prop}{p q:Nat}{o b:Oper}{a:Act}{w w':World}{v:Value}(d:Option Tmp)(k:ops[p]?=some o)(i:o.dst=d)(j:o.guard=none)(l:(execOp a.eval o).run P w = .ok (.value v) w)(f:ops[q]?=some b)(e:b.guard=none)(c:b.dst=none)
  (g:(execOp (a.put d v).eval b).run P w = .ok .skip w') (h:Q .normal (a.put d v) w'):RestQ Q (wpOp P ops Q p (wpOp P ops Q q (Q .normal))) .normal a w:=by
 subst i
 show wpOp P ops Q p (wpOp P ops Q q (Q .normal)) a w
 exact op_valT k j l (op_skipS f e c g h)
end
section
open Go Go.RowKit Go.Maps
end
section
open Go Go.RowKit
def OAt (w:World)(b o:Nat)(c:Cel):Prop:=
 ∃ p cap,w.cell? ⟨b,o+1,none⟩=some (.int .i64 c.1)/\w.cell? ⟨b,o+2,none⟩=some (.int .i64 c.2.1)/\w.cell? ⟨b,o,none⟩=some (.slice p c.2.2.length cap)/\BIn w p c.2.2
def OIn (w:World)(p:Option Addr)(cs:List Cel):Prop:=
 0<cs.length->∃ b o,p=some ⟨b,o,none⟩/\∀ i,i<cs.length->OAt w b (o+i * 3) (cs.getD i Cel.none)
theorem OAt.below {W e:World}{b o:Nat}{c:Cel}(h:OAt W b o c)(a:Below W.heap.size W e):OAt e b o c:=by
 obtain⟨p,d,f,g,i,j⟩:=h;exact⟨p,d,(a.cell (World.block_lt_of_cell? _ _ f)).trans f,(a.cell (World.block_lt_of_cell? _ _ g)).trans g,(a.cell (World.block_lt_of_cell? _ _ i)).trans i,j.below a⟩
theorem OIn.below {W a:World}{p:Option Addr}{c:List Cel}(h:OIn W p c)(d:Below W.heap.size W a):OIn a p c:=fun g=>by
 obtain⟨b,o,rfl,e⟩:=h g;exact⟨b,o,rfl,fun i f=>(e i f).below d⟩
theorem OIn.drewN {W:World}{p:Option Addr}{a:List Cel}(h:OIn W p a)(m:Nat):OIn (W.drewN m) p a:=h
theorem infoOp:(Tryz.prog.info? 109).map (fun i=>(i.zero,i.size,i.bytes))=some (some (.agg #[.slice none 0 0,.int .i64 0,.int .i64 0]),3,40):=by kernel_rfl
def roV (r:RC):List Value:=[.slice r.2.2.1 r.2.2.2.1 r.2.2.2.2,.int .i64 r.1,.int .i64 r.2.1]
def flatO (rs:List RC):List Value:=rs.flatMap roV
theorem flatO_cons (r:RC)(a:List RC):flatO (r :: a) = .slice r.2.2.1 r.2.2.2.1 r.2.2.2.2 :: .int .i64 r.1 :: .int .i64 r.2.1 :: flatO a:=rfl
theorem flatO_append (a b:List RC):flatO (a ++ b)=flatO a ++ flatO b:=List.flatMap_append
theorem flatO_len:∀ a:List RC,(flatO a).length=a.length * 3
 | []=>rfl
 | r :: a=>by simp only[flatO_cons,List.length_cons,flatO_len a];omega
theorem flatO_at:∀ (a:List RC) (i:Nat),i<a.length->(flatO a)[i * 3+1]?=some (.int .i64 (a.getD i RC.zero).1)/\(flatO a)[i * 3+2]?=some (.int .i64 (a.getD i RC.zero).2.1)/\
  (flatO a)[i * 3]?=some (.slice (a.getD i RC.zero).2.2.1 (a.getD i RC.zero).2.2.2.1 (a.getD i RC.zero).2.2.2.2)
 | [],i,h=>by simp at h
 | r :: a,0,_=>by simp[flatO_cons]
 | r :: a,i+1,h=>by
   have:=flatO_at a i (by simpa using h);rw[flatO_cons,show(i+1) * 3=(i * 3)+1+1+1 by omega,show(i * 3)+1+1+1+1=(i * 3+1)+1+1+1 by omega,show(i * 3)+1+1+1+2=(i * 3+2)+1+1+1 by omega]
   simpa using this
def OwnO (w:World)(B:Nat)(p:Option Addr)(n c:Nat)(cs:List Cel):Prop:=
 n=cs.length/\∃ rs:List RC,rs.length=cs.length/\w.ownsRow B 109 3 (.slice p n c) n (flatO rs)/\(∀ i,i<cs.length->Fits w B (rs.getD i RC.zero) (cs.getD i Cel.none))/\ApartC p rs
theorem OwnO.nil (w:World)(B:Nat):OwnO w B none 0 0 []:=⟨rfl,[],rfl,World.ownsRow_nil _ _ _ _,fun i h=>by simp at h,fun i h=>by simp at h,fun i j h=>by simp at h⟩
theorem OwnO.oin {w:World}{B:Nat}{p:Option Addr}{n c:Nat}{d:List Cel}(h:OwnO w B p n c d):OIn w p d:=fun t=>by
 obtain⟨rfl,b,x,a,r,_⟩:=h;obtain⟨g,m,f,u,v⟩:=a.form t;simp only[Value.slice.injEq,true_and] at f;obtain⟨rfl,rfl⟩:=f;refine⟨g,0,rfl,fun i s=>?_⟩;obtain⟨o,q,e⟩:=r i s;obtain⟨j,k,l⟩:=flatO_at b i (by omega);rw[Nat.zero_add];refine⟨(b.getD i RC.zero).2.2.1,(b.getD i RC.zero).2.2.2.2,?_,?_,?_,e.bin⟩
 ·rw[a.cellAt _ (by omega),j,o]
 ·rw[a.cellAt _ (by omega),k,q]
 ·rw[a.cellAt _ (by omega),l,e.len]
theorem OwnO.below {w w':World}{B:Nat}{p:Option Addr}{n c:Nat}{f:List Cel}(h:OwnO w B p n c f)(j:Below w.heap.size w w'):OwnO w' B p n c f:=by
 obtain⟨rfl,t,q,l,d,ha⟩:=h;refine⟨rfl,t,q,⟨l.1,?_⟩,fun i e=>⟨(d i e).1,(d i e).2.1,(d i e).2.2.below j⟩,ha⟩
 rcases l.2 with m | ⟨g,a,b,s,o,k,r⟩
 ·exact .inl m
 ·exact .inr ⟨g,a,b,s,o,(j.block g (Array.getElem?_eq_some_iff.1 k).1).trans k,r⟩
theorem OwnO.mono {w:World}{B B':Nat}{p:Option Addr}{n c:Nat}{d:List Cel}(h:OwnO w B p n c d)(e:B'<=B):OwnO w B' p n c d:=by
 obtain⟨g,rs,f,j,a,ha⟩:=h;exact⟨g,rs,f,ownsRow_down j e,fun i b=>⟨(a i b).1,(a i b).2.1,(a i b).2.2.mono e⟩,ha⟩
def orI (x y:Int):Int:=if x≠0 then x else y
theorem or_any (b:Nat)(x y:Int)(w:World)(j:w.cell? ⟨b,0,none⟩=some (.int .i64 x))(k:w.cell? ⟨b,1,none⟩=some (.int .i64 y)):Calls Tryz.prog 150 #[.slice (some ⟨b,0,none⟩) 2 2] w fun e g=>e = .returned (.int .i64 (orI x y))/\g=w:=by
 have a:Hid (∀ c,c=orI x y->Ending.returned (.int .i64 c) = .returned (.int .i64 (orI x y))):=fun c h=>ret_int h
 go_enter Tryz.func150,Tryz.ntmps150
 go_wp2_with fail
 go_loop [8] (fun i=>i = .int .i64 0∨(i = .int .i64 1/\x=0)∨(i = .int .i64 2/\x=0/\y=0)) (fun i=>2-(intOf i).toNat)
 case atStart=>exact .inl rfl
 case round=>
  rcases hrel with rfl | ⟨rfl,rfl⟩ | ⟨rfl,rfl,rfl⟩
  ·by_cases d:x=0
   ·subst d
    go_wp2_with fail;go_roundw
    case rel=>exact .inr (.inl ⟨by go_num,by simp⟩)
    case measure=>simp[intOf]
   ·have f:Hid _:=a.o x (by rw[orI,if_pos d])
    go_wp2_with fail;go_ret;exact⟨f.o,rfl⟩
  ·by_cases d:y=0
   ·subst d
    go_wp2_with fail;go_roundw
    case rel=>exact .inr (.inr ⟨by go_num,by simp⟩)
    case measure=>simp[intOf]
   ·have f:Hid _:=a.o y (by rw[orI,if_neg (by simp)])
    go_wp2_with fail;go_ret;exact⟨f.o,rfl⟩
  ·go_wp2_with fail
   go_ret;exact⟨rfl,rfl⟩
theorem pair_new (W:World)(a b:Value)(t:TypeId):(W.alloc (.cells #[a,b] t)).cell? ⟨W.heap.size,0,none⟩=some a/\(W.alloc (.cells #[a,b] t)).cell? ⟨W.heap.size,1,none⟩=some b:=
 ⟨by simp[World.cell?_alloc_new],by simp[World.cell?_alloc_new]⟩
def resB (s:ByteArray):Bool:=s.toList == [91,93] || s.toList == [123,125] || s.toList == [124]
def preB (t:Int):Bool:=t == 3 || t == 4
def srt (t:Int):Int:=if preB t then 0 else 1
theorem isReserved_any (s:ByteArray)(w:World):Calls Tryz.prog 149 #[.string s] w fun e i=>e = .returned (.bool (resB s))/\i=w:=by
 cases d:(s.toList == [91,93]) <;> cases f:(s.toList == [123,125]) <;> cases g:(s.toList == [124])
 all_goals
  have c:Hid (∀ b,b=resB s->Ending.returned (.bool b) = .returned (.bool (resB s))):=fun b h=>ret_bool h
  have a:Hid (resB s=(s.toList == [91,93] || s.toList == [123,125] || s.toList == [124])):=rfl;rw[d,f,g] at a
  go_enter Tryz.func149,Tryz.ntmps149
  go_wp2_with fail;go_ret;exact⟨c.o _ a.o.symm,rfl⟩
theorem sortOf_any (t:Int)(w:World):Calls Tryz.prog 153 #[.int .i64 t] w fun e g=>e = .returned (.int .i64 (srt t))/\g=w:=by
 have a:Hid (srt t=if (t == 3 || t == 4) then 0 else 1):=rfl
 cases d:(t == 3) <;> cases f:(t == 4)
 all_goals
  rw[d,f] at a
  have c:Hid (∀ b,b=srt t->Ending.returned (.int .i64 b) = .returned (.int .i64 (srt t))):=fun b h=>ret_int h
  go_enter Tryz.func153,Tryz.ntmps153
  go_wp2_with fail;go_ret;exact⟨c.o _ a.o.symm,rfl⟩
theorem isOpName_any (p:Option Addr)(m a:Nat)(w:World)(g:m<=1000000000):Calls Tryz.prog 147 #[.slice p m a] w fun e f=>e = .returned (.bool (decide (1<=m/\m<=100)))/\f=w:=by
 by_cases c:1<=m
 ·by_cases d:m<=100
  ·have e:decide (1<=m/\m<=100)=true:=by simp[c,d]
   have b:decide ((m:Int)<=100)=true:=by simp;omega
   rw[e];clear e
   go_enter Tryz.func147,Tryz.ntmps147
   go_wp2_with fail;go_ret;exact⟨rfl,rfl⟩
  ·have e:decide (1<=m/\m<=100)=false:=by simp;omega
   have b:decide ((m:Int)<=100)=false:=by simp;omega
   rw[e];clear e
   go_enter Tryz.func147,Tryz.ntmps147
   go_wp2_with fail;go_ret;exact⟨rfl,rfl⟩
 ·have e:decide (1<=m/\m<=100)=false:=by simp;omega
  rw[e];clear e
  go_enter Tryz.func147,Tryz.ntmps147
  go_wp2_with fail;go_ret;exact⟨rfl,rfl⟩
theorem isOpType_any (t:Int)(w:World):Calls Tryz.prog 148 #[.int .i64 t] w fun e c=>e = .returned (.bool (decide (0<=t/\t<=6)))/\c=w:=by
 by_cases a:0<=t
 ·by_cases b:t<=6
  ·have e:decide (0<=t/\t<=6)=true:=by simp[a,b]
   rw[e];clear e
   go_enter Tryz.func148,Tryz.ntmps148
   go_wp2_with fail;go_ret;exact⟨rfl,rfl⟩
  ·have e:decide (0<=t/\t<=6)=false:=by simp;omega
   rw[e];clear e
   go_enter Tryz.func148,Tryz.ntmps148
   go_wp2_with fail;go_ret;exact⟨rfl,rfl⟩
 ·have e:decide (0<=t/\t<=6)=false:=by simp;omega
  rw[e];clear e
  go_enter Tryz.func148,Tryz.ntmps148
  go_wp2_with fail;go_ret;exact⟨rfl,rfl⟩
theorem isNaNo_any (x:Int)(w:World):Calls Tryz.prog 202 #[.int .i64 x] w fun e a=>e = .returned (.bool false)/\a=w:=by
 go_enter Tryz.func202,Tryz.ntmps202
 go_wp2_with fail;go_ret;exact⟨rfl,rfl⟩
theorem compareO_any (x y:Int)(w:World):Calls Tryz.prog 152 #[.int .i64 x,.int .i64 y] w fun e j=>e = .returned (.int .i64 (cmpI x y))/\j=w:=by
 have g:=isNaNo_any x w;have i:=isNaNo_any y w
 have a:Hid (∀ c,c=cmpI x y->Ending.returned (.int .i64 c) = .returned (.int .i64 (cmpI x y))):=fun c h=>ret_int h
 by_cases d:x<y
 rotate_right
 case' _=>
  by_cases f:y<x
  rotate_right
  case' _=>
   have b:Hid _:=a.o 0 (by rw[cmpI,if_neg d,if_neg f])
  rotate_right
  case' _=>
   have b:Hid _:=a.o 1 (by rw[cmpI,if_neg d,if_pos f])
 rotate_right
 case' _=>
  have b:Hid _:=a.o (-1) (by rw[cmpI,if_pos d])
 all_goals
  go_enter Tryz.func152,Tryz.ntmps152
  go_wp2_with fail;refine g.mono ?_;rintro e k ⟨rfl,rfl⟩;go_wp2_with fail;refine i.mono ?_;rintro e k ⟨rfl,rfl⟩;go_wp2_with fail;go_ret;exact⟨b.o,rfl⟩
theorem compareBytes_eq:∀ l m:List UInt8,Lib.compareBytes l m=if Op.bytesLess l m then -1 else if l == m then 0 else 1
 | [],[]=>by simp[Lib.compareBytes,Op.bytesLess]
 | [],_ :: _=>by simp[Lib.compareBytes,Op.bytesLess]
 | _ :: _,[]=>by simp[Lib.compareBytes,Op.bytesLess]
 | a :: x,b :: y=>by
   have g:=compareBytes_eq x y;simp only[Lib.compareBytes,Op.bytesLess,g]
   by_cases c:a<b
   ·simp[c]
   ·by_cases d:b<a
    ·have f:¬ a=b:=fun e=>by subst e;exact c d
     simp[c,d,f]
    ·have e:a=b:=by rw[u8_lt] at c d;rw[u8_eq];omega
     subst e
     simp
theorem run_bytesOf {w:World}{p:Option Addr}{c:List Int}(h:BIn w p c)(m d:Nat)(n:m=c.length):(Extern.Bytes.bytesOf (.slice p m d)).run Tryz.prog w = .ok (strOfNums c) w:=by
 subst n
 by_cases i:0<c.length
 ·obtain⟨b,o,rfl,k⟩:=h i
  have l:=Lib.run_loadBytesX (P:=Tryz.prog) w c ⟨b,o,none⟩ .empty (fun j x g=>by
   have f:j<c.length:=(List.getElem?_eq_some_iff.1 g).1
   have e:(⟨b,o,none⟩:Addr).add j=⟨b,o+j,none⟩:=by unfold Addr.add;split <;> simp_all
   rw[e,k j f,List.getD_eq_getElem?_getD,g]
   rfl)
  simp only[Extern.Bytes.bytesOf];rw[l]
  congr 1
  apply ByteArray.ext
  show(#[]:Array UInt8) ++ (Lib.bytesOf c).toArray=(strOfNums c).data
  simp[Lib.bytesOf,strOfNums]
 ·obtain rfl:c = []:=by cases c with | nil=>rfl | cons a r=>simp at i
  cases p with
  | none=>simp[Extern.Bytes.bytesOf];rfl
  | some a=>simp[Extern.Bytes.bytesOf,Extern.Bytes.loadBytes];rfl
theorem run_compareS {w:World}{p q:Option Addr}{c d:List Int}(g:BIn w p c)(h:BIn w q d)(m n a b:Nat)(e:m=c.length)(f:n=d.length) :
  (Extern.BytealgCompare.compare #[.slice p m a,.slice q n b]).run Tryz.prog w = .ok (.int .i64 (cmpS (strOfNums c) (strOfNums d))) w:=by
 change Sem.run Tryz.prog (do pure (goInt (Extern.BytealgCompare.cmp (<- Extern.Bytes.bytesOf (.slice p m a)) (<- Extern.Bytes.bytesOf (.slice q n b))))) w=_
 simp only[Sem.run_bind,run_bytesOf g m a e,run_bytesOf h n b f,Sem.run_pure,Result.andThen];rw[Lib.cmp_eq,compareBytes_eq,cmpS,ByteArray.toList_eq,ByteArray.toList_eq]
 rfl
theorem bytesCompare_any (p q:Option Addr)(m n c d:Nat)(a b:List Int)(w:World)(f:m=a.length)(g:n=b.length)(i:BIn w p a)(j:BIn w q b) :
  Calls Tryz.prog 151 #[.slice p m c,.slice q n d] w fun e k=>e = .returned (.int .i64 (cmpS (strOfNums a) (strOfNums b)))/\k=w:=by
 have h:=run_compareS i j m n c d f g;clear i j f g
 generalize cmpS (strOfNums a) (strOfNums b)=r at h ⊢
 go_enter Tryz.func151,Tryz.ntmps151
 go_wp2_with fail;rw[run_callFunc_extern Tryz.func201 (by kernel_rfl) (by kernel_rfl) (by kernel_rfl) (e:=Extern.BytealgCompare.compare) (by kernel_rfl),h];simp only[Result.andThen];rw[Oper.upon_value];go_wp2_with fail;go_ret;exact⟨rfl,rfl⟩
end
section
open Go Go.RowKit Go.Sort
def opCmp (x y:Cel):Int:=orI (cmpS (strOfNums x.2.2) (strOfNums y.2.2)) (cmpI (srt x.2.1) (srt y.2.1))
theorem compareOps_any (j a k c:Int)(p q:Option Addr)(d f g h:Nat)(n r:List Int)(w:World)(y:d=n.length)(z:f=r.length)(K:BIn w p n)(L:BIn w q r) :
  Calls Tryz.prog 89 #[.agg #[.slice p d g,.int .i64 j,.int .i64 a],.agg #[.slice q f h,.int .i64 k,.int .i64 c]] w fun e i=>e = .returned (.int .i64 (opCmp (j,a,n) (k,c,r)))/\∃ q F,i=grow (w.drewN q) F:=by
 have C:∀ W,Below w.heap.size w W->Calls Tryz.prog 151 #[.slice p d g,.slice q f h] W fun e i=>e = .returned (.int .i64 (cmpS (strOfNums n) (strOfNums r)))/\i=W:=fun W I=>bytesCompare_any p q d f g h n r W y z (K.below I) (L.below I)
 have l:=fun W=>sortOf_any a W
 have m:=fun W=>sortOf_any c W
 have x:=fun W=>compareO_any (srt a) (srt c) W
 rw[opCmp];simp only
 generalize cmpS (strOfNums n) (strOfNums r)=cs at C ⊢
 generalize srt a=s1 at l x ⊢
 generalize srt c=s2 at m x ⊢
 generalize cmpI s1 s2=ci at x ⊢
 have D:∀ (b:Nat) (W:World),W.cell? ⟨b,0,none⟩=some (.int .i64 cs)->W.cell? ⟨b,1,none⟩=some (.int .i64 ci)->Calls Tryz.prog 150 #[.slice (some ⟨b,0,none⟩) 2 2] W fun e i=>e = .returned (.int .i64 (orI cs ci))/\i=W:=fun b W U V=>or_any b cs ci W U V
 generalize orI cs ci=co at D ⊢
 have J:Below w.heap.size w ((w.alloc (.cells #[.slice p d g,.int .i64 j,.int .i64 a] 109)).alloc (.cells #[.slice q f h,.int .i64 k,.int .i64 c] 109)):=((Below.refl _ _).alloc (Nat.le_refl _) _).alloc (by simp) _;have G:Box3 ((w.alloc (.cells #[.slice p d g,.int .i64 j,.int .i64 a] 109)).alloc (.cells #[.slice q f h,.int .i64 k,.int .i64 c] 109)) w.heap.size (.slice p d g) (.int .i64 j) (.int .i64 a):=Box3.of_block (t:=109) ((Below.heap_alloc _ _ _ (by simp)).trans (heap_alloc_new _ _))
 have H:Box3 ((w.alloc (.cells #[.slice p d g,.int .i64 j,.int .i64 a] 109)).alloc (.cells #[.slice q f h,.int .i64 k,.int .i64 c] 109)) (w.heap.size+1) (.slice q f h) (.int .i64 k) (.int .i64 c):=Box3.of_block (t:=109) (by
  have:=heap_alloc_new (w.alloc (.cells #[.slice p d g,.int .i64 j,.int .i64 a] 109)) (.cells #[.slice q f h,.int .i64 k,.int .i64 c] 109);rw[World.size_alloc] at this
  exact this)
 have O:Hid (∃ M,(w.alloc (.cells #[.slice p d g,.int .i64 j,.int .i64 a] 109)).alloc (.cells #[.slice q f h,.int .i64 k,.int .i64 c] 109)=grow w M):=⟨_,by rw[alloc_eq_grow,alloc_eq_grow,grow_grow]⟩
 have N:=hid C;have A:Hid _:=l;have B:Hid _:=m;have R:Hid _:=x;have T:Hid _:=D;have s:Hid _:=J;have u:Hid _:=G;have v:Hid _:=H;clear C l m x D K L y z J G H
 go_enter Tryz.func89,Tryz.ntmps89
 go_wp2_with fail;obtain⟨X,Y,Z,_⟩:=u.o;obtain⟨b0,b1,b2,_⟩:=v.o;clear u v
 generalize (w.alloc (.cells #[.slice p d g,.int .i64 j,.int .i64 a] 109)).alloc (.cells #[.slice q f h,.int .i64 k,.int .i64 c] 109)=W2 at *
 go_region_held3 (fun W=>(W.cell? ⟨w.heap.size,0,none⟩=some (.slice p d g)/\W.cell? ⟨w.heap.size,2,none⟩=some (.int .i64 a))/\W.cell? ⟨w.heap.size+1,0,none⟩=some (.slice q f h)/\W.cell? ⟨w.heap.size+1,2,none⟩=some (.int .i64 c))
  (go_keep)
  (first
    | (go_at_call 151;refine(N.o _ (by first | exact s.o | exact s.o.trans (Below.refl _ _).drew)).mono ?_;rintro e i ⟨rfl,rfl⟩)
    | (go_at_call 152;refine(R.o _).mono ?_;rintro e i ⟨rfl,rfl⟩)
    | (go_at_call 153;refine(A.o _).mono ?_;rintro e i ⟨rfl,rfl⟩)
    | (go_at_call 153;refine(B.o _).mono ?_;rintro e i ⟨rfl,rfl⟩)
    | (go_at_call 150;refine(T.o _ _ (by exact(pair_new _ _ _ _).1) (by exact(pair_new _ _ _ _).2)).mono ?_;rintro e i ⟨rfl,rfl⟩))
 all_goals go_wp2_with fail
 all_goals go_ret
 obtain⟨M,E⟩:=O.o;exact⟨rfl,1,_,by rw[E,alloc_eq_grow,grow_grow,drew_grow];rfl⟩
end
section
open Go Go.RowKit
def okB (k n:Int)(s:ByteArray)(m:Nat):Bool:=decide (1<=m/\m<=100) && (decide (0<=n/\n<=6) && (decide (1<=k/\k<=1200) && (if s.toList == [44] then(k == 1000 && n == 1) else !resB s)))
theorem isOp_any (k n:Int)(p:Option Addr)(m a:Nat)(l:List Int)(w:World)(B:m=l.length)(A:m<=1000000000)(C:BIn w p l) :
  Calls Tryz.prog 88 #[.agg #[.slice p m a,.int .i64 k,.int .i64 n]] w fun e j=>e = .returned (.bool (okB k n (strOfNums l) m))/\Below w.heap.size w j:=by
 have u:Below w.heap.size w (w.alloc (Obj.cells #[.slice p m a,.int .i64 k,.int .i64 n] 109)):=(Below.refl _ _).alloc (Nat.le_refl _) _;have F:=conv_str (C.below u) m a B 9 Tryz.underlying9;have D:Hid _:=u;have v:=isOpName_any p m a (w.alloc (Obj.cells #[.slice p m a,.int .i64 k,.int .i64 n] 109)) A;have y:=isOpType_any n (w.alloc (Obj.cells #[.slice p m a,.int .i64 k,.int .i64 n] 109));clear C B A u
 generalize strOfNums l=s at F ⊢
 have x:=isReserved_any s (w.alloc (Obj.cells #[.slice p m a,.int .i64 k,.int .i64 n] 109));have c:Hid (okB k n s m=(decide (1<=m/\m<=100) && (decide (0<=n/\n<=6) && (decide (1<=k/\k<=1200) && (if s.toList == [44] then(k == 1000 && n == 1) else !resB s))))):=rfl
 generalize resB s=r at x c
 generalize decide (1<=m/\m<=100)=b1 at v c
 generalize decide (0<=n/\n<=6)=b2 at y c
 have E:Hid (∀ b,b=okB k n s m->Ending.returned (.bool b) = .returned (.bool (okB k n s m))):=fun b h=>ret_bool h
 cases b1
 rotate_right
 case' _=>
  cases b2
  rotate_right
  case' _=>
   by_cases G:k<1
   rotate_right
   case' _=>
    by_cases H:1200<k
    rotate_right
    case' _=>
     have f:decide (1<=k/\k<=1200)=true:=by simp;omega
     have d:Hid _:=f;clear f
     cases i:(s.toList == [44])
     rotate_right
     case' _=>
      cases t:(k == 1000)
      rotate_right
      case' _=>
       cases z:(n == 1)
       rotate_right
       case' _=>
        have g:Hid (okB k n s m=true):=by show _=_;rw[c.o];rw[d.o,i,t,z];simp
       rotate_right
       case' _=>
        have g:Hid (okB k n s m=false):=by show _=_;rw[c.o];rw[d.o,i,t,z];simp
      rotate_right
      case' _=>
       have g:Hid (okB k n s m=false):=by show _=_;rw[c.o];rw[d.o,i,t];simp
     rotate_right
     case' _=>
      have g:Hid (okB k n s m = !r):=by show _=_;rw[c.o];rw[d.o,i];simp
    rotate_right
    case' _=>
     have f:decide (1<=k/\k<=1200)=false:=by simp;omega
     have g:Hid (okB k n s m=false):=by show _=_;rw[c.o];rw[f];rfl
   rotate_right
   case' _=>
    have q:decide (1<=k/\k<=1200)=false:=by simp;omega
    have g:Hid (okB k n s m=false):=by show _=_;rw[c.o];rw[q];rfl
  rotate_right
  case' _=>
   have g:Hid (okB k n s m=false):=by show _=_;rw[c.o];rfl
 rotate_right
 case' _=>
  have g:Hid (okB k n s m=false):=by show _=_;rw[c.o];rfl
 all_goals
  go_enter Tryz.func88,Tryz.ntmps88
  go_wp2_with (first | (go_at_call 147;refine v.mono ?_;rintro e j ⟨rfl,rfl⟩) | (go_at_call 148;refine y.mono ?_;rintro e j ⟨rfl,rfl⟩) | (go_at_call 149;refine x.mono ?_;rintro e j ⟨rfl,rfl⟩));go_ret;exact⟨E.o _ g.o.symm,D.o⟩
def ltO (a b:Cel):Bool:=decide (opCmp a b<0)
def okC (c:Cel):Bool:=okB c.1 c.2.1 (strOfNums c.2.2) c.2.2.length
def comC (c:Cel):Bool:=(strOfNums c.2.2).toList == [44]
def chainO:Option Cel->List Cel->Bool
 | _,[]=>true
 | a,c :: r=>okC c && (match a with | none=>true | some x=>ltO x c) && chainO (some c) r
def tabB (cs:List Cel):Bool:=decide (cs.length<=200) && (chainO none cs && cs.any comC)
def befO (cs:List Cel)(k:Nat):Option Cel:=if k=0 then none else some (cs.getD (k-1) Cel.none)
theorem chainO_at (b:List Cel)(k:Nat)(h:k<b.length):chainO (befO b k) (b.drop k)=(okC (b.getD k Cel.none) && (match befO b k with | none=>true | some x=>ltO x (b.getD k Cel.none)) && chainO (befO b (k+1)) (b.drop (k+1))):=by
 have e:befO b (k+1)=some (b.getD k Cel.none):=by simp[befO]
 rw[drop_at b k h,e]
 generalize befO b k=a
 cases a <;> rfl
theorem opCmp_lt (x y:Cel):opCmp x y<0↔Op.bytesLess (strOfNums x.2.2).toList (strOfNums y.2.2).toList=true∨((strOfNums x.2.2).toList=(strOfNums y.2.2).toList/\srt x.2.1<srt y.2.1):=by
 unfold opCmp orI cmpI cmpS
 cases a:Op.bytesLess (strOfNums x.2.2).toList (strOfNums y.2.2).toList with
 | true=>simp
 | false=>
   by_cases e:(strOfNums x.2.2).toList=(strOfNums y.2.2).toList
   ·simp only[e]
    simp
    split
    ·simp;omega
    ·split <;> simp <;> omega
   ·simp[e]
theorem ltO_trans {x y z:Cel}(a:ltO x y=true)(b:ltO y z=true):ltO x z=true:=by
 simp only[ltO,decide_eq_true_eq,opCmp_lt] at *
 rcases a with a | ⟨a,h1'⟩ <;> rcases b with b | ⟨b,c⟩
 ·exact .inl (bl_trans _ _ _ a b)
 ·exact .inl (b▸a)
 ·exact .inl (a▸b)
 ·exact .inr ⟨a.trans b,by omega⟩
end
end Go.Proofs.YtnfnddnffoigfaaGreatDoor
