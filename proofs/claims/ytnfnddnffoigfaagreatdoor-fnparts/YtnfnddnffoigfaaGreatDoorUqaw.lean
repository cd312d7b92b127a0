/- Texts of OrK2, FpI, FpP, FpB, FpK. Own work of the verifier. -/
import Derived.Test.YtnfnddnffoigfaaGreatDoorUqav
import Derived.Test.YtnfnddnffoigfaaGreatDoorUqau
namespace Go.Proofs.YtnfnddnffoigfaaGreatDoor
set_option maxHeartbeats 2000000
set_option linter.unusedVariables false
set_option maxRecDepth 100000
section
open Go Go.RowKit
theorem listT_tr {its:List (Cel×Fo)}(b:∀ x ∈ its,(Fo.node x.1 x.2 .nil).ok)(a:(listT its).cells.length<=2000):∃ A:Tr,A.fo=listT its/\A.cs=(listT its).cells/\smallT A:=by
 obtain⟨c,k,e⟩:=listT_node its;have d:=listT_ok its b;rw[e] at d a ⊢
 have f:(Fo.node c k .nil).cells=c :: k.cells:=by simp[Fo.cells]
 rw[f] at a ⊢;exact⟨(c,k),rfl,rfl,smallT.of d (by simpa using a)⟩
theorem splitF_list:∀ (a:List (Cel×Fo)) (c:Cel) (k:Fo),listT a = .node c k .nil->splitF c k=(a,(nilC,.nil))
 | [],c,k,h=>by
   simp only[listT,Fo.node.injEq] at h;obtain⟨rfl,rfl,_⟩:=h;exact splitF_other _ _ (by decide)
 | x :: r,c,k,h=>by
   simp only[listT,Fo.node.injEq] at h;obtain⟨rfl,rfl,_⟩:=h;obtain⟨b,d,e⟩:=listT_node r;rw[e,splitF_dot,splitF_list r b d e]
end
section
open Go Go.RowKit
set_option linter.unusedSimpArgs false
def CompO (w:World)(B:Nat)(s:List Int)(k:Fo)(b g cq:Nat)(vs:List Value):Prop:=
 w.cell? ⟨b,0,none⟩=some (.string (strOfNums s))/\w.cell? ⟨b,1,none⟩=some (.slice (some ⟨g,1,none⟩) vs.length cq)/\g<w.heap.size/\(∀ i,i<vs.length->w.cell? ⟨g,1+i,none⟩=some (vs.getD i .nilIface))/\FoIn w B k vs
theorem appCompO_any (s:List Int)(k:Fo)(b g cq:Nat)(vs:List Value)(p:Option Addr)(n cp:Nat)(cs:List Cel)(Bt B:Nat)(W w:World)(x1:k.ok)(hs:Byte s)(h:CompO W Bt s k b g cq vs)(hw:Below W.heap.size W w)(e8:W.heap.size<=B)(hB:B<=w.heap.size)
  (ho:OwnC w B p n cp cs) (hn:n+1+k.cells.length<=1000000):Calls Tryz.prog 436 #[.pointer (some ⟨b,0,none⟩),.slice p n cp] w (AppOut w B cs ((3,k.count,s) :: k.cells)):=by
 have HO:=hid ho;have HC:=hid h;have HW:=hid hw;obtain⟨w1,x,h4,h7,ht⟩:=conv_bytes w.drew s hs 9 Tryz.underlying9;have k3:vs.length=k.count:=FoIn.count _ _ h.2.2.2.2;have c0:=(hw.cell (World.block_lt_of_cell? _ _ h.1)).trans h.1;have N:=(hw.cell (World.block_lt_of_cell? _ _ h.2.1)).trans h.2.1;have h6:Below w.heap.size w w1:=(Below.refl _ _).drew.trans h7;have d0:=(h6.cell (World.block_lt_of_cell? _ _ c0)).trans c0;have d1:=(h6.cell (World.block_lt_of_cell? _ _ N)).trans N
 obtain⟨m,em⟩:∃ m,m=s.length:=⟨_,rfl⟩
 obtain⟨str,es⟩:∃ str,str=strOfNums s:=⟨_,rfl⟩
 obtain⟨q,eq⟩:∃ q,q=vs.length:=⟨_,rfl⟩
 rw[<-em] at h4 ht;rw[<-es] at h4 c0 d0;rw[<-eq] at N d1;have x3:=h7.size;have k1:(convert 9 22 (.string str)).run Tryz.prog w.drew = .ok (.slice (some ⟨w.heap.size,0,none⟩) m x) w1:=h4;have k2:OwnT w1 w.heap.size (some ⟨w.heap.size,0,none⟩) m x s:=ht;have hb:Below w1.heap.size w1 (w1.alloc (Obj.cells #[Value.int IntKind.i64 3,Value.int IntKind.i64 q,Value.slice (some ⟨w.heap.size,0,none⟩) m x] 27)):=(Below.refl _ _).alloc (Nat.le_refl _) _;have HB:=hid (Below.on h6 hb);have HT:=hid (k2.below hb)
 have HX:Hid (Box3 (w1.alloc (Obj.cells #[Value.int IntKind.i64 3,Value.int IntKind.i64 q,Value.slice (some ⟨w.heap.size,0,none⟩) m x] 27)) w1.heap.size (.int .i64 3) (.int .i64 q) (.slice (some ⟨w.heap.size,0,none⟩) m x)):=Box3.of_block (t:=27) (heap_alloc_new _ _)
 have HE:Hid (q=vs.length/\vs.length=k.count):=⟨eq,k3⟩
 have hq:q<=1000000:=by have:=Fo.count_le k;omega
 clear ho h hw em es eq k3 h7 ht k2 h4 hb h6
 go_enter Tryz.func436,Tryz.ntmps436
 go_upto_region 1 with fail
 go_cut [1] from 7 (fun v wc=>∃ g2 n2 c2,v = .slice (some ⟨g2,0,none⟩) n2 c2/\Hid (OwnC wc B (some ⟨g2,0,none⟩) n2 c2 (cs ++ [((3,(q:Int),s):Cel)]))/\Hid (Below B w wc)/\n2=n+1)
 case first=>
  go_region_law (refine step_app_cell w _ rfl _ _ rfl B p n cp cs rfl HO.o HB.o hB ⟨w1.heap.size,0,none⟩ 1 rfl 3 q (some ⟨w.heap.size,0,none⟩) m x s HT.o (news_rc HX.o) (by omega) ?_;intro g1 n1 e6 w2 h9 k6 k8)
  all_goals go_wp2_with fail
  all_goals go_meet
  all_goals exact⟨g1,n1,e6,rfl,h9,(HB.o.mono hB).trans k6,k8⟩
 case rest=>
  obtain⟨g2,n2,c2,rfl,k5,e2,k9⟩:=hcut;have e1:wc.cell? ⟨b,1,none⟩=some (.slice (some ⟨g,1,none⟩) q cq):=(e2.o.cell (p:=⟨b,1,none⟩) (by have:=World.block_lt_of_cell? _ _ HC.o.2.1;show b<B;simp at this;omega)).trans N;clear c0 N d0 d1 k1 HO HB HT HX;go_wp2_with fail
  go_loopw [1,26] (fun v i wr=>∃ (D R:Fo) (us E:List Value) (j:Nat) (V:Option Addr) (H U:Nat),j<=q/\H<=1000000/\i = .int .i64 j/\v = .slice V H U/\Hid (k=D.cat R/\vs=us ++ E/\us.length=j/\H=n+1+D.cells.length)/\Hid (FoIn W Bt R E)/\
   Hid (OwnC wr B V H U (cs ++ ((3,(q:Int),s):Cel) :: D.cells))/\Hid (Below B w wr)) (fun _ i _=>q-(intOf i).toNat)
  case atStart=>exact⟨.nil,k,[],vs,0,_,_,_,Nat.zero_le _,by omega,rfl,rfl,⟨rfl,rfl,rfl,by simp[Fo.cells,k9]⟩,HC.o.2.2.2.2,k5,e2⟩
  case round=>
   obtain⟨D,R,us,E,j,V,H,U,hj,x2,rfl,rfl,I,HR,u,X⟩:=hrel
   by_cases k7:j<q
   ·obtain⟨S,L,r',rfl⟩:∃ S L r',R = .node S L r':=by
     cases R with
     | nil=>
       have Y:=I.o;have h2:E = []:=HR.o;have h3:=HE.o.1;rw[Y.2.1,h2,List.append_nil] at h3
       omega
     | node S L r'=>exact⟨S,L,r',rfl⟩
    obtain⟨v,vr,rfl,h8,r⟩:=HR.o;have c:=(Fo.ok_cat D (.node S L r')).1 (I.o.1▸x1)
    have G:D.cells.length+(L.cells.length+r'.cells.length+1)=k.cells.length:=by
     rw[I.o.1,Fo.cells_cat];simp[Fo.cells]
    have J:W.cell? ⟨g,1+j,none⟩=some v:=by
     rw[HC.o.2.2.2.1 j (by rw[<-HE.o.1];exact k7),I.o.2.1]
     simp[List.getD,I.o.2.2.1]
    have K:Below W.heap.size W wr:=HW.o.trans (X.o.mono e8);have c5:wr.cell? ⟨g,1+j,none⟩=some v:=(K.cell (World.block_lt_of_cell? _ _ J)).trans J
    have next:∀ Q P O M,OwnC M B Q P O ((cs ++ ((3,(q:Int),s):Cel) :: D.cells) ++ (S :: L.cells))->Below B wr M->
      ∃ (D R:Fo) (us E:List Value) (j':Nat) (V:Option Addr) (H U:Nat),j'<=q/\H<=1000000/\Value.int .i64 ((j:Int)+1) = .int .i64 j'/\Value.slice Q P O = .slice V H U/\Hid (k=D.cat R/\vs=us ++ E/\us.length=j'/\H=n+1+D.cells.length)/\Hid (FoIn W Bt R E)/\
        Hid (OwnC M B V H U (cs ++ ((3,(q:Int),s):Cel) :: D.cells))/\Hid (Below B w M):=fun Q P O M Y h2=>by
     have e3:=Y.1;have e4:=u.o.1;have e5:=I.o.2.2.2;simp only[List.length_append,List.length_cons] at e3 e4;refine⟨D.cat (.node S L .nil),r',us ++ [v],vr,j+1,Q,P,O,by omega,by omega,by go_num,rfl,⟨by rw[Fo.cat_assoc];exact I.o.1,by rw[I.o.2.1];simp,by simp[I.o.2.2.1],?_⟩,r,?_,X.o.trans h2⟩
     ·rw[Fo.cells_cat];simp[Fo.cells];omega
     ·show OwnC _ _ _ _ _ _
      rw[Fo.cells_cat];simpa [Fo.cells] using Y
    have F:Hid _:=next
    clear next
    have Z:B<=wr.heap.size:=Nat.le_trans hB X.o.size
    rcases h8 with ⟨z,rfl⟩ | ⟨z,rfl⟩ | ⟨z,rfl⟩ | ⟨z,b5,g5,kv,rfl,h5⟩
    ·have T:L = .nil:=c.2.2.2.2.1 (by rw[z];decide)
     have f:=c.2.1;obtain⟨c0,N,y⟩:=S;simp only at z f;subst z T
     have e:y = []:=by simp[cellB] at f;exact f.2.2
     subst e;have HS:=appVar_any N V H U _ B wr Z (by omega) u.o;clear c G J f r K u HR;go_wp2_with fail;refine HS.mono ?_;rintro e M ⟨Q,P,O,rfl,l,A⟩;go_wp2_with fail;go_roundw
     case rel=>exact F.o Q P O M l A
     case measure=>simp[intOf];omega
    ·have T:L = .nil:=c.2.2.2.2.1 (by rw[z];decide)
     have f:=c.2.1;obtain⟨c0,N,y⟩:=S;simp only at z f;subst z T
     have e:y = []:=by simp[cellB] at f;exact f.2.2
     subst e;have HS:=appNum_any N V H U _ B wr Z (by omega) u.o;clear c G J f r K u HR;go_wp2_with fail;refine HS.mono ?_;rintro e M ⟨Q,P,O,rfl,l,A⟩;go_wp2_with fail;go_roundw
     case rel=>exact F.o Q P O M l A
     case measure=>simp[intOf];omega
    ·have T:L = .nil:=c.2.2.2.2.1 (by rw[z];decide)
     have f:=c.2.1;have C:=c.2.2.1;obtain⟨c0,N,y⟩:=S;simp only at z f C c5;subst z T
     have e:N=0:=by simp[cellB] at f;exact f.2
     subst e;have HS:=appAtom_any y C V H U _ B wr Z (by omega) u.o
     obtain⟨st,e7⟩:∃ st,st=strOfNums y:=⟨_,rfl⟩
     rw[<-e7] at HS c5;clear c G J f r K u HR C e7;go_wp2_with fail;refine HS.mono ?_;rintro e M ⟨Q,P,O,rfl,l,A⟩;go_wp2_with fail;go_roundw
     case rel=>exact F.o Q P O M l A
     case measure=>simp[intOf];omega
    ·have f:=c.2.1
     have C:=c.2.2.1;have e9:=c.2.2.2.1 z;obtain⟨c0,N,y⟩:=S;simp only at z f C e9 h5;subst z e9;have HS:=appComp_any L.cells.length y L b5 g5 kv V H U _ Bt B W wr (Nat.le_refl _) c.2.2.2.2.2.1 C h5 K e8 Z u.o (by have:=I.o.2.2.2;omega);clear c G J f r K u HR C h5;go_wp2_with fail;refine HS.mono ?_;rintro e M ⟨Q,P,O,rfl,l,A⟩;go_wp2_with fail;go_roundw
     case rel=>exact F.o Q P O M l A
     case measure=>simp[intOf];omega
   ·obtain rfl:j=q:=by omega
    obtain rfl:R = .nil:=by
     have Y:=FoIn.count _ _ HR.o;have h2:=HE.o;rw[I.o.2.1,List.length_append] at h2;have h3:=I.o.2.2.1
     cases R with
     | nil=>rfl
     | node a b d=>simp[Fo.count] at Y;omega
    have k4:Hid (D=k):=by have:=I.o.1;rw[Fo.cat_nil] at this;exact this.symm
    go_wp2_with fail;go_ret;refine⟨_,_,_,rfl,?_,X.o⟩;have Y:=u.o;rw[k4.o,HE.o.1,HE.o.2] at Y;exact Y
theorem CompO.below {w w':World}{B:Nat}{s:List Int}{k:Fo}{b g c:Nat}{e:List Value}(h:CompO w B s k b g c e)(a:Below w.heap.size w w'):CompO w' B s k b g c e:=
 ⟨(a.cell (World.block_lt_of_cell? _ _ h.1)).trans h.1,(a.cell (World.block_lt_of_cell? _ _ h.2.1)).trans h.2.1,Nat.lt_of_lt_of_le h.2.2.1 a.size,fun i d=>(a.cell (World.block_lt_of_cell? _ _ (h.2.2.2.1 i d))).trans (h.2.2.2.1 i d),FoIn.below h.2.2.2.2 a⟩
theorem CompO.keepE {w V:World}{B:Nat}{s:List Int}{k:Fo}{b g c:Nat}{j:List Value}(h:CompO w B s k b g c j)(a:KeepE w V):CompO V B s k b g c j:=
 ⟨a.2 _ _ _ h.1 (by simp) (by simp),a.2 _ _ _ h.2.1 (by simp) (by simp),Nat.lt_of_lt_of_le h.2.2.1 a.1,fun i f=>by
   have d:=h.2.2.2.1 i f;obtain⟨t,x,e⟩:=FoIn.ifs _ _ h.2.2.2.2 i f;rw[e] at d ⊢
   exact a.2 _ _ _ d (by simp) (by simp),FoIn.keepE a _ _ h.2.2.2.2⟩
theorem cellsO_any (s:List Int)(k:Fo)(b g r:Nat)(u:List Value)(l:Nat)(w:World)(f:k.ok)(t:Byte s)(h:CompO w l s k b g r u)(z:k.cells.length<=10000) :
  Calls Tryz.prog 24 #[.iface 101 (.pointer (some ⟨b,0,none⟩))] w fun e c=>∃ p n a,e = .returned (.slice p n a)/\OwnC c w.heap.size p n a ((3,(k.count:Int),s) :: k.cells)/\Below w.heap.size w c:=by
 have q:=appCompO_any s k b g r u none 0 0 [] l w.heap.size w w f t h (Below.refl _ _) (Nat.le_refl _) (Nat.le_refl _) (OwnC.nil w w.heap.size) (by omega)
 have d:Hid (∀ {e:Ending} {c:World},AppOut w w.heap.size [] ((3,(k.count:Int),s) :: k.cells) e c->∃ p n a,e = .returned (.slice p n a)/\OwnC c w.heap.size p n a ((3,(k.count:Int),s) :: k.cells)/\Below w.heap.size w c):=fun ⟨p,n,a,i,j,y⟩=>⟨p,n,a,i,by simpa using j,y⟩
 clear f t h z
 go_enter Tryz.func24,Tryz.ntmps24
 go_wp2_with fail;refine q.mono ?_;rintro e C ⟨B,A,x,rfl,i,j⟩;have m:=d.o ⟨B,A,x,rfl,i,j⟩;have v:Hid _:=m;clear m i j q d;go_wp2_with fail;go_ret;exact v.o
theorem beyondO_no (a:List Cel)(t:TypeId)(x:Value)(w:World)(j:CelAt w (.iface t x) a)(l:a.length<=2000)(n:∀ y ∈ a,y.2.2.length<=100) :
  Calls Tryz.prog 162 #[.iface t x] w fun e v=>e = .returned (.bool false)/\Below w.heap.size w v:=by
 have b:=j w (Below.refl _ _)
 have s:Hid (∀ i,i<a.length->(a.getD i Cel.none).2.2.length<=100):=fun i k=>by
  rw[List.getD,List.getElem?_eq_getElem k];exact n _ (List.getElem_mem k)
 have r:=hid l;clear l n j
 go_enter Tryz.func162,Tryz.ntmps162
 go_wp2_with fail;refine b.mono ?_;rintro e z ⟨q,m,u,rfl,d,h⟩;have p:=hid h;have g:=great_no q m u a z d.1 (by rw[d.1];exact r.o) s.o d.cin;clear d h b;go_wp2_with fail;refine g.mono ?_;rintro e A ⟨rfl,c⟩;have f:=hid (Below.on p.o c);clear c g;go_wp2_with fail;go_ret;exact⟨rfl,f.o⟩
structure GoodV (PB:World->Value->Prop)(cs:List Cel):Prop where
 bel:∀ W W' v,PB W v->Below W.heap.size W W'->PB W' v
 keep:∀ W V v,PB W v->KeepE W V->PB V v
 len:cs.length<=2000
 txt:∀ y ∈ cs,y.2.2.length<=100
 cel:∀ W t x,PB W (.iface t x)->CelAt W (.iface t x) cs
def OneY (A:Tr)(PB:World->Value->Prop)(g:Nat)(W:World):Prop:=∃ t x u y,W.cell? ⟨g,0,none⟩=some (.iface t x)/\W.cell? ⟨g,1,none⟩=some (.iface u y)/\FoIn W 0 A.fo [.iface t x]/\PB W (.iface u y)
def OneG (A:Tr)(PB:World->Value->Prop)(w:World)(e:Ending)(w':World):Prop:=∃ g,e = .returned (.tuple #[efV3 (some ⟨g,0,none⟩) 1 1,.nilIface])/\OneY A PB g w'/\Below w.heap.size w w'
def XY (A:Tr)(PB:World->Value->Prop):Value->Value->Value->World->Prop:=fun x0 x1 x2 W=>∃ g,x0 = .slice (some ⟨g,0,none⟩) 1 1/\x1 = .nilIface/\x2 = .slice none 0 0/\OneY A PB g W
theorem bu_oneK (K:Nat){w:World}{a a2:Addr}{J:Option Addr}{I n:Nat}(H:BuW w a a2 J I n)(pn:Option Addr)(s:List Int)(ln cn:Nat)(pa:Option Addr)(m ca:Nat)(L:List Tr)(C:Int)(A:Tr)(N:World->Value->Prop)(D:List Cel)
  (h6:ln=s.length) (e1:s.length<=255) (h8:BIn w pn s) (h7:m=L.length) (G:m<=8) (h9:okTs L) (h5:ArgsB w pa L) (Z:0<=C) (h4:C<=1000000) (hK:buTab (strOfNums s,(m:Int))=some K)
  (hE:∀ (n c1 c2:Value) (W:World),(callFunc K #[.agg #[n,c1,c2]]).run Tryz.prog W = .ok (.enter K #[.agg #[n,c1,c2]]) W) (hk:okN (strOfNums s,(m:Int))) (Y:smallT A) (z:GoodV N D)
  (HM:∀ V p c,Below w.heap.size w V->ArgT V p L->Calls Tryz.prog K #[.agg #[.slice J I n,.slice p m c,.int .i64 C]] V (OneG A N V)) :
  Calls Tryz.prog 12 #[.slice J I n,.slice pn ln cn,.slice pa m ca,.int .i64 C] w (BuOk w 0 [A.cs] [D]):=by
 refine(builtin_by K J I n pn s ln cn pa m ca L C 0 (XY A N) (YL [A.cs] [D]) w h6 e1 h8 h7 G h9 h5 Z h4 hK H.ops ?_ ?_ ?_ (fun v0 v1 v2 v3 W T a b c d=>YL.set v0 v1 v2 v3 W T a b c d)).mono fun e M h=>YL.o h
 ·intro W b p c B hM hT
  have HW:=H.below B
  refine(run_holdsE K b 92 (strOfNums s) m buTab (.slice J I n) (.slice p m c) (.int .i64 C) a a2 (fun q n' P V=>n'=1/\P=1/\∃ g,q=some ⟨g,0,none⟩/\OneY A N g V) W hM hk hK rfl rfl rfl HW.fl HW.by' (fun q n' P V h=>?_) (fun W=>hE _ _ _ W) (fun V O=>?_)).mono fun e M h=>?_
  ·obtain⟨rfl,rfl,g,rfl,t,x,u,y,k,f,l,v⟩:=h
   exact beyond_no _ _ _ V (fun W B=>(terms_pair g t u x y W ((B.cell (World.block_lt_of_cell? _ _ k)).trans k) ((B.cell (World.block_lt_of_cell? _ _ f)).trans f)).mono fun e M h=>by
    obtain⟨g',Q,R,S,X,E⟩:=h;refine⟨_,2,Q,R,by decide,fun i hi=>?_,E⟩;have F:Below V.heap.size V M:=Below.on B E
    rcases(by omega:i=0∨i=1) with rfl | rfl
    ·exact⟨g',t,x,rfl,S,fun U r=>Y.no (l.below (Below.on F r))⟩
    ·exact⟨g',u,y,rfl,X,fun U r=>beyondO_no D u y U (z.cel _ _ _ (z.bel _ _ _ v (Below.on F r))) z.len z.txt⟩) rfl rfl rfl
  ·refine(HM V p c (Below.on B O) (hT.below O)).mono fun e M h=>?_
   obtain⟨g,rfl,⟨t,x,u,y,k,f,l,v⟩,j⟩:=h;exact⟨_,1,1,rfl,j,fun U r=>⟨rfl,rfl,g,rfl,⟨t,x,u,y,r.2 _ _ _ k (by simp) (by simp),r.2 _ _ _ f (by simp) (by simp),FoIn.keepE r _ _ l,z.keep _ _ _ v r⟩⟩⟩
  ·obtain⟨q,n',P,rfl,j,rfl,rfl,g,rfl,hX⟩:=h
   exact⟨_,_,_,rfl,rfl,rfl,rfl,⟨g,rfl,rfl,rfl,hX⟩,j⟩
 ·rintro x0 x1 x2 W W' ⟨g,rfl,rfl,rfl,t,x,u,y,k,f,l,v⟩ j
  exact⟨g,rfl,rfl,rfl,⟨t,x,u,y,(j.cell (World.block_lt_of_cell? _ _ k)).trans k,(j.cell (World.block_lt_of_cell? _ _ f)).trans f,l.below j,z.bel _ _ _ v j⟩⟩
 ·rintro W x0 x1 x2 B ⟨g,rfl,rfl,rfl,t,x,u,y,k,f,l,v⟩
  refine(inCells_gen (some ⟨g,0,none⟩) 1 1 none 0 0 [(A.cs,D)] W rfl (by decide) (fun i hi=>?_)).mono fun e M h=>?_
  ·obtain rfl:i=0:=by simp at hi;exact hi
   exact⟨g,_,_,_,_,rfl,k,f,fun V O=>cellsOf_any _ _ _ 0 V Y.1 (l.below O) (by have:=Y.2.1;omega),z.cel _ _ _ v⟩
  ·obtain⟨pl,cl,pr,cr,rfl,f,l,j⟩:=h
   exact⟨_,_,_,_,rfl,rfl,rfl,rfl,rfl,⟨_,pl,cl,pr,cr,rfl,rfl,rfl,rfl,f,l⟩,j⟩
def MlO (s:List Int)(kk:Fo)(w:World)(v:Value)(w':World):Prop:=∃ b g cq vs,v = .iface 101 (.pointer (some ⟨b,0,none⟩))/\CompO w' 0 s kk b g cq vs/\Below w.heap.size w w'
theorem madeList_any (c:Cel)(k:Fo)(v:Value)(s:List Int)(l:Fo)(w:World)(L:(Fo.node c k .nil).ok)(H:k.cells.length<=10000)(x:FoIn w 0 (.node c k .nil) [v])(n:(splitF c k).2.1=nilC)(N:(splitF c k).1=((2,0,s),.nil) :: trs l)(h1:1<=l.count)(E:l.count<=20) :
  Calls Tryz.prog 125 #[v] w fun e w'=>∃ u,e = .returned (.tuple #[u,.nilIface])/\MlO s l w u w':=by
 obtain⟨vt,vx,rfl⟩:=x.iface;have q:=listArg_any 0 w c k (.iface vt vx) L H x n;rw[N] at q
 obtain⟨str,X⟩:∃ str,str=strOfNums s:=⟨_,rfl⟩
 have U:=hid X
 have z:Hid (1<=l.count/\l.count<=20):=⟨h1,E⟩
 clear L H x n N h1 E
 go_enter Tryz.func125,Tryz.ntmps125
 go_wp2_with fail;refine q.mono ?_;rintro e f ⟨p4,n4,B,vs,rfl,J,b,Z,M,F⟩
 have K:n4=l.count+1:=by rw[J];simp[trs_len]
 obtain⟨g,h4,hv,hg,G⟩:=b.form (by omega);simp only[Value.slice.injEq,true_and] at hv;obtain⟨rfl,rfl⟩:=hv
 obtain⟨m,D⟩:∃ m,m=l.count:=⟨_,rfl⟩
 rw[<-D] at K;obtain⟨v0,S,rfl,I,j⟩:=Z
 obtain rfl:v0 = .iface 55 (.string str):=by
  rcases I with ⟨h,_⟩ | ⟨h,_⟩ | ⟨_,h⟩ | ⟨h,_⟩
  ·cases h
  ·cases h
  ·rw[h,X]
  ·cases h
 rw[itsF_trsP] at j
 have P:S.length=m:=by rw[D];exact FoIn.count _ _ j
 subst K
 have t:∃ d,B=d+1/\m<=d/\d<=maxLen:=by
  rcases b.2 with ⟨_,h⟩ | ⟨g',h2,h5,O,_,_,h6,h8,_,_⟩
  ·omega
  ·simp only[Value.slice.injEq,true_and] at O
   obtain⟨_,rfl⟩:=O;exact⟨B-1,by omega,by omega,by omega⟩
 obtain⟨d,rfl,hd,Y⟩:=t
 have q0:f.cell? ⟨g,0,none⟩=some (.iface 55 (.string str)):=by rw[b.cellAt 0 (by omega)];rfl
 have a:Hid (g<f.heap.size/\∀ i,i<S.length->f.cell? ⟨g,1+i,none⟩=some (S.getD i .nilIface)):=⟨G,fun i R=>by
  rw[b.cellAt (1+i) (by omega),Nat.add_comm 1 i,List.getElem?_cons_succ,List.getD,List.getElem?_eq_getElem R];rfl⟩
 have V:=hid j;have y:=hid F;have W:=hid P
 have h7:1<=m:=by rw[D];exact z.o.1
 have h3:m<=20:=by rw[D];exact z.o.2
 have A:=nameAtom_any str ⟨#[97,116,111,109]⟩ f
 have b0:((m:Int)+1 == 0)=false:=by simp;omega
 have b1:((m:Int)+1 == 1)=false:=by simp;omega
 have b2:((20:Int)<(m:Int))=False:=by simp;omega
 have b3:IntKind.i64.wrap ((m:Int)+1-1)=(m:Int):=by rw[IntKind.wrap_i64];omega
 clear J b M F hg I j P q X G D Y;go_wp2_with fail;refine A.mono ?_;rintro e w5 ⟨rfl,Q⟩;rw[Q];clear Q A
 have T:Hid (∀ C,MlO s l w (.iface 101 (.pointer (some ⟨f.heap.size,0,none⟩))) (f.alloc (Obj.cells #[.string str,.slice (some ⟨g,1,none⟩) m C] 105))):=fun C=>by
  have r:Below f.heap.size f (f.alloc (Obj.cells #[.string str,.slice (some ⟨g,1,none⟩) m C] 105)):=(Below.refl _ _).alloc (Nat.le_refl _) _;have p:=heap_alloc_new f (Obj.cells #[.string str,.slice (some ⟨g,1,none⟩) m C] 105);refine⟨f.heap.size,g,C,S,rfl,⟨?_,?_,?_,fun i R=>?_,FoIn.below V.o (Below.on y.o r)⟩,Below.on y.o r⟩
  ·rw[<-U.o];exact cell_of_row _ _ 0 _ _ _ p
  ·rw[W.o];exact cell_of_row _ _ 1 _ _ _ p
  ·have:=a.o.1;simp;omega
  ·exact(r.cell (World.block_lt_of_cell? _ _ (a.o.2 i R))).trans (a.o.2 i R)
 go_wp2_with fail
 go_ret2
 exact⟨_,rfl,T.o _⟩
theorem FoIn.atP {w:World}{B:Nat} : ∀ (F:Fo) (b:List Value),FoIn w B F b->∀ (j:Nat) (x:Tr),(trs F)[j]?=some x->∃ a y,b[j]?=some (.iface a y)/\FoIn w B x.fo [.iface a y]
 | .nil,b,h,j,x,hx=>by simp[trs] at hx
 | .node c k r,b,⟨v,vr,e,hn,hr⟩,0,x,hx=>by
   obtain rfl:(c,k)=x:=by simpa [trs] using hx
   obtain⟨a,y,rfl⟩:=hn.if
   exact⟨a,y,by rw[e];rfl,_,[],rfl,hn,rfl⟩
 | .node c k r,b,⟨v,vr,e,hn,hr⟩,j+1,x,hx=>by
   obtain⟨a,y,d,f⟩:=FoIn.atP r vr hr j x (by simpa [trs] using hx);exact⟨a,y,by rw[e];simpa using d,f⟩
theorem trsP_len:∀ F:Fo,(trs F).length=F.count
 | .nil=>rfl
 | .node c k r=>by simp[trs,Fo.count,trsP_len r]
theorem comp_ofP {d:World}{B:Nat}{t:Tr}{v:Value}(h:FoIn d B t.fo [v])(c:t.1.1=3):∃ b g,v = .iface 101 (.pointer (some ⟨b,0,none⟩))/\d.cell? ⟨b,0,none⟩=some (.string (strOfNums t.1.2.2))/\d.cell? ⟨b,1,none⟩=some (.slice (some ⟨g,0,none⟩) (trs t.2).length (trs t.2).length)/\
  ∀ (j:Nat) (x:Tr),(trs t.2)[j]?=some x->∃ f y,d.cell? ⟨g,j,none⟩=some (.iface f y)/\FoIn d B x.fo [.iface f y]:=by
 obtain⟨A,C,e,r,_⟩:=h;obtain⟨rfl,rfl⟩:=List.cons.inj e
 rcases r with ⟨a,_⟩ | ⟨a,_⟩ | ⟨a,_⟩ | ⟨a,b,g,w,o,_,_,m,i,z,n,k⟩
 ·rw[a] at c;cases c
 ·rw[a] at c;cases c
 ·rw[a] at c;cases c
 ·have q:w.length=(trs t.2).length:=by rw[trsP_len];exact FoIn.count _ _ k
  rw[q] at i;refine⟨b,g,o,m,i,fun j x s=>?_⟩;obtain⟨f,y,l,u⟩:=FoIn.atP _ _ k j x s;refine⟨f,y,?_,u⟩;have p:=(List.getElem?_eq_some_iff.1 l).1;rw[n j p,List.getD_eq_getElem?_getD,l];rfl
def nArg:List Int:=[97,114,103]
theorem tab_arg:buTab (strOfNums nArg,((3:Nat):Int))=some 73:=buTab_at 29 (by decide)
theorem bu_arg {w:World}{a K:Addr}{C:Option Addr}{B i:Nat}(H:BuW w a K C B i)(E:Option Addr)(I:Nat)(D:Option Addr)(G:Nat)(n d:Int)(j:Nat)(A x:Tr)(t:0<=n)(u:n<=1000000)(m:0<=d)(o:d<=1000000)
  (v:BIn w E nArg) (k:ArgsB w D [numT ((j:Int)+1),A,vrT n]) (z:okTs [numT ((j:Int)+1),A,vrT n]) (N:A.1.1=3) (Q:(trs A.2).length<=100000) (J:(trs A.2)[j]?=some x) (R:smallT x) :
  Calls Tryz.prog 12 #[.slice C B i,.slice E 3 I,.slice D 3 G,.int .i64 d] w (BuOk w 0 [[(0,n,[])]] [x.cs]):=by
 refine bu_one 73 H E nArg 3 I D 3 G [numT ((j:Int)+1),A,vrT n] d (vrT n) x rfl (by decide) v rfl (by decide) z k m o tab_arg (fun i F Z W=>by kernel_rfl) ⟨by decide,by decide⟩ (vrT_small t u) R (fun V p c hV O=>?_);obtain⟨g,va,vb,vc,rfl,M,r,s,f⟩:=thr_of O;obtain rfl:=num_of' (n:=(j:Int)+1) r;obtain rfl:=var_of (n:=n) f;obtain⟨b,q,rfl,_,F,P⟩:=comp_ofP s N;obtain⟨Y,y,T,U⟩:=P j x J;have hj:=(List.getElem?_eq_some_iff.1 J).1
 refine(arg_any ((j:Int)+1) 101 b q (trs A.2).length 65 Y (.int .i64 n) y g c B i C d V M F (by omega) (by omega) Q (by rw[show((j:Int)+1-1).toNat=j by omega];exact T)).mono fun e w' h=>?_
 obtain⟨L,rfl,hg,S,X,l⟩:=h;exact⟨L,rfl,⟨_,_,_,_,S,X,f.below l,U.below l⟩,l⟩
theorem bu_argF {w:World}{a z:Addr}{s:Option Addr}{r e:Nat}(H:BuW w a z s r e)(u:Option Addr)(y:Nat)(t:Option Addr)(x:Nat)(n d i:Int)(A:Tr)(h:0<=d)(j:d<=1000000)
  (m:BIn w u nArg) (f:ArgsB w t [numT i,A,vrT n]) (o:okTs [numT i,A,vrT n]) (C:A.1.1=3) (G:1<=i) (I:((trs A.2).length:Int)<i) :
  Calls Tryz.prog 12 #[.slice s r e,.slice u 3 y,.slice t 3 x,.int .i64 d] w (BuOk w 4 [] []):=by
 refine bu_fails 73 H u nArg 3 y t 3 x [numT i,A,vrT n] d rfl (by decide) m rfl (by decide) o f h j tab_arg (fun e v K W=>by kernel_rfl) ⟨by decide,by decide⟩ (fun V p c E D=>?_);obtain⟨g,M,N,J,rfl,B,k,l,F⟩:=thr_of D;obtain rfl:=num_of' (n:=i) k;obtain⟨b,q,rfl,_,v,L⟩:=comp_ofP l C;exact argF_any a i b q (trs A.2).length J g c r e s d V B v G I (H.below E).fl
def nFun:List Int:=[102,117,110,99,116,111,114]
def nCopy:List Int:=[99,111,112,121,95,116,101,114,109]
theorem tab_fun:buTab (strOfNums nFun,((3:Nat):Int))=some 72:=buTab_at 28 (by decide)
theorem tab_copy:buTab (strOfNums nCopy,((2:Nat):Int))=some 75:=buTab_at 31 (by decide)
theorem atT_in {W:World}{B:Nat}{s:List Int} : FoIn W B (atT s).fo [.iface 55 (.string (strOfNums s))]:=⟨_,[],rfl,.inr (.inr (.inl ⟨rfl,rfl⟩)),rfl⟩
theorem numT_in {W:World}{B:Nat}{n:Int} : FoIn W B (numT n).fo [.iface 146 (.int .i64 n)]:=⟨_,[],rfl,.inr (.inl ⟨rfl,rfl⟩),rfl⟩
theorem vrT_in {W:World}{B:Nat}{n:Int} : FoIn W B (vrT n).fo [.iface 65 (.int .i64 n)]:=⟨_,[],rfl,.inl ⟨rfl,rfl⟩,rfl⟩
theorem atom_of {W:World}{B:Nat}{s:List Int}{v:Value}(h:FoIn W B (atT s).fo [v]):v = .iface 55 (.string (strOfNums s)):=by
 obtain⟨b,c,e,a,_⟩:=h;obtain⟨rfl,_⟩:=List.cons.inj e
 rcases a with ⟨h,_⟩ | ⟨h,_⟩ | ⟨_,rfl⟩ | ⟨h,_⟩
 ·cases h
 ·cases h
 ·rfl
 ·cases h
theorem PairE2.two {w:World}{A B C D:Tr}{i tb j k:TypeId}{a b c d:Value}{e:Ending}{l:World}(h:PairE2 w (.iface i a) (.iface tb b) (.iface j c) (.iface k d) e l)(ha:∀ W,Below w.heap.size w W->FoIn W 0 A.fo [.iface i a])(q:∀ W,Below w.heap.size w W->FoIn W 0 B.fo [.iface tb b])(r:∀ W,Below w.heap.size w W->FoIn W 0 C.fo [.iface j c])(s:∀ W,Below w.heap.size w W->FoIn W 0 D.fo [.iface k d]):TwoE A B C D w e l:=by
 obtain⟨g,rfl,t,m,n,o,p,f⟩:=h;exact⟨g,rfl,⟨_,_,_,_,_,_,_,_,m,n,o,p,ha _ f,q _ f,r _ f,s _ f⟩,f⟩
theorem bu_funC {w:World}{a I:Addr}{C:Option Addr}{B f:Nat}(H:BuW w a I C B f)(E:Option Addr)(G:Nat)(D:Option Addr)(F:Nat)(n m d:Int)(A:Tr)(v:0<=n)(x:n<=1000000)(t:0<=m)(u:m<=1000000)(k:0<=d)(l:d<=1000000)
  (y:BIn w E nFun) (i:ArgsB w D [A,vrT n,vrT m]) (z:okTs [A,vrT n,vrT m]) (K:A.1.1=3) (M:A.1.2.2.length<=100) (j:Byte A.1.2.2) (S:(trs A.2).length<=100000) :
  Calls Tryz.prog 12 #[.slice C B f,.slice E 7 G,.slice D 3 F,.int .i64 d] w (BuOk w 0 [[(0,n,[])],[(0,m,[])]] [[(2,0,A.1.2.2)],[(1,((trs A.2).length:Int),[])]]):=by
 refine bu_two 72 H E nFun 7 G D 3 F [A,vrT n,vrT m] d (vrT n) (atT A.1.2.2) (vrT m) (numT ((trs A.2).length:Int)) rfl (by decide) y rfl (by decide) z i k l tab_fun (fun f P Q W=>by kernel_rfl) ⟨by decide,by decide⟩ (vrT_small v x) (atT_small M j) (vrT_small t u) (numT_small ⟨by omega,by omega⟩) (fun V p c R L=>?_);obtain⟨g,T,U,X,rfl,J,o,r,s⟩:=thr_of L;obtain rfl:=var_of (n:=n) r;obtain rfl:=var_of (n:=m) s;obtain⟨b,q,rfl,N,O,_⟩:=comp_ofP o K
 exact(functorC_any b q (trs A.2).length _ 65 65 (.int .i64 n) (.int .i64 m) g c B f C d V J N O).mono fun e Y h=>h.two (fun _ _=>vrT_in) (fun _ _=>atT_in) (fun _ _=>vrT_in) (fun _ _=>numT_in)
theorem bu_funL {w:World}{a J:Addr}{l:Option Addr}{k f:Nat}(H:BuW w a J l k f)(E:Option Addr)(G:Nat)(D:Option Addr)(F:Nat)(n m d:Int)(A:Tr)(y:0<=n)(z:n<=1000000)(v:0<=m)(x:m<=1000000)(r:0<=d)(s:d<=1000000)
  (B:BIn w E nFun) (q:ArgsB w D [A,vrT n,vrT m]) (C:okTs [A,vrT n,vrT m]) (h3:A.1.1=1∨A.1.1=2) (K:smallT A) :
  Calls Tryz.prog 12 #[.slice l k f,.slice E 7 G,.slice D 3 F,.int .i64 d] w (BuOk w 0 [[(0,n,[])],[(0,m,[])]] [A.cs,[(1,0,[])]]):=by
 refine bu_two 72 H E nFun 7 G D 3 F [A,vrT n,vrT m] d (vrT n) A (vrT m) (numT 0) rfl (by decide) B rfl (by decide) C q r s tab_fun (fun f P Q W=>by kernel_rfl) ⟨by decide,by decide⟩ (vrT_small y z) K (vrT_small v x) (numT_small ⟨by omega,by omega⟩) (fun V p c R L=>?_);obtain⟨g,N,T,U,rfl,I,j,t,u⟩:=thr_of L;obtain rfl:=var_of (n:=n) t;obtain rfl:=var_of (n:=m) u;have b:FoIn V 0 A.fo [N]:=j;obtain⟨S,X,e,M,_⟩:=j;obtain⟨rfl,rfl⟩:=List.cons.inj e
 rcases M with ⟨i,_⟩ | ⟨i,rfl⟩ | ⟨i,rfl⟩ | ⟨i,_⟩
 ·rw[i] at h3;rcases h3 with h3 | h3 <;> cases h3
 ·exact(functorL_any 146 _ 65 65 (.int .i64 n) (.int .i64 m) g c k f l d V I noVar_num noComp_num).mono fun e O h=>h.two (fun _ _=>vrT_in) (fun W o=>b.below o) (fun _ _=>vrT_in) (fun _ _=>numT_in)
 ·exact(functorL_any 55 _ 65 65 (.int .i64 n) (.int .i64 m) g c k f l d V I noVar_atom noComp_atom).mono fun e O h=>h.two (fun _ _=>vrT_in) (fun W o=>b.below o) (fun _ _=>vrT_in) (fun _ _=>numT_in)
 ·rw[i] at h3;rcases h3 with h3 | h3 <;> cases h3
theorem renD_ok {f:Int}(d:0<=f)(e:f<=1000000){L:List Int}(i:(L.length:Int)+f<=1000000){c:Cel}(h:cellB c.1 c.2.1 c.2.2.length=true):cellB (renD f L c).1 (renD f L c).2.1 (renD f L c).2.2.length=true:=by
 by_cases b:c.1=0
 ·have:=List.idxOf_le_length (l:=L) (a:=c.2.1)
  have g:c.2.2.length=0:=by
   rw[b] at h;simp only[cellB,decide_eq_true_eq] at h
   omega
  rw[renD,if_pos b];simp only[cellB,decide_eq_true_eq];exact .inl ⟨b,by omega,by omega,g⟩
 ·rw[renD,if_neg b];exact h
theorem Fo.ok_renD {f:Int}(a:0<=f)(b:f<=1000000){L:List Int}(d:(L.length:Int)+f<=1000000):∀ F:Fo,F.ok->(F.map (renD f L)).ok
 | .nil,_=>trivial
 | .node c k r,⟨h1,h2,h3,h4,h5,h6⟩=>by
   refine⟨renD_ok a b d h1,by rw[renD_text];exact h2,fun e=>?_,fun e=>?_,Fo.ok_renD a b d k h5,Fo.ok_renD a b d r h6⟩
   ·rw[renD_kind] at e
    rw[Fo.count_map,renD,if_neg (by rw[e];decide)];exact h3 e
   ·rw[renD_kind] at e
    rw[h4 e];rfl
def cpT (f:Int)(A:Tr):Tr:=(renD f (visits [] A.cs) A.1,A.2.map (renD f (visits [] A.cs)))
theorem cpT_cs (f:Int)(A:Tr):(cpT f A).cs=A.cs.map (renD f (visits [] A.cs)):=by simp[cpT,Tr.cs,Fo.cells_map]
theorem cpT_small {f:Int}(a:0<=f)(d:f<=900000){A:Tr}(b:smallT A):smallT (cpT f A):=by
 have e:=visits_len A.cs []
 have g:A.cs.length=A.2.cells.length+1:=by simp[Tr.cs]
 have c:=b.2.1
 simp at e
 exact smallT.of (Fo.ok_renD a (by omega) (L:=visits [] A.cs) (by omega) A.fo b.1) (by simpa [cpT,Fo.cells_map] using c)
theorem bu_copy {w:World}{a D:Addr}{v:Option Addr}{u f:Nat}(H:BuW w a D v u f)(z:Option Addr)(C:Nat)(y:Option Addr)(B:Nat)(n b:Int)(A:Tr)(o:0<=n)(q:n<=1000000)(d:0<=b)(k:b<=900000)
  (r:BIn w z nCopy) (j:ArgsB w y [A,vrT n]) (s:okTs [A,vrT n]) (i:smallT A) :
  Calls Tryz.prog 12 #[.slice v u f,.slice z 9 C,.slice y 2 B,.int .i64 b] w (BuOk w 0 [[(0,n,[])]] [A.cs.map (renD b (visits [] A.cs))]):=by
 rw[<-cpT_cs];refine bu_one 75 H z nCopy 9 C y 2 B [A,vrT n] b (vrT n) (cpT b A) rfl (by decide) r rfl (by decide) s j d (by omega) tab_copy (fun f N O W=>by kernel_rfl) ⟨by decide,by decide⟩ (vrT_small o q) (cpT_small d k i) (fun V p c P G=>?_);obtain⟨g,M,R,rfl,F,l,m⟩:=two_ofL G;obtain rfl:=var_of (n:=n) m
 refine(copyB_any A.1 A.2 65 (.int .i64 n) M 0 g c u f v b V d (by omega) i.1 l (by have:=i.2.1;omega) F).mono fun e S h=>?_
 obtain⟨E,t,x,rfl,Q,K,L,J,I⟩:=h;exact⟨E,rfl,⟨_,_,_,_,K,L,vrT_in,FoIn.mono J (Nat.zero_le _)⟩,I⟩
theorem bu_funV {w:World}{a I:Addr}{A:Option Addr}{z i:Nat}(H:BuW w a I A z i)(C:Option Addr)(E:Nat)(B:Option Addr)(D:Nat)(n b:Int)(s:List Int)(m:Nat)(r:0<=n)(u:n<=1000000)(F:1<=m)(G:m<=20)(d:0<=b)(f:b<=900000)
  (v:BIn w C nFun) (j:ArgsB w B [vrT n,atT s,numT m]) (y:okTs [vrT n,atT s,numT m]) (O:s.length<=100) (k:Byte s) :
  Calls Tryz.prog 12 #[.slice A z i,.slice C 7 E,.slice B 3 D,.int .i64 b] w (BuOk w 0 [[(0,n,[])]] [(fvT s b m).cs]):=by
 refine bu_one 72 H C nFun 7 E B 3 D [vrT n,atT s,numT m] b (vrT n) (fvT s b m) rfl (by decide) v rfl (by decide) y j d (by omega) tab_fun (fun i R S W=>by kernel_rfl) ⟨by decide,by decide⟩ (vrT_small r u) (fvT_small O k F G d f) (fun V p c T L=>?_);obtain⟨g,X,Y,Z,rfl,K,l,o,q⟩:=thr_of L;obtain rfl:=var_of (n:=n) l;obtain rfl:=atom_of o;obtain rfl:=num_of' (n:=(m:Int)) q
 refine(functorV_any m s n g c z i A b V F G d f K).mono fun e w' h=>?_
 obtain⟨t,x,⟨J,rfl,U,P,Q,M⟩,N⟩:=h;exact⟨J,rfl,⟨_,_,_,_,P,Q,vrT_in,N⟩,M⟩
end
end Go.Proofs.YtnfnddnffoigfaaGreatDoor
