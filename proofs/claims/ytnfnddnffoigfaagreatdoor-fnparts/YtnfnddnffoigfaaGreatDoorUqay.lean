/- Texts of FeP0, LawFe0, LwT, FpQ, FpR, FpT, FpU, FpV, FpW, LawFpA. Own work of the verifier. -/
import Derived.Test.YtnfnddnffoigfaaGreatDoorUqas
import Derived.Test.YtnfnddnffoigfaaGreatDoorUqat
import Derived.Test.YtnfnddnffoigfaaGreatDoorUqaw
import Derived.Test.YtnfnddnffoigfaaGreatDoorUqax
import Derived.Test.YtnfnddnffoigfaaGreatDoorUqar
namespace Go.Proofs.YtnfnddnffoigfaaGreatDoor
set_option maxHeartbeats 4000000
set_option maxRecDepth 100000
open Go Go.RowKit
set_option linter.unusedVariables false
set_option linter.unusedSimpArgs false
def TmC (w:World)(q:Option Addr)(m c:Nat)(cs:List Cel):Prop:=m=cs.length/\CIn w q cs/\m<=c/\c<=9223372036854775807
theorem TmC.below {w w':World}{q:Option Addr}{m c:Nat}{b:List Cel}(h:TmC w q m c b)(d:Below w.heap.size w w'):TmC w' q m c b:=⟨h.1,h.2.1.below d,h.2.2⟩
theorem TmIn.tmc {w:World}{q:Option Addr}{m c:Nat}{b:List Cel}(h:TmIn w q m c b):TmC w q m c b:=⟨h.1,h.2.1,h.2.2.2.2.1,h.2.2.2.2.2⟩
theorem OwnC.tmc {w:World}{B m c:Nat}{q:Option Addr}{b:List Cel}(h:OwnC w B q m c b):TmC w q m c b:=⟨h.1,h.cin,by obtain⟨_,e,_,d,_⟩:=h;exact rowcap d⟩
theorem tabFe:tabB dTab=true:=by decide +kernel
structure CodeIn (w:World)(p:Option Addr)(cap n:Nat)(xs:List Int):Prop where
 byt:Bytes xs
 len:n=xs.length
 small:xs.length<=1048576
 room:xs.length<=cap
 bin:BIn w p xs
structure FeW (w:World)(a a2:Addr):Prop where
 fl:w.cell? ⟨0,0,none⟩=some (erV a)
 by':w.cell? ⟨1,0,none⟩=some (erV a2)
 et:etG w
 sp:SpIn w
theorem FeW.below {w W:World}{a a2:Addr}(h:FeW w a a2)(b:Below w.heap.size w W):FeW W a a2:=
 ⟨(b.cell (World.block_lt_of_cell? _ _ h.fl)).trans h.fl,(b.cell (World.block_lt_of_cell? _ _ h.by')).trans h.by',h.et.below b,fun c d=>(b.cell (World.block_lt_of_cell? _ _ (h.sp c d))).trans (h.sp c d)⟩
theorem FeW.ops {W:World}{a a2:Addr}(h:FeW W a a2):Calls Tryz.prog 13 #[] W fun e g=>∃ c d b,e = .returned (.slice c d b)/\BuW g a a2 c d b/\Below W.heap.size W g:=
 (implDef_any W h.sp).mono fun e g m=>by
   obtain⟨c,d,b,rfl,j,i⟩:=m;have f:=h.below i;refine⟨c,d,b,rfl,⟨f.fl,f.by',f.et,fun k l=>?_⟩,i⟩;have:=implTab_any c b dTab k (by decide +kernel) ((j.below l).oin);rw[tabFe,<-j.1] at this;exact this
theorem bin_lit (w:World)(s:List Int)(C:Array Value)(c:Nat×Nat)(d:C.toList=s.map (Value.int .u8)):BIn (w.alloc (.cells C 5 c)) (some ⟨w.heap.size,0,none⟩) s:=fun _=>⟨w.heap.size,0,rfl,fun i b=>by
 rw[cell_of_row _ _ (0+i) _ _ _ (heap_alloc_new w _)];rw[Nat.zero_add,<-Array.getElem?_toList,d,List.getElem?_map,List.getElem?_eq_getElem b]
 simp[List.getD,List.getElem?_eq_getElem b]⟩
theorem tr_from {t:Tr}(h:t.fo.ok):validFrom 1 (itC t)=true:=okV_cells h
theorem tr_valid {t:Tr}(h:t.fo.ok)(b:(itC t).length<=2000):validB (itC t)=true:=by
 simp only[validB,Bool.and_eq_true,decide_eq_true_eq];exact⟨b,tr_from h⟩
theorem tr_byte {t:Tr}(h:t.fo.ok):∀ c ∈ itC t,Byte c.2.2:=fun c b=>okB_cells t.fo h c (by simpa [Tr.fo,Fo.cells,itC] using b)
theorem TmC.room {w:World}{q:Option Addr}{m c:Nat}{b:List Cel}(h:TmC w q m c b):b.length<=c/\c<=9223372036854775807:=by rw[<-h.1];exact h.2.2
theorem byteC_get {b:List Cel}(h:∀ c ∈ b,Byte c.2.2):∀ i,i<b.length->Byte (b.getD i Cel.none).2.2:=fun i d=>by
 rw[List.getD,List.getElem?_eq_getElem d];exact h _ (List.getElem_mem d)
theorem tl_okO {t:Tr}(h:t.fo.ok):tl (itC t)<=100 * (itC t).length:=by
 have e:=ok_text t.fo h
 have:∀ b:List Cel,(∀ x ∈ b,x.2.2.length<=100)->tl b<=100 * b.length:=fun b=>by
  induction b with
  | nil=>intro _;simp[tl]
  | cons c r g=>
    intro d
    have:=g fun x f=>d x (List.mem_cons_of_mem _ f)
    have:=d c (List.mem_cons_self ..);simp only[tl,List.length_cons];omega
 exact this _ fun x d=>e x (by simpa [Tr.fo,Fo.cells,itC] using d)
theorem sameV_any {X Y:List Cel}(g:X.length+tl X<=1000000000)(i:Y.length+tl Y<=1000000000){W:World}{p q:Option Addr}{m c k d:Nat}(b:TmC W p m c X)(f:TmC W q k d Y) :
  Calls Tryz.prog 9 #[.slice p m c,.slice q k d] W fun e j=>e = .returned (.bool (decide (X=Y)))/\Below W.heap.size W j:=by
 have h:=sameT_any p q c d X Y W g i b.2.1 f.2.1;rw[<-b.1,<-f.1] at h;exact h
theorem validV_any {X:List Cel}(f:X.length<=100000){W:World}{p:Option Addr}{m c:Nat}(b:TmC W p m c X) :
  Calls Tryz.prog 5 #[.slice p m c] W fun e d=>e = .returned (.bool (validB X))/\Below W.heap.size W d:=by
 have h:=specValid_any p c X W (by omega) b.2.1;rw[<-b.1] at h;exact h
theorem itemsT_any (b:List (Cel×Fo))(l:∀ x ∈ b,(Fo.node x.1 x.2 .nil).ok)(j:(listT b).cells.length<=2000){W:World}{q:Option Addr}{m c:Nat}(h:TmC W q m c (listT b).cells) :
  Calls Tryz.prog 10 #[.slice q m c] W fun e o=>∃ p k,e = .returned (.tuple #[.slice p b.length k,.int .i64 0])/\CapCC o p (b.map itC)/\Below W.heap.size W o:=by
 obtain⟨d,f,e⟩:=listT_node b;have i:=listT_ok b l;have A:=splitF_list b d f e;rw[e] at h i j
 have g:(Fo.node d f .nil).cells=d :: f.cells:=by simp[Fo.cells]
 have B:validB (d :: f.cells)=true:=tr_valid (t:=(d,f)) i (by rw[g] at j;exact j);have r:=implItems_any (Fo.node d f .nil).cells q m c d f W i g j (by rw[g];exact B) h.1 h.2.2.1 h.2.2.2 h.2.1
 have z:itemsR d f=(b.map itC,0):=by rw[itemsR,A];rfl
 rw[z] at r
 refine r.mono fun e o v=>?_
 obtain⟨p,n,k,rfl,i,s⟩:=v
 have y:n=b.length:=by obtain⟨C,u⟩:=i;rw[u.len,List.length_map]
 subst y;exact⟨p,k,rfl,i.cap,s⟩
theorem textNum_any (n:Int)(f : -1000000000000000<=n)(g:n<=1000000000000000)(w:World)(h:TabP w):Calls Tryz.prog 130 #[.iface 146 (.int .i64 n)] w fun e j=>e = .returned (.tuple #[.string (strOfNums (decW n)),.nilIface])/\Below w.heap.size w j:=by
 have k:=nbA_num_var;have l:=nbA_num_num;have c:=itoaW_any n f g w h
 obtain⟨str,d⟩:∃ str,str=strOfNums (decW n):=⟨_,rfl⟩
 rw[<-d] at c ⊢;clear d h f g
 go_enter Tryz.func130,Tryz.ntmps130
 go_wp2_with fail;refine c.mono ?_;rintro e m ⟨rfl,b⟩;have i:=hid b;clear c b;go_wp2_with fail
 go_ret2
 exact⟨rfl,i.o⟩
def txtT (A:Tr):List Int:=if A.1.1=1 then decW A.1.2.1 else A.1.2.2
theorem leaf_of {W:World}{A:Tr}{t:TypeId}{x:Value}(i:A.fo.ok)(h:FoIn W 0 A.fo [.iface t x])(m:A.1.1=1∨A.1.1=2)(k:TabP W) :
  (∀ V,Below W.heap.size W V->Calls Tryz.prog 130 #[.iface t x] V fun e d=>e = .returned (.tuple #[.string (strOfNums (txtT A)),.nilIface])/\Below V.heap.size V d)/\
  (∀ V,Calls Tryz.prog 134 #[.iface t x] V fun e d=>e = .returned (.bool false)/\d=V)/\
  (∀ (w:World) (y:Value),(Instr.typeAssert (.iface t y) 48 65 true).run Tryz.prog w = .ok (.tuple #[.int .i64 0,.bool false]) w)/\(∀ (w:World) (y:Value),(Instr.typeAssert (.iface t y) 48 101 true).run Tryz.prog w = .ok (.tuple #[.pointer none,.bool false]) w):=by
 have g:=i.1;simp only[cellB,decide_eq_true_eq] at g;obtain⟨n,o,e,l,_⟩:=h;obtain⟨b,_⟩:=List.cons.inj e
 rcases l with ⟨c,_⟩ | ⟨c,f⟩ | ⟨c,f⟩ | ⟨c,_⟩
 ·omega
 ·rw[f] at b
  obtain⟨rfl,rfl⟩:t=146/\x = .int .i64 A.1.2.1:=by simpa using b
  refine⟨fun V j=>?_,fun V=>nbIsVar_num _ V,noVar_num,noComp_num⟩;rw[txtT,if_pos c];exact textNum_any _ (by omega) (by omega) V (k.below j)
 ·rw[f] at b
  obtain⟨rfl,rfl⟩:t=55/\x = .string (strOfNums A.1.2.2):=by simpa using b
  refine⟨fun V j=>?_,fun V=>nbIsVar_atom _ V,noVar_atom,noComp_atom⟩;rw[txtT,if_neg (by omega)]
  exact(textAtom_any _ V).mono fun e d h=>⟨h.1,by rw[h.2];exact Below.refl _ _⟩
 ·omega
theorem madeOne_any (c:Cel)(k:Fo)(v:Value)(A:Tr)(w:World)(q:(Fo.node c k .nil).ok)(p:k.cells.length<=10000)(j:FoIn w 0 (.node c k .nil) [v])(b:(splitF c k).2.1=nilC)(s:(splitF c k).1 = [A])(I:A.fo.ok)(H:A.1.1=1∨A.1.1=2)(J:TabP w) :
  Calls Tryz.prog 125 #[v] w fun e P=>∃ t x,e = .returned (.tuple #[.iface t x,.nilIface])/\FoIn P 0 A.fo [.iface t x]/\Below w.heap.size w P:=by
 obtain⟨X,Y,rfl⟩:=j.iface;have d:=listArg_any 0 w c k (.iface X Y) q p j b;rw[s] at d
 have u:Hid (A.fo.ok/\(A.1.1=1∨A.1.1=2)/\TabP w):=⟨I,H,J⟩
 clear q p j b s I H J
 go_enter Tryz.func125,Tryz.ntmps125
 go_wp2_with fail;refine d.mono ?_;rintro e Q ⟨p4,W,U,vs,rfl,D,m,B,r,f⟩;obtain rfl:W=1:=D;obtain⟨g,T,L,V,C⟩:=m.form (by omega);simp only[Value.slice.injEq,true_and] at L;obtain⟨rfl,rfl⟩:=L;obtain⟨O,vr,rfl,l,E⟩:=B
 have i:FoIn w 0 A.fo [O]:=⟨O,[],rfl,l,rfl⟩
 obtain⟨N,R,rfl⟩:=l.if
 obtain⟨K,-,-,-⟩:=leaf_of u.o.1 i u.o.2.1 u.o.2.2
 have M:Q.cell? ⟨g,0,none⟩=some (.iface N R):=by rw[m.cellAt 0 (by omega)];rfl
 have z:=K Q f;have S:=hid i;have y:=hid f;have F:=hid M
 obtain⟨str,G⟩:∃ str,str=strOfNums (txtT A):=⟨_,rfl⟩
 rw[<-G] at z;clear m r f V l E d G C i K;go_wp2_with fail;refine z.mono ?_;rintro e Z ⟨rfl,h⟩;have q5:Z.cell? ⟨g,0,none⟩=some (.iface N R):=(h.cell (World.block_lt_of_cell? _ _ F.o)).trans F.o;have n:=hid (Below.on y.o h);clear M h z;go_wp2_with fail
 go_ret2
 exact⟨_,_,rfl,FoIn.below S.o n.o,n.o⟩
theorem partsB_any (I:Int)(Q:World->Value->Prop)(ta:TypeId)(va:Value)(g m on oc:Nat)(op:Option Addr)(fr:Int)(w:World)(h2:Two w g (.iface 65 (.int .i64 I)) (.iface ta va))
  (l:∀ W A v,Q W v->Below W.heap.size W A->Q A v) (c:∀ W V v,Q W v->KeepE W V->Q V v)
  (Z:∀ W,Below w.heap.size w W->Calls Tryz.prog 125 #[.iface ta va] W fun e L=>∃ t x,e = .returned (.tuple #[.iface t x,.nilIface])/\Q L (.iface t x)/\Below W.heap.size W L) :
  Calls Tryz.prog 74 #[calV op on oc g m fr] w fun e L=>∃ t x,PairE w (.iface 65 (.int .i64 I)) (.iface t x) e L/\Q L (.iface t x):=by
 obtain⟨s,B⟩:∃ s,s=w.alloc (Obj.cells #[.slice op on oc,.slice (some ⟨g,0,none⟩) 2 m,.int .i64 fr] 67):=⟨_,rfl⟩
 obtain⟨f,j⟩:∃ f,f=s.alloc (Obj.cells #[Value.slice none 0 0,Value.nilIface,Value.slice none 0 0] 70):=⟨_,rfl⟩
 have C:Below w.heap.size w s:=by rw[B];exact(Below.refl _ _).alloc (Nat.le_refl _) _
 have n:Below s.heap.size s f:=by rw[j];exact(Below.refl _ _).alloc (Nat.le_refl _) _
 have M:Below w.heap.size w f:=Below.on C n
 have H:s.heap.size=w.heap.size+1:=by rw[B];simp
 have hq:f.cell? ⟨w.heap.size,1,none⟩=some (.slice (some ⟨g,0,none⟩) 2 m):=by
  rw[n.cell (p:=⟨w.heap.size,1,none⟩) (by show w.heap.size<_;omega),B,World.cell?,heap_alloc_new];rfl
 have S:Hid (∀ W,Below f.heap.size f W->W.heap[w.heap.size+1]?=some (Obj.cells #[Value.slice none 0 0,Value.nilIface,Value.slice none 0 0] 70)):=fun W hW=>by
  rw[hW.block _ (by rw[j];simp;omega),j,<-H,heap_alloc_new]
 have X:=h2.below M;have p0:=X.at0;have p1:=X.at1;have HB:=hid M
 have HS:Hid (f.heap.size=w.heap.size+2):=by show _=_;rw[j];simp;omega
 have y:=Z f M
 have z:Hid ((∀ W A v,Q W v->Below W.heap.size W A->Q A v)/\∀ W V v,Q W v->KeepE W V->Q V v):=⟨l,c⟩
 rw[B] at j;clear B C n M H X h2 Z l c;have n1:=isVar;have J:=p0;have K:=p1;have F:=hq;rw[j] at J K F
 go_enter Tryz.func74,Tryz.ntmps74
 go_wp2_with fail;rw[<-j];refine y.mono ?_;rintro e N ⟨U,Y,rfl,G,D⟩;have u:=hid D;have R:=hid G;have HU:=unifying_ok 65 U (.int .i64 I) Y N;clear J K F j p0 p1 hq D G y;go_wp2_with fail;refine HU.mono ?_;rintro e h ⟨b,rfl,E,c0,c1,r⟩;have d:=hid (Below.on u.o r)
 have P:Hid (N.heap.size<=b/\h.cell? ⟨b,0,none⟩=some (.iface 65 (.int .i64 I))/\h.cell? ⟨b,1,none⟩=some (.iface U Y)/\Below N.heap.size N h):=⟨E,c0,c1,r⟩
 have HX:=Box3.of_block (S.o h d.o);have HP:Hid _:=wr3_box HX (.slice (some ⟨b,0,none⟩) 1 1) .nilIface (.slice none 0 0)
 have O:Hid (∃ t x,PairE w (.iface 65 (.int .i64 I)) (.iface t x) (.returned (.tuple #[.agg #[.slice (some ⟨b,0,none⟩) 1 1,.nilIface,.slice none 0 0],.nilIface])) (wr3 h (w.heap.size+1) (.slice (some ⟨b,0,none⟩) 1 1) .nilIface (.slice none 0 0))/\Q (wr3 h (w.heap.size+1) (.slice (some ⟨b,0,none⟩) 1 1) .nilIface (.slice none 0 0)) (.iface t x)):=by
  have h4:=u.o.size;have h3:=HS.o;obtain⟨hg,k0,k1,T⟩:=P.o;refine⟨U,Y,⟨b,rfl,by omega,(wr3_ne (by show b≠_;omega)).trans k0,(wr3_ne (by show b≠_;omega)).trans k1,wr3_below (Below.on HB.o d.o) (Nat.le_succ _)⟩,?_⟩;refine z.o.2 h _ _ (z.o.1 _ _ _ R.o T) (keepE_of (S.o h d.o) (S.o h d.o) (by simp[wr3]) (fun k h1 _ _=>?_))
  have q:∀ (W:World) (i:Nat) (v:Value),(W.setCell ⟨w.heap.size+1,i,none⟩ v).heap[k]?=W.heap[k]?:=fun W i v=>heap_setCell_other W ⟨w.heap.size+1,i,none⟩ k v (fun e=>h1 (by simp at e;omega))
  exact(q _ _ _).trans ((q _ _ _).trans (q _ _ _))
 obtain⟨b0,b1,b2,b3⟩:=HX;clear E c0 c1 r HU
 go_wp2
 obtain⟨d0,d1,d2,_⟩:=HP.o;exact bodyPost_ret (v:=.tuple #[.agg #[.slice (some ⟨b,0,none⟩) 1 1,.nilIface,.slice none 0 0],.nilIface]) (by simp[results,Tryz.results74,go_sem,d0,d1,d2]) rfl O.o
/-! impl.Builtin. -/
def nUniv:List Int:=[61,46,46]
def nCodes:List Int:=[97,116,111,109,95,99,111,100,101,115]
def nChars:List Int:=[97,116,111,109,95,99,104,97,114,115]
theorem tab_univ:buTab (strOfNums nUniv,((2:Nat):Int))=some 74:=buTab_at 30 (by decide)
theorem tab_codes:buTab (strOfNums nCodes,((2:Nat):Int))=some 78:=buTab_at 34 (by decide)
theorem tab_chars:buTab (strOfNums nChars,((2:Nat):Int))=some 79:=buTab_at 35 (by decide)
theorem PtO.one {w:World}{n:Int}{B:Tr}{T:Fo}{e:Ending}{b:World}(h:PtO w (.iface 65 (.int .i64 n)) T e b)(c:B.fo=T):OneE (vrT n) B w e b:=by
 obtain⟨t,x,⟨g,rfl,k,i,j,d⟩,f⟩:=h;exact⟨g,rfl,⟨_,_,_,_,i,j,vrT_in,by rw[c];exact f⟩,d⟩
theorem bu_univC {w:World}{a a2:Addr}{y:Option Addr}{x j:Nat}(H:BuW w a a2 y x j)(C:Option Addr)(F:Nat)(z:Option Addr)(E:Nat)(n i:Int)(A B:Tr)(s:0<=n)(t:n<=1000000)(m:0<=i)(O:i<=900000)
  (u:BIn w C nUniv) (l:ArgsB w z [A,vrT n]) (v:okTs [A,vrT n]) (f:A.1.1=3) (P:1<=(trs A.2).length) (Q:(trs A.2).length<=1000) (M:B.fo=listT (((2,0,A.1.2.2),.nil) :: trs A.2)) (k:smallT B) :
  Calls Tryz.prog 12 #[.slice y x j,.slice C 3 F,.slice z 2 E,.int .i64 i] w (BuOk w 0 [[(0,n,[])]] [B.cs]):=by
 refine bu_one 74 H C nUniv 3 F z 2 E [A,vrT n] i (vrT n) B rfl (by decide) u rfl (by decide) v l m (by omega) tab_univ (fun j S T W=>by kernel_rfl) ⟨by decide,by decide⟩ (vrT_small s t) k (fun V p c U N=>?_);obtain⟨g,va,vb,rfl,L,o,r⟩:=two_ofL N;obtain rfl:=var_of (n:=n) r;obtain⟨Z,vr,e,R,_⟩:=o;obtain⟨rfl,rfl⟩:=List.cons.inj e
 rcases R with ⟨d,_⟩ | ⟨d,_⟩ | ⟨d,_⟩ | ⟨d,b,q,D,rfl,_,_,J,K,X,I,G⟩
 ·rw[d] at f;cases f
 ·rw[d] at f;cases f
 ·rw[d] at f;cases f
 ·have Y:D.length=(trs A.2).length:=by rw[trs_len];exact FoIn.count _ _ G
  exact(partsC_any b q D.length A.1.2.2 A.2 D 65 (.int .i64 n) g c x j y i V L J K I rfl (by omega) (by omega) G).mono fun e w' h=>h.one M
theorem bu_univL {w:World}{a a2:Addr}{v:Option Addr}{u i:Nat}(H:BuW w a a2 v u i)(G:TabP w)(y:Option Addr)(C:Nat)(x:Option Addr)(z:Nat)(n d:Int)(A B:Tr)(q:0<=n)(s:n<=1000000)(m:0<=d)(K:d<=900000)
  (t:BIn w y nUniv) (l:ArgsB w x [A,vrT n]) (f:okTs [A,vrT n]) (E:A.1.1=1∨A.1.1=2) (F:B.fo=listT [A]) (j:smallT B) :
  Calls Tryz.prog 12 #[.slice v u i,.slice y 3 C,.slice x 2 z,.int .i64 d] w (BuOk w 0 [[(0,n,[])]] [B.cs]):=by
 refine bu_one 74 H y nUniv 3 C x 2 z [A,vrT n] d (vrT n) B rfl (by decide) t rfl (by decide) f l m (by omega) tab_univ (fun i P Q W=>by kernel_rfl) ⟨by decide,by decide⟩ (vrT_small q s) j (fun V p c J I=>?_);obtain⟨g,R,S,rfl,D,b,o⟩:=two_ofL I;obtain rfl:=var_of (n:=n) o;obtain⟨N,O,rfl⟩:=FoIn.iface (c:=A.1) (k:=A.2) (r:=.nil) b;obtain⟨-,-,L,M⟩:=leaf_of (f 0 (by simp)).1 b E (G.below J)
 exact(partsL_any N O A 65 (.int .i64 n) g c u i v d V b D L M).mono fun e T h=>h.one F
structure LsA (L:Tr)(its:List (Cel×Fo)):Prop where
 sp:splitF L.1 L.2=(its,(nilC,.nil))
 ln:L.2.cells.length<=3900
theorem bu_univBC {w:World}{a a2:Addr}{R:Option Addr}{Q z:Nat}(H:BuW w a a2 R Q z)(T:Option Addr)(X:Nat)(S:Option Addr)(U:Nat)(n m:Int)(L:Tr)(s:List Int)(f:Fo)(N:0<=n)(O:n<=1000000)(K:0<=m)(h3:m<=900000)
  (P:BIn w T nUniv) (I:ArgsB w S [vrT n,L]) (q:okTs [vrT n,L]) (G:LsA L (((2,0,s),.nil) :: trs f)) (B:1<=f.count) (D:f.count<=20) (E:(Fo.node (3,(f.count:Int),s) f .nil).ok) (F:f.cells.length+1<=2000) :
  Calls Tryz.prog 12 #[.slice R Q z,.slice T 3 X,.slice S 2 U,.int .i64 m] w (BuOk w 0 [[(0,n,[])]] [(3,(f.count:Int),s) :: f.cells]):=by
 have l:∀ (W A:World) (v:Value),(∃ b g d i,v = .iface 101 (.pointer (some ⟨b,0,none⟩))/\CompO W 0 s f b g d i)->Below W.heap.size W A->∃ b g d i,v = .iface 101 (.pointer (some ⟨b,0,none⟩))/\CompO A 0 s f b g d i:=fun W A v ⟨b,g,d,i,e,h⟩ J=>⟨b,g,d,i,e,h.below J⟩
 have j:∀ (W V:World) (v:Value),(∃ b g d i,v = .iface 101 (.pointer (some ⟨b,0,none⟩))/\CompO W 0 s f b g d i)->KeepE W V->∃ b g d i,v = .iface 101 (.pointer (some ⟨b,0,none⟩))/\CompO V 0 s f b g d i:=fun W V v ⟨b,g,d,i,e,h⟩ hk=>⟨b,g,d,i,e,h.keepE hk⟩
 refine bu_oneK 74 H T nUniv 3 X S 2 U [vrT n,L] m (vrT n) (fun W v=>∃ b g d i,v = .iface 101 (.pointer (some ⟨b,0,none⟩))/\CompO W 0 s f b g d i) ((3,(f.count:Int),s) :: f.cells) rfl (by decide) P rfl (by decide) q I K (by omega) tab_univ (fun z c1 c2 W=>by kernel_rfl) ⟨by decide,by decide⟩ (vrT_small N O)
  ⟨l,j,by simpa using F,fun y hy=>ok_text _ E y (by simpa [Fo.cells] using hy),fun W t x ⟨b,g,d,i,e,h⟩ V Y=>?_⟩ (fun V p c Y hT=>?_)
 ·rw[e]
  exact cellsO_any s f b g d i 0 V E.2.2.2.2.1 E.2.1 (h.below Y) (by omega)
 ·obtain⟨g,va,vb,rfl,C,M,o⟩:=two_ofL hT
  obtain rfl:=var_of (n:=n) M;obtain⟨Z,x0,rfl⟩:=FoIn.iface (c:=L.1) (k:=L.2) (r:=.nil) o
  refine(partsB_any n _ Z x0 g c Q z R m V C l j (fun W hW=>?_)).mono fun e w' h=>?_
  ·refine(madeList_any L.1 L.2 (.iface Z x0) s f W (q 1 (by simp)).1 (by have:=G.ln;omega) (FoIn.below o hW) (by rw[G.sp]) (by rw[G.sp]) B D).mono fun e w' h=>?_
   obtain⟨u,rfl,b,g,d,i,rfl,B,C⟩:=h;exact⟨_,_,rfl,⟨b,g,d,i,rfl,B⟩,C⟩
  ·obtain⟨t,x,⟨g',rfl,hg,k0,k1,J⟩,hq⟩:=h
   exact⟨g',rfl,⟨_,_,_,_,k0,k1,vrT_in,hq⟩,J⟩
theorem bu_univBL {w:World}{a a2:Addr}{B:Option Addr}{z i:Nat}(H:BuW w a a2 B z i)(P:TabP w)(D:Option Addr)(F:Nat)(C:Option Addr)(E:Nat)(n b:Int)(L A:Tr)(s:0<=n)(u:n<=1000000)(o:0<=b)(S:b<=900000)
  (y:BIn w D nUniv) (l:ArgsB w C [vrT n,L]) (f:okTs [vrT n,L]) (j:LsA L [A]) (O:A.1.1=1∨A.1.1=2) (G:smallT A) :
  Calls Tryz.prog 12 #[.slice B z i,.slice D 3 F,.slice C 2 E,.int .i64 b] w (BuOk w 0 [[(0,n,[])]] [A.cs]):=by
 refine bu_one 74 H D nUniv 3 F C 2 E [vrT n,L] b (vrT n) A rfl (by decide) y rfl (by decide) f l o (by omega) tab_univ (fun i Z c2 W=>by kernel_rfl) ⟨by decide,by decide⟩ (vrT_small s u) G (fun V p c R Q=>?_);obtain⟨g,va,vb,rfl,N,q,d⟩:=two_ofL Q;obtain rfl:=var_of (n:=n) q;obtain⟨J,K,rfl⟩:=FoIn.iface (c:=L.1) (k:=L.2) (r:=.nil) d
 refine(partsB_any n (fun W v=>FoIn W 0 A.fo [v]) J K g c z i B b V N (fun _ _ _ h m=>FoIn.below h m) (fun _ _ _ h T=>FoIn.keepE T _ _ h) (fun W I=>madeOne_any L.1 L.2 (.iface J K) A W (f 1 (by simp)).1 (by have:=j.ln;omega) (FoIn.below d I) (by rw[j.sp]) (by rw[j.sp]) G.1 O (P.below (Below.on R I)))).mono fun e w' h=>?_
 obtain⟨t,x,⟨M,rfl,hg,X,Y,m⟩,U⟩:=h;exact⟨M,rfl,⟨_,_,_,_,X,Y,vrT_in,U⟩,m⟩
theorem bu_codesF {w:World}{a a2:Addr}{l:Option Addr}{j d:Nat}(H:BuW w a a2 l j d)(L:TabP w)(D:Option Addr)(F:Nat)(C:Option Addr)(E:Nat)(n b:Int)(A B:Tr)(x:0<=n)(y:n<=1000000)(u:0<=b)(P:b<=900000)
  (z:BIn w D nCodes) (s:ArgsB w C [A,vrT n]) (i:okTs [A,vrT n]) (J:A.1.1=1∨A.1.1=2) (t:Byte (txtT A)) (Q:(txtT A).length<=1000) (K:B.fo=listT ((txtT A).map cItT)) (m:smallT B) :
  Calls Tryz.prog 12 #[.slice l j d,.slice D 10 F,.slice C 2 E,.int .i64 b] w (BuOk w 0 [[(0,n,[])]] [B.cs]):=by
 refine bu_one 78 H D nCodes 10 F C 2 E [A,vrT n] b (vrT n) B rfl (by decide) z rfl (by decide) i s u (by omega) tab_codes (fun d T X W=>by kernel_rfl) ⟨by decide,by decide⟩ (vrT_small x y) m (fun V p c O M=>?_);obtain⟨g,Y,Z,rfl,I,f,v⟩:=two_ofL M;obtain rfl:=var_of (n:=n) v;obtain⟨R,S,rfl⟩:=FoIn.iface (c:=A.1) (k:=A.2) (r:=.nil) f;obtain⟨o,q,-,-⟩:=leaf_of (i 0 (by simp)).1 f J (L.below O)
 exact(cAtom_any g c j d l b V _ _ (fun W G=>cSpellF_any (txtT A) R S 65 (.int .i64 n) g c j d l b W t Q (I.below G) q (fun U N=>o U (Below.on G N)))).mono fun e w' h=>h.one K
theorem bu_codesB {w:World}{a a2:Addr}{m:Option Addr}{l d:Nat}(H:BuW w a a2 m l d)(A:Option Addr)(D:Nat)(z:Option Addr)(C:Nat)(n b:Int)(L:Tr)(s:List Int)(v:0<=n)(x:n<=1000000)(t:0<=b)(I:b<=900000)
  (y:BIn w A nCodes) (q:ArgsB w z [vrT n,L]) (j:okTs [vrT n,L]) (o:LsA L (s.map cItT)) (f:Byte s) (J:s.length<=100) :
  Calls Tryz.prog 12 #[.slice m l d,.slice A 10 D,.slice z 2 C,.int .i64 b] w (BuOk w 0 [[(0,n,[])]] [[(2,0,s)]]):=by
 refine bu_one 78 H A nCodes 10 D z 2 C [vrT n,L] b (vrT n) (atT s) rfl (by decide) y rfl (by decide) j q t (by omega) tab_codes (fun d N O W=>by kernel_rfl) ⟨by decide,by decide⟩ (vrT_small v x) (atT_small J f) (fun V p c P G=>?_);obtain⟨g,Q,R,rfl,F,u,i⟩:=two_ofL G;obtain rfl:=var_of (n:=n) u;obtain⟨K,M,rfl⟩:=FoIn.iface (c:=L.1) (k:=L.2) (r:=.nil) i
 exact(cAtom_any g c l d m b V _ _ (fun W E=>cSpellB_any s n L.1 L.2 K M g c l d m b W f (by omega) (F.below E) (j 1 (by simp)).1 (by have:=o.ln;omega) (FoIn.below i E) (by rw[o.sp]) (by rw[o.sp]))).mono fun e S h=>h.one (B:=atT s) rfl
theorem bu_charsF {w:World}{a a2:Addr}{l:Option Addr}{j d:Nat}(H:BuW w a a2 l j d)(L:TabP w)(D:Option Addr)(F:Nat)(C:Option Addr)(E:Nat)(n b:Int)(A B:Tr)(x:0<=n)(y:n<=1000000)(u:0<=b)(P:b<=900000)
  (z:BIn w D nChars) (s:ArgsB w C [A,vrT n]) (i:okTs [A,vrT n]) (J:A.1.1=1∨A.1.1=2) (t:Byte (txtT A)) (Q:(txtT A).length<=1000) (K:B.fo=listT ((txtT A).map hItT)) (m:smallT B) :
  Calls Tryz.prog 12 #[.slice l j d,.slice D 10 F,.slice C 2 E,.int .i64 b] w (BuOk w 0 [[(0,n,[])]] [B.cs]):=by
 refine bu_one 79 H D nChars 10 F C 2 E [A,vrT n] b (vrT n) B rfl (by decide) z rfl (by decide) i s u (by omega) tab_chars (fun d T X W=>by kernel_rfl) ⟨by decide,by decide⟩ (vrT_small x y) m (fun V p c O M=>?_);obtain⟨g,Y,Z,rfl,I,f,v⟩:=two_ofL M;obtain rfl:=var_of (n:=n) v;obtain⟨R,S,rfl⟩:=FoIn.iface (c:=A.1) (k:=A.2) (r:=.nil) f;obtain⟨o,q,-,-⟩:=leaf_of (i 0 (by simp)).1 f J (L.below O)
 exact(hAtom_any g c j d l b V _ _ (fun W G=>hSpellF_any (txtT A) R S 65 (.int .i64 n) g c j d l b W t Q (I.below G) q (fun U N=>o U (Below.on G N)))).mono fun e w' h=>h.one K
theorem bu_charsB {w:World}{a a2:Addr}{m:Option Addr}{l d:Nat}(H:BuW w a a2 m l d)(A:Option Addr)(D:Nat)(z:Option Addr)(C:Nat)(n b:Int)(L:Tr)(s:List Int)(v:0<=n)(x:n<=1000000)(t:0<=b)(I:b<=900000)
  (y:BIn w A nChars) (q:ArgsB w z [vrT n,L]) (j:okTs [vrT n,L]) (o:LsA L (s.map hItT)) (f:Byte s) (J:s.length<=100) :
  Calls Tryz.prog 12 #[.slice m l d,.slice A 10 D,.slice z 2 C,.int .i64 b] w (BuOk w 0 [[(0,n,[])]] [[(2,0,s)]]):=by
 refine bu_one 79 H A nChars 10 D z 2 C [vrT n,L] b (vrT n) (atT s) rfl (by decide) y rfl (by decide) j q t (by omega) tab_chars (fun d N O W=>by kernel_rfl) ⟨by decide,by decide⟩ (vrT_small v x) (atT_small J f) (fun V p c P G=>?_);obtain⟨g,Q,R,rfl,F,u,i⟩:=two_ofL G;obtain rfl:=var_of (n:=n) u;obtain⟨K,M,rfl⟩:=FoIn.iface (c:=L.1) (k:=L.2) (r:=.nil) i
 exact(hAtom_any g c l d m b V _ _ (fun W E=>hSpellB_any s n L.1 L.2 K M g c l d m b W f (by omega) (F.below E) (j 1 (by simp)).1 (by have:=o.ln;omega) (FoIn.below i E) (by rw[o.sp]) (by rw[o.sp]))).mono fun e S h=>h.one (B:=atT s) rfl
theorem isNegN_any (p q:Option Addr)(c d:Nat)(l v:Int)(w:World)(b:BIn w p [45]) :
  Calls Tryz.prog 194 #[.agg #[.int .i64 1,.int .i64 0,.int .i64 1,.slice p 1 c,.int .i64 0],.agg #[.int .i64 3,.int .i64 1,.int .i64 l,.slice q 0 d,.int .i64 v]] w fun e n=>e = .returned (.bool true)/\Below w.heap.size w n:=by
 have g:Below w.heap.size w (w.alloc (.cells #[.int .i64 1,.int .i64 0,.int .i64 1,.slice p 1 c,.int .i64 0] 251)):=(Below.refl _ _).alloc (Nat.le_refl _) _;have h:Below w.heap.size w ((w.alloc (.cells #[.int .i64 1,.int .i64 0,.int .i64 1,.slice p 1 c,.int .i64 0] 251)).alloc (.cells #[.int .i64 3,.int .i64 1,.int .i64 l,.slice q 0 d,.int .i64 v] 251)):=g.alloc (by simp) _;have i:=conv_str (BIn.below b h) 1 c rfl 9 Tryz.underlying9
 obtain⟨j,f⟩:∃ j,j=strOfNums [45]:=⟨_,rfl⟩
 have m:(j.toList == [45])=true:=by rw[f,str_list];decide
 rw[<-f] at i;have k:Hid _:=h;clear b h g f
 go_enter Tryz.func194,Tryz.ntmps194
 go_wp2_with fail;go_ret;exact⟨by simp,k.o⟩
structure LxW (w:World)(m:Int):Prop where
 tab:Tab w
 ml:w.cell? ⟨5,0,none⟩=some (.int .i64 m)
 et:w.cell? ⟨3,0,none⟩=some (.iface 260 (.agg #[.pointer (some ⟨11,113,none⟩)]))
theorem LxW.below {w w':World}{m:Int}(h:LxW w m)(b:Below w.heap.size w w'):LxW w' m:=
 ⟨h.tab.below b,(b.cell (World.block_lt_of_cell? _ _ h.ml)).trans h.ml,(b.cell (World.block_lt_of_cell? _ _ h.et)).trans h.et⟩
theorem lexN_any {n:Int}(C : -1000000000000000<=n)(D:n<=1000000000000000){w:World}{B:Nat}{q:Option Addr}{m c:Nat}{mx:Int}(d:OwnS w B q m c (decW n))(r:Bytes (decW n))(S:(decW n).length<=100)(x:LxW w mx) :
  Calls Tryz.prog 193 #[.slice q m c] w fun e y=>∃ g j,e = .returned (.tuple #[.slice (some ⟨g,0,none⟩) (numToks n).length j,.int .i64 0,.int .i64 0])/\(∀ i,i<(numToks n).length->TAt y g (i * 5) ((numToks n).getD i Tok.none))/\Below w.heap.size w y:=by
 have u:decW n≠[]:=by
  by_cases O:n<0
  ·rw[decW_neg O C];simp
  ·rw[decW_pos (by omega) D];exact dsN_ne _
 have E:0<m:=by rw[d.1];exact List.length_pos_iff.2 u
 have t:m<=c:=by
  rcases d.2.2 with ⟨_,h⟩ | ⟨Q,z,H,v,_,_,M,N,_,_⟩
  ·omega
  ·simp only[Value.slice.injEq,true_and] at v
   omega
 rcases d.form with ⟨_,h,_⟩ | ⟨g,rfl,_,J⟩
 ·omega
 have F:=d.row;have h:=lexImpl_any g c m (decW n) mx w r d.1 (by rw[d.1];omega) t F.2 F.1 x.tab x.ml x.et;rw[lex_num C D] at h
 refine h.mono fun e y h=>?_
 obtain⟨p,k,j,rfl,l,I⟩:=h;have L:k=(numToks n).length:=l.1
 have s:0<(numToks n).length:=by unfold numToks;split <;> simp
 obtain⟨b,o,rfl,P⟩:=l.tin s;obtain⟨_,T,_,f,_⟩:=l;obtain⟨R,A,G,_,_⟩:=f.form (by omega);simp only[Value.slice.injEq,Option.some.injEq,Addr.mk.injEq] at G;obtain⟨⟨rfl,rfl,_⟩,_,_⟩:=G;refine⟨b,j,by rw[L],fun i K=>?_,I⟩;have:=P i K;rw[Nat.zero_add] at this;exact this
theorem numIn_pos {n:Int}(z:0<=n)(r:n<=1000000000000000){w:World}{B:Nat}{q:Option Addr}{m c:Nat}{mx:Int}(i:OwnS w B q m c (decW n))(h:Bytes (decW n))(k:(decW n).length<=100)(t:LxW w mx) :
  Calls Tryz.prog 142 #[.slice q m c] w fun e F=>e = .returned (.tuple #[.int .i64 n,.nilIface])/\Below w.heap.size w F:=by
 have d:=lexN_any (by omega) r i h k t
 have p:m=(dsN n.toNat).length:=by rw[i.1,decW_pos z r]
 have l:m<=100:=by rw[i.1];exact k
 have f:numToks n = [((3,0,((dsN n.toNat).length:Int),n),[])]:=by rw[numToks,if_neg (by omega)]
 rw[f,<-p] at d;clear i h k t p f
 go_enter Tryz.func142,Tryz.ntmps142
 go_wp2_with fail;refine d.mono ?_;rintro e v ⟨g,I,rfl,s,b⟩;obtain⟨J,y,A,u,C,D,E,-⟩:=s 0 (by simp);simp only[List.getD,List.getElem?_cons_zero,Option.getD_some,Nat.zero_mul,Nat.zero_add,List.length_nil] at A u C D E;have x:=hid b
 have j:Hid (∀ o,Below w.heap.size w (v.alloc o)):=fun o=>b.alloc b.size _
 have H:((m:Int)<(m:Int))=False:=by simp
 have G:∀ O,(v.alloc O).cell? ⟨g,1,none⟩=some (.int .i64 0):=fun O=>Lib.cell?_alloc_marked _ u
 clear s b d;go_wp2_with fail
 go_ret2
 refine⟨rfl,?_⟩
 first | exact x.o | exact j.o _
theorem numIn_neg {n:Int}(Q:n<0)(M : -1000000000000000<=n){w:World}{B:Nat}{q:Option Addr}{m c:Nat}{mx:Int}(I:OwnS w B q m c (decW n))(H:Bytes (decW n))(Z:(decW n).length<=100)(hw:LxW w mx) :
  Calls Tryz.prog 142 #[.slice q m c] w fun e T=>e = .returned (.tuple #[.int .i64 n,.nilIface])/\Below w.heap.size w T:=by
 have y:=lexN_any M (by omega) I H Z hw
 obtain⟨k,L⟩:∃ k,k=(dsN n.natAbs).length:=⟨_,rfl⟩
 have em:m=k+1:=by rw[I.1,decW_neg Q M,L];simp
 have P:k<=100:=by have:=I.1;omega
 obtain⟨u,Y⟩:∃ u:Nat,u=n.natAbs:=⟨_,rfl⟩
 have E:numToks n = [((1,0,1,0),[45]),((3,1,(k:Int),(u:Int)),[])]:=by rw[numToks,if_pos Q,L,Y]
 have X:n = -(u:Int):=by omega
 have hu:u<=1000000000000000:=by omega
 rw[E] at y;subst em;rw[X];clear I H Z hw E L Y X Q M
 have h1:IntKind.i64.wrap (-(u:Int)) = -(u:Int):=by rw[IntKind.wrap_i64];omega
 go_enter Tryz.func142,Tryz.ntmps142
 go_wp2_with fail;refine y.mono ?_;rintro e b ⟨g,c',rfl,R,F⟩;obtain⟨A,d,l,j,p,r,s,S⟩:=R 0 (by simp);obtain⟨C,f,u0,u1,u2,u3,u4,-⟩:=R 1 (by simp);simp only[List.getD,List.getElem?_cons_zero,List.getElem?_cons_succ,Option.getD_some,Nat.zero_mul,Nat.one_mul,Nat.zero_add,List.length_nil,List.length_cons] at l j p r s S u0 u1 u2 u3 u4
 have HN:Hid (∀ W,Below b.heap.size b W->Calls Tryz.prog 194 #[.agg #[.int .i64 1,.int .i64 0,.int .i64 1,.slice A 1 d,.int .i64 0],.agg #[.int .i64 3,.int .i64 1,.int .i64 k,.slice C 0 f,.int .i64 u]] W fun e T=>e = .returned (.bool true)/\Below W.heap.size W T):=fun W N=>isNegN_any A C d f k u W (BIn.below S N)
 have V:=hid F
 have J:b.cell? ⟨g,0,none⟩=some (.int .i64 1)/\b.cell? ⟨g,1,none⟩=some (.int .i64 0)/\b.cell? ⟨g,2,none⟩=some (.int .i64 1)/\b.cell? ⟨g,3,none⟩=some (.slice A 1 d)/\b.cell? ⟨g,4,none⟩=some (.int .i64 0)/\b.cell? ⟨g,5,none⟩=some (.int .i64 3)/\b.cell? ⟨g,6,none⟩=some (.int .i64 1)/\b.cell? ⟨g,7,none⟩=some (.int .i64 k)/\b.cell? ⟨g,8,none⟩=some (.slice C 0 f)/\b.cell? ⟨g,9,none⟩=some (.int .i64 u):=⟨l,j,p,r,s,u0,u1,u2,u3,u4⟩
 have KS:Hid (∀ W,Below b.heap.size b W->W.cell? ⟨g,0,none⟩=some (.int .i64 1)/\W.cell? ⟨g,1,none⟩=some (.int .i64 0)/\W.cell? ⟨g,2,none⟩=some (.int .i64 1)/\W.cell? ⟨g,3,none⟩=some (.slice A 1 d)/\W.cell? ⟨g,4,none⟩=some (.int .i64 0)/\W.cell? ⟨g,5,none⟩=some (.int .i64 3)/\W.cell? ⟨g,6,none⟩=some (.int .i64 1)/\W.cell? ⟨g,7,none⟩=some (.int .i64 k)/\W.cell? ⟨g,8,none⟩=some (.slice C 0 f)/\W.cell? ⟨g,9,none⟩=some (.int .i64 u)):=fun W N=>by
  have k:∀ i v,b.cell? ⟨g,i,none⟩=some v->W.cell? ⟨g,i,none⟩=some v:=fun i v h=>(N.cell (World.block_lt_of_cell? _ _ h)).trans h
  exact⟨k _ _ l,k _ _ j,k _ _ p,k _ _ r,k _ _ s,k _ _ u0,k _ _ u1,k _ _ u2,k _ _ u3,k _ _ u4⟩
 have D:=HN.o (b.drewN 1) (below_drewN (Below.refl _ _) 1);have HD:Hid (Below b.heap.size b (b.drewN 1)):=below_drewN (Below.refl _ _) 1;have t:True:=trivial;clear R F y l j p r s S u0 u1 u2 u3 u4;obtain⟨l,j,p,r,s,u0,u1,u2,u3,u4⟩:=J;go_wp2_with fail
 have J:b.cell? ⟨g,0,none⟩=some (.int .i64 1)/\b.cell? ⟨g,1,none⟩=some (.int .i64 0)/\b.cell? ⟨g,2,none⟩=some (.int .i64 1)/\b.cell? ⟨g,3,none⟩=some (.slice A 1 d)/\b.cell? ⟨g,4,none⟩=some (.int .i64 0)/\b.cell? ⟨g,5,none⟩=some (.int .i64 3)/\b.cell? ⟨g,6,none⟩=some (.int .i64 1)/\b.cell? ⟨g,7,none⟩=some (.int .i64 k)/\b.cell? ⟨g,8,none⟩=some (.slice C 0 f)/\b.cell? ⟨g,9,none⟩=some (.int .i64 u):=⟨l,j,p,r,s,u0,u1,u2,u3,u4⟩
 clear l j p r s u0 u1 u2 u3 u4
 go_region_held3 (fun W=>W.cell? ⟨g,0,none⟩=some (.int .i64 1)/\W.cell? ⟨g,1,none⟩=some (.int .i64 0)/\W.cell? ⟨g,2,none⟩=some (.int .i64 1)/\W.cell? ⟨g,3,none⟩=some (.slice A 1 d)/\W.cell? ⟨g,4,none⟩=some (.int .i64 0)/\W.cell? ⟨g,5,none⟩=some (.int .i64 3)/\W.cell? ⟨g,6,none⟩=some (.int .i64 1)/\W.cell? ⟨g,7,none⟩=some (.int .i64 k)/\W.cell? ⟨g,8,none⟩=some (.slice C 0 f)/\W.cell? ⟨g,9,none⟩=some (.int .i64 u)) (first | exact kk | exact J | go_keep)
  (first
    | (have _t:=t;go_at_call 194;refine Calls.mono D ?_;rintro e U ⟨rfl,G⟩;have x:=hid (Below.on HD.o G);have kk:=KS.o U x.o;clear G t))
 rename_i z
 clear z J D;obtain⟨l,j,p,r,s,u0,u1,u2,u3,u4⟩:=kk
 have K:Hid (∀ o,Below w.heap.size w (U.alloc o)):=fun o=>(Below.on V.o x.o).alloc (Below.on V.o x.o).size _
 have a1:∀ O,(U.alloc O).cell? ⟨g,1,none⟩=some (.int .i64 0):=fun O=>Lib.cell?_alloc_marked _ j
 have b1:(1+(k:Int)<(k:Int)+1)=False:=by simp;omega
 have b2:((1:Int)+k<((k+1:Nat):Int))=False:=by simp;omega
 go_wp2_with fail
 go_ret2
 exact⟨rfl,K.o _⟩
theorem idxVar_no (p:Option Addr)(n c:Nat)(s:List Int)(w:World)(t:n=s.length)(y:n<=2000)(m:0<n->∃ b,p=some ⟨b,0,none⟩/\∀ i,i<n->w.cell? ⟨b,i,none⟩=some (cItV (s.getD i 0))) :
  Calls Tryz.prog 191 #[.slice p n c,.func (.func 134) #[] #[]] w fun e u=>e = .returned (.int .i64 (-1))/\Below w.heap.size w u:=by
 have r:=hid m;clear m t
 go_enter Tryz.func191,Tryz.ntmps191
 go_wp2_with fail
 go_loopw [8] (fun i wr=>∃ (j:Nat),j<=n/\i = .int .i64 j/\Hid (Below w.heap.size w wr)) (fun i _=>n-(intOf i).toNat)
 case atStart=>exact⟨0,Nat.zero_le _,rfl,Below.refl _ _⟩
 case round=>
  obtain⟨j,v,rfl,h⟩:=hrel
  by_cases f:j<n
  ·obtain⟨b,rfl,d⟩:=r.o (by omega)
   have q:wr.cell? ⟨b,j,none⟩=some (cItV (s.getD j 0)):=(h.o.cell (World.block_lt_of_cell? _ _ (d j f))).trans (d j f)
   obtain⟨x,l⟩:∃ x,x=s.getD j 0:=⟨_,rfl⟩
   rw[<-l] at q;have k:=nbIsVar_num (.int .i64 x) wr;clear l d;go_wp2_with fail;refine k.mono ?_;rintro e z ⟨rfl,g⟩;rw[g];clear g k q;go_wp2_with fail;go_roundw
   case rel=>exact⟨j+1,by omega,by go_num,h⟩
   case measure=>simp[intOf];omega
  ·obtain rfl:j=n:=by omega
   go_wp2_with fail;go_ret;exact⟨rfl,h.o⟩
theorem hasVar_no (p:Option Addr)(n c:Nat)(s:List Int)(w:World)(h:n=s.length)(k:n<=2000)(g:0<n->∃ b,p=some ⟨b,0,none⟩/\∀ i,i<n->w.cell? ⟨b,i,none⟩=some (cItV (s.getD i 0))) :
  Calls Tryz.prog 138 #[.slice p n c,.func (.func 134) #[] #[]] w fun e l=>e = .returned (.bool false)/\Below w.heap.size w l:=by
 have d:=idxVar_no p n c s w h k g;clear h g
 go_enter Tryz.func138,Tryz.ntmps138
 go_wp2_with fail;refine d.mono ?_;rintro e m ⟨rfl,f⟩;have j:=hid f;clear f d;go_wp2_with fail;go_ret;exact⟨rfl,j.o⟩
theorem numIn_any {n:Int}(h : -1000000000000000<=n)(i:n<=1000000000000000){w:World}{B:Nat}{q:Option Addr}{m c:Nat}{mx:Int}(d:OwnS w B q m c (decW n))(b:Bytes (decW n))(f:(decW n).length<=100)(g:LxW w mx) :
  Calls Tryz.prog 142 #[.slice q m c] w fun e k=>e = .returned (.tuple #[.int .i64 n,.nilIface])/\Below w.heap.size w k:=by
 by_cases j:n<0
 ·exact numIn_neg j h d b f g
 ·exact numIn_pos (by omega) i d b f g
theorem decW_by {n:Int}(c : -1000000000000000<=n)(d:n<=1000000000000000):Byte (decW n)/\(decW n).length<=20:=by
 by_cases f:n<0
 ·rw[decW_neg f c]
  have b:=dsN_digs n.natAbs;have e:=dsN_len 15 n.natAbs (by omega);refine⟨fun x hx=>?_,by simp;omega⟩
  rcases List.mem_cons.1 hx with rfl | hx
  ·omega
  ·have:=b x hx;omega
 ·rw[decW_pos (by omega) d]
  have b:=dsN_digs n.toNat;have e:=dsN_len 15 n.toNat (by omega);exact⟨fun x hx=>by have:=b x hx;omega,by omega⟩
theorem numCodes_any (n:Int)(h0 : -1000000000000000<=n)(h1:n<=1000000000000000)(J:Int)(c:Cel)(k:Fo)(ta:TypeId)(va:Value)(g s on oc:Nat)(op:Option Addr)(fr:Int)(w:World)(mx:Int)(h8:LxW w mx)(h2:Two w g (.iface 65 (.int .i64 J)) (.iface ta va))
  (e4:(Fo.node c k .nil).ok) (h7:k.cells.length<=10000) (h5:FoIn w 0 (.node c k .nil) [.iface ta va]) (x:(splitF c k).2.1=nilC) (e7:(splitF c k).1=(decW n).map cItT) :
  Calls Tryz.prog 81 #[calV op on oc g s fr] w (PtO w (.iface 65 (.int .i64 J)) (numT n).fo):=by
 obtain⟨H,S⟩:∃ H,H=w.alloc (Obj.cells #[.slice op on oc,.slice (some ⟨g,0,none⟩) 2 s,.int .i64 fr] 67):=⟨_,rfl⟩
 obtain⟨j,I⟩:∃ j,j=H.alloc (Obj.cells #[Value.slice none 0 0,Value.nilIface,Value.slice none 0 0] 70):=⟨_,rfl⟩
 have V:Below w.heap.size w H:=by rw[S];exact(Below.refl _ _).alloc (Nat.le_refl _) _
 have C:Below H.heap.size H j:=by rw[I];exact(Below.refl _ _).alloc (Nat.le_refl _) _
 have U:Below w.heap.size w j:=Below.on V C
 have G:H.heap.size=w.heap.size+1:=by rw[S];simp
 have e6:j.heap.size=w.heap.size+1+1:=by rw[I,<-G];simp
 have k1:j.heap[w.heap.size]?=some (Obj.cells #[.slice op on oc,.slice (some ⟨g,0,none⟩) 2 s,.int .i64 fr] 67):=by rw[C.block _ (by omega),S];exact heap_alloc_new _ _
 have k2:j.heap[w.heap.size+1]?=some (Obj.cells #[Value.slice none 0 0,Value.nilIface,Value.slice none 0 0] 70):=by rw[I,<-G];exact heap_alloc_new _ _
 have HR:Hid (∀ W,Below j.heap.size j W->W.heap[w.heap.size+1]?=some (Obj.cells #[Value.slice none 0 0,Value.nilIface,Value.slice none 0 0] 70)):=fun W t=>(t.block _ (by omega)).trans k2
 have tr:=h2.below U
 have KS:Hid (∀ W,Below j.heap.size j W->W.cell? ⟨w.heap.size,1,none⟩=some (.slice (some ⟨g,0,none⟩) 2 s)/\W.cell? ⟨g,0,none⟩=some (.iface 65 (.int .i64 J))/\W.cell? ⟨g,1,none⟩=some (.iface ta va)):=fun W t=>by
  have q1:=(t.block _ (by omega)).trans k1;exact⟨cell_of_row _ _ 1 _ _ _ q1,(tr.below t).at0,(tr.below t).at1⟩
 have HB:=hid U;have HS:=hid e6;have k9:Hid (g<w.heap.size):=World.block_lt_of_cell? _ _ h2.at0
 have l:Hid ((Fo.node c k .nil).ok/\k.cells.length<=10000/\FoIn j 0 (.node c k .nil) [.iface ta va]/\(splitF c k).2.1=nilC/\(splitF c k).1=(decW n).map cItT):=⟨e4,h7,FoIn.below h5 U,x,e7⟩
 have d:Hid (-1000000000000000<=n/\n<=1000000000000000/\Byte (decW n)/\(decW n).length<=20):=⟨h0,h1,(decW_by h0 h1).1,(decW_by h0 h1).2⟩
 have k5:=hid (h8.below U);have HI:=cIn_any j;rw[S] at I;clear S V C U G e6 k1 k2 tr h2 e4 h7 h5 x e7 h0 h1 h8
 go_enter Tryz.func81,Tryz.ntmps81
 go_wp2_with fail;rw[<-I];clear I;refine HI.mono ?_;rintro e w3 ⟨rfl,D⟩
 obtain⟨y,T⟩:∃ y,y=w3.alloc (Obj.cells #[.func (.func 190) #[] #[],.func (.func 136) #[] #[]] 178):=⟨_,rfl⟩
 have u:Below j.heap.size j y:=by rw[T];exact D.alloc D.size _
 have kS:y.heap[w3.heap.size]?=some (Obj.cells #[.func (.func 190) #[] #[],.func (.func 136) #[] #[]] 178):=by rw[T];exact heap_alloc_new _ _
 have KP:Hid (∀ W,Below y.heap.size y W->W.cell? ⟨w3.heap.size,0,none⟩=some (.func (.func 190) #[] #[])/\W.cell? ⟨w3.heap.size,1,none⟩=some (.func (.func 136) #[] #[])):=fun W t=>by
  have q1:=(t.block _ (Array.getElem?_eq_some_iff.1 kS).1).trans kS;exact⟨cell_of_row _ _ 0 _ _ _ q1,cell_of_row _ _ 1 _ _ _ q1⟩
 have k3:=hid u;have A:=listArg_any 0 y c k (.iface ta va) l.o.1 l.o.2.1 (FoIn.below l.o.2.2.1 u) l.o.2.2.2.1;rw[l.o.2.2.2.2] at A;obtain⟨R,-,c3⟩:=KS.o y u;rw[T] at R c3;clear D u kS HI;go_wp2_with fail;rw[<-T];clear T R c3;refine A.mono ?_;rintro e w4 ⟨p4,K,B,vs,rfl,h9,F,h4,e5,X⟩;obtain rfl:=cLeafV (decW n) vs h4
 have p:K=(decW n).length:=by rw[h9];simp
 have f:0<K->∃ b,p4=some ⟨b,0,none⟩/\∀ i,i<K->w4.cell? ⟨b,i,none⟩=some (cItV ((decW n).getD i 0)):=fun hz=>by
  obtain⟨g3,k8,hv,_,_⟩:=F.form hz;simp only[Value.slice.injEq,true_and] at hv;obtain⟨rfl,rfl⟩:=hv;refine⟨g3,rfl,fun i hi=>?_⟩
  have k7:i<(decW n).length:=by omega
  rw[F.cellAt i (by omega)]
  simp[List.getD,k7]
 have e9:=hid X;have O:=hasVar_no p4 K B (decW n) w4 p (by have:=d.o.2.2.2;omega) f
 have k6:Hid (∀ W,Below w4.heap.size w4 W->Calls Tryz.prog 141 #[cSp,.slice p4 K B] W fun e w'=>∃ q m cq,e = .returned (.tuple #[.slice q m cq,.nilIface])/\OwnS w' W.heap.size q m cq (decW n)/\Below W.heap.size W w'):=fun W t=>cText_any (decW n) p4 K B W d.o.2.2.1 (by have:=d.o.2.2.2;omega) p (fun hz=>by
  obtain⟨b,e,h⟩:=f hz
  exact⟨b,e,fun i hi=>(t.cell (World.block_lt_of_cell? _ _ (h i hi))).trans (h i hi)⟩)
 clear A h9 F h4 e5 X f p;go_wp2_with fail;refine O.mono ?_;rintro e w5 ⟨rfl,E⟩;have L:=hid (Below.on e9.o E);have Q:=k6.o w5 E;obtain⟨s3,s4⟩:=KP.o w5 L.o;clear O E;go_wp2_with fail;refine Q.mono ?_;rintro e w6 ⟨q6,m6,c6,rfl,e3,Y⟩;have M:=hid (Below.on k3.o (Below.on L.o Y));have P:=numIn_any d.o.1 d.o.2.1 e3 d.o.2.2.1 (by have:=d.o.2.2.2;omega) (k5.o.below M.o);clear s3 s4 Q e3 Y;go_wp2_with fail;refine P.mono ?_;rintro e w7 ⟨rfl,Z⟩;have z:=hid (Below.on M.o Z);obtain⟨u1,u2,-⟩:=KS.o w7 z.o;have HU:=unifying_ok 65 146 (.int .i64 J) (.int .i64 n) w7;clear P Z;go_wp2_with fail;refine HU.mono ?_;rintro e w8 ⟨r,rfl,h6,c0,R,h3⟩
 have N:=hid (Below.on z.o h3)
 have k4:Hid (w7.heap.size<=r/\w8.cell? ⟨r,0,none⟩=some (.iface 65 (.int .i64 J))/\w8.cell? ⟨r,1,none⟩=some (.iface 146 (.int .i64 n))):=⟨h6,c0,R⟩
 have HX:=Box3.of_block (HR.o w8 N.o);have HP:Hid _:=wr3_box HX (.slice (some ⟨r,0,none⟩) 1 1) .nilIface (.slice none 0 0)
 have e8:Hid (PtO w (.iface 65 (.int .i64 J)) (numT n).fo (.returned (.tuple #[.agg #[.slice (some ⟨r,0,none⟩) 1 1,.nilIface,.slice none 0 0],.nilIface])) (wr3 w8 (w.heap.size+1) (.slice (some ⟨r,0,none⟩) 1 1) .nilIface (.slice none 0 0))):=by
  have x2:=z.o.size;have x1:=HS.o;obtain⟨hg,k0,k1⟩:=k4.o;exact⟨_,_,⟨r,rfl,by omega,(wr3_ne (by show r≠_;omega)).trans k0,(wr3_ne (by show r≠_;omega)).trans k1,wr3_below (Below.on HB.o N.o) (Nat.le_succ _)⟩,numT_in⟩
 obtain⟨b0,b1,b2,b3⟩:=HX;clear h6 c0 R h3 HU u1 u2
 go_wp2
 obtain⟨d0,d1,d2,_⟩:=HP.o;exact bodyPost_ret (v:=.tuple #[.agg #[.slice (some ⟨r,0,none⟩) 1 1,.nilIface,.slice none 0 0],.nilIface]) (by simp[results,Tryz.results81,go_sem,d0,d1,d2]) rfl e8.o
def nNum:List Int:=[110,117,109,98,101,114,95,99,111,100,101,115]
theorem tab_num:buTab (strOfNums nNum,((2:Nat):Int))=some 81:=buTab_at 37 (by decide)
theorem bu_numB {w:World}{a a2:Addr}{z:Option Addr}{y i:Nat}(H:BuW w a a2 z y i)(mx:Int)(q:LxW w mx)(C:Option Addr)(E:Nat)(A:Option Addr)(D:Nat)(n b v:Int)(L:Tr)(s:0<=n)(t:n<=1000000)(m:0<=b)(J:b<=900000)
  (u:BIn w C nNum) (l:ArgsB w A [vrT n,L]) (f:okTs [vrT n,L]) (j:LsA L ((decW v).map cItT)) (x:InB v) :
  Calls Tryz.prog 12 #[.slice z y i,.slice C 12 E,.slice A 2 D,.int .i64 b] w (BuOk w 0 [[(0,n,[])]] [[(1,v,[])]]):=by
 refine bu_one 81 H C nNum 12 E A 2 D [vrT n,L] b (vrT n) (numT v) rfl (by decide) u rfl (by decide) f l m (by omega) tab_num (fun i N O W=>by kernel_rfl) ⟨by decide,by decide⟩ (vrT_small s t) (numT_small x) (fun V p c I G=>?_);obtain⟨g,P,Q,rfl,F,o,d⟩:=two_ofL G;obtain rfl:=var_of (n:=n) o;obtain⟨K,M,rfl⟩:=FoIn.iface (c:=L.1) (k:=L.2) (r:=.nil) d
 exact(numCodes_any v x.1 x.2 n L.1 L.2 K M g c y i z b V mx (q.below I) F (f 1 (by simp)).1 (by have:=j.ln;omega) d (by rw[j.sp]) (by rw[j.sp])).mono fun e R h=>h.one (B:=numT v) rfl
theorem mem_map_inj {b:Int->Int}{S:Int->Prop}(c:∀ x y,S x->S y->b x=b y->x=y){d:List Int}(g:∀ y ∈ d,S y){x:Int}(i:S x):b x ∈ d.map b↔x ∈ d:=by
 constructor
 ·intro h
  obtain⟨y,f,e⟩:=List.mem_map.1 h;rw[<-c y x (g y f) i e];exact f
 ·exact fun h=>List.mem_map.2 ⟨x,h,rfl⟩
theorem idxOf_map_inj {b:Int->Int}{S:Int->Prop}(c:∀ x y,S x->S y->b x=b y->x=y):∀ (d:List Int),(∀ y ∈ d,S y)->∀ x,S x->(d.map b).idxOf (b x)=d.idxOf x
 | [],_,x,_=>rfl
 | y :: r,hk,x,hx=>by
   simp only[List.map_cons,List.idxOf_cons]
   by_cases h:y=x
   ·subst h;simp
   ·have f:¬ b y=b x:=fun e=>h (c y x (hk y (by simp)) hx e)
    simp only[beq_iff_eq,h,f,cond_false,beq_eq_false_iff_ne.2 h,beq_eq_false_iff_ne.2 f];rw[idxOf_map_inj c r (fun z g=>hk z (by simp[g])) x hx]
theorem vis_map {f:Int->Int}{S:Int->Prop}(e:∀ x y,S x->S y->f x=f y->x=y){i:Cel->Cel}(m:∀ c,c.1=0->i c=(0,f c.2.1,c.2.2))(n:∀ c,c.1≠0->i c=c):∀ (j:List Cel) (b:List Int),(∀ c ∈ j,c.1=0->S c.2.1)->(∀ y ∈ b,S y)->visits (b.map f) (j.map i)=(visits b j).map f/\∀ y ∈ visits b j,S y
 | [],b,_,hk=>⟨rfl,hk⟩
 | c :: r,b,hc,hk=>by
   simp only[List.map_cons,visits_cons]
   by_cases g:c.1=0
   ·have o:=hc c (by simp) g
    have l:visitL (b.map f) (i c)=(visitL b c).map f:=by
     rw[m c g,visitL,if_pos rfl,visitL,if_pos g]
     unfold putV
     by_cases k:c.2.1 ∈ b
     ·rw[if_pos ((mem_map_inj e hk o).2 k),if_pos k]
     ·rw[if_neg (fun h=>k ((mem_map_inj e hk o).1 h)),if_neg k];simp
    have q:∀ y ∈ visitL b c,S y:=fun y hy=>by
     rw[visitL,if_pos g] at hy
     unfold putV at hy
     split at hy
     ·exact hk y hy
     ·rcases List.mem_append.1 hy with hy | hy
      ·exact hk y hy
      ·rw[List.mem_singleton.1 hy];exact o
    rw[l];exact vis_map e m n r _ (fun d p=>hc d (by simp[p])) q
   ·have l:visitL (b.map f) (i c)=b.map f:=by rw[n c g,visitL,if_neg g]
    have s:visitL b c=b:=by rw[visitL,if_neg g]
    rw[l,s];exact vis_map e m n r _ (fun d p=>hc d (by simp[p])) hk
theorem ren_copy (f:Int)(T:List Cel):renCells (T.map (renD f (visits [] T)))=renCells T:=by
 obtain⟨L,k⟩:∃ L,L=visits [] T:=⟨_,rfl⟩
 have o:∀ c ∈ T,c.1=0->c.2.1 ∈ L:=fun c m l=>by rw[k];exact visits_memW T [] c m l
 obtain⟨j,d⟩:∃ j:Int->Int,j=fun x=>f+((L.idxOf x:Nat):Int):=⟨_,rfl⟩
 have i:∀ x y,x ∈ L->y ∈ L->j x=j y->x=y:=fun x y t g e=>by
  rw[d] at e;simp only at e
  have q:L.idxOf x=L.idxOf y:=by omega
  have r:=List.getElem_idxOf (List.idxOf_lt_length_iff.2 t);have s:=List.getElem_idxOf (List.idxOf_lt_length_iff.2 g);rw[<-r,<-s];simp only[q]
 have l:∀ c:Cel,c.1=0->renD f L c=(0,j c.2.1,c.2.2):=fun c h=>by rw[renD,if_pos h,d,h]
 have n:∀ c:Cel,c.1≠0->renD f L c=c:=fun c h=>by rw[renD,if_neg h]
 have p:=vis_map i l n T [] o (fun y g=>by simp at g);rw[List.map_nil,<-k] at p;rw[<-k]
 unfold renCells
 rw[p.1,<-k,List.map_map]
 refine List.map_congr_left fun c m=>?_
 simp only[Function.comp]
 by_cases b:c.1=0
 ·rw[l c b,renI,if_pos rfl,renI,if_pos b,idxOf_map_inj i L (fun y g=>g) _ (o c m b),b]
 ·rw[n c b,renI,if_neg b,renI,if_neg b]
theorem cs_eq_itC (A:Tr):A.cs=itC A:=rfl
theorem smallT.valid {A:Tr}(h:smallT A):validB A.cs=true:=tr_valid h.1 (by have:=h.2.1;simp[itC];omega)
theorem copy_variant {f:Int}(b:0<=f)(c:f<=900000){A:Tr}(d:smallT A):variantB (A.cs.map (renD f (visits [] A.cs))) A.cs=true:=by
 unfold variantB
 rw[ren_copy,<-cpT_cs,(cpT_small b c d).valid,d.valid]
 simp
theorem subs_vars:∀ (l:List Int) (k:Fo) (b:SubE),l.Nodup->(∀ x ∈ l,look b x=none)->k.count=l.length->∃ e,subF b (varsF l) k=some e
 | [],.nil,b,_,_,_=>⟨b,rfl⟩
 | [],.node _ _ _,b,_,_,h=>by simp[Fo.count] at h
 | x :: r,.nil,b,_,_,h=>by simp[Fo.count] at h
 | x :: r,.node c k s,b,hn,hl,h=>by
   obtain⟨g,f⟩:=List.nodup_cons.1 hn;simp only[varsF,subF,if_true];rw[hl x (by simp)];refine subs_vars r s _ f (fun y d=>?_) (by simpa [Fo.count] using h);rw[look_append,hl y (by simp[d])];simp only[look];rw[if_neg (fun e=>g (by rw[e];exact d))]
theorem newIs_nodup (c:Int)(n:Nat):(newIs c n).Nodup:=by
 unfold newIs
 exact List.Pairwise.map _ (fun a b h e=>h (by omega)) List.nodup_range
theorem fresh_subs {A:Tr}{b:Int}{m:Nat}(c:smallT A)(d:A.1.1=3)(f:m=A.2.count)(hF:smallT (fvT A.1.2.2 b m)):SubsIs (fvT A.1.2.2 b m).cs A.cs true:=by
 have g:A.1=(3,(m:Int),A.1.2.2):=Prod.ext d (Prod.ext (by rw[f];exact c.1.2.2.1 d) rfl);obtain⟨e,h⟩:=subs_vars (newIs b m) A.2 [] (newIs_nodup b m) (fun x _=>rfl) (by rw[newIs_len,f]);refine .inl ⟨hF.valid,c.valid,(fvT A.1.2.2 b m).1,(fvT A.1.2.2 b m).2,A.1,A.2,rfl,rfl,hF.1,c.1,by have:=hF.2.1;simp[Tr.cs];omega,by have:=c.2.1;simp[Tr.cs];omega,?_⟩
 show true=(subF [] (.node (3,(m:Int),A.1.2.2) (varsF (newIs b m)) .nil) (.node A.1 A.2 .nil)).isSome
 rw[subF,if_neg (show ¬ ((3:Int)=0) by decide),if_pos g.symm,h]
 rfl
theorem trs_sum:∀ F:Fo,F.cells.length=((trs F).map fun x:Tr=>x.cs.length).sum
 | .nil=>rfl
 | .node c k r=>by simp[Fo.cells,trs,Tr.cs,trs_sum r];omega
theorem trsP_ok:∀ F:Fo,F.ok->∀ x ∈ trs F,x.fo.ok
 | .nil,_,x,h=>by simp[trs] at h
 | .node c k r,h,x,hx=>by
   simp only[trs,List.mem_cons] at hx
   rcases hx with rfl | hx
   ·exact⟨h.1,h.2.1,h.2.2.1,h.2.2.2.1,h.2.2.2.2.1,trivial⟩
   ·exact trsP_ok r h.2.2.2.2.2 x hx
theorem listT_len (b:List (Cel×Fo)):(listT b).cells.length=(b.map fun x=>1+(itC x).length).sum+1:=by
 induction b with
 | nil=>rfl
 | cons x r c=>simp[listT,Fo.cells,itC] at c ⊢;omega
theorem sum_add (l:List Tr):(l.map fun x=>1+(itC x).length).sum=l.length+(l.map fun x:Tr=>x.cs.length).sum:=by
 induction l with
 | nil=>rfl
 | cons x r b=>simp only[List.map_cons,List.sum_cons,List.length_cons,b];have:(itC x).length=x.cs.length:=rfl;omega
def ptsL (A:Tr):List (Cel×Fo):=if A.1.1=3 then((2,0,A.1.2.2),.nil) :: trs A.2 else [A]
theorem ptsL_ok {A:Tr}(b:smallT A):∀ x ∈ ptsL A,(Fo.node x.1 x.2 .nil).ok:=by
 unfold ptsL
 split
 ·rename_i c
  intro x hx
  rcases List.mem_cons.1 hx with rfl | hx
  ·have:=b.2.2 A.1 (by simp[Tr.cs])
   exact⟨by simp[cellB];omega,b.1.2.1,fun e=>by simp at e,fun _=>rfl,trivial,trivial⟩
  ·exact trsP_ok A.2 b.1.2.2.2.2.1 x hx
 ·intro x hx
  rw[List.mem_singleton.1 hx];exact b.1
theorem ptsL_len {A:Tr}(c:A.cs.length<=500):(listT (ptsL A)).cells.length<=1100:=by
 have b:A.cs.length=A.2.cells.length+1:=by simp[Tr.cs]
 rw[listT_len]
 unfold ptsL
 split
 ·rw[List.map_cons,List.sum_cons,sum_add,<-trs_sum,trs_len]
  have:=Fo.count_le A.2
  simp[itC,Fo.cells];omega
 ·simp[itC];omega
theorem ptsL_tr {A:Tr}(e:smallT A)(f:A.cs.length<=500):∃ L:Tr,L.fo=listT (ptsL A)/\L.cs=(listT (ptsL A)).cells/\smallT L/\LsA L (ptsL A):=by
 obtain⟨L,b,d,c⟩:=listT_tr (ptsL_ok e) (by have:=ptsL_len f;omega);exact⟨L,b,d,c,⟨splitF_list _ _ _ b.symm,by have:=c.2.1;omega⟩⟩
theorem codes_tr {s:List Int}(b:Byte s)(j:s.length<=100):∃ L:Tr,L.fo=listT (s.map cItT)/\L.cs=(listT (s.map cItT)).cells/\smallT L/\LsA L (s.map cItT):=by
 have c:∀ s:List Int,((s.map cItT).map fun x=>1+(itC x).length).sum=2 * s.length:=fun s=>by
  induction s with
  | nil=>rfl
  | cons x r i=>simp only[List.map_cons,List.sum_cons,i,List.length_cons];simp[cItT,itC,Fo.cells];omega
 obtain⟨L,d,g,e⟩:=listT_tr (its:=s.map cItT) (fun x h=>by
  obtain⟨y,f,rfl⟩:=List.mem_map.1 h
  exact num_ok ⟨by have:=b y f;omega,by have:=b y f;omega⟩ trivial) (by rw[listT_len,c];omega)
 exact⟨L,d,g,e,⟨splitF_list _ _ _ d.symm,by have:=e.2.1;omega⟩⟩
theorem chars_tr {s:List Int}(c:Byte s)(l:s.length<=100):∃ L:Tr,L.fo=listT (s.map hItT)/\L.cs=(listT (s.map hItT)).cells/\smallT L/\LsA L (s.map hItT):=by
 have b:∀ s:List Int,((s.map hItT).map fun x=>1+(itC x).length).sum=2 * s.length:=fun s=>by
  induction s with
  | nil=>rfl
  | cons x r k=>simp only[List.map_cons,List.sum_cons,k,List.length_cons];simp[hItT,itC,Fo.cells];omega
 obtain⟨L,d,h,f⟩:=listT_tr (its:=s.map hItT) (fun x i=>by
  obtain⟨y,j,rfl⟩:=List.mem_map.1 i
  exact⟨by simp[hItT,cellB],fun z g=>by simp[hItT] at g;rw[g];exact c y j,fun e=>by simp[hItT] at e,fun _=>rfl,trivial,trivial⟩) (by rw[listT_len,b];omega)
 exact⟨L,d,h,f,⟨splitF_list _ _ _ d.symm,by have:=f.2.1;omega⟩⟩
theorem leafK {A:Tr}(c:A.fo.ok)(h:A.1.1=1∨A.1.1=2):A.2 = .nil/\A.cs = [A.1]:=by
 have b:=c.2.2.2.1 (by omega);exact⟨b,by rw[Tr.cs,b];rfl⟩
theorem txtT_ok {A:Tr}(b:smallT A)(h:A.1.1=1∨A.1.1=2):Byte (txtT A)/\(txtT A).length<=100:=by
 have c:=b.1.1;simp only[cellB,decide_eq_true_eq] at c
 unfold txtT
 split
 ·rename_i d
  have:=decW_by (n:=A.1.2.1) (by omega) (by omega);exact⟨this.1,by omega⟩
 ·exact⟨b.1.2.1,b.2.2 A.1 (by simp[Tr.cs])⟩
structure FpEnv (w:World)(a a2:Addr)(mx:Int):Prop where
 fe:FeW w a a2
 tp:TabP w
 lx:LxW w mx
theorem FpEnv.below {w w':World}{a a2:Addr}{mx:Int}(h:FpEnv w a a2 mx)(b:Below w.heap.size w w'):FpEnv w' a a2 mx:=⟨h.fe.below b,h.tp.below b,h.lx.below b⟩
theorem ArgsB.below {w w':World}{p:Option Addr}{d:List Tr}(h:ArgsB w p d)(c:Below w.heap.size w w'):ArgsB w' p d:=fun i m=>by
 obtain⟨g,q,f,e,b,j,k,l⟩:=h i m;exact⟨g,q,f,e,(c.cell (World.block_lt_of_cell? _ _ b)).trans b,j.below c,k,l⟩
def EfO (w:World)(cs:List Cel)(e:Ending)(w':World):Prop:=∃ q m c,e = .returned (.tuple #[.slice q m c,.bool true])/\TmC w' q m c cs/\Below w.heap.size w w'
theorem effect_any (f:List Int)(na T k:Nat)(pa:Option Addr)(L R:List (List Cel))(w:World)(a a2:Addr)(A:Byte f)(N:f.length<=100)(hk:k<R.length)(C:R.length<=10)(Z:FeW w a a2)
  (Y:∀ W H G F pn cn,Below w.heap.size w W->BuW W a a2 H G F->BIn W pn f->Calls Tryz.prog 12 #[.slice H G F,.slice pn f.length cn,.slice pa na T,.int .i64 500] W (BuOk W 0 L R)) :
  Calls Tryz.prog 6 #[.string (strOfNums f),.slice pa na T,.int .i64 k] w (EfO w (R.getD k [])):=by
 have r:=Z.ops;have J:=hid Y
 have p:Hid (∀ W:World,∃ Q s,(convert 9 22 (.string (strOfNums f))).run Tryz.prog W = .ok (.slice (some ⟨W.heap.size,0,none⟩) f.length s) Q/\Below W.heap.size W Q/\OwnT Q W.heap.size (some ⟨W.heap.size,0,none⟩) f.length s f):=fun W=>conv_bytes W f A 9 Tryz.underlying9
 have g:Hid (k<R.length/\R.length<=10):=⟨hk,C⟩
 obtain⟨str,X⟩:∃ str,str=strOfNums f:=⟨_,rfl⟩
 rw[<-X] at p ⊢;clear Y Z A N hk C X
 go_enter Tryz.func6,Tryz.ntmps6
 go_wp2_with fail;refine r.mono ?_;rintro e w1 ⟨H,G,F,rfl,z,x⟩;obtain⟨w2,t,K,j,D⟩:=p.o w1;have n:=hid (Below.on x j);have S:=J.o w2 H G F (some ⟨w1.heap.size,0,none⟩) t n.o (z.below j) D.bin;clear r z x j D;go_wp2_with fail;refine S.mono ?_;rintro e I ⟨pl,U,pr,V,rfl,M,O,y,B⟩;obtain⟨b,o,rfl,d⟩:=B (by have:=g.o.1;omega);obtain⟨q,c,P,t1,t2⟩:=d k g.o.1
 obtain⟨E,u⟩:∃ E,E=I.alloc (Obj.cells #[.slice pl L.length U,.slice (some ⟨b,o,none⟩) R.length V,.slice none 0 0,.slice none 0 0] 36):=⟨_,rfl⟩
 have i:Below I.heap.size I E:=by rw[u];exact(Below.refl _ _).alloc (Nat.le_refl _) _
 have k4:E.heap[I.heap.size]?=some (Obj.cells #[.slice pl L.length U,.slice (some ⟨b,o,none⟩) R.length V,.slice none 0 0,.slice none 0 0] 36):=by rw[u];exact heap_alloc_new _ _
 have m:Hid (EfO w (R.getD k []) (.returned (.tuple #[.slice q (R.getD k []).length c,.bool true])) E):=⟨q,_,c,rfl,⟨rfl,t1.below i,t2⟩,Below.on n.o (Below.on y i)⟩
 have u0:=(i.cell (World.block_lt_of_cell? _ _ P)).trans P;have v1:=cell_of_row _ _ 1 _ _ _ k4
 obtain⟨l,h⟩:∃ l,l=R.length:=⟨_,rfl⟩
 obtain⟨kl,v⟩:∃ kl,kl=(R.getD k []).length:=⟨_,rfl⟩
 rw[<-v] at m u0
 have h1:k<l:=by rw[h];exact g.o.1
 have h2:l<=10:=by rw[h];exact g.o.2
 rw[<-h] at v1 u ⊢
 have b1:((l:Int)<=(k:Int))=False:=by simp;omega
 have b2:((k:Int)<(l:Int))=True:=by simp;omega
 rw[u] at u0 v1;clear M O y B d P t1 t2 i k4 S K h v;go_wp2_with fail;rw[<-u]
 go_ret2
 exact m.o
theorem args2 {w:World}{g j b k c:Nat}{f q1:Option Addr}{A B:Tr}(h:w.heap[g]?=some (.cells #[.slice f j b,.slice q1 k c] 23))(d:TmC w f j b A.cs)(e:TmC w q1 k c B.cs):ArgsB w (some ⟨g,0,none⟩) [A,B]:=fun i l=>by
 rcases(by simp at l;omega:i=0∨i=1) with rfl | rfl
 ·exact⟨g,f,b,rfl,by show _=some (Value.slice f A.cs.length b);rw[<-d.1];exact cell_of_row _ _ 0 _ _ _ h,d.2.1,by show A.cs.length<=b;rw[<-d.1];exact d.2.2.1,d.2.2.2⟩
 ·exact⟨g,q1,c,rfl,by show _=some (Value.slice q1 B.cs.length c);rw[<-e.1];exact cell_of_row _ _ 1 _ _ _ h,e.2.1,by show B.cs.length<=c;rw[<-e.1];exact e.2.2.1,e.2.2.2⟩
theorem args3 {w:World}{h m b n c o d:Nat}{j q1 k:Option Addr}{A B C:Tr}(l:w.heap[h]?=some (.cells #[.slice j m b,.slice q1 n c,.slice k o d] 23))(e:TmC w j m b A.cs)(f:TmC w q1 n c B.cs)(g:TmC w k o d C.cs):ArgsB w (some ⟨h,0,none⟩) [A,B,C]:=fun i p=>by
 rcases(by simp at p;omega:i=0∨i=1∨i=2) with rfl | rfl | rfl
 ·exact⟨h,j,b,rfl,by show _=some (Value.slice j A.cs.length b);rw[<-e.1];exact cell_of_row _ _ 0 _ _ _ l,e.2.1,by show A.cs.length<=b;rw[<-e.1];exact e.2.2.1,e.2.2.2⟩
 ·exact⟨h,q1,c,rfl,by show _=some (Value.slice q1 B.cs.length c);rw[<-f.1];exact cell_of_row _ _ 1 _ _ _ l,f.2.1,by show B.cs.length<=c;rw[<-f.1];exact f.2.2.1,f.2.2.2⟩
 ·exact⟨h,k,d,rfl,by show _=some (Value.slice k C.cs.length d);rw[<-g.1];exact cell_of_row _ _ 2 _ _ _ l,g.2.1,by show C.cs.length<=d;rw[<-g.1];exact g.2.2.1,g.2.2.2⟩
theorem okTs2 {A B:Tr}(b:smallT A)(c:smallT B):okTs [A,B]:=fun i d=>by
 rcases(by simp at d;omega:i=0∨i=1) with rfl | rfl
 ·exact⟨b.1,b.valid,by have:=b.2.1;show A.cs.length<=2001;simp[Tr.cs];omega⟩
 ·exact⟨c.1,c.valid,by have:=c.2.1;show B.cs.length<=2001;simp[Tr.cs];omega⟩
theorem okTs3 {A B C:Tr}(b:smallT A)(c:smallT B)(d:smallT C):okTs [A,B,C]:=fun i e=>by
 rcases(by simp at e;omega:i=0∨i=1∨i=2) with rfl | rfl | rfl
 ·exact⟨b.1,b.valid,by have:=b.2.1;show A.cs.length<=2001;simp[Tr.cs];omega⟩
 ·exact⟨c.1,c.valid,by have:=c.2.1;show B.cs.length<=2001;simp[Tr.cs];omega⟩
 ·exact⟨d.1,d.valid,by have:=d.2.1;show C.cs.length<=2001;simp[Tr.cs];omega⟩
abbrev v450:Tr:=vrT 450
abbrev v451:Tr:=vrT 451
theorem v450_small:smallT v450:=vrT_small (by decide) (by decide)
theorem v451_small:smallT v451:=vrT_small (by decide) (by decide)
theorem byl {s:List Int}(h:s.all (fun x=>decide (0<=x/\x<256))=true):Byte s:=fun x b=>by
 have:=List.all_eq_true.1 h x b
 simpa using this
section
variable {w:World}{a a2:Addr}{mx:Int}(HE:FpEnv w a a2 mx)
include HE
theorem ef_copy {i f b g d:Nat}{h q1:Option Addr}{A:Tr}(e:smallT A)(o:w.heap[i]?=some (.cells #[.slice h f b,.slice q1 g d] 23))(k:TmC w h f b A.cs)(l:TmC w q1 g d v450.cs) :
  Calls Tryz.prog 6 #[.string (strOfNums nCopy),.slice (some ⟨i,0,none⟩) 2 2,.int .i64 0] w (EfO w (A.cs.map (renD 500 (visits [] A.cs)))):=
 effect_any nCopy 2 2 0 _ _ [(A.cs.map (renD 500 (visits [] A.cs)))] w a a2 (byl (by decide)) (by decide) (by simp) (by simp) HE.fe (fun W r q b p j n m c=>bu_copy m p j _ 2 450 500 A (by decide) (by decide) (by decide) (by decide) c ((args2 o k l).below n) (okTs2 e v450_small) e)
theorem ef_univC {k h b i g:Nat}{j q1:Option Addr}{A L:Tr}(p:smallT A)(r:smallT L)(o:A.1.1=3)(d:1<=(trs A.2).length)(e:(trs A.2).length<=1000)(c:L.fo=listT (((2,0,A.1.2.2),.nil) :: trs A.2))(t:w.heap[k]?=some (.cells #[.slice j h b,.slice q1 i g] 23))(m:TmC w j h b A.cs)(n:TmC w q1 i g v450.cs) :
  Calls Tryz.prog 6 #[.string (strOfNums nUniv),.slice (some ⟨k,0,none⟩) 2 2,.int .i64 0] w (EfO w L.cs):=
 effect_any nUniv 2 2 0 _ _ [L.cs] w a a2 (byl (by decide)) (by decide) (by simp) (by simp) HE.fe (fun W x v b u l s q f=>bu_univC q u l _ 2 450 500 A L (by decide) (by decide) (by decide) (by decide) f ((args2 t m n).below s) (okTs2 p v450_small) o d e c r)
theorem ef_univL {j g b h e:Nat}{i q1:Option Addr}{A L:Tr}(o:smallT A)(q:smallT L)(n:A.1.1=1∨A.1.1=2)(c:L.fo=listT [A])(r:w.heap[j]?=some (.cells #[.slice i g b,.slice q1 h e] 23))(l:TmC w i g b A.cs)(m:TmC w q1 h e v450.cs) :
  Calls Tryz.prog 6 #[.string (strOfNums nUniv),.slice (some ⟨j,0,none⟩) 2 2,.int .i64 0] w (EfO w L.cs):=
 effect_any nUniv 2 2 0 _ _ [L.cs] w a a2 (byl (by decide)) (by decide) (by simp) (by simp) HE.fe (fun W u t b s k f p d=>bu_univL p (HE.tp.below f) s k _ 2 450 500 A L (by decide) (by decide) (by decide) (by decide) d ((args2 r l m).below f) (okTs2 o v450_small) n c q)
theorem ef_univBC {o l b m i:Nat}{n q1:Option Addr}{A L:Tr}(c:smallT A)(t:smallT L)(j:A.1.1=3)(e:1<=A.2.count)(f:A.2.count<=20)(d:LsA L (((2,0,A.1.2.2),.nil) :: trs A.2))(v:w.heap[o]?=some (.cells #[.slice n l b,.slice q1 m i] 23))(q:TmC w n l b v450.cs)(r:TmC w q1 m i L.cs) :
  Calls Tryz.prog 6 #[.string (strOfNums nUniv),.slice (some ⟨o,0,none⟩) 2 2,.int .i64 0] w (EfO w A.cs):=
 effect_any nUniv 2 2 0 _ _ [A.cs] w a a2 (byl (by decide)) (by decide) (by simp) (by simp) HE.fe (fun W z y b x p u s g=>by
  have k:A.1=(3,(A.2.count:Int),A.1.2.2):=Prod.ext j (Prod.ext (c.1.2.2.1 j) rfl);have h:=bu_univBC s x p _ 2 450 500 L A.1.2.2 A.2 (by decide) (by decide) (by decide) (by decide) g ((args2 v q r).below u) (okTs2 v450_small t) d e f (by rw[<-k];exact c.1) c.2.1;rw[<-k] at h
  exact h)
theorem ef_univBL {j g b h e:Nat}{i q1:Option Addr}{A L:Tr}(o:smallT A)(q:smallT L)(n:A.1.1=1∨A.1.1=2)(c:LsA L [A])(r:w.heap[j]?=some (.cells #[.slice i g b,.slice q1 h e] 23))(l:TmC w i g b v450.cs)(m:TmC w q1 h e L.cs) :
  Calls Tryz.prog 6 #[.string (strOfNums nUniv),.slice (some ⟨j,0,none⟩) 2 2,.int .i64 0] w (EfO w A.cs):=
 effect_any nUniv 2 2 0 _ _ [A.cs] w a a2 (byl (by decide)) (by decide) (by simp) (by simp) HE.fe (fun W u t b s k f p d=>bu_univBL p (HE.tp.below f) s k _ 2 450 500 L A (by decide) (by decide) (by decide) (by decide) d ((args2 r l m).below f) (okTs2 v450_small q) c n o)
theorem ef_codesF {l i b j g:Nat}{k q1:Option Addr}{A L:Tr}(d:smallT A)(q:smallT L)(c:A.1.1=1∨A.1.1=2)(e:L.fo=listT ((txtT A).map cItT))(r:w.heap[l]?=some (.cells #[.slice k i b,.slice q1 j g] 23))(n:TmC w k i b A.cs)(o:TmC w q1 j g v450.cs) :
  Calls Tryz.prog 6 #[.string (strOfNums nCodes),.slice (some ⟨l,0,none⟩) 2 2,.int .i64 0] w (EfO w L.cs):=
 effect_any nCodes 2 2 0 _ _ [L.cs] w a a2 (byl (by decide)) (by decide) (by simp) (by simp) HE.fe (fun W u t b s m h p f=>bu_codesF p (HE.tp.below h) s m _ 2 450 500 A L (by decide) (by decide) (by decide) (by decide) f ((args2 r n o).below h) (okTs2 d v450_small) c (txtT_ok d c).1 (by have:=(txtT_ok d c).2;omega) e q)
theorem ef_codesB {j g b h f:Nat}{i q1:Option Addr}{L:Tr}{s:List Int}(o:smallT L)(c:LsA L (s.map cItT))(d:Byte s)(q:s.length<=100)(r:w.heap[j]?=some (.cells #[.slice i g b,.slice q1 h f] 23))(l:TmC w i g b v450.cs)(m:TmC w q1 h f L.cs) :
  Calls Tryz.prog 6 #[.string (strOfNums nCodes),.slice (some ⟨j,0,none⟩) 2 2,.int .i64 0] w (EfO w [(2,0,s)]):=
 effect_any nCodes 2 2 0 _ _ [[(2,0,s)]] w a a2 (byl (by decide)) (by decide) (by simp) (by simp) HE.fe (fun W v u b t k p n e=>bu_codesB n t k _ 2 450 500 L s (by decide) (by decide) (by decide) (by decide) e ((args2 r l m).below p) (okTs2 v450_small o) c d q)
theorem ef_charsF {l i b j g:Nat}{k q1:Option Addr}{A L:Tr}(d:smallT A)(q:smallT L)(c:A.1.1=1∨A.1.1=2)(e:L.fo=listT ((txtT A).map hItT))(r:w.heap[l]?=some (.cells #[.slice k i b,.slice q1 j g] 23))(n:TmC w k i b A.cs)(o:TmC w q1 j g v450.cs) :
  Calls Tryz.prog 6 #[.string (strOfNums nChars),.slice (some ⟨l,0,none⟩) 2 2,.int .i64 0] w (EfO w L.cs):=
 effect_any nChars 2 2 0 _ _ [L.cs] w a a2 (byl (by decide)) (by decide) (by simp) (by simp) HE.fe (fun W u t b s m h p f=>bu_charsF p (HE.tp.below h) s m _ 2 450 500 A L (by decide) (by decide) (by decide) (by decide) f ((args2 r n o).below h) (okTs2 d v450_small) c (txtT_ok d c).1 (by have:=(txtT_ok d c).2;omega) e q)
theorem ef_charsB {j g b h f:Nat}{i q1:Option Addr}{L:Tr}{s:List Int}(o:smallT L)(c:LsA L (s.map hItT))(d:Byte s)(q:s.length<=100)(r:w.heap[j]?=some (.cells #[.slice i g b,.slice q1 h f] 23))(l:TmC w i g b v450.cs)(m:TmC w q1 h f L.cs) :
  Calls Tryz.prog 6 #[.string (strOfNums nChars),.slice (some ⟨j,0,none⟩) 2 2,.int .i64 0] w (EfO w [(2,0,s)]):=
 effect_any nChars 2 2 0 _ _ [[(2,0,s)]] w a a2 (byl (by decide)) (by decide) (by simp) (by simp) HE.fe (fun W v u b t k p n e=>bu_charsB n t k _ 2 450 500 L s (by decide) (by decide) (by decide) (by decide) e ((args2 r l m).below p) (okTs2 v450_small o) c d q)
theorem ef_numB {j g b h e:Nat}{i q1:Option Addr}{L:Tr}{v:Int}(o:smallT L)(c:LsA L ((decW v).map cItT))(q:InB v)(p:w.heap[j]?=some (.cells #[.slice i g b,.slice q1 h e] 23))(l:TmC w i g b v450.cs)(m:TmC w q1 h e L.cs) :
  Calls Tryz.prog 6 #[.string (strOfNums nNum),.slice (some ⟨j,0,none⟩) 2 2,.int .i64 0] w (EfO w [(1,v,[])]):=
 effect_any nNum 2 2 0 _ _ [[(1,v,[])]] w a a2 (byl (by decide)) (by decide) (by simp) (by simp) HE.fe (fun W t s b r k f n d=>bu_numB n mx (HE.lx.below f) r k _ 2 450 500 v L (by decide) (by decide) (by decide) (by decide) d ((args2 p l m).below f) (okTs2 v450_small o) c q)
theorem ef_funC0 {l g b h e i f:Nat}{j q1 k:Option Addr}{A:Tr}(c:smallT A)(q:A.1.1=3)(t:(trs A.2).length<=100000)(u:w.heap[l]?=some (.cells #[.slice j g b,.slice q1 h e,.slice k i f] 23))(n:TmC w j g b A.cs)(o:TmC w q1 h e v450.cs)(p:TmC w k i f v451.cs) :
  Calls Tryz.prog 6 #[.string (strOfNums nFun),.slice (some ⟨l,0,none⟩) 3 3,.int .i64 0] w (EfO w [(2,0,A.1.2.2)]):=
 effect_any nFun 3 3 0 _ _ [[(2,0,A.1.2.2)],[(1,((trs A.2).length:Int),[])]] w a a2 (byl (by decide)) (by decide) (by simp) (by simp) HE.fe (fun W y x b v m s r d=>bu_funC r v m _ 3 450 451 500 A (by decide) (by decide) (by decide) (by decide) (by decide) (by decide) d ((args3 u n o p).below s) (okTs3 c v450_small v451_small) q (c.2.2 A.1 (by simp[Tr.cs])) c.1.2.1 t)
theorem ef_funC1 {l g b h e i f:Nat}{j q1 k:Option Addr}{A:Tr}(c:smallT A)(q:A.1.1=3)(t:(trs A.2).length<=100000)(u:w.heap[l]?=some (.cells #[.slice j g b,.slice q1 h e,.slice k i f] 23))(n:TmC w j g b A.cs)(o:TmC w q1 h e v450.cs)(p:TmC w k i f v451.cs) :
  Calls Tryz.prog 6 #[.string (strOfNums nFun),.slice (some ⟨l,0,none⟩) 3 3,.int .i64 1] w (EfO w [(1,((trs A.2).length:Int),[])]):=
 effect_any nFun 3 3 1 _ _ [[(2,0,A.1.2.2)],[(1,((trs A.2).length:Int),[])]] w a a2 (byl (by decide)) (by decide) (by simp) (by simp) HE.fe (fun W y x b v m s r d=>bu_funC r v m _ 3 450 451 500 A (by decide) (by decide) (by decide) (by decide) (by decide) (by decide) d ((args3 u n o p).below s) (okTs3 c v450_small v451_small) q (c.2.2 A.1 (by simp[Tr.cs])) c.1.2.1 t)
theorem ef_funL0 {l g b h d i e:Nat}{j q1 k:Option Addr}{A:Tr}(f:smallT A)(q:A.1.1=1∨A.1.1=2)(t:w.heap[l]?=some (.cells #[.slice j g b,.slice q1 h d,.slice k i e] 23))(n:TmC w j g b A.cs)(o:TmC w q1 h d v450.cs)(p:TmC w k i e v451.cs) :
  Calls Tryz.prog 6 #[.string (strOfNums nFun),.slice (some ⟨l,0,none⟩) 3 3,.int .i64 0] w (EfO w A.cs):=
 effect_any nFun 3 3 0 _ _ [A.cs,[(1,0,[])]] w a a2 (byl (by decide)) (by decide) (by simp) (by simp) HE.fe (fun W x v b u m s r c=>bu_funL r u m _ 3 450 451 500 A (by decide) (by decide) (by decide) (by decide) (by decide) (by decide) c ((args3 t n o p).below s) (okTs3 f v450_small v451_small) q f)
theorem ef_funL1 {l g b h d i e:Nat}{j q1 k:Option Addr}{A:Tr}(f:smallT A)(q:A.1.1=1∨A.1.1=2)(t:w.heap[l]?=some (.cells #[.slice j g b,.slice q1 h d,.slice k i e] 23))(n:TmC w j g b A.cs)(o:TmC w q1 h d v450.cs)(p:TmC w k i e v451.cs) :
  Calls Tryz.prog 6 #[.string (strOfNums nFun),.slice (some ⟨l,0,none⟩) 3 3,.int .i64 1] w (EfO w [(1,0,[])]):=
 effect_any nFun 3 3 1 _ _ [A.cs,[(1,0,[])]] w a a2 (byl (by decide)) (by decide) (by simp) (by simp) HE.fe (fun W x v b u m s r c=>bu_funL r u m _ 3 450 451 500 A (by decide) (by decide) (by decide) (by decide) (by decide) (by decide) c ((args3 t n o p).below s) (okTs3 f v450_small v451_small) q f)
theorem ef_arg {l f b g d h e:Nat}{i q1 k:Option Addr}{A x:Tr}{j:Nat}(r:smallT A)(q:A.1.1=3)(u:(trs A.2).length<=100000)(z:(trs A.2)[j]?=some x)(y:smallT x)(C:j<=1000)(v:w.heap[l]?=some (.cells #[.slice i f b,.slice q1 g d,.slice k h e] 23))(n:TmC w i f b (numT ((j:Int)+1)).cs)(o:TmC w q1 g d A.cs)(p:TmC w k h e v450.cs) :
  Calls Tryz.prog 6 #[.string (strOfNums nArg),.slice (some ⟨l,0,none⟩) 3 3,.int .i64 0] w (EfO w x.cs):=
 effect_any nArg 3 3 0 _ _ [x.cs] w a a2 (byl (by decide)) (by decide) (by simp) (by simp) HE.fe (fun W E D b B m t s c=>bu_arg s B m _ 3 450 500 j A x (by decide) (by decide) (by decide) (by decide) c ((args3 v n o p).below t) (okTs3 (numT_small ⟨by omega,by omega⟩) r v450_small) q u z y)
theorem ef_funV {p j c k g l h:Nat}{n q1 o:Option Addr}{s:List Int}{m:Nat}(d:1<=m)(e:m<=20)(b:Byte s)(i:s.length<=100)(y:w.heap[p]?=some (.cells #[.slice n j c,.slice q1 k g,.slice o l h] 23))(r:TmC w n j c v450.cs)(t:TmC w q1 k g (atT s).cs)(u:TmC w o l h (numT m).cs) :
  Calls Tryz.prog 6 #[.string (strOfNums nFun),.slice (some ⟨p,0,none⟩) 3 3,.int .i64 0] w (EfO w (fvT s 500 m).cs):=
 effect_any nFun 3 3 0 _ _ [(fvT s 500 m).cs] w a a2 (byl (by decide)) (by decide) (by simp) (by simp) HE.fe (fun W B A c z q x v f=>bu_funV v z q _ 3 450 500 s m (by decide) (by decide) d e (by decide) (by decide) f ((args3 y r t u).below x) (okTs3 v450_small (atT_small i b) (numT_small ⟨by omega,by omega⟩)) i b)
end
theorem TmC.at0 {w:World}{q:Option Addr}{m c:Nat}{X:List Cel}(h:TmC w q m c X)(d:0<X.length):∃ b o,q=some ⟨b,o,none⟩:=by
 obtain⟨b,o,e,_⟩:=h.2.1 d;exact⟨b,o,e⟩
theorem TmC.cells {w:World}{b o m c:Nat}{X:List Cel}(h:TmC w (some ⟨b,o,none⟩) m c X){j:Nat}(l:j<X.length):∃ q d,w.cell? ⟨b,o+j * 3,none⟩=some (.int .i64 (X.getD j Cel.none).1)/\w.cell? ⟨b,o+j * 3+1,none⟩=some (.int .i64 (X.getD j Cel.none).2.1)/\w.cell? ⟨b,o+j * 3+2,none⟩=some (.slice q (X.getD j Cel.none).2.2.length d):=by
 obtain⟨n,p,e,k⟩:=h.2.1 (by omega);simp only[Option.some.injEq,Addr.mk.injEq] at e;obtain⟨rfl,rfl,_⟩:=e;obtain⟨q,d,f,g,i,_⟩:=k j l;exact⟨q,d,f,g,i⟩
theorem TmC.varAt {w:World}{b o m c:Nat}{A:Tr}(h:TmC w (some ⟨b,o,none⟩) m c A.cs){j:Nat}(i:j<m)(k:∀ x ∈ A.cs,x.1=0->x.2.1<400) :
  w.cell? ⟨b,o+j * 3,none⟩=some (.int .i64 (A.cs.getD j Cel.none).1)/\w.cell? ⟨b,o+j * 3+1,none⟩=some (.int .i64 (A.cs.getD j Cel.none).2.1)/\((A.cs.getD j Cel.none).1=0->(A.cs.getD j Cel.none).2.1<400):=by
 have e:j<A.cs.length:=by rw[<-h.1];exact i
 obtain⟨q,d,f,g,_⟩:=h.cells e;refine⟨f,g,k _ ?_⟩;rw[List.getD,List.getElem?_eq_getElem e];exact List.getElem_mem e
theorem TmC.kind {w:World}{b o m c:Nat}{A:Tr}(h:TmC w (some ⟨b,o,none⟩) m c A.cs):w.cell? ⟨b,o,none⟩=some (.int .i64 A.1.1):=by
 obtain⟨q,d,e,_,_⟩:=h.cells (j:=0) (by simp[Tr.cs])
 simpa [Tr.cs] using e
theorem TmC.text {w:World}{b o m c:Nat}{A:Tr}(h:TmC w (some ⟨b,o,none⟩) m c A.cs):∃ q d,w.cell? ⟨b,o+2,none⟩=some (.slice q A.1.2.2.length d):=by
 obtain⟨q,d,_,_,e⟩:=h.cells (j:=0) (by simp[Tr.cs]);exact⟨q,d,by simpa [Tr.cs] using e⟩
theorem TmC.numb {w:World}{b o m c:Nat}{v:Int}(h:TmC w (some ⟨b,o,none⟩) m c [(1,v,[])]):w.cell? ⟨b,o+1,none⟩=some (.int .i64 v):=by
 obtain⟨q,d,_,e,_⟩:=h.cells (j:=0) (by simp)
 simpa using e
theorem CapCC.part {w:World}{b o:Nat}{d:List (List Cel)}(h:CapCC w (some ⟨b,o,none⟩) d){i:Nat}(l:i<d.length):∃ q c,w.cell? ⟨b,o+i,none⟩=some (.slice q (d.getD i []).length c)/\TmC w q (d.getD i []).length c (d.getD i []):=by
 obtain⟨m,n,e,k⟩:=h (by omega);simp only[Option.some.injEq,Addr.mk.injEq] at e;obtain⟨rfl,rfl,_⟩:=e;obtain⟨q,c,f,g,j⟩:=k i l;exact⟨q,c,f,rfl,g,j⟩
theorem drawFp {w:World}{p:Option Addr}{b n:Nat}{g:List Int}{T:List Cel}(d:CodeIn w p b n g)(i:dvF (g.take 500)=T) :
  Calls Tryz.prog 4 #[.slice p n b] w fun e f=>∃ q m c,e = .returned (.slice q m c)/\TmC f q m c T/\Below w.heap.size w f:=by
 rw[d.len]
 refine(drawV_any p b g w d.byt d.small d.room d.bin).mono fun e f h=>?_
 rw[i] at h;obtain⟨q,m,c,rfl,k,j⟩:=h;exact⟨q,m,c,rfl,k.tmc,j⟩
theorem smallT.len {A:Tr}(h:smallT A):A.cs.length<=2000:=by have:=h.2.1;simp[Tr.cs];omega
theorem validFp {A:Tr}(b:smallT A){w:World}{q:Option Addr}{m c:Nat}(h:TmC w q m c A.cs):Calls Tryz.prog 5 #[.slice q m c] w fun e d=>e = .returned (.bool true)/\Below w.heap.size w d:=by
 have:=validV_any (by have:=b.len;omega) h
 rwa[b.valid] at this
theorem smallT.byte {A:Tr}(h:smallT A):∀ c ∈ A.cs,Byte c.2.2:=tr_byte (t:=A) h.1
theorem variantFp {A:Tr}(b:smallT A){w:World}{q i:Option Addr}{m c j d:Nat}(f:TmC w q m c (A.cs.map (renD 500 (visits [] A.cs))))(g:TmC w i j d A.cs) :
  Calls Tryz.prog 8 #[.slice q m c,.slice i j d] w fun e k=>e = .returned (.bool true)/\Below w.heap.size w k:=by
 have l:=b.len;have h:=implVariantC_any (A.cs.map (renD 500 (visits [] A.cs))) A.cs q i c d f.room g.room w (byteC_get (by rw[<-cpT_cs];exact(cpT_small (by decide) (by decide) b).byte)) (byteC_get b.byte) (by simp;omega) (by omega) f.2.1 g.2.1;rw[copy_variant (by decide) (by decide) b,<-f.1,<-g.1] at h;exact h
theorem sameT_of {X:List Cel}(d:X.length+tl X<=1000000000){w:World}{q g:Option Addr}{m c f b:Nat}(i:TmC w q m c X)(j:TmC w g f b X) :
  Calls Tryz.prog 9 #[.slice q m c,.slice g f b] w fun e k=>e = .returned (.bool true)/\Below w.heap.size w k:=by
 have h:=sameV_any d d i j
 rwa[decide_eq_true rfl] at h
theorem sameFp {A:Tr}(d:smallT A){w:World}{q g:Option Addr}{m c f b:Nat}(i:TmC w q m c A.cs)(j:TmC w g f b A.cs) :
  Calls Tryz.prog 9 #[.slice q m c,.slice g f b] w fun e k=>e = .returned (.bool true)/\Below w.heap.size w k:=
 sameT_of (by have h:=tl_okO (t:=A) d.1;have:=d.len;have e:A.cs=itC A:=rfl;rw[e] at this ⊢;omega) i j
theorem subsFp {X Y:List Cel}(i:SubsIs X Y true){w:World}{q g:Option Addr}{m c j f:Nat}(b:TmC w q m c X)(d:TmC w g j f Y) :
  Calls Tryz.prog 14 #[.slice q m c,.slice g j f] w fun e k=>e = .returned (.bool true)/\Below w.heap.size w k:=by
 have l:X.length<=2000/\Y.length<=2000:=by
  rcases i with ⟨_,_,_,_,_,_,_,_,_,_,b,d,_⟩ | ⟨_,h⟩
  ·exact⟨b,d⟩
  ·cases h
 have h:=implSubsC_any X Y true q g c f b.room d.room w i (by omega) (by omega) b.2.1 d.2.1;rw[<-b.1,<-d.1] at h;exact h
theorem arityFp {A:Tr}(c:smallT A)(b:A.1.1=3):1<=A.2.count/\A.2.count<=20:=by
 have h:=c.1.1;have d:=c.1.2.2.1 b;rw[b] at h;simp only[cellB,decide_eq_true_eq] at h
 omega
theorem le_sumT:∀ (l:List Tr) (x:Tr),x ∈ l->x.cs.length<=(l.map fun x:Tr=>x.cs.length).sum
 | [],x,h=>by simp at h
 | y :: r,x,h=>by
   simp only[List.map_cons,List.sum_cons]
   rcases List.mem_cons.1 h with rfl | h
   ·omega
   ·have:=le_sumT r x h;omega
theorem partFp {A x:Tr}{i:Nat}(b:smallT A)(d:A.1.1=3)(f:(trs A.2)[i]?=some x):smallT x:=by
 have c:x ∈ trs A.2:=List.mem_of_getElem? f;have e:=trsP_ok A.2 b.1.2.2.2.2.1 x c;refine smallT.of e ?_;have g:=trs_sum A.2;have h:x.cs.length<=((trs A.2).map fun x:Tr=>x.cs.length).sum:=le_sumT (trs A.2) x c;have d:=b.2.1
 have j:x.cs.length=x.2.cells.length+1:=by simp[Tr.cs]
 omega
theorem numFp {A:Tr}(c:A.fo.ok)(h:A.1.1=1):InB A.1.2.1:=by
 have b:=c.1;rw[h] at b;simp only[cellB,decide_eq_true_eq] at b;exact⟨by omega,by omega⟩
theorem leafTxt {A:Tr}(c:A.fo.ok)(h:A.1.1=1):A.1.2.2.length=0:=by
 have b:=c.1;rw[h] at b;simp only[cellB,decide_eq_true_eq] at b
 omega
theorem cellNum {A:Tr}(b:A.fo.ok)(h:A.1.1=1):A.cs = [(1,A.1.2.1,[])]:=by
 have c:=leafTxt b h;rw[(leafK b (.inl h)).2]
 congr 1
 exact Prod.ext h (Prod.ext rfl (List.eq_nil_of_length_eq_zero c))
theorem cellAtom {A:Tr}(c:A.fo.ok)(h:A.1.1=2):A.cs = [(2,0,A.1.2.2)]:=by
 have b:=c.1;rw[h] at b;simp only[cellB,decide_eq_true_eq] at b;rw[(leafK c (.inr h)).2]
 congr 1
 exact Prod.ext h (Prod.ext (by show A.1.2.1=0;omega) rfl)
theorem s_copy:strOfNums nCopy=⟨#[99,111,112,121,95,116,101,114,109]⟩:=rfl
theorem s_univ:strOfNums nUniv=⟨#[61,46,46]⟩:=rfl
theorem s_fun:strOfNums nFun=⟨#[102,117,110,99,116,111,114]⟩:=rfl
theorem s_arg:strOfNums nArg=⟨#[97,114,103]⟩:=rfl
theorem s_codes:strOfNums nCodes=⟨#[97,116,111,109,95,99,111,100,101,115]⟩:=rfl
theorem s_chars:strOfNums nChars=⟨#[97,116,111,109,95,99,104,97,114,115]⟩:=rfl
theorem s_num:strOfNums nNum=⟨#[110,117,109,98,101,114,95,99,111,100,101,115]⟩:=rfl
end Go.Proofs.YtnfnddnffoigfaaGreatDoor
