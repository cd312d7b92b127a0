/- Texts of FpE, FpM, FpF, FpC. Own work of the verifier. -/
import Derived.Test.YtnfnddnffoigfaaGreatDoorUqaq
import Derived.Test.YtnfnddnffoigfaaGreatDoorUqao
namespace Go.Proofs.YtnfnddnffoigfaaGreatDoor
set_option maxHeartbeats 4000000
set_option linter.unusedVariables false
set_option linter.unusedSimpArgs false
set_option maxRecDepth 100000
section
open Go Go.RowKit
theorem beyond_pair2 (A B C D:Tr)(G:smallT A)(H:smallT B)(I:smallT C)(J:smallT D)(g:Nat)(n tb o p:TypeId)(a b c d:Value)(w:World)(y:w.cell? ⟨g,0,none⟩=some (.iface n a))(z:w.cell? ⟨g,1,none⟩=some (.iface tb b))(E:w.cell? ⟨g,2,none⟩=some (.iface o c))(F:w.cell? ⟨g,3,none⟩=some (.iface p d))
  (s:FoIn w 0 A.fo [.iface n a]) (t:FoIn w 0 B.fo [.iface tb b]) (u:FoIn w 0 C.fo [.iface o c]) (v:FoIn w 0 D.fo [.iface p d]) :
  Calls Tryz.prog 93 #[efV3 (some ⟨g,0,none⟩) 2 2] w fun e x=>e = .returned (.bool false)/\Below w.heap.size w x:=
 beyond_no _ _ _ w (fun W k=>(terms_pair2 g n tb o p a b c d W ((k.cell (World.block_lt_of_cell? _ _ y)).trans y) ((k.cell (World.block_lt_of_cell? _ _ z)).trans z) ((k.cell (World.block_lt_of_cell? _ _ E)).trans E) ((k.cell (World.block_lt_of_cell? _ _ F)).trans F)).mono fun e x h=>by
  obtain⟨m,q,r,K,L,M,N,l⟩:=h;refine⟨_,4,q,r,by decide,fun i O=>?_,l⟩;have f:Below w.heap.size w x:=Below.on k l
  rcases(by omega:i=0∨i=1∨i=2∨i=3) with rfl | rfl | rfl | rfl
  ·exact⟨m,n,a,rfl,K,fun V j=>G.no (s.below (Below.on f j))⟩
  ·exact⟨m,tb,b,rfl,L,fun V j=>H.no (t.below (Below.on f j))⟩
  ·exact⟨m,o,c,rfl,M,fun V j=>I.no (u.below (Below.on f j))⟩
  ·exact⟨m,p,d,rfl,N,fun V j=>J.no (v.below (Below.on f j))⟩) rfl rfl rfl
def TwoX (A B C D:Tr)(g:Nat)(W:World):Prop:=∃ t x u y p z q v,W.cell? ⟨g,0,none⟩=some (.iface t x)/\W.cell? ⟨g,1,none⟩=some (.iface u y)/\W.cell? ⟨g,2,none⟩=some (.iface p z)/\W.cell? ⟨g,3,none⟩=some (.iface q v)/\FoIn W 0 A.fo [.iface t x]/\FoIn W 0 B.fo [.iface u y]/\FoIn W 0 C.fo [.iface p z]/\FoIn W 0 D.fo [.iface q v]
theorem TwoX.below {A B C D:Tr}{g:Nat}{W b:World}(h:TwoX A B C D g W)(a:Below W.heap.size W b):TwoX A B C D g b:=by
 obtain⟨t,x,u,y,p,z,q,v,c,d,e,f,i,j,k,l⟩:=h;exact⟨t,x,u,y,p,z,q,v,(a.cell (World.block_lt_of_cell? _ _ c)).trans c,(a.cell (World.block_lt_of_cell? _ _ d)).trans d,(a.cell (World.block_lt_of_cell? _ _ e)).trans e,(a.cell (World.block_lt_of_cell? _ _ f)).trans f,i.below a,j.below a,k.below a,l.below a⟩
theorem TwoX.keepE {A B C D:Tr}{g:Nat}{W b:World}(h:TwoX A B C D g W)(a:KeepE W b):TwoX A B C D g b:=by
 obtain⟨t,x,u,y,p,z,q,v,c,d,e,f,i,j,k,l⟩:=h;exact⟨t,x,u,y,p,z,q,v,a.2 _ _ _ c (by simp) (by simp),a.2 _ _ _ d (by simp) (by simp),a.2 _ _ _ e (by simp) (by simp),a.2 _ _ _ f (by simp) (by simp),FoIn.keepE a _ _ i,FoIn.keepE a _ _ j,FoIn.keepE a _ _ k,FoIn.keepE a _ _ l⟩
def TwoE (A B C D:Tr)(w:World)(e:Ending)(w':World):Prop:=∃ g,e = .returned (.tuple #[efV3 (some ⟨g,0,none⟩) 2 2,.nilIface])/\TwoX A B C D g w'/\Below w.heap.size w w'
def XW (A B C D:Tr):Value->Value->Value->World->Prop:=fun x0 x1 x2 W=>∃ g,x0 = .slice (some ⟨g,0,none⟩) 2 2/\x1 = .nilIface/\x2 = .slice none 0 0/\TwoX A B C D g W
theorem bu_two (K:Nat){w:World}{a a2:Addr}{G:Option Addr}{F j:Nat}(H:BuW w a a2 G F j)(pn:Option Addr)(s:List Int)(ln cn:Nat)(pa:Option Addr)(f ca:Nat)(I:List Tr)(l:Int)(A B C D:Tr)
  (Z:ln=s.length) (h7:s.length<=255) (h5:BIn w pn s) (h4:f=I.length) (E:f<=8) (h6:okTs I) (Y:ArgsB w pa I) (S:0<=l) (X:l<=1000000) (hK:buTab (strOfNums s,(f:Int))=some K)
  (hE:∀ (j c1 c2:Value) (W:World),(callFunc K #[.agg #[j,c1,c2]]).run Tryz.prog W = .ok (.enter K #[.agg #[j,c1,c2]]) W) (hk:okN (strOfNums s,(f:Int))) (N:smallT A) (O:smallT B) (P:smallT C) (Q:smallT D)
  (HM:∀ V p c,Below w.heap.size w V->ArgT V p I->Calls Tryz.prog K #[.agg #[.slice G F j,.slice p f c,.int .i64 l]] V (TwoE A B C D V)) :
  Calls Tryz.prog 12 #[.slice G F j,.slice pn ln cn,.slice pa f ca,.int .i64 l] w (BuOk w 0 [A.cs,C.cs] [B.cs,D.cs]):=by
 refine(builtin_by K G F j pn s ln cn pa f ca I l 0 (XW A B C D) (YL [A.cs,C.cs] [B.cs,D.cs]) w Z h7 h5 h4 E h6 Y S X hK H.ops ?_ ?_ ?_ (fun v0 v1 v2 v3 W T a b c d=>YL.set v0 v1 v2 v3 W T a b c d)).mono fun e w' h=>YL.o h
 ·intro W b p c R hM hT
  have HW:=H.below R
  refine(run_holdsE K b 92 (strOfNums s) f buTab (.slice G F j) (.slice p f c) (.int .i64 l) a a2 (fun q n' J V=>n'=2/\J=2/\∃ g,q=some ⟨g,0,none⟩/\TwoX A B C D g V) W hM hk hK rfl rfl rfl HW.fl HW.by' (fun q n' J V h=>?_) (fun W=>hE _ _ _ W) (fun V hV=>?_)).mono fun e w' h=>?_
  ·obtain⟨rfl,rfl,g,rfl,t,x,u,y,p,z,q,v,L,m,n,M,k0,k1,k2,k3⟩:=h
   exact beyond_pair2 A B C D N O P Q g _ _ _ _ _ _ _ _ V L m n M k0 k1 k2 k3
  ·refine(HM V p c (Below.on R hV) (hT.below hV)).mono fun e w' h=>?_
   obtain⟨g,rfl,r,k⟩:=h;exact⟨_,2,2,rfl,k,fun U hU=>⟨rfl,rfl,g,rfl,r.keepE hU⟩⟩
  ·obtain⟨q,n',J,rfl,k,rfl,rfl,g,rfl,r⟩:=h
   exact⟨_,_,_,rfl,rfl,rfl,rfl,⟨g,rfl,rfl,rfl,r⟩,k⟩
 ·rintro x0 x1 x2 W W' ⟨g,rfl,rfl,rfl,r⟩ k
  exact⟨g,rfl,rfl,rfl,r.below k⟩
 ·rintro W x0 x1 x2 R ⟨g,rfl,rfl,rfl,t,x,u,y,p,z,q,v,L,m,n,M,k0,k1,k2,k3⟩
  refine(inCells_pairs (some ⟨g,0,none⟩) 2 2 none 0 0 [(A,B),(C,D)] W rfl (by decide) (fun t h=>?_) (fun i hi=>?_)).mono fun e w' h=>?_
  ·have:t=(A,B)∨t=(C,D):=by simpa using h
   rcases this with rfl | rfl
   ·exact⟨N.1,by have:=N.2.1;show A.2.cells.length<=10000;omega,O.1,by have:=O.2.1;show B.2.cells.length<=10000;omega⟩
   ·exact⟨P.1,by have:=P.2.1;show C.2.cells.length<=10000;omega,Q.1,by have:=Q.2.1;show D.2.cells.length<=10000;omega⟩
  ·have:i=0∨i=1:=by simp at hi;omega
   rcases this with rfl | rfl
   ·exact⟨g,_,_,rfl,L,m,k0,k1⟩
   ·exact⟨g,_,_,rfl,n,M,k2,k3⟩
  ·obtain⟨pl,cl,pr,cr,rfl,m,n,k⟩:=h
   exact⟨_,_,_,_,rfl,rfl,rfl,rfl,rfl,⟨_,pl,cl,pr,cr,rfl,rfl,rfl,rfl,m,n⟩,k⟩
theorem itsF_trsP:∀ F:Fo,itsF (trs F)=F
 | .nil=>rfl
 | .node c k r=>by show Fo.node c k (itsF (trs r))=_;rw[itsF_trsP r]
theorem FoIn.wr3 {w:World}{T B:Nat}{F:Fo}{a:List Value}(h:w.heap[T]?=some (Obj.cells #[Value.slice none 0 0,Value.nilIface,Value.slice none 0 0] 70))(x y z:Value)(c:FoIn w B F a):FoIn (wr3 w T x y z) B F a:=
 FoIn.keepE (keepE_of h h (by simp[Go.Proofs.YtnfnddnffoigfaaGreatDoor.wr3]) (fun k b _ _=>by
  have q:∀ (W:World) (i:Nat) (v:Value),(W.setCell ⟨T,i,none⟩ v).heap[k]?=W.heap[k]?:=fun W i v=>heap_setCell_other W ⟨T,i,none⟩ k v (fun e=>b (by simp at e;omega))
  exact(q _ _ _).trans ((q _ _ _).trans (q _ _ _)))) F a c
def PtO (w:World)(v1:Value)(T:Fo)(e:Ending)(w':World):Prop:=∃ t x,PairE w v1 (.iface t x) e w'/\FoIn w' 0 T [.iface t x]
theorem partsL_any (y:TypeId)(R:Value)(A:Tr)(z:TypeId)(B:Value)(g b on oc:Nat)(op:Option Addr)(fr:Int)(w:World)(L:FoIn w 0 A.fo [.iface y R])(h2:Two w g (.iface y R) (.iface z B))
  (n1:∀ (w:World) (x:Value),(Instr.typeAssert (.iface y x) 48 65 true).run Tryz.prog w = .ok (.tuple #[.int .i64 0,.bool false]) w) (n2:∀ (w:World) (x:Value),(Instr.typeAssert (.iface y x) 48 101 true).run Tryz.prog w = .ok (.tuple #[.pointer none,.bool false]) w) :
  Calls Tryz.prog 74 #[calV op on oc g b fr] w (PtO w (.iface z B) (listT [A])):=by
 obtain⟨C,H⟩:∃ C,C=w.alloc (Obj.cells #[.slice op on oc,.slice (some ⟨g,0,none⟩) 2 b,.int .i64 fr] 67):=⟨_,rfl⟩
 obtain⟨a,j⟩:∃ a,a=C.alloc (Obj.cells #[Value.slice none 0 0,Value.nilIface,Value.slice none 0 0] 70):=⟨_,rfl⟩
 have I:Below w.heap.size w C:=by rw[H];exact(Below.refl _ _).alloc (Nat.le_refl _) _
 have q:Below C.heap.size C a:=by rw[j];exact(Below.refl _ _).alloc (Nat.le_refl _) _
 have U:Below w.heap.size w a:=Below.on I q
 have N:C.heap.size=w.heap.size+1:=by rw[H];simp
 have V:a.cell? ⟨w.heap.size,1,none⟩=some (.slice (some ⟨g,0,none⟩) 2 b):=by
  rw[q.cell (p:=⟨w.heap.size,1,none⟩) (by show w.heap.size<_;omega),H,World.cell?,heap_alloc_new];rfl
 have HR:Hid (∀ W,Below a.heap.size a W->W.heap[w.heap.size+1]?=some (Obj.cells #[Value.slice none 0 0,Value.nilIface,Value.slice none 0 0] 70)):=fun W T=>by
  rw[T.block _ (by rw[j];simp;omega),j,<-N,heap_alloc_new]
 have tr:=h2.below U;have p0:=tr.at0
 have KS:Hid (∀ W,Below a.heap.size a W->W.cell? ⟨w.heap.size,1,none⟩=some (.slice (some ⟨g,0,none⟩) 2 b)/\W.cell? ⟨g,1,none⟩=some (.iface z B)):=fun W T=>⟨(T.cell (World.block_lt_of_cell? _ _ V)).trans V,(tr.below T).at1⟩
 have HB:=hid U
 have HS:Hid (a.heap.size=w.heap.size+2):=by show _=_;rw[j];simp;omega
 have h3:Hid (g<w.heap.size):=World.block_lt_of_cell? _ _ h2.at0;have h1:=hid (FoIn.below L U);rw[H] at j;clear H I q U N tr h2 L;have Q:=p0;have M:=V;rw[j] at Q M
 go_enter Tryz.func74,Tryz.ntmps74
 go_wp2_with fail;rw[<-j];clear Q M j p0
 obtain⟨E,S⟩:∃ E,E=a.alloc (Obj.cells #[.iface y R] 48):=⟨_,rfl⟩
 have r:Below a.heap.size a E:=by rw[S];exact(Below.refl _ _).alloc (Nat.le_refl _) _
 have k:E.cell? ⟨a.heap.size,0,none⟩=some (.iface y R):=by rw[S];exact cell_of_row _ _ 0 _ _ _ (heap_alloc_new _ _)
 rw[<-S];have Y:=hid r;have F:=hid (below_drewN r 1);have G:=listOfU_any [A] [.iface y R] a.heap.size 1 1 0 (E.drewN 1) rfl (by decide) (by decide) rfl (Nat.zero_le _) (fun i hi=>by rw[show i=0 by omega];exact k) (h1.o.below F.o);clear r k V S n1 n2;rw[show a.heap.size=w.heap.size+1+1 from HS.o] at G;have h4:=KS.o E Y.o;have hS:=h4;have l:True:=trivial;have m:True:=trivial
 go_region_held3 (fun W=>W.cell? ⟨w.heap.size,1,none⟩=some (.slice (some ⟨g,0,none⟩) 2 b)/\W.cell? ⟨g,1,none⟩=some (.iface z B)) (first | exact P | exact h | exact O | exact hS | go_keep)
  (first
    | (have _t:=l;go_at_call 126;refine Calls.mono G ?_;rintro e w6 ⟨t6,x6,rfl,K,J⟩;have n:=hid (Below.on F.o J);have O:=KS.o w6 n.o;have Z:Hid _:=K;have HU:=unifying_ok z t6 B x6 w6;clear K J l)
    | (have _t:=m;go_at_call 112;refine Calls.mono HU ?_;rintro e D ⟨f,rfl,t,c0,c1,s⟩;have c:=hid (Below.on n.o s);have h:=KS.o D c.o;have P:(wr3 D (w.heap.size+1) (.slice (some ⟨f,0,none⟩) 1 1) .nilIface (.slice none 0 0)).cell? ⟨w.heap.size,1,none⟩=some (.slice (some ⟨g,0,none⟩) 2 b)/\(wr3 D (w.heap.size+1) (.slice (some ⟨f,0,none⟩) 1 1) .nilIface (.slice none 0 0)).cell? ⟨g,1,none⟩=some (.iface z B):=⟨(wr3_ne (by show w.heap.size≠_;omega)).trans h.1,(wr3_ne (by have:=h3.o;show g≠_;omega)).trans h.2⟩;have d:Hid _:=And.intro t (And.intro c0 (And.intro c1 s));obtain⟨b0,b1,b2,b3⟩:=Box3.of_block (HR.o D c.o);clear t c0 c1 s m))
 rename_i u
 clear u;have HX:=Box3.of_block (HR.o D c.o);have HP:Hid _:=wr3_box HX (.slice (some ⟨f,0,none⟩) 1 1) .nilIface (.slice none 0 0)
 have X:Hid (PtO w (.iface z B) (listT [A]) (.returned (.tuple #[.agg #[.slice (some ⟨f,0,none⟩) 1 1,.nilIface,.slice none 0 0],.nilIface])) (wr3 D (w.heap.size+1) (.slice (some ⟨f,0,none⟩) 1 1) .nilIface (.slice none 0 0))):=by
  have h6:=n.o.size;have h5:=HS.o;have t:=d.o.1;refine⟨t6,x6,⟨f,rfl,by omega,(wr3_ne (by show f≠_;omega)).trans d.o.2.1,(wr3_ne (by show f≠_;omega)).trans d.o.2.2.1,wr3_below (Below.on HB.o c.o) (Nat.le_succ _)⟩,?_⟩;exact FoIn.wr3 (HR.o D c.o) _ _ _ (FoIn.below Z.o d.o.2.2.2)
 clear O h P hS HX
 go_wp2
 obtain⟨d0,d1,d2,_⟩:=HP.o;exact bodyPost_ret (v:=.tuple #[.agg #[.slice (some ⟨f,0,none⟩) 1 1,.nilIface,.slice none 0 0],.nilIface]) (by simp[results,Tryz.results74,go_sem,d0,d1,d2]) rfl X.o
theorem partsC_any (b q m:Nat)(s:List Int)(k:Fo)(D:List Value)(Y:TypeId)(Z:Value)(g f on oc:Nat)(op:Option Addr)(fr:Int)(w:World)(h2:Two w g (.iface 101 (.pointer (some ⟨b,0,none⟩))) (.iface Y Z))
  (hn:w.cell? ⟨b,0,none⟩=some (.string (strOfNums s))) (d:w.cell? ⟨b,1,none⟩=some (.slice (some ⟨q,0,none⟩) m m)) (r:∀ i,i<m->w.cell? ⟨q,i,none⟩=some (D.getD i .nilIface)) (k3:D.length=m) (e5:1<=m) (e6:m<=1000) (h7:FoIn w 0 k D) :
  Calls Tryz.prog 74 #[calV op on oc g f fr] w (PtO w (.iface Y Z) (listT (((2,0,s),.nil) :: trs k))):=by
 obtain⟨w1,e1⟩:∃ w1,w1=w.alloc (Obj.cells #[.slice op on oc,.slice (some ⟨g,0,none⟩) 2 f,.int .i64 fr] 67):=⟨_,rfl⟩
 obtain⟨a,G⟩:∃ a,a=w1.alloc (Obj.cells #[Value.slice none 0 0,Value.nilIface,Value.slice none 0 0] 70):=⟨_,rfl⟩
 have h4:Below w.heap.size w w1:=by rw[e1];exact(Below.refl _ _).alloc (Nat.le_refl _) _
 have R:Below w1.heap.size w1 a:=by rw[G];exact(Below.refl _ _).alloc (Nat.le_refl _) _
 have Q:Below w.heap.size w a:=Below.on h4 R
 have k2:w1.heap.size=w.heap.size+1:=by rw[e1];simp
 have hq:a.cell? ⟨w.heap.size,1,none⟩=some (.slice (some ⟨g,0,none⟩) 2 f):=by
  rw[R.cell (p:=⟨w.heap.size,1,none⟩) (by show w.heap.size<_;omega),e1,World.cell?,heap_alloc_new];rfl
 have HR:Hid (∀ W,Below a.heap.size a W->W.heap[w.heap.size+1]?=some (Obj.cells #[Value.slice none 0 0,Value.nilIface,Value.slice none 0 0] 70)):=fun W O=>by
  rw[O.block _ (by rw[G];simp;omega),G,<-k2,heap_alloc_new]
 have tr:=h2.below Q;have p0:=tr.at0
 have KS:Hid (∀ W,Below a.heap.size a W->W.cell? ⟨w.heap.size,1,none⟩=some (.slice (some ⟨g,0,none⟩) 2 f)/\W.cell? ⟨g,1,none⟩=some (.iface Y Z)):=fun W O=>⟨(O.cell (World.block_lt_of_cell? _ _ hq)).trans hq,(tr.below O).at1⟩
 have HB:=hid Q
 have HS:Hid (a.heap.size=w.heap.size+2):=by show _=_;rw[G];simp;omega
 have x1:Hid (g<w.heap.size):=World.block_lt_of_cell? _ _ h2.at0
 obtain⟨z,M⟩:∃ z,z=strOfNums s:=⟨_,rfl⟩
 have x3:=hid M;rw[<-M] at hn;have pn:=(Q.cell (World.block_lt_of_cell? _ _ hn)).trans hn;have pc:=(Q.cell (World.block_lt_of_cell? _ _ d)).trans d
 have KC:Hid (∀ W,Below a.heap.size a W->W.cell? ⟨b,0,none⟩=some (.string z)/\W.cell? ⟨b,1,none⟩=some (.slice (some ⟨q,0,none⟩) m m)):=fun W O=>⟨(O.cell (World.block_lt_of_cell? _ _ pn)).trans pn,(O.cell (World.block_lt_of_cell? _ _ pc)).trans pc⟩
 have F:Hid (∀ i,i<m->a.cell? ⟨q,i,none⟩=some (D.getD i .nilIface)):=fun i hi=>(Q.cell (World.block_lt_of_cell? _ _ (r i hi))).trans (r i hi)
 have y:Hid (D.length=m/\1<=m/\m<=1000):=⟨k3,e5,e6⟩
 have L:=hid (FoIn.below h7 Q);rw[e1] at G;clear e1 h4 R Q k2 tr h2 h7 r k3 e5 e6 hn d M;have n1:=noVar_comp;have n2:=isComp;have k6:=p0;have e9:=hq;rw[G] at k6 e9
 go_enter Tryz.func74,Tryz.ntmps74
 go_wp2_with fail;rw[<-G];clear k6 e9 G p0 hq pn pc;refine wp_region_held_drew (S:=fun W=>W.cell? ⟨b,0,none⟩=some (.string z)/\W.cell? ⟨b,1,none⟩=some (.slice (some ⟨q,0,none⟩) m m)) (by kernel_rfl) ?_ (fun x4=>?_)
 ·exact KC.o _ (Below.refl _ _).drew
 refine hTq 0 (.pointer (some ⟨b,0,none⟩)) 37 ?_
 simp only[Act.put,zzA,zzB,zzC];refine hTq 1 (.pointer (some ⟨b,0,none⟩)) 38 ?_
 simp only[Act.put,zzA,zzB,zzC];refine hTq 2 (.pointer (some ⟨b,0,none⟩)) 39 ?_
 simp only[Act.put,zzA,zzB,zzC];refine hTr 3 (.string z) 40 (fun o X W N=>?y3) ?_
 case y3=>cases X;obtain⟨s0,s1⟩:=N;simp[execOp,go_sem,Act.eval,s0]
 simp only[Act.put,zzA,zzB,zzC];refine hTq 4 (.iface 55 (.string z)) 41 ?_
 simp only[Act.put,zzA,zzB,zzC];refine hTq 6 (.pointer (some ⟨b,0,none⟩)) 43 ?_
 simp only[Act.put,zzA,zzB,zzC];refine hTq 7 (.pointer (some ⟨b,0,none⟩)) 44 ?_
 simp only[Act.put,zzA,zzB,zzC];refine hTq 8 (.pointer (some ⟨b,1,none⟩)) 45 ?_
 simp only[Act.put,zzA,zzB,zzC];refine hTr 9 (.slice (some ⟨q,0,none⟩) m m) 46 (fun o X W N=>?y8) ?_
 case y8=>cases X;obtain⟨s0,s1⟩:=N;simp[execOp,go_sem,Act.eval,s1]
 simp only[Act.put,zzA,zzB,zzC]
 obtain⟨J,e4⟩:∃ J,J=a.drew.alloc (Obj.cells #[.iface 55 (.string z)] 48):=⟨_,rfl⟩
 have c:Below a.heap.size a J:=by rw[e4];exact((Below.refl _ _).drew).alloc (Nat.le_refl _) _
 have e7:J.heap[a.heap.size]?=some (Obj.cells #[.iface 55 (.string z)] 48):=by rw[e4];exact heap_alloc_new _ _
 refine hStep (i:=5) (v:=.slice (some ⟨a.heap.size,0,none⟩) 1 1) (w':=J) (some 42) (by kernel_rfl) (by kernel_rfl) (by kernel_rfl) (fun o X=>?y9) (KC.o J c) ?_
 case y9=>
  cases X
  (rw[e4];simp[execOp,go_sem,Act.eval])
 simp only[Act.put,zzA,zzB,zzC];have x5:=KC.o J c;obtain⟨i0,hi,x7,x8,x9⟩:=info_parts infoTerm;obtain⟨g5,l,E,k1,e8,h8,h3,e3⟩:=run_append_lies (P:=Tryz.prog) J 52 52 a.heap.size 48 i0 .nilIface 1 16 Tryz.underlying52 hi x7 x8 x9 rfl (by decide) (.slice (some ⟨a.heap.size,0,none⟩) 1 1) 1 [.iface 55 (.string z)] ⟨rfl,.inr ⟨a.heap.size,1,_,rfl,Nat.le_refl _,e7,Nat.le_refl _,by decide,rfl,rfl⟩⟩
  ⟨q,0,none⟩ m m D (by rw[y.o.1];simp) (fun j u hj=>by
    have h9:j<D.length:=(List.getElem?_eq_some_iff.1 hj).1
    rw[Addr.add_lit,Nat.zero_add,(c.cell (World.block_lt_of_cell? _ _ (F.o j (by rw[<-y.o.1];exact h9)))).trans (F.o j (by rw[<-y.o.1];exact h9)),List.getD,hj];rfl) (fun u hu=>by obtain⟨j,hj,rfl⟩:=List.getElem_of_mem hu;obtain⟨t,x,e⟩:=L.o.ifs _ _ j hj;rw[List.getD,List.getElem?_eq_getElem hj] at e;simp only[Option.getD_some] at e;rw[e];rfl) (by have:=y.o.2.1;omega) (by have:=y.o.2.2;unfold maxLen;omega) (by have:=y.o.2.2;omega) c.size _ rfl
 have n:Below a.heap.size a E:=c.grown h8 c.size (fun k e=>by cases e;exact Nat.le_refl _);refine hStep (i:=10) (v:=.slice (some ⟨g5,0,none⟩) (1+m) l) (w':=E) (some 47) (by kernel_rfl) (by kernel_rfl) (by kernel_rfl) (fun o X=>?y10) (KC.o E n) ?_
 case y10=>
  cases X
  exact exec_appF rfl rfl rfl k1
 simp only[Act.put,zzA,zzB,zzC];have w9:=KC.o E n;refine hTq 11 (.slice (some ⟨g5,0,none⟩) (1+m) l) 4 ?_
 simp only[Act.put,zzA,zzB,zzC];refine wpAnyH_done (by kernel_rfl) ?_ _
 unfold Exit.inBlock
 change Exit.then _ _ _ _ E
 have k8:=hid n;have h1:=hid (below_drewN n 1)
 have x2:=listOfU_any (((2,0,s),.nil) :: trs k) ([.iface 55 (.string z)] ++ D) g5 (1+m) l 0 (E.drewN 1) (by have:=FoIn.count _ _ L.o;have:=trs_len k;have:=y.o.1;simp;omega) (by omega) (by have:=y.o.2.2;omega) (by have:=y.o.1;simp;omega) (Nat.zero_le _) (fun i hi=>by
  rw[show(E.drewN 1).cell? ⟨g5,i,none⟩=E.cell? ⟨g5,i,none⟩ from rfl,e8.cellAt i (by omega)]
  rw[List.getD,List.getElem?_eq_getElem (by have:=y.o.1;simp;omega)];rfl)
  ⟨_,D,rfl,.inr (.inr (.inl ⟨rfl,by rw[x3.o]⟩)),by rw[itsF_trsP];exact FoIn.below L.o h1.o⟩
 clear n e7 c x5 k1 e8 h8 h3 e3 e4;go_wp2_with fail;have w3:=KS.o E k8.o;have hS:=w3;have H:True:=trivial;have I:True:=trivial
 go_region_held3 (fun W=>W.cell? ⟨w.heap.size,1,none⟩=some (.slice (some ⟨g,0,none⟩) 2 f)/\W.cell? ⟨g,1,none⟩=some (.iface Y Z)) (first | exact k5 | exact C | exact k4 | exact hS | go_keep)
  (first
    | (have _t:=H;go_at_call 126;refine Calls.mono x2 ?_;rintro e w6 ⟨t6,x6,rfl,h6,h5⟩;have K:=hid (Below.on h1.o h5);have k4:=KS.o w6 K.o;have k9:Hid _:=h6;have HU:=unifying_ok Y t6 Z x6 w6;clear h6 h5 H)
    | (have _t:=I;go_at_call 112;refine Calls.mono HU ?_;rintro e w7 ⟨B,rfl,U,c0,c1,T⟩;have h:=hid (Below.on K.o T);have C:=KS.o w7 h.o;have k5:(wr3 w7 (w.heap.size+1) (.slice (some ⟨B,0,none⟩) 1 1) .nilIface (.slice none 0 0)).cell? ⟨w.heap.size,1,none⟩=some (.slice (some ⟨g,0,none⟩) 2 f)/\(wr3 w7 (w.heap.size+1) (.slice (some ⟨B,0,none⟩) 1 1) .nilIface (.slice none 0 0)).cell? ⟨g,1,none⟩=some (.iface Y Z):=⟨(wr3_ne (by show w.heap.size≠_;omega)).trans C.1,(wr3_ne (by have:=x1.o;show g≠_;omega)).trans C.2⟩;have A:Hid _:=And.intro U (And.intro c0 (And.intro c1 T));obtain⟨b0,b1,b2,b3⟩:=Box3.of_block (HR.o w7 h.o);clear U c0 c1 T I))
 rename_i V
 clear V;have HX:=Box3.of_block (HR.o w7 h.o);have HP:Hid _:=wr3_box HX (.slice (some ⟨B,0,none⟩) 1 1) .nilIface (.slice none 0 0)
 have k7:Hid (PtO w (.iface Y Z) (listT (((2,0,s),.nil) :: trs k)) (.returned (.tuple #[.agg #[.slice (some ⟨B,0,none⟩) 1 1,.nilIface,.slice none 0 0],.nilIface])) (wr3 w7 (w.heap.size+1) (.slice (some ⟨B,0,none⟩) 1 1) .nilIface (.slice none 0 0))):=by
  have b4:=K.o.size;have w8:=HS.o;have U:=A.o.1;refine⟨t6,x6,⟨B,rfl,by omega,(wr3_ne (by show B≠_;omega)).trans A.o.2.1,(wr3_ne (by show B≠_;omega)).trans A.o.2.2.1,wr3_below (Below.on HB.o h.o) (Nat.le_succ _)⟩,?_⟩;exact FoIn.wr3 (HR.o w7 h.o) _ _ _ (FoIn.below k9.o A.o.2.2.2)
 clear k4 C k5 hS HX
 go_wp2
 obtain⟨d0,d1,d2,_⟩:=HP.o;exact bodyPost_ret (v:=.tuple #[.agg #[.slice (some ⟨B,0,none⟩) 1 1,.nilIface,.slice none 0 0],.nilIface]) (by simp[results,Tryz.results74,go_sem,d0,d1,d2]) rfl k7.o
def PairE2 (w:World)(v0 v1 v2 v3:Value)(e:Ending)(w':World):Prop:=∃ g,e = .returned (.tuple #[.agg #[.slice (some ⟨g,0,none⟩) 2 2,.nilIface,.slice none 0 0],.nilIface])/\w.heap.size<=g/\w'.cell? ⟨g,0,none⟩=some v0/\w'.cell? ⟨g,1,none⟩=some v1/\w'.cell? ⟨g,2,none⟩=some v2/\w'.cell? ⟨g,3,none⟩=some v3/\Below w.heap.size w w'
theorem functorC_any (b q m:Nat)(x:ByteArray)(r s:TypeId)(t u:Value)(g c on oc:Nat)(op:Option Addr)(fr:Int)(w:World)(h3:Thr w g (.iface 101 (.pointer (some ⟨b,0,none⟩))) (.iface r t) (.iface s u))
  (hn:w.cell? ⟨b,0,none⟩=some (.string x)) (e:w.cell? ⟨b,1,none⟩=some (.slice (some ⟨q,0,none⟩) m m)) :
  Calls Tryz.prog 72 #[calV3 op on oc g c fr] w (PairE2 w (.iface r t) (.iface 55 (.string x)) (.iface s u) (.iface 146 (.int .i64 m))):=by
 obtain⟨D,G⟩:∃ D,D=w.alloc (Obj.cells #[.slice op on oc,.slice (some ⟨g,0,none⟩) 3 c,.int .i64 fr] 67):=⟨_,rfl⟩
 obtain⟨h,y⟩:∃ h,h=D.alloc (Obj.cells #[Value.slice none 0 0,Value.nilIface,Value.slice none 0 0] 70):=⟨_,rfl⟩
 have I:Below w.heap.size w D:=by rw[G];exact(Below.refl _ _).alloc (Nat.le_refl _) _
 have A:Below D.heap.size D h:=by rw[y];exact(Below.refl _ _).alloc (Nat.le_refl _) _
 have H:Below w.heap.size w h:=Below.on I A
 have L:D.heap.size=w.heap.size+1:=by rw[G];simp
 have R:h.cell? ⟨w.heap.size,1,none⟩=some (.slice (some ⟨g,0,none⟩) 3 c):=by
  rw[A.cell (p:=⟨w.heap.size,1,none⟩) (by show w.heap.size<_;omega),G,World.cell?,heap_alloc_new];rfl
 have V:=h3.below H;have p0:=V.at0;have p1:=V.at1;have p2:=V.at2;have HB:=hid H
 have HS:Hid (h.heap.size=w.heap.size+2):=by show _=_;rw[y];simp;omega
 have HX:Hid (h.heap[w.heap.size+1]?=some (Obj.cells #[Value.slice none 0 0,Value.nilIface,Value.slice none 0 0] 70)):=by show _=_;rw[y,<-L];exact heap_alloc_new _ _
 have X:Hid (g<w.heap.size):=World.block_lt_of_cell? _ _ h3.at0;have pn:=(H.cell (World.block_lt_of_cell? _ _ hn)).trans hn;have pc:=(H.cell (World.block_lt_of_cell? _ _ e)).trans e;rw[G] at y;clear G I A H L V h3 e hn;have n1:=noVar_comp;have n2:=isComp;have M:=p0;have K:=R;have O:=pn;have N:=pc;rw[y] at M K O N
 go_enter Tryz.func72,Tryz.ntmps72
 go_wp2_with fail;rw[<-y];clear M K O N y p0
 have hS:h.cell? ⟨b,0,none⟩=some (.string x)/\h.cell? ⟨b,1,none⟩=some (.slice (some ⟨q,0,none⟩) m m):=⟨pn,pc⟩
 go_region_held3 (fun W=>W.cell? ⟨b,0,none⟩=some (.string x)/\W.cell? ⟨b,1,none⟩=some (.slice (some ⟨q,0,none⟩) m m)) (first | exact hS | go_keep) (fail)
 rename_i B
 clear B;clear hS pn pc;go_wp2_with fail
 obtain⟨a,Q⟩:∃ a,a=h.drew:=⟨_,rfl⟩
 have J:Below h.heap.size h a:=by rw[Q];exact(Below.refl _ _).drew
 have C:a.heap.size=h.heap.size:=by rw[Q];rfl
 rw[<-Q];have j:=hid J;clear J Q
 have Z:Hid (∀ W,Below a.heap.size a W->W.cell? ⟨w.heap.size,1,none⟩=some (.slice (some ⟨g,0,none⟩) 3 c)/\W.cell? ⟨g,1,none⟩=some (.iface r t)/\W.cell? ⟨g,2,none⟩=some (.iface s u)):=fun W hW=>⟨((Below.on j.o hW).cell (World.block_lt_of_cell? _ _ R)).trans R,((Below.on j.o hW).cell (World.block_lt_of_cell? _ _ p1)).trans p1,((Below.on j.o hW).cell (World.block_lt_of_cell? _ _ p2)).trans p2⟩
 have E:Hid (a.heap.size=w.heap.size+2):=by show _=_;rw[C];exact HS.o
 have Y:Hid (Box3 a (w.heap.size+1) (.slice none 0 0) .nilIface (.slice none 0 0)):=Box3.of_block ((j.o.block _ (by have:=HS.o;omega)).trans HX.o);clear R p1 p2 C;refine wp_region_held_drew (S:=fun W=>W.cell? ⟨w.heap.size,1,none⟩=some (.slice (some ⟨g,0,none⟩) 3 c)/\W.cell? ⟨g,1,none⟩=some (.iface r t)/\W.cell? ⟨g,2,none⟩=some (.iface s u)) (by kernel_rfl) ?_ (fun h2=>?_)
 ·exact Z.o _ (Below.refl _ _).drew
 refine hTq 0 (.pointer (some ⟨w.heap.size,1,none⟩)) 46 ?_
 simp only[Act.put,zzA,zzB,zzC];refine hTr 1 (.slice (some ⟨g,0,none⟩) 3 c) 47 (fun o k W d=>?y1) ?_
 case y1=>cases k;obtain⟨P,T,U⟩:=d;simp[execOp,go_sem,Act.eval,P]
 simp only[Act.put,zzA,zzB,zzC];refine hTq 2 (.pointer (some ⟨g,1,none⟩)) 48 ?_
 simp only[Act.put,zzA,zzB,zzC];refine hTr 3 (.iface r t) 49 (fun o k W d=>?y3) ?_
 case y3=>cases k;obtain⟨P,T,U⟩:=d;simp[execOp,go_sem,Act.eval,T]
 simp only[Act.put,zzA,zzB,zzC];refine hTq 4 (.iface 55 (.string x)) 50 ?_
 simp only[Act.put,zzA,zzB,zzC];refine hTq 5 (.agg #[.iface r t,.iface 55 (.string x)]) 51 ?_
 simp only[Act.put,zzA,zzB,zzC];refine hTq 6 (.pointer (some ⟨w.heap.size,1,none⟩)) 52 ?_
 simp only[Act.put,zzA,zzB,zzC];refine hTr 7 (.slice (some ⟨g,0,none⟩) 3 c) 53 (fun o k W d=>?y7) ?_
 case y7=>cases k;obtain⟨P,T,U⟩:=d;simp[execOp,go_sem,Act.eval,P]
 simp only[Act.put,zzA,zzB,zzC];refine hTq 8 (.pointer (some ⟨g,2,none⟩)) 54 ?_
 simp only[Act.put,zzA,zzB,zzC];refine hTr 9 (.iface s u) 55 (fun o k W d=>?y9) ?_
 case y9=>cases k;obtain⟨P,T,U⟩:=d;simp[execOp,go_sem,Act.eval,U]
 simp only[Act.put,zzA,zzB,zzC];refine hTq 10 (.iface 146 (.int .i64 m)) 56 ?_
 simp only[Act.put,zzA,zzB,zzC];refine hTq 11 (.agg #[.iface s u,.iface 146 (.int .i64 m)]) 57 ?_
 simp only[Act.put,zzA,zzB,zzC]
 obtain⟨f,e4⟩:∃ f,f=a.drew.alloc (Obj.cells #[.iface r t,.iface 55 (.string x),.iface s u,.iface 146 (.int .i64 m)] 89):=⟨_,rfl⟩
 have l:Below a.heap.size a f:=by rw[e4];exact((Below.refl _ _).drew).alloc (Nat.le_refl _) _
 have n:f.heap[a.heap.size]?=some (Obj.cells #[.iface r t,.iface 55 (.string x),.iface s u,.iface 146 (.int .i64 m)] 89):=by rw[e4];exact heap_alloc_new _ _
 refine hStep (i:=12) (v:=.slice (some ⟨a.heap.size,0,none⟩) 2 2) (w':=f) (some 58) (by kernel_rfl) (by kernel_rfl) (by kernel_rfl) (fun o k=>?y12) (Z.o f l) ?_
 case y12=>
  cases k
  (rw[e4];simp[execOp,go_sem,Act.eval])
 simp only[Act.put,zzA,zzB,zzC];have z:=Z.o f l;refine hTq 13 (.agg #[.slice (some ⟨a.heap.size,0,none⟩) 2 2,.nilIface,.slice none 0 0]) 59 ?_
 simp only[Act.put,zzA,zzB,zzC];have F:Box3 f (w.heap.size+1) (.slice none 0 0) .nilIface (.slice none 0 0):=Y.o.below l (by have:=E.o;omega);have h1:Below w.heap.size w (wr3 f (w.heap.size+1) (.slice (some ⟨a.heap.size,0,none⟩) 2 2) .nilIface (.slice none 0 0)):=wr3_below (Below.on HB.o (Below.on j.o l)) (Nat.le_succ _)
 have h4:(wr3 f (w.heap.size+1) (.slice (some ⟨a.heap.size,0,none⟩) 2 2) .nilIface (.slice none 0 0)).cell? ⟨w.heap.size,1,none⟩=some (.slice (some ⟨g,0,none⟩) 3 c)/\(wr3 f (w.heap.size+1) (.slice (some ⟨a.heap.size,0,none⟩) 2 2) .nilIface (.slice none 0 0)).cell? ⟨g,1,none⟩=some (.iface r t)/\(wr3 f (w.heap.size+1) (.slice (some ⟨a.heap.size,0,none⟩) 2 2) .nilIface (.slice none 0 0)).cell? ⟨g,2,none⟩=some (.iface s u):=by
  have hg:=X.o;exact⟨(wr3_ne (by show w.heap.size≠_;omega)).trans z.1,(wr3_ne (by show g≠_;omega)).trans z.2.1,(wr3_ne (by show g≠_;omega)).trans z.2.2⟩
 have HP:Hid _:=wr3_box F (.slice (some ⟨a.heap.size,0,none⟩) 2 2) .nilIface (.slice none 0 0);refine hStepS (i:=14) (w':=wr3 f (w.heap.size+1) (.slice (some ⟨a.heap.size,0,none⟩) 2 2) .nilIface (.slice none 0 0)) none (by kernel_rfl) (by kernel_rfl) (by kernel_rfl) (fun o k=>?y99) ?bel ?_
 case y99=>cases k;obtain⟨b0,b1,b2,b3⟩:=F;simp[execOp,go_sem,Act.eval,b0,b1,b2,b3]
 case bel=>exact h4
 simp only[Act.put,zzA,zzB,zzC];refine hTq 15 (.nilIface) 3 ?_
 simp only[Act.put,zzA,zzB,zzC];refine wpAnyH_done (by kernel_rfl) ?_ _
 change Exit.then _ _ _ _ (wr3 f (w.heap.size+1) (.slice (some ⟨a.heap.size,0,none⟩) 2 2) .nilIface (.slice none 0 0))
 go_wp2
 obtain⟨d0,d1,d2,_⟩:=HP.o;have C:=E.o;refine bodyPost_ret (v:=.tuple #[.agg #[.slice (some ⟨a.heap.size,0,none⟩) 2 2,.nilIface,.slice none 0 0],.nilIface]) (by simp[results,Tryz.results72,go_sem,d0,d1,d2]) rfl ⟨a.heap.size,rfl,by omega,?_,?_,?_,?_,h1⟩
 ·exact(wr3_ne (by show a.heap.size≠_;omega)).trans (cell_of_row _ _ 0 _ _ _ n)
 ·exact(wr3_ne (by show a.heap.size≠_;omega)).trans (cell_of_row _ _ 1 _ _ _ n)
 ·exact(wr3_ne (by show a.heap.size≠_;omega)).trans (cell_of_row _ _ 2 _ _ _ n)
 ·exact(wr3_ne (by show a.heap.size≠_;omega)).trans (cell_of_row _ _ 3 _ _ _ n)
theorem functorL_any (r:TypeId)(A:Value)(l m:TypeId)(n q:Value)(g b on oc:Nat)(op:Option Addr)(fr:Int)(w:World)(U:Thr w g (.iface r A) (.iface l n) (.iface m q))
  (n1:∀ (w:World) (x:Value),(Instr.typeAssert (.iface r x) 48 65 true).run Tryz.prog w = .ok (.tuple #[.int .i64 0,.bool false]) w) (n2:∀ (w:World) (x:Value),(Instr.typeAssert (.iface r x) 48 101 true).run Tryz.prog w = .ok (.tuple #[.pointer none,.bool false]) w) :
  Calls Tryz.prog 72 #[calV3 op on oc g b fr] w (PairE2 w (.iface l n) (.iface r A) (.iface m q) (.iface 146 (.int .i64 0))):=by
 obtain⟨z,D⟩:∃ z,z=w.alloc (Obj.cells #[.slice op on oc,.slice (some ⟨g,0,none⟩) 3 b,.int .i64 fr] 67):=⟨_,rfl⟩
 obtain⟨h,s⟩:∃ h,h=z.alloc (Obj.cells #[Value.slice none 0 0,Value.nilIface,Value.slice none 0 0] 70):=⟨_,rfl⟩
 have E:Below w.heap.size w z:=by rw[D];exact(Below.refl _ _).alloc (Nat.le_refl _) _
 have u:Below z.heap.size z h:=by rw[s];exact(Below.refl _ _).alloc (Nat.le_refl _) _
 have hb:Below w.heap.size w h:=Below.on E u
 have H:z.heap.size=w.heap.size+1:=by rw[D];simp
 have L:h.cell? ⟨w.heap.size,1,none⟩=some (.slice (some ⟨g,0,none⟩) 3 b):=by
  rw[u.cell (p:=⟨w.heap.size,1,none⟩) (by show w.heap.size<_;omega),D,World.cell?,heap_alloc_new];rfl
 have O:=U.below hb;have p0:=O.at0;have p1:=O.at1;have p2:=O.at2;have HB:=hid hb
 have HS:Hid (h.heap.size=w.heap.size+2):=by show _=_;rw[s];simp;omega
 have HX:Hid (h.heap[w.heap.size+1]?=some (Obj.cells #[Value.slice none 0 0,Value.nilIface,Value.slice none 0 0] 70)):=by show _=_;rw[s,<-H];exact heap_alloc_new _ _
 have P:Hid (g<w.heap.size):=World.block_lt_of_cell? _ _ U.at0;rw[D] at s;clear D E u hb H O U;have I:=p0;have G:=L;rw[s] at I G
 go_enter Tryz.func72,Tryz.ntmps72
 go_wp2_with fail;rw[<-s];clear I G s p0
 obtain⟨a,K⟩:∃ a,a=h:=⟨_,rfl⟩
 have F:Below h.heap.size h a:=by rw[K];exact Below.refl _ _
 have y:a.heap.size=h.heap.size:=by rw[K]
 rw[<-K];have e:=hid F;clear F K
 have R:Hid (∀ W,Below a.heap.size a W->W.cell? ⟨w.heap.size,1,none⟩=some (.slice (some ⟨g,0,none⟩) 3 b)/\W.cell? ⟨g,1,none⟩=some (.iface l n)/\W.cell? ⟨g,2,none⟩=some (.iface m q)):=fun W Z=>⟨((Below.on e.o Z).cell (World.block_lt_of_cell? _ _ L)).trans L,((Below.on e.o Z).cell (World.block_lt_of_cell? _ _ p1)).trans p1,((Below.on e.o Z).cell (World.block_lt_of_cell? _ _ p2)).trans p2⟩
 have B:Hid (a.heap.size=w.heap.size+2):=by show _=_;rw[y];exact HS.o
 have Q:Hid (Box3 a (w.heap.size+1) (.slice none 0 0) .nilIface (.slice none 0 0)):=Box3.of_block ((e.o.block _ (by have:=HS.o;omega)).trans HX.o);clear L p1 p2 y;refine wp_region_held_drew (S:=fun W=>W.cell? ⟨w.heap.size,1,none⟩=some (.slice (some ⟨g,0,none⟩) 3 b)/\W.cell? ⟨g,1,none⟩=some (.iface l n)/\W.cell? ⟨g,2,none⟩=some (.iface m q)) (by kernel_rfl) ?_ (fun X=>?_)
 ·exact R.o _ (Below.refl _ _).drew
 refine hTq 0 (.pointer (some ⟨w.heap.size,1,none⟩)) 46 ?_
 simp only[Act.put,zzA,zzB,zzC];refine hTr 1 (.slice (some ⟨g,0,none⟩) 3 b) 47 (fun o f W c=>?y1) ?_
 case y1=>cases f;obtain⟨J,M,N⟩:=c;simp[execOp,go_sem,Act.eval,J]
 simp only[Act.put,zzA,zzB,zzC];refine hTq 2 (.pointer (some ⟨g,1,none⟩)) 48 ?_
 simp only[Act.put,zzA,zzB,zzC];refine hTr 3 (.iface l n) 49 (fun o f W c=>?y3) ?_
 case y3=>cases f;obtain⟨J,M,N⟩:=c;simp[execOp,go_sem,Act.eval,M]
 simp only[Act.put,zzA,zzB,zzC];refine hTq 4 (.iface r A) 50 ?_
 simp only[Act.put,zzA,zzB,zzC];refine hTq 5 (.agg #[.iface l n,.iface r A]) 51 ?_
 simp only[Act.put,zzA,zzB,zzC];refine hTq 6 (.pointer (some ⟨w.heap.size,1,none⟩)) 52 ?_
 simp only[Act.put,zzA,zzB,zzC];refine hTr 7 (.slice (some ⟨g,0,none⟩) 3 b) 53 (fun o f W c=>?y7) ?_
 case y7=>cases f;obtain⟨J,M,N⟩:=c;simp[execOp,go_sem,Act.eval,J]
 simp only[Act.put,zzA,zzB,zzC];refine hTq 8 (.pointer (some ⟨g,2,none⟩)) 54 ?_
 simp only[Act.put,zzA,zzB,zzC];refine hTr 9 (.iface m q) 55 (fun o f W c=>?y9) ?_
 case y9=>cases f;obtain⟨J,M,N⟩:=c;simp[execOp,go_sem,Act.eval,N]
 simp only[Act.put,zzA,zzB,zzC];refine hTq 10 (.iface 146 (.int .i64 0)) 56 ?_
 simp only[Act.put,zzA,zzB,zzC];refine hTq 11 (.agg #[.iface m q,.iface 146 (.int .i64 0)]) 57 ?_
 simp only[Act.put,zzA,zzB,zzC]
 obtain⟨d,T⟩:∃ d,d=a.drew.alloc (Obj.cells #[.iface l n,.iface r A,.iface m q,.iface 146 (.int .i64 0)] 89):=⟨_,rfl⟩
 have j:Below a.heap.size a d:=by rw[T];exact((Below.refl _ _).drew).alloc (Nat.le_refl _) _
 have k:d.heap[a.heap.size]?=some (Obj.cells #[.iface l n,.iface r A,.iface m q,.iface 146 (.int .i64 0)] 89):=by rw[T];exact heap_alloc_new _ _
 refine hStep (i:=12) (v:=.slice (some ⟨a.heap.size,0,none⟩) 2 2) (w':=d) (some 58) (by kernel_rfl) (by kernel_rfl) (by kernel_rfl) (fun o f=>?y12) (R.o d j) ?_
 case y12=>
  cases f
  (rw[T];simp[execOp,go_sem,Act.eval])
 simp only[Act.put,zzA,zzB,zzC];have t:=R.o d j;refine hTq 13 (.agg #[.slice (some ⟨a.heap.size,0,none⟩) 2 2,.nilIface,.slice none 0 0]) 59 ?_
 simp only[Act.put,zzA,zzB,zzC];have C:Box3 d (w.heap.size+1) (.slice none 0 0) .nilIface (.slice none 0 0):=Q.o.below j (by have:=B.o;omega);have V:Below w.heap.size w (wr3 d (w.heap.size+1) (.slice (some ⟨a.heap.size,0,none⟩) 2 2) .nilIface (.slice none 0 0)):=wr3_below (Below.on HB.o (Below.on e.o j)) (Nat.le_succ _)
 have Y:(wr3 d (w.heap.size+1) (.slice (some ⟨a.heap.size,0,none⟩) 2 2) .nilIface (.slice none 0 0)).cell? ⟨w.heap.size,1,none⟩=some (.slice (some ⟨g,0,none⟩) 3 b)/\(wr3 d (w.heap.size+1) (.slice (some ⟨a.heap.size,0,none⟩) 2 2) .nilIface (.slice none 0 0)).cell? ⟨g,1,none⟩=some (.iface l n)/\(wr3 d (w.heap.size+1) (.slice (some ⟨a.heap.size,0,none⟩) 2 2) .nilIface (.slice none 0 0)).cell? ⟨g,2,none⟩=some (.iface m q):=by
  have hg:=P.o;exact⟨(wr3_ne (by show w.heap.size≠_;omega)).trans t.1,(wr3_ne (by show g≠_;omega)).trans t.2.1,(wr3_ne (by show g≠_;omega)).trans t.2.2⟩
 have HP:Hid _:=wr3_box C (.slice (some ⟨a.heap.size,0,none⟩) 2 2) .nilIface (.slice none 0 0);refine hStepS (i:=14) (w':=wr3 d (w.heap.size+1) (.slice (some ⟨a.heap.size,0,none⟩) 2 2) .nilIface (.slice none 0 0)) none (by kernel_rfl) (by kernel_rfl) (by kernel_rfl) (fun o f=>?y99) ?bel ?_
 case y99=>cases f;obtain⟨b0,b1,b2,b3⟩:=C;simp[execOp,go_sem,Act.eval,b0,b1,b2,b3]
 case bel=>exact Y
 simp only[Act.put,zzA,zzB,zzC];refine hTq 15 (.nilIface) 3 ?_
 simp only[Act.put,zzA,zzB,zzC];refine wpAnyH_done (by kernel_rfl) ?_ _
 change Exit.then _ _ _ _ (wr3 d (w.heap.size+1) (.slice (some ⟨a.heap.size,0,none⟩) 2 2) .nilIface (.slice none 0 0))
 go_wp2
 obtain⟨d0,d1,d2,_⟩:=HP.o;have y:=B.o;refine bodyPost_ret (v:=.tuple #[.agg #[.slice (some ⟨a.heap.size,0,none⟩) 2 2,.nilIface,.slice none 0 0],.nilIface]) (by simp[results,Tryz.results72,go_sem,d0,d1,d2]) rfl ⟨a.heap.size,rfl,by omega,?_,?_,?_,?_,V⟩
 ·exact(wr3_ne (by show a.heap.size≠_;omega)).trans (cell_of_row _ _ 0 _ _ _ k)
 ·exact(wr3_ne (by show a.heap.size≠_;omega)).trans (cell_of_row _ _ 1 _ _ _ k)
 ·exact(wr3_ne (by show a.heap.size≠_;omega)).trans (cell_of_row _ _ 2 _ _ _ k)
 ·exact(wr3_ne (by show a.heap.size≠_;omega)).trans (cell_of_row _ _ 3 _ _ _ k)
end
section
open Go Go.RowKit Go.Maps
def renD (f:Int)(L:List Int)(c:Cel):Cel:=if c.1=0 then(c.1,f+((L.idxOf c.2.1:Nat):Int),c.2.2) else c
theorem renD_kind (f:Int)(L:List Int)(c:Cel):(renD f L c).1=c.1:=by unfold renD;split <;> rfl
theorem renD_text (f:Int)(L:List Int)(c:Cel):(renD f L c).2.2=c.2.2:=by unfold renD;split <;> rfl
structure RStD (cb:Nat)(f:Int)(w:World)(nb mb:Nat)(ks:List Int):Prop extends RState w nb mb ks where
 fc:w.cell? ⟨cb,2,none⟩=some (.int .i64 f)
 cm:cb≠mb
theorem RStD.below {a:Nat}{f:Int}{w w':World}{e d:Nat}{c:List Int}(h:RStD a f w e d c)(b:Below w.heap.size w w'):RStD a f w' e d c:=
 ⟨h.toRState.below b,(b.cell (World.block_lt_of_cell? _ _ h.fc)).trans h.fc,h.cm⟩
theorem withD_any (x:Int)(b d c:Nat)(f:Int)(m:List Int)(w:World)(B:0<=x)(C:x<=1000000)(K:m.length<=100000)(E:0<=f)(F:f<=1000000)(j:RStD b f w d c m) :
  Calls Tryz.prog 127 #[.int .i64 x,.pointer (some ⟨b,0,none⟩),.pointer (some ⟨d,0,none⟩)] w fun e y=>e = .returned (.iface 65 (.int .i64 (f+(m.idxOf x:Nat))))/\RStD b f y d c (putV m x)/\w.grownBy y (some c):=by
 have q:Hid (Calls Tryz.prog 41 #[.map (some c),.int .i64 x] (w.drewN 1) _):=of_any c m x (w.drewN 1) B C (by omega) (j.map.of_block rfl);have r:=List.idxOf_le_length (l:=m) (a:=x)
 obtain⟨n,u⟩:∃ n:Nat,n=m.idxOf x:=⟨_,rfl⟩
 rw[<-u] at q r ⊢
 have D:w.cell? ⟨b,2,none⟩=some (.int .i64 f)/\w.cell? ⟨d,0,none⟩=some (.map (some c)):=⟨j.fc,j.ncell⟩
 have h:=hid j
 have M:(n:Int)<=100000:=by omega
 have I:(0:Int)<=(n:Int):=by omega
 have L:IntKind.i64.wrap (f+(n:Int))=f+(n:Int):=by rw[IntKind.wrap_i64];omega
 have g:True:=trivial;have N:=j.fc;have O:=j.ncell;clear j r u
 go_enter Tryz.func127,Tryz.ntmps127
 go_wp2_with fail
 go_region_held3 (fun W=>W.cell? ⟨b,2,none⟩=some (.int .i64 f)/\W.cell? ⟨d,0,none⟩=some (.map (some c))) (first | exact t | exact D | go_keep)
  (first
    | (have J:=g;go_at_call 41;refine Calls.mono q.o ?_;rintro e z ⟨rfl,v,s⟩;have t:z.cell? ⟨b,2,none⟩=some (.int .i64 f)/\z.cell? ⟨d,0,none⟩=some (.map (some c)):=⟨(World.cell?_of_block (w:=w.drewN 1) (a:=⟨b,2,none⟩) (s.block b (World.block_lt_of_cell? _ _ h.o.fc) (fun e=>h.o.cm (Option.some.inj e)))).trans h.o.fc,(World.cell?_of_block (w:=w.drewN 1) (a:=⟨d,0,none⟩) (s.block d (World.block_lt_of_cell? _ _ h.o.ncell) (fun e=>h.o.ne (Option.some.inj e)))).trans h.o.ncell⟩;have A:Hid _:=v;have p:Hid _:=s;clear v s g))
 rename_i i
 clear i;go_wp2_with fail;go_ret;exact⟨rfl,⟨⟨t.2,A.o⟩,t.1,h.o.cm⟩,⟨p.o.os.trans rfl,p.o.tape.trans rfl,p.o.output.trans rfl,p.o.size,fun k G H=>p.o.block k G H⟩⟩
def ReplD (cb:Nat)(f:Int)(w:World)(nb mb:Nat)(ks:List Int)(c:Cel)(k:Fo)(e:Ending)(w':World):Prop:=
 ∃ v,e = .returned v/\RStD cb f w' nb mb (visits ks (c :: k.cells))/\w.grownBy w' (some mb)/\∀ L,visits ks (c :: k.cells) <+: L->FoIn w' w.heap.size (.node (renD f L c) (k.map (renD f L)) .nil) [v]
theorem replaceD_any (E:Nat)(f:Int)(x7:0<=f)(x8:f<=1000000):∀ (N:Nat) (c:Cel) (k:Fo) (v:Value) (Bt B y:Nat) (n:List Int) (O w:World),k.cells.length<=N->(Fo.node c k .nil).ok->FoIn O Bt (.node c k .nil) [v]->Below O.heap.size O w->O.heap.size<=y->RStD E f w B y n->n.length+1+k.cells.length<=100000->
  Calls Tryz.prog 39 #[v,.func (.func 127) #[] #[.pointer (some ⟨E,0,none⟩),.pointer (some ⟨B,0,none⟩)]] w (ReplD E f w B y n c k):=by
 intro N
 induction N using Nat.strongRecOn with
 | _ N ih=>
   intro c k v Bt B y n O w hN u x9 hw e8 K H
   obtain⟨v',vr,e,r,_⟩:=x9;obtain⟨rfl,rfl⟩:=List.cons.inj e
   rcases r with ⟨s,rfl⟩ | ⟨s,rfl⟩ | ⟨s,rfl⟩ | ⟨s,b,g,vs,rfl,m⟩
   ·have hk:k = .nil:=u.2.2.2.1 (by rw[s];decide)
    subst hk
    have hx:0<=c.2.1/\c.2.1<=1000000:=by have:=u.1;rw[s] at this;simp[cellB] at this;omega
    have HW:=withD_any c.2.1 E B y f n w hx.1 hx.2 (by omega) x7 x8 K
    have p:Hid (∀ w',RStD E f w' B y (putV n c.2.1)->w.grownBy w' (some y)->ReplD E f w B y n c .nil (.returned (.iface 65 (.int .i64 (f+(n.idxOf c.2.1:Nat))))) w'):=fun w' Z h2=>by
     have e1:visits n (c :: Fo.nil.cells)=putV n c.2.1:=by simp[visits,Fo.cells,visitL,s]
     refine⟨_,rfl,by rw[e1];exact Z,h2,fun L P=>⟨_,[],rfl,.inl ⟨by rw[renD_kind];exact s,?_⟩,rfl⟩⟩;rw[e1] at P;rw[renD,if_pos s,idxOf_prefix P (putV_mem _ _),putV_idx]
    obtain⟨x,U⟩:∃ x,x=c.2.1:=⟨_,rfl⟩
    obtain⟨ix,ei⟩:∃ ix,ix=f+((n.idxOf c.2.1:Nat):Int):=⟨_,rfl⟩
    rw[<-ei] at HW p;rw[<-U] at HW p ⊢;have n1:=isVar;clear ih u hw K hx U ei e H
    go_enter Tryz.func39,Tryz.ntmps39
    go_wp2_with fail;refine HW.mono ?_;rintro e w1 ⟨rfl,Z,h2⟩;go_wp2_with fail;go_ret;exact p.o _ Z h2
   ·have hk:k = .nil:=u.2.2.2.1 (by rw[s];decide)
    subst hk;have n1:=noVar_num;have n2:=noComp_num
    have hv:visits n (c :: Fo.nil.cells)=n:=by simp[visits,Fo.cells,visitL,s]
    have p:Hid (ReplD E f w B y n c .nil (.returned (.iface 146 (.int .i64 c.2.1))) w):=⟨_,rfl,by rw[hv];exact K,⟨rfl,rfl,rfl,Nat.le_refl _,fun _ _ _=>rfl⟩,fun L _=>⟨_,[],rfl,.inr (.inl ⟨by rw[renD_kind];exact s,by rw[renD,if_neg (by rw[s];decide)]⟩),rfl⟩⟩
    obtain⟨x,U⟩:∃ x,x=Value.int .i64 c.2.1:=⟨_,rfl⟩
    rw[<-U] at p ⊢;clear ih u hw K U e H hv
    go_enter Tryz.func39,Tryz.ntmps39
    go_wp2_with fail;go_ret;exact p.o
   ·have hk:k = .nil:=u.2.2.2.1 (by rw[s];decide)
    subst hk;have n1:=noVar_atom;have n2:=noComp_atom
    have hv:visits n (c :: Fo.nil.cells)=n:=by simp[visits,Fo.cells,visitL,s]
    have p:Hid (ReplD E f w B y n c .nil (.returned (.iface 55 (.string (strOfNums c.2.2)))) w):=⟨_,rfl,by rw[hv];exact K,⟨rfl,rfl,rfl,Nat.le_refl _,fun _ _ _=>rfl⟩,fun L _=>⟨_,[],rfl,.inr (.inr (.inl ⟨by rw[renD_kind];exact s,by rw[renD,if_neg (by rw[s];decide)]⟩)),rfl⟩⟩
    obtain⟨x,U⟩:∃ x,x=Value.string (strOfNums c.2.2):=⟨_,rfl⟩
    rw[<-U] at p ⊢;clear ih u hw K U e H hv
    go_enter Tryz.func39,Tryz.ntmps39
    go_wp2_with fail;go_ret;exact p.o
   ·have n1:=noVar_comp
    have n2:=isComp;have HC:=hid m;have W:vs.length=k.count:=FoIn.count _ _ m.2.2.2.2.2.2
    obtain⟨q,eq⟩:∃ q,q=vs.length:=⟨_,rfl⟩
    have HE:Hid (q=vs.length/\vs.length=k.count):=⟨eq,W⟩
    have hq:q<=100000:=by have:=Fo.count_le k;omega
    have HK:Hid k.ok:=u.2.2.2.2.1;have d0:=(hw.cell (World.block_lt_of_cell? _ _ m.2.2.1)).trans m.2.2.1;have d1:=(hw.cell (World.block_lt_of_cell? _ _ m.2.2.2.1)).trans m.2.2.2.1;rw[<-eq] at d1;have w7:Hid (b<O.heap.size):=World.block_lt_of_cell? _ _ m.2.2.1
    have k2:visitL n c=n:=by rw[visitL,if_neg (by rw[s];decide)]
    have e5:Hid (∀ cs,visits n (c :: cs)=visits n cs):=fun cs=>by rw[visits_cons,k2]
    have HS:=hid K;have HW:=hid hw;have e2:Hid _:=ih;have b1:=K.map.lt;have b2:B<w.heap.size:=World.block_lt_of_cell? _ _ K.ncell;have w9:E<w.heap.size:=World.block_lt_of_cell? _ _ K.fc
    have w6:Hid (∀ L,renD f L c=c):=fun L=>by rw[renD,if_neg (by rw[s];decide)]
    have H0:=hid s
    obtain⟨str,es⟩:∃ str,str=strOfNums c.2.2:=⟨_,rfl⟩
    rw[<-es] at d0;have h7:=hid es;obtain⟨i0,hi,k3,k4,k5⟩:=info_parts infoTerm
    have w4:q<=maxLen:=by unfold maxLen;omega
    clear ih u hw K e m eq W k2 es s
    go_enter Tryz.func39,Tryz.ntmps39
    go_wp2_with (at_make;refine wpList_make_full _ rfl _ _ 52 rfl w.heap.size 48 i0 .nilIface 1 Tryz.underlying52 hi k3 k4 _ _ _ _ q rfl rfl rfl rfl (by rw[k5];omega) w4 (Nat.le_refl _) ?_;intro w1 I l;have x5:=((World.cell?_of_block (w:=w) (a:=⟨b,0,none⟩) (l.block b (World.block_lt_of_cell? _ _ d0) (fun h=>by cases h)))).trans d0;have x6:=((World.cell?_of_block (w:=w) (a:=⟨b,1,none⟩) (l.block b (World.block_lt_of_cell? _ _ d1) (fun h=>by cases h)))).trans d1)
    have k9:Hid (w1.ownsRow w.heap.size 48 1 (.slice (some ⟨w.heap.size,0,none⟩) q q) q ([] ++ List.replicate (q-0) .nilIface)):=by
     have:=I
     simp[Value.cells,toList_madeCells_one] at this
     exact this
    have k7:Hid (w.grownBy w1 (some y)):=⟨l.os,l.tape,l.output,l.size,fun k hk _=>l.block k hk (fun h=>by cases h)⟩
    have x3:Hid (RStD E f w1 B y n):=HS.o.below ((Below.refl _ _).grown l (Nat.le_refl _) (fun k h=>by cases h))
    have w5:w.heap.size+1<=w1.heap.size:=by have:=(I.lt w.heap.size rfl).2;omega
    clear I l hi k3 k4 k5 d0 d1 x5 x6
    go_loopw [31] (fun i wr=>∃ (D R:Fo) (us T S:List Value) (j:Nat),j<=q/\i = .int .i64 j/\Hid (k=D.cat R/\vs=us ++ T/\us.length=j/\S.length=j)/\Hid (FoIn O Bt R T)/\Hid (RStD E f wr B y (visits n D.cells))/\
     Hid (wr.ownsRow w.heap.size 48 1 (.slice (some ⟨w.heap.size,0,none⟩) q q) q (S ++ List.replicate (q-j) .nilIface))/\Hid (∀ L,visits n D.cells <+: L->FoIn wr (w.heap.size+1) (D.map (renD f L)) S)/\Hid (w.grownBy wr (some y))/\w.heap.size+1<=wr.heap.size) (fun i _=>q-(intOf i).toNat)
    case atStart=>exact⟨.nil,k,[],vs,[],0,Nat.zero_le _,rfl,⟨rfl,rfl,rfl,rfl⟩,HC.o.2.2.2.2.2.2,x3,k9,fun L _=>rfl,k7,w5⟩
    case round=>
     obtain⟨D,R,us,T,S,j,hj,rfl,p,HR,e4,HO,h9,HG,e9⟩:=hrel;have Q:Below O.heap.size O wr:=HW.o.trans (grown_below HG.o HW.o.size e8)
     by_cases e7:j<q
     ·obtain⟨C,A,X,rfl⟩:∃ C A X,R = .node C A X:=by
       cases R with
       | nil=>
         have Z:=p.o;have h2:T = []:=HR.o;have h3:=HE.o.1;rw[Z.2.1,h2,List.append_nil] at h3
         omega
       | node C A X=>exact⟨C,A,X,rfl⟩
      obtain⟨v,vr,rfl,r,J⟩:=HR.o;have t:=(Fo.ok_cat D (.node C A X)).1 (p.o.1▸HK.o)
      have w2:D.cells.length+(A.cells.length+X.cells.length+1)=k.cells.length:=by
       rw[p.o.1,Fo.cells_cat];simp[Fo.cells]
      have h4:O.cell? ⟨g,j,none⟩=some v:=by
       rw[HC.o.2.2.2.2.2.1 j (by rw[<-HE.o.1];exact e7),p.o.2.1]
       simp[List.getD,p.o.2.2.1]
      have c5:wr.cell? ⟨g,j,none⟩=some v:=(Q.cell (World.block_lt_of_cell? _ _ h4)).trans h4;have e3:=e2.o A.cells.length (by omega) C A v Bt B y (visits n D.cells) O wr (Nat.le_refl _) ⟨t.2.1,t.2.2.1,t.2.2.2.1,t.2.2.2.2.1,t.2.2.2.2.2.1,trivial⟩ ⟨v,[],rfl,r,rfl⟩ Q e8 e4.o (by have:=visits_len D.cells n;omega);obtain⟨vt,vx,rfl⟩:=r.iface;have x2:=hid J;clear t w2 h4 Q r J e2;go_wp2_with fail;refine e3.mono ?_;rintro e Y ⟨v3,rfl,z,F,G⟩;obtain⟨nt,nx,rfl⟩:=(G _ List.prefix_rfl).iface;have h5:Y.heap[w.heap.size]?=wr.heap[w.heap.size]?:=F.block w.heap.size (by omega) (fun e=>by have:=Option.some.inj e;omega)
      have e0:Y.cell? ⟨w.heap.size,j,none⟩=some .nilIface:=by
       rw[World.cell?_of_block (w:=wr) (a:=⟨w.heap.size,j,none⟩) h5,HO.o.cellAt j (by omega),List.getElem?_append_right (by have:=p.o.2.2.2;omega),List.getElem?_replicate,if_pos (by have:=p.o.2.2.2;omega)]
      have e1:Y.frozen? ⟨w.heap.size,j,none⟩=false:=(World.frozen?_of_block (w:=wr) (a:=⟨w.heap.size,j,none⟩) h5).trans (HO.o.frozenAt j);have x1:Hid (Y.ownsRow w.heap.size 48 1 (.slice (some ⟨w.heap.size,0,none⟩) q q) q (S ++ List.replicate (q-j) .nilIface)):=HO.o.kept F (.inr (fun e=>by have:=Option.some.inj e;simp at this;omega))
      have HN:Hid (k=(D.cat (.node C A .nil)).cat X/\vs=(us ++ [Value.iface vt vx]) ++ vr/\(us ++ [Value.iface vt vx]).length=j+1/\(S ++ [Value.iface nt nx]).length=j+1):=⟨by rw[Fo.cat_assoc];exact p.o.1,by rw[p.o.2.1];simp,by simp[p.o.2.2.1],by simp[p.o.2.2.2]⟩
      have M:visits n (D.cat (.node C A .nil)).cells=visits (visits n D.cells) (C :: A.cells):=by rw[Fo.cells_cat,visits_append];simp[Fo.cells]
      have x4:Hid (RStD E f (Y.setCell ⟨w.heap.size,j,none⟩ (.iface nt nx)) B y (visits n (D.cat (.node C A .nil)).cells)):=by
       rw[M];exact⟨⟨(World.cell?_setCell_other _ _ _ _ (fun e=>by have:=congrArg Addr.block e;simp at this;omega)).trans z.ncell,z.map.of_block (Below.heap_setCell _ _ _ _ (show y≠w.heap.size by omega))⟩,(World.cell?_setCell_other _ _ _ _ (fun e=>by have:=congrArg Addr.block e;simp at this;omega)).trans z.fc,z.cm⟩
      have k6:Hid (∀ L,visits n (D.cat (.node C A .nil)).cells <+: L->FoIn (Y.setCell ⟨w.heap.size,j,none⟩ (.iface nt nx)) (w.heap.size+1) ((D.cat (.node C A .nil)).map (renD f L)) (S ++ [Value.iface nt nx])):=fun L P=>by
       rw[M] at P;rw[Fo.map_cat];exact(FoIn.cat _ _ _ _ ((h9.o L ((visits_prefix _ _).trans P)).kept F (by omega)) ((G L P).mono e9)).setCell (show w.heap.size<w.heap.size+1 by omega) _
      have k8:Hid (w.grownBy (Y.setCell ⟨w.heap.size,j,none⟩ (.iface nt nx)) (some y)):=grown_setR (HG.o.trans F) (Nat.le_refl _) _;have k1:w.heap.size+1<=Y.heap.size:=Nat.le_trans e9 F.size;clear z F G M e3 h5;go_wp2_with fail;go_roundw
      case rel=>exact⟨D.cat (.node C A .nil),X,us ++ [Value.iface vt vx],vr,S ++ [Value.iface nt nx],j+1,by omega,by go_num,HN,x2,x4,row_next x1.o p.o.2.2.2 e7 _,k6,k8,by simpa using k1⟩
      case measure=>simp[intOf];omega
     ·obtain rfl:j=q:=by omega
      obtain rfl:R = .nil:=by
       have Z:=FoIn.count _ _ HR.o;have h2:=HE.o;rw[p.o.2.1,List.length_append] at h2;have h3:=p.o.2.2.1
       cases R with
       | nil=>rfl
       | node a b d=>simp[Fo.count] at Z;omega
      have hD:D=k:=by have:=p.o.1;rw[Fo.cat_nil] at this;exact this.symm
      subst hD
      have x0:wr.cell? ⟨b,0,none⟩=some (.string str):=by
       rw[h7.o];exact(Q.cell (World.block_lt_of_cell? _ _ HC.o.2.2.1)).trans HC.o.2.2.1
      have h6:=p.o.2.2.2;have w8:=hid h6
      have h8:Hid (ReplD E f w B y n c D (.returned (.iface 101 (.pointer (some ⟨wr.heap.size,0,none⟩)))) (wr.alloc (Obj.cells #[Value.string str,Value.slice (some ⟨w.heap.size,0,none⟩) j j] 105))):=by
       have e6:Below wr.heap.size wr (wr.alloc (Obj.cells #[Value.string str,Value.slice (some ⟨w.heap.size,0,none⟩) j j] 105)):=(Below.refl _ _).alloc (Nat.le_refl _) _;refine⟨_,rfl,by rw[e5.o];exact e4.o.below e6,grown_alloc HG.o _,fun L P=>?_⟩;rw[e5.o] at P;have V:=heap_alloc_new wr (Obj.cells #[Value.string str,Value.slice (some ⟨w.heap.size,0,none⟩) j j] 105);refine⟨_,[],rfl,.inr (.inr (.inr ⟨by rw[renD_kind];exact H0.o,wr.heap.size,w.heap.size,S,rfl,by omega,Nat.le_refl _,by rw[renD_text,<-h7.o];exact cell_of_row _ _ 0 _ _ _ V,by rw[h6];exact cell_of_row _ _ 1 _ _ _ V,by simp;omega,fun i hi=>?_,?_⟩)),rfl⟩
       ·refine Lib.cell?_alloc_marked _ ?_
        rw[HO.o.cellAt i (by omega),List.getElem?_append_left (by omega)]
        simp[List.getD,hi]
       ·exact((h9.o L P).below e6).mono (by omega)
      clear h6;go_wp2_with fail;go_ret;exact h8.o
def CpO (w:World)(v1:Value)(f:Int)(c:Cel)(k:Fo)(e:Ending)(w':World):Prop:=
 ∃ g t x,e = .returned (.tuple #[.agg #[.slice (some ⟨g,0,none⟩) 1 1,.nilIface,.slice none 0 0],.nilIface])/\w.heap.size<=g/\w'.cell? ⟨g,0,none⟩=some v1/\w'.cell? ⟨g,1,none⟩=some (.iface t x)/\FoIn w' w.heap.size (.node (renD f (visits [] (c :: k.cells)) c) (k.map (renD f (visits [] (c :: k.cells)))) .nil) [.iface t x]/\Below w.heap.size w w'
theorem copyB_any (c:Cel)(k:Fo)(J:TypeId)(K v0:Value)(Bt g i on oc:Nat)(op:Option Addr)(f:Int)(w:World)(V:0<=f)(W:f<=1000000)(Y:(Fo.node c k .nil).ok)(F:FoIn w Bt (.node c k .nil) [v0])(hl:k.cells.length<=10000)(R:Two w g v0 (.iface J K)) :
  Calls Tryz.prog 75 #[calV op on oc g i f] w (CpO w (.iface J K) f c k):=by
 have h7:=@run_makeMap Tryz.prog;obtain⟨vt,vx,rfl⟩:=F.iface
 obtain⟨n,j⟩:∃ n,n=w.heap.size:=⟨_,rfl⟩
 obtain⟨t,Q⟩:∃ t,t=w.alloc (Obj.cells #[.slice op on oc,.slice (some ⟨g,0,none⟩) 2 i,.int .i64 f] 67):=⟨_,rfl⟩
 obtain⟨r,M⟩:∃ r,r=t.alloc (Obj.cells #[Value.slice none 0 0,Value.nilIface,Value.slice none 0 0] 70):=⟨_,rfl⟩
 obtain⟨L,N⟩:∃ L,L=r.alloc (Obj.map #[] 0):=⟨_,rfl⟩
 obtain⟨d,x⟩:∃ d,d=L.alloc (Obj.cells #[Value.map (some (n+1+1))] 94):=⟨_,rfl⟩
 have S:Below n w t:=by rw[Q,j];exact(Below.refl _ _).alloc (Nat.le_refl _) _
 have T:Below t.heap.size t r:=by rw[M];exact(Below.refl _ _).alloc (Nat.le_refl _) _
 have U:Below r.heap.size r L:=by rw[N];exact(Below.refl _ _).alloc (Nat.le_refl _) _
 have D:Below L.heap.size L d:=by rw[x];exact(Below.refl _ _).alloc (Nat.le_refl _) _
 have H:t.heap.size=n+1:=by rw[Q,j];simp
 have s:r.heap.size=n+1+1:=by rw[M,<-H];simp
 have I:L.heap.size=n+1+1+1:=by rw[N,<-s];simp
 have h1:d.heap.size=n+1+1+1+1:=by rw[x,<-I];simp
 have m:Below r.heap.size r d:=Below.on U D;have l:Below t.heap.size t d:=Below.on T m;have C:Below w.heap.size w d:=Below.on (by rw[<-j];exact S) l
 have k1:d.heap[n]?=some (Obj.cells #[.slice op on oc,.slice (some ⟨g,0,none⟩) 2 i,.int .i64 f] 67):=by
  rw[l.block n (by omega),Q,j];exact heap_alloc_new _ _
 have k2:d.heap[n+1]?=some (Obj.cells #[Value.slice none 0 0,Value.nilIface,Value.slice none 0 0] 70):=by
  rw[m.block _ (by omega),M,<-H];exact heap_alloc_new _ _
 have k4:d.heap[n+1+1+1]?=some (Obj.cells #[Value.map (some (n+1+1))] 94):=by
  rw[x,<-I];exact heap_alloc_new _ _
 have hS:RStD n f d (n+1+1+1) (n+1+1) []:=by
  refine⟨⟨cell_of_row _ _ 0 _ _ _ k4,?_⟩,cell_of_row _ _ 2 _ _ _ k1,by omega⟩;have:=(NumMap.made r).of_block (w':=d) (by rw[s,D.block _ (by omega),N]);rw[s] at this;exact this
 have B:=replaceD_any n f V W k.cells.length c k (.iface vt vx) Bt (n+1+1+1) (n+1+1) [] w d (Nat.le_refl _) Y F C (by omega) hS (by simp;omega);have hq:=cell_of_row _ _ 1 _ _ _ k1;have p0:=(R.below C).at0;have h5:=hid C
 have HT:Hid (d.cell? ⟨g,0,none⟩=some (.iface vt vx)/\d.cell? ⟨g,1,none⟩=some (.iface J K)/\g<n):=⟨(R.below C).at0,(R.below C).at1,by rw[j];exact World.block_lt_of_cell? _ _ R.at0⟩
 have A:Hid (d.heap[n]?=some (Obj.cells #[.slice op on oc,.slice (some ⟨g,0,none⟩) 2 i,.int .i64 f] 67)/\d.heap[n+1]?=some (Obj.cells #[Value.slice none 0 0,Value.nilIface,Value.slice none 0 0] 70)/\d.heap.size=n+1+1+1+1):=⟨k1,k2,h1⟩
 have HN:=hid j;have h4:=p0;have G:=hq;rw[j] at x;rw[Q] at M;rw[M] at N;rw[N] at x;rw[x] at h4 G;rw[j] at G B;clear S T U D H s I h1 m l C k1 k2 k4 hS Y F R Q M N V W hl
 go_enter Tryz.func75,Tryz.ntmps75
 go_wp2_with fail;rw[<-x];refine B.mono ?_;rintro e u ⟨v5,rfl,h3,h,p⟩;obtain⟨t5,x5,rfl⟩:=(p _ List.prefix_rfl).iface;rw[<-j] at h;have r1:u.heap[n]?=some (Obj.cells #[.slice op on oc,.slice (some ⟨g,0,none⟩) 2 i,.int .i64 f] 67):=(h.block n (by have:=A.o.2.2;omega) (fun e=>by have:=Option.some.inj e;omega)).trans A.o.1;have r2:u.heap[n+1]?=some (Obj.cells #[Value.slice none 0 0,Value.nilIface,Value.slice none 0 0] 70):=(h.block (n+1) (by have:=A.o.2.2;omega) (fun e=>by have:=Option.some.inj e;omega)).trans A.o.2.1;have r3:u.cell? ⟨g,1,none⟩=some (.iface J K):=(World.cell?_of_block (w:=d) (a:=⟨g,1,none⟩) (h.block g (by have:=A.o.2.2;have:=HT.o.2.2;omega) (fun e=>by have:=Option.some.inj e;have:=HT.o.2.2;omega))).trans HT.o.2.1
 have h6:Hid (FoIn u (n+1+1+1+1) (.node (renD f (visits [] (c :: k.cells)) c) (k.map (renD f (visits [] (c :: k.cells)))) .nil) [.iface t5 x5]):=(p _ List.prefix_rfl).mono (by have:=A.o.2.2;omega);have y:Hid (Below w.heap.size w u):=h5.o.trans (grown_below h (by have:=A.o.2.2;have:=HN.o;omega) (by have:=HN.o;omega));have HU:=unifying_ok J t5 K x5 u;have Z:=cell_of_row _ _ 1 _ _ _ r1
 have HR:Hid (u.heap[n+1]?=some (Obj.cells #[Value.slice none 0 0,Value.nilIface,Value.slice none 0 0] 70)/\n+1<u.heap.size):=⟨r2,(Array.getElem?_eq_some_iff.1 r2).1⟩
 rw[j] at Z;clear h3 h p r1 r2 B h4 G p0 hq x;go_wp2_with fail;refine HU.mono ?_;rintro e w6 ⟨q,rfl,X,c0,c1,E⟩;have P:=hid E
 have z:Hid (u.heap.size<=q/\w6.cell? ⟨q,0,none⟩=some (.iface J K)/\w6.cell? ⟨q,1,none⟩=some (.iface t5 x5)):=⟨X,c0,c1⟩
 have HX:=Box3.of_block ((E.block _ HR.o.2).trans HR.o.1);have HP:Hid _:=wr3_box HX (.slice (some ⟨q,0,none⟩) 1 1) .nilIface (.slice none 0 0)
 have O:Hid (CpO w (.iface J K) f c k (.returned (.tuple #[.agg #[.slice (some ⟨q,0,none⟩) 1 1,.nilIface,.slice none 0 0],.nilIface])) (wr3 w6 (n+1) (.slice (some ⟨q,0,none⟩) 1 1) .nilIface (.slice none 0 0))):=by
  have hs:=HR.o.2;have hg:=z.o.1;have hn:=HN.o;refine⟨q,t5,x5,rfl,by have:=y.o.size;omega,(wr3_ne (by show q≠_;omega)).trans z.o.2.1,(wr3_ne (by show q≠_;omega)).trans z.o.2.2,?_,wr3_below (y.o.trans (P.o.mono y.o.size)) (by omega)⟩;exact(FoIn.imp (Nat.le_refl _) (fun b o C hl=>wr3_ne (show b≠n+1 by omega)) (by simp[wr3]) _ _ (FoIn.below h6.o P.o)).mono (by omega)
 rw[j] at HP O HX;obtain⟨b0,b1,b2,b3⟩:=HX;clear X c0 c1 E HU Z r3
 go_wp2
 obtain⟨d0,d1,d2,_⟩:=HP.o;exact bodyPost_ret (v:=.tuple #[.agg #[.slice (some ⟨q,0,none⟩) 1 1,.nilIface,.slice none 0 0],.nilIface]) (by simp[results,Tryz.results75,go_sem,d0,d1,d2]) rfl O.o
end
end Go.Proofs.YtnfnddnffoigfaaGreatDoor
