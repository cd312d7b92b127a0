/- Texts of LawRt. Own work of the verifier. -/
import Derived.Test.YtlkhmmoimplokaaGreatDoorUqbz
namespace Go.Proofs.YtlkhmmoimplokaaGreatDoor
set_option maxRecDepth 100000
set_option maxHeartbeats 2000000
open Go Go.RowKit
set_option linter.unusedVariables false
def rtC (T:List Cel)(Z:List Int):List Cel:=if (rtA T Z).1=none then itC (rtA T Z).2.1 else []
def rtN (T:List Cel)(Z:List Int):List (List Int):=if (rtA T Z).1=none then(rtA T Z).2.2 else []
def rtE (T:List Cel)(Z:List Int):Int×Int:=(rtA T Z).1.getD (0,0)
theorem tnn_bd:∀ (b:List (List Int)),(∀ d ∈ b,d.length<=100)->tnn b<=100 * b.length
 | [],_=>by simp[tnn]
 | a :: r,h=>by
   have e:=tnn_bd r (fun x c=>h x (List.mem_cons_of_mem _ c));have f:=h a (List.mem_cons_self ..);simp only[tnn,List.length_cons];omega
theorem spRt {w d:World}{T:List Cel}{Z:List Int}{e:Ending}(h:SpOut w (rtA T Z).2.1 (rtA T Z).2.2 (rtA T Z).1 e d) :
  ∃ q f p c,e = .returned (.tuple #[.agg #[.slice q (rtC T Z).length f,.slice p (rtN T Z).length c,.int .i64 0],.int .i64 (rtE T Z).1,.int .i64 (rtE T Z).2])/\(CIn d q (rtC T Z)/\NIn d p (rtN T Z))/\((rtC T Z).length+tl (rtC T Z)<=1000000/\(rtN T Z).length+tnn (rtN T Z)<=1048576)/\Below w.heap.size w d:=by
 obtain⟨k,⟨b,q,m,f,p,n,c,rfl,l,o,r,t,s,u⟩ | ⟨c,a,b,rfl⟩⟩:=h
 ·have g:rtC T Z=itC (rtA T Z).2.1:=by unfold rtC;rw[if_pos b]
  have i:rtN T Z=(rtA T Z).2.2:=by unfold rtN;rw[if_pos b]
  have j:rtE T Z=(0,0):=by unfold rtE;rw[b];rfl
  rw[g,i,j];refine⟨q,f,p,c,by rw[l.1,o.1],⟨l.cin,o.up.nin⟩,⟨?_,?_⟩,k⟩
  ·have:=tl_bd _ s;omega
  ·have:=tnn_bd _ r;omega
 ·have g:rtC T Z = []:=by unfold rtC;rw[if_neg (by rw[b];simp)]
  have i:rtN T Z = []:=by unfold rtN;rw[if_neg (by rw[b];simp)]
  have j:rtE T Z=(c,a):=by unfold rtE;rw[b];rfl
  rw[g,i,j];exact⟨none,0,none,0,rfl,⟨fun h=>absurd h (by simp),fun h=>absurd h (by simp)⟩,⟨by simp[tl],by simp[tnn]⟩,k⟩
theorem imRt {w d:World}{T:List Cel}{Z:List Int}{e:Ending}(h:RtOut w (rtA T Z).2.1 (rtA T Z).2.2 (rtA T Z).1 e d) :
  ∃ q f p c,e = .returned (.tuple #[.agg #[.slice q (rtC T Z).length f,.slice p (rtN T Z).length c,.int .i64 0],.int .i64 (rtE T Z).1,.int .i64 (rtE T Z).2])/\OwnCl d w.heap.size d.heap.size q (rtC T Z).length f p (rtN T Z).length c (rtC T Z) (rtN T Z)/\Below w.heap.size w d:=by
 obtain⟨g,⟨b,C,B,q,m,f,p,n,c,rfl,r,x,v,A,u⟩ | ⟨c,a,b,rfl⟩⟩:=h
 ·have i:rtC T Z=itC (rtA T Z).2.1:=by unfold rtC;rw[if_pos b]
  have j:rtN T Z=(rtA T Z).2.2:=by unfold rtN;rw[if_pos b]
  have l:rtE T Z=(0,0):=by unfold rtE;rw[b];rfl
  rw[i,j,l];have s:=u.1;have t:=x.1
  have o:=(x.up.other v (fun k y z D=>A k z y))
  refine⟨q,f,p,c,by rw[s,t],⟨C.heap.size,?_,?_,?_,v⟩,g⟩
  ·rw[<-t];exact o.lowerU r.1
  ·rw[<-s];exact u.up
  ·exact r.2
 ·have i:rtC T Z = []:=by unfold rtC;rw[if_neg (by rw[b];simp)]
  have j:rtN T Z = []:=by unfold rtN;rw[if_neg (by rw[b];simp)]
  have l:rtE T Z=(c,a):=by unfold rtE;rw[b];rfl
  rw[i,j,l];refine⟨none,0,none,0,rfl,⟨d.heap.size,?_,(OwnC.nil _ _).up,g.size,Nat.le_refl _⟩,g⟩;exact((OwnV.nil d d.heap.size).up).lowerU g.size
theorem eqB_same (p q:Option Addr)(b c:Nat)(a:List Int)(w:World)(d:a.length<=1000000000)(i:BIn w p a)(j:BIn w q a) :
  Calls Tryz.prog 12 #[.slice p a.length b,.slice q a.length c] w fun e f=>e = .returned (.bool true)/\Below w.heap.size w f:=
 (eqByteS_any p q b c a a w d d i j).mono fun e f ⟨g,k,h⟩=>⟨by rw[g];simp,by rw[h];exact below_drewN (Below.refl _ _) k⟩
theorem markB_keep (B U g n c:Nat)(k:Int)(d:List Int)(w:World)(f:0<=k)(h:k<=1000000000000)(o:n<=1000000000)(a:OwnS w B (some ⟨g,0,none⟩) n c d)(p:B<=g)(q:g<U) :
  Calls Tryz.prog 14 #[.slice (some ⟨g,0,none⟩) n c,.int .i64 k] w fun e b=>e = .returned (.int .i64 (k+n))/\Keep B U w b:=
 (mark_own B _ n c k d w f h o a).mono fun e b ⟨i,_,l⟩=>⟨i,Keep.of_grown l fun j m=>by simp[Value.ownBlock] at m;omega⟩
theorem endO_eq (k:Int)(a:List Cel):endO k a=k+2 * a.length+tl a:=by simp[endO,kAt]
theorem lawRt_any (po:Option Addr)(co:Nat)(T:List Cel)(p:Option Addr)(b3:Nat)(d:List Int)(m:Int)(w:World)(h5:OArg w po T)(r9:Bytes d)(hm:d.length<=9223372036854775807)(e6:BIn w p d)(hE:RxEnv w m) :
  Calls Tryz.prog 3 #[.slice po T.length co,.slice p d.length b3] w fun e w'=>e = .returned (.bool true)/\Below w.heap.size w w':=by
 by_cases hn:d.length<=1048576
 ·have HI:Hid (OArg w po T):=h5
  have HJ:Hid (BIn w p d):=e6;have HS:=szOpS_any po co T 1048576 w (Nat.le_refl _) h5.len h5.text h5.lies;have v7:=h5.len
  by_cases e9:T.length+tl T<=1048576
  ·obtain⟨r,er,hr⟩:∃ r:Nat,szR 1048576 (T.length+tl T)=r/\r<=1048576:=⟨1048576-(T.length+tl T),by rw[szR,if_pos e9];omega,by omega⟩
   rw[er] at HS;clear er
   have e7:Hid (∀ (q:Option Addr) (b B:Nat) (w:World),OwnO w B q T.length T.length T->B<=w.heap.size->Row w b d->Calls Tryz.prog 6 #[.slice q T.length T.length,.slice (some ⟨b,0,none⟩) d.length d.length] w fun e w'=>∃ q cm p c,e = .returned (.tuple #[.agg #[.slice q (rtC T d).length cm,.slice p (rtN T d).length c,.int .i64 0],.int .i64 (rtE T d).1,.int .i64 (rtE T d).2])/\(CIn w' q (rtC T d)/\NIn w' p (rtN T d))/\((rtC T d).length+tl (rtC T d)<=1000000/\(rtN T d).length+tnn (rtN T d)<=1048576)/\Below w.heap.size w w'):=fun q b B w h1 h2 h3=>(specRt_any T d q T.length b d.length B w HI.o.byte (by omega) h1 h2 r9 (by omega) (Nat.le_refl _) h3).mono fun e w' h=>spRt h
   have h8:Hid (∀ (q:Option Addr) (b:Nat) (W:World),Below w.heap.size w W->OIn W q T->Row W b d->Calls Tryz.prog 9 #[.slice q T.length T.length,.slice (some ⟨b,0,none⟩) d.length d.length] W fun e w'=>∃ q cm p c,e = .returned (.tuple #[.agg #[.slice q (rtC T d).length cm,.slice p (rtN T d).length c,.int .i64 0],.int .i64 (rtE T d).1,.int .i64 (rtE T d).2])/\OwnCl w' W.heap.size w'.heap.size q (rtC T d).length cm p (rtN T d).length c (rtC T d) (rtN T d)/\Below W.heap.size W w'):=fun q b W hW h1 h3=>(implRt_any T d q T.length b d.length m W HI.o.byte (by omega) h1 r9 (by omega) (Nat.le_refl _) h3 (hE.below hW)).mono fun e w' h=>imRt h
   generalize rtC T d=t at e7 h8
   generalize rtN T d=s at e7 h8
   generalize (rtE T d).1=code at e7 h8
   generalize (rtE T d).2=at_ at e7 h8
   obtain⟨j,l2⟩:∃ x,x=t.length:=⟨_,rfl⟩
   obtain⟨i,l1⟩:∃ x,x=s.length:=⟨_,rfl⟩
   have K:Hid (j=t.length/\i=s.length):=⟨l2,l1⟩
   rw[<-l2,<-l1] at e7 h8;clear h5 e6 hE l2 l1 hr hm
   go_enter Tryz.func3,Tryz.ntmps3
   go_wp2_with fail;refine(HS).mono ?_;rintro e w0 ⟨rfl,a⟩;have b4:Hid (Below w.heap.size w w0):=a;clear a HS;go_wp2_with fail;refine(toOpS_any po co T w0 e9 (HI.o.below b4.o).lies).mono ?_;rintro e w1 ⟨rfl,y,a⟩;have l3:Hid (Below w.heap.size w w1):=Below.on b4.o a;have t3:Hid (OwnO w1 w0.heap.size (some ⟨w0.heap.size,0,none⟩) T.length T.length T):=y;have t4:Hid (w0.heap.size<=w1.heap.size):=a.size;clear y a;go_wp2_with fail;refine(toByteS_any p b3 d w1 hn (HJ.o.below l3.o)).mono ?_;rintro e w2 ⟨rfl,y,a⟩;have s2:Hid (Below w.heap.size w w2):=Below.on l3.o a;have o4:Hid (OwnO w2 w0.heap.size (some ⟨w0.heap.size,0,none⟩) T.length T.length T):=t3.o.below a;have o5:Hid (Row w2 w1.heap.size d):=row_of_owns y;have r7:Hid (w1.heap.size<=w2.heap.size):=a.size;clear y a;go_wp2_with fail
   refine(e7.o _ _ _ w2 o4.o (Nat.le_trans t4.o r7.o) o5.o).mono ?_;rintro e D ⟨F,n,E,H,rfl,i8,r8,a⟩;have s3:Hid (Below w.heap.size w D):=Below.on s2.o a;have r6:Hid (CIn D F t/\NIn D E s):=i8
   have J:Hid (t.length+tl t<=1000000/\s.length+tnn s<=1048576):=by rw[<-K.o.1,<-K.o.2];exact r8
   clear i8 r8 a o4 o5
   obtain⟨g,b6⟩:∃ W,W=D.alloc (.cells #[.slice F j n,.slice E i H,.int .i64 0] 28):=⟨_,rfl⟩
   have s9:Hid (g=D.alloc (.cells #[.slice F j n,.slice E i H,.int .i64 0] 28)):=b6
   have a:Below D.heap.size D g:=by rw[b6];exact box_below _ _
   have h4:g.heap[D.heap.size]?=some (.cells #[.slice F j n,.slice E i H,.int .i64 0] 28):=by rw[b6];exact box_new _ _
   have i9:Hid (Below w.heap.size w g):=Below.on s3.o a
   have e8:Hid (CIn g F t/\NIn g E s):=⟨r6.o.1.below a,r6.o.2.below a⟩
   have s6:Hid (Below g.heap.size g g):=Below.refl _ _;have j6:Hid (g.heap[D.heap.size]?=some (.cells #[.slice F j n,.slice E i H,.int .i64 0] 28)):=h4;clear b6 a h4;have x8:Hid (D.heap.size<g.heap.size):=(Array.getElem?_eq_some_iff.1 j6.o).1;go_wp2_with fail;rw[<-s9.o];refine(toOpS_any po co T g e9 (HI.o.below i9.o).lies).mono ?_;rintro e z ⟨rfl,y,a⟩;have j1:Hid (Below w.heap.size w z):=Below.on i9.o a;have k5:Hid (Below g.heap.size g z):=Below.on s6.o a;have q4:Hid (z.heap[D.heap.size]?=some (.cells #[.slice F j n,.slice E i H,.int .i64 0] 28)):=(a.block _ (Array.getElem?_eq_some_iff.1 j6.o).1).trans j6.o;have t8:Hid (OwnOU z g.heap.size z.heap.size (some ⟨g.heap.size,0,none⟩) T.length T.length T):=y.up;clear y a;go_wp2_with fail
   refine(toByteS_any p b3 d z hn (HJ.o.below j1.o)).mono ?_;rintro e Y ⟨rfl,y,a⟩;have j2:Hid (Below w.heap.size w Y):=Below.on j1.o a;have k6:Hid (Below g.heap.size g Y):=Below.on k5.o a;have q5:Hid (Y.heap[D.heap.size]?=some (.cells #[.slice F j n,.slice E i H,.int .i64 0] 28)):=(a.block _ (Array.getElem?_eq_some_iff.1 q4.o).1).trans q4.o;have r2:Hid (OwnOU Y g.heap.size z.heap.size (some ⟨g.heap.size,0,none⟩) T.length T.length T):=t8.o.below a;have r5:Hid (OwnS Y z.heap.size (some ⟨z.heap.size,0,none⟩) d.length d.length d):=OwnS.of_row y;have x7:Hid (z.heap.size<Y.heap.size):=(OwnS.of_row y).row.1;clear y a;go_wp2_with fail;refine(h8.o _ _ Y j2.o r2.o.toO.oin r5.o.row).mono ?_;rintro e l ⟨v,f,u,A,rfl,y,a⟩;have s4:Hid (Below w.heap.size w l):=Below.on j2.o a
   have s7:Hid (Below g.heap.size g l):=Below.on k6.o a;have q6:Hid (l.heap[D.heap.size]?=some (.cells #[.slice F j n,.slice E i H,.int .i64 0] 28)):=(a.block _ (Array.getElem?_eq_some_iff.1 q5.o).1).trans q5.o;have t9:Hid (OwnOU l g.heap.size z.heap.size (some ⟨g.heap.size,0,none⟩) T.length T.length T):=r2.o.below a;have v3:Hid (OwnS l z.heap.size (some ⟨z.heap.size,0,none⟩) d.length d.length d):=r5.o.below a;have t1:Hid (OwnCl l Y.heap.size l.heap.size v j f u i A t s):=y;have t5:Hid (l.heap.size<=l.heap.size):=Nat.le_refl _;have x9:Hid (Y.heap.size<=l.heap.size):=a.size;clear y a
   obtain⟨w8,b7⟩:∃ W,W=l.alloc (.cells #[.slice v j f,.slice u i A,.int .i64 0] 28):=⟨_,rfl⟩
   have n4:Hid (w8=l.alloc (.cells #[.slice v j f,.slice u i A,.int .i64 0] 28)):=b7
   have a:Below l.heap.size l w8:=by rw[b7];exact box_below _ _
   have h4:w8.heap[l.heap.size]?=some (.cells #[.slice v j f,.slice u i A,.int .i64 0] 28):=by rw[b7];exact box_new _ _
   have s5:Hid (Below w.heap.size w w8):=Below.on s4.o a;have j3:Hid (Below g.heap.size g w8):=Below.on s7.o a;have j7:Hid (w8.heap[D.heap.size]?=some (.cells #[.slice F j n,.slice E i H,.int .i64 0] 28)):=(a.block _ (Array.getElem?_eq_some_iff.1 q6.o).1).trans q6.o;have v1:Hid (OwnOU w8 g.heap.size z.heap.size (some ⟨g.heap.size,0,none⟩) T.length T.length T):=t9.o.below a;have v4:Hid (OwnS w8 z.heap.size (some ⟨z.heap.size,0,none⟩) d.length d.length d):=v3.o.below a;have j4:Hid (OwnCl w8 Y.heap.size l.heap.size v j f u i A t s):=t1.o.below a;have t6:Hid (l.heap.size<=w8.heap.size):=Nat.le_trans t5.o a.size;have j5:Hid (w8.heap[l.heap.size]?=some (.cells #[.slice v j f,.slice u i A,.int .i64 0] 28)):=h4;clear b7 a h4;obtain⟨y0,y1,y2⟩:=box3 j5.o
   obtain⟨x0,x1,x2⟩:=box3 j7.o;rw[n4.o] at y0 y1 y2 x0 x1 x2;go_wp2_with fail;rw[<-n4.o];refine(eqClause_same v F j f n u E i A H t s w8 (by have:=J.o;omega) J.o.2 ⟨j4.o.ins.1,j4.o.ins.2.1⟩ ⟨e8.o.1.below j3.o,e8.o.2.below j3.o⟩ K.o.1 K.o.2).mono ?_;rintro e w9 ⟨rfl,a⟩;clear y0 y1 y2 x0 x1 x2;have m3:Hid (Below w.heap.size w w9):=Below.on s5.o a;have s8:Hid (Below g.heap.size g w9):=Below.on j3.o a;have q8:Hid (w9.heap[D.heap.size]?=some (.cells #[.slice F j n,.slice E i H,.int .i64 0] 28)):=(a.block _ (Array.getElem?_eq_some_iff.1 j7.o).1).trans j7.o;have v2:Hid (OwnOU w9 g.heap.size z.heap.size (some ⟨g.heap.size,0,none⟩) T.length T.length T):=v1.o.below a;have v5:Hid (OwnS w9 z.heap.size (some ⟨z.heap.size,0,none⟩) d.length d.length d):=v4.o.below a
   have t2:Hid (OwnCl w9 Y.heap.size l.heap.size v j f u i A t s):=j4.o.below a;have t7:Hid (l.heap.size<=w9.heap.size):=Nat.le_trans t6.o a.size;have o2:Hid (w9.heap[l.heap.size]?=some (.cells #[.slice v j f,.slice u i A,.int .i64 0] 28)):=(a.block _ (Array.getElem?_eq_some_iff.1 j5.o).1).trans j5.o;clear a;go_wp2_with fail;refine(toOpS_any po co T w9 e9 (HI.o.below m3.o).lies).mono ?_;rintro e S ⟨rfl,y,a⟩;have l4:Hid (Below w.heap.size w S):=Below.on m3.o a;have m4:Hid (Below g.heap.size g S):=Below.on s8.o a;have f9:Hid (S.heap[D.heap.size]?=some (.cells #[.slice F j n,.slice E i H,.int .i64 0] 28)):=(a.block _ (Array.getElem?_eq_some_iff.1 q8.o).1).trans q8.o;have i3:Hid (OwnOU S g.heap.size z.heap.size (some ⟨g.heap.size,0,none⟩) T.length T.length T):=v2.o.below a
   have r3:Hid (OwnS S z.heap.size (some ⟨z.heap.size,0,none⟩) d.length d.length d):=v5.o.below a;have n5:Hid (OwnCl S Y.heap.size l.heap.size v j f u i A t s):=t2.o.below a;have o6:Hid (l.heap.size<=S.heap.size):=Nat.le_trans t7.o a.size;have d3:Hid (S.heap[l.heap.size]?=some (.cells #[.slice v j f,.slice u i A,.int .i64 0] 28)):=(a.block _ (Array.getElem?_eq_some_iff.1 o2.o).1).trans o2.o;have f4:Hid (OIn S (some ⟨w9.heap.size,0,none⟩) T):=y.oin;clear y a;go_wp2_with fail;refine(eqOpS_any _ _ _ _ T T S (by omega) (by omega) i3.o.toO.oin f4.o).mono ?_;rintro e U ⟨rfl,a⟩;have b8:Hid (Below w.heap.size w U):=Below.on l4.o a;have m5:Hid (Below g.heap.size g U):=Below.on m4.o a;have g1:Hid (U.heap[D.heap.size]?=some (.cells #[.slice F j n,.slice E i H,.int .i64 0] 28)):=(a.block _ (Array.getElem?_eq_some_iff.1 f9.o).1).trans f9.o
   have q9:Hid (OwnOU U g.heap.size z.heap.size (some ⟨g.heap.size,0,none⟩) T.length T.length T):=i3.o.below a;have r4:Hid (OwnS U z.heap.size (some ⟨z.heap.size,0,none⟩) d.length d.length d):=r3.o.below a;have n6:Hid (OwnCl U Y.heap.size l.heap.size v j f u i A t s):=n5.o.below a;have o7:Hid (l.heap.size<=U.heap.size):=Nat.le_trans o6.o a.size;have d4:Hid (U.heap[l.heap.size]?=some (.cells #[.slice v j f,.slice u i A,.int .i64 0] 28)):=(a.block _ (Array.getElem?_eq_some_iff.1 d3.o).1).trans d3.o
   have ht:decide (T=T)=true:=by simp
   rw[ht];clear ht a f4;go_wp2_with fail;refine(toByteS_any p b3 d U hn (HJ.o.below b8.o)).mono ?_;rintro e V ⟨rfl,y,a⟩;have l5:Hid (Below w.heap.size w V):=Below.on b8.o a;have m6:Hid (Below g.heap.size g V):=Below.on m5.o a;have g2:Hid (V.heap[D.heap.size]?=some (.cells #[.slice F j n,.slice E i H,.int .i64 0] 28)):=(a.block _ (Array.getElem?_eq_some_iff.1 g1.o).1).trans g1.o;have r1:Hid (OwnOU V g.heap.size z.heap.size (some ⟨g.heap.size,0,none⟩) T.length T.length T):=q9.o.below a;have i5:Hid (OwnS V z.heap.size (some ⟨z.heap.size,0,none⟩) d.length d.length d):=r4.o.below a;have n7:Hid (OwnCl V Y.heap.size l.heap.size v j f u i A t s):=n6.o.below a;have o8:Hid (l.heap.size<=V.heap.size):=Nat.le_trans o7.o a.size
   have d5:Hid (V.heap[l.heap.size]?=some (.cells #[.slice v j f,.slice u i A,.int .i64 0] 28)):=(a.block _ (Array.getElem?_eq_some_iff.1 d4.o).1).trans d4.o;have f6:Hid (Row V U.heap.size d):=row_of_owns y;clear y a;go_wp2_with fail;refine(eqB_same _ _ _ _ d V (by omega) i5.o.bin f6.o.bin).mono ?_;rintro e Z ⟨rfl,a⟩;have b9:Hid (Below w.heap.size w Z):=Below.on l5.o a;have c8:Hid (Below g.heap.size g Z):=Below.on m6.o a;have g3:Hid (Z.heap[D.heap.size]?=some (.cells #[.slice F j n,.slice E i H,.int .i64 0] 28)):=(a.block _ (Array.getElem?_eq_some_iff.1 g2.o).1).trans g2.o;have i4:Hid (OwnOU Z g.heap.size z.heap.size (some ⟨g.heap.size,0,none⟩) T.length T.length T):=r1.o.below a;have i6:Hid (OwnS Z z.heap.size (some ⟨z.heap.size,0,none⟩) d.length d.length d):=i5.o.below a
   have n8:Hid (OwnCl Z Y.heap.size l.heap.size v j f u i A t s):=n7.o.below a;have o9:Hid (l.heap.size<=Z.heap.size):=Nat.le_trans o8.o a.size;have d6:Hid (Z.heap[l.heap.size]?=some (.cells #[.slice v j f,.slice u i A,.int .i64 0] 28)):=(a.block _ (Array.getElem?_eq_some_iff.1 d5.o).1).trans d5.o;clear a f6;go_wp2_with fail;refine(markOps_any g.heap.size z.heap.size _ _ _ 1 T Z (by decide) (by decide) (by omega) i4.o).mono ?_;rintro e h6 ⟨rfl,y,N⟩;have c1:Hid (Below w.heap.size w h6):=b9.o.trans (N.below i9.o.size b9.o.size);have c9:Hid (Below g.heap.size g h6):=c8.o.trans (N.below (Nat.le_refl _) c8.o.size);have g4:Hid (h6.heap[D.heap.size]?=some (.cells #[.slice F j n,.slice E i H,.int .i64 0] 28)):=(N.block _ (Array.getElem?_eq_some_iff.1 g3.o).1 (.inl (by have:=x8.o;have:=k5.o.size;have:=k6.o.size;omega))).trans g3.o
   have i7:Hid (OwnS h6 z.heap.size (some ⟨z.heap.size,0,none⟩) d.length d.length d):=ownS_block i6.o (N.block _ (ownS_lt i6.o).2 (.inr (Nat.le_refl _)));have n9:Hid (OwnCl h6 Y.heap.size l.heap.size v j f u i A t s):=n8.o.keep N (.inr (Nat.le_of_lt x7.o));have p1:Hid (l.heap.size<=h6.heap.size):=Nat.le_trans o9.o N.size;have d7:Hid (h6.heap[l.heap.size]?=some (.cells #[.slice v j f,.slice u i A,.int .i64 0] 28)):=(N.block _ (Array.getElem?_eq_some_iff.1 d6.o).1 (.inr (by have:=x7.o;have:=x9.o;omega))).trans d6.o
   obtain⟨k1,j8⟩:∃ k,k=endO 1 T:=⟨_,rfl⟩
   have s1:0<=k1/\k1<=10000000:=by rw[j8,endO_eq];omega
   rw[<-j8];clear j8 y N i4;go_wp2_with fail;refine(markB_keep z.heap.size Y.heap.size z.heap.size d.length d.length k1 d h6 s1.1 (by omega) (by omega) i7.o (Nat.le_refl _) x7.o).mono ?_;rintro e e1 ⟨rfl,N⟩;have l6:Hid (Below w.heap.size w e1):=c1.o.trans (N.below j1.o.size c1.o.size);have k3:Hid (Below g.heap.size g e1):=c9.o.trans (N.below k5.o.size c9.o.size);have b1:Hid (e1.heap[D.heap.size]?=some (.cells #[.slice F j n,.slice E i H,.int .i64 0] 28)):=(N.block _ (Array.getElem?_eq_some_iff.1 g4.o).1 (.inl (by have:=x8.o;have:=k5.o.size;have:=k6.o.size;omega))).trans g4.o;have k7:Hid (OwnCl e1 Y.heap.size l.heap.size v j f u i A t s):=n9.o.keep N (.inr (Nat.le_refl _));have p2:Hid (l.heap.size<=e1.heap.size):=Nat.le_trans p1.o N.size
   have x3:Hid (e1.heap[l.heap.size]?=some (.cells #[.slice v j f,.slice u i A,.int .i64 0] 28)):=(N.block _ (Array.getElem?_eq_some_iff.1 d7.o).1 (.inr (by have:=x7.o;have:=x9.o;omega))).trans d7.o
   obtain⟨k2,j9⟩:∃ k:Int,k=k1+(d.length:Nat):=⟨_,rfl⟩
   have y9:¬ k2<0:=by rw[j9];omega
   rw[<-j9];clear j9 N i7 s1;obtain⟨y0,y1,y2⟩:=box3 x3.o;obtain⟨x0,x1,x2⟩:=box3 b1.o;go_wp2_with fail;refine(eqClause_same v F j f n u E i A H t s e1 (by have:=J.o;omega) J.o.2 ⟨k7.o.ins.1,k7.o.ins.2.1⟩ ⟨e8.o.1.below k3.o,e8.o.2.below k3.o⟩ K.o.1 K.o.2).mono ?_;rintro e e2 ⟨rfl,a⟩;clear y0 y1 y2 x0 x1 x2;have c2:Hid (Below w.heap.size w e2):=Below.on l6.o a;have a1:Hid (Below g.heap.size g e2):=Below.on k3.o a;have g5:Hid (e2.heap[D.heap.size]?=some (.cells #[.slice F j n,.slice E i H,.int .i64 0] 28)):=(a.block _ (Array.getElem?_eq_some_iff.1 b1.o).1).trans b1.o;have a3:Hid (OwnCl e2 Y.heap.size l.heap.size v j f u i A t s):=k7.o.below a;have f8:Hid (l.heap.size<=e2.heap.size):=Nat.le_trans p2.o a.size
   have x4:Hid (e2.heap[l.heap.size]?=some (.cells #[.slice v j f,.slice u i A,.int .i64 0] 28)):=(a.block _ (Array.getElem?_eq_some_iff.1 x3.o).1).trans x3.o;clear a;obtain⟨y0,y1,y2⟩:=box3 x4.o;go_wp2_with fail;refine(markClause_any Y.heap.size l.heap.size v j f u i A t s e2 (by have:=J.o;omega) (by have:=J.o;omega) a3.o f8.o).mono ?_;rintro e h7 ⟨rfl,y,N⟩;clear y0 y1 y2;have l7:Hid (Below w.heap.size w h7):=c2.o.trans (N.below j2.o.size c2.o.size);have m7:Hid (Below g.heap.size g h7):=a1.o.trans (N.below k6.o.size a1.o.size);have g6:Hid (h7.heap[D.heap.size]?=some (.cells #[.slice F j n,.slice E i H,.int .i64 0] 28)):=(N.block _ (Array.getElem?_eq_some_iff.1 g5.o).1 (.inl (by have:=x8.o;have:=k5.o.size;have:=k6.o.size;omega))).trans g5.o
   have p4:Hid (l.heap.size<=h7.heap.size):=Nat.le_trans f8.o N.size;have x5:Hid (h7.heap[l.heap.size]?=some (.cells #[.slice v j f,.slice u i A,.int .i64 0] 28)):=(N.block _ (Array.getElem?_eq_some_iff.1 x4.o).1 (.inr (by have:=x7.o;have:=x9.o;omega))).trans x4.o
   have e3:Hid (CIn h7 v (markC 1 t)/\NIn h7 u (mixN (endC 1 t) s s.length)):=⟨y.ins.1,y.ins.2.1⟩
   obtain⟨mm,b5⟩:∃ mm,mm=endC 1 t+(tnn s:Nat):=⟨_,rfl⟩
   have z1:¬ mm<0:=by rw[b5];exact endC_pos t _
   have o1:Hid (mm=endC 1 t+(tnn s:Nat)):=b5;rw[<-b5];clear b5 y N a3;obtain⟨y0,y1,y2⟩:=box3 x5.o;go_wp2_with fail;refine(heldClause_any v j f u i A t s h7 (by have:=J.o;omega) (by have:=J.o;omega) K.o.1 K.o.2 e3.o.1 e3.o.2).mono ?_;rintro e I ⟨rfl,a⟩;clear y0 y1 y2;have c4:Hid (Below w.heap.size w I):=Below.on l7.o a;have m8:Hid (Below g.heap.size g I):=Below.on m7.o a;have g7:Hid (I.heap[D.heap.size]?=some (.cells #[.slice F j n,.slice E i H,.int .i64 0] 28)):=(a.block _ (Array.getElem?_eq_some_iff.1 g6.o).1).trans g6.o;have p5:Hid (l.heap.size<=I.heap.size):=Nat.le_trans p4.o a.size;have d8:Hid (I.heap[l.heap.size]?=some (.cells #[.slice v j f,.slice u i A,.int .i64 0] 28)):=(a.block _ (Array.getElem?_eq_some_iff.1 x5.o).1).trans x5.o
   have a4:Hid (CIn I v (markC 1 t)/\NIn I u (mixN (endC 1 t) s s.length)):=⟨e3.o.1.below a,e3.o.2.below a⟩
   rw[<-o1.o];clear a;go_wp2_with fail;refine(toOpS_any po co T I e9 (HI.o.below c4.o).lies).mono ?_;rintro e L ⟨rfl,y,a⟩;have c5:Hid (Below w.heap.size w L):=Below.on c4.o a;have m9:Hid (Below g.heap.size g L):=Below.on m8.o a;have g8:Hid (L.heap[D.heap.size]?=some (.cells #[.slice F j n,.slice E i H,.int .i64 0] 28)):=(a.block _ (Array.getElem?_eq_some_iff.1 g7.o).1).trans g7.o;have p6:Hid (l.heap.size<=L.heap.size):=Nat.le_trans p5.o a.size;have d9:Hid (L.heap[l.heap.size]?=some (.cells #[.slice v j f,.slice u i A,.int .i64 0] 28)):=(a.block _ (Array.getElem?_eq_some_iff.1 d8.o).1).trans d8.o
   have a5:Hid (CIn L v (markC 1 t)/\NIn L u (mixN (endC 1 t) s s.length)):=⟨a4.o.1.below a,a4.o.2.below a⟩
   have o3:Hid (OwnO L I.heap.size (some ⟨I.heap.size,0,none⟩) T.length T.length T):=y;have y6:Hid (I.heap.size<=L.heap.size):=a.size;clear y a;go_wp2_with fail;refine(toByteS_any p b3 d L hn (HJ.o.below c5.o)).mono ?_;rintro e Q ⟨rfl,y,a⟩;have c6:Hid (Below w.heap.size w Q):=Below.on c5.o a;have n1:Hid (Below g.heap.size g Q):=Below.on m9.o a;have g9:Hid (Q.heap[D.heap.size]?=some (.cells #[.slice F j n,.slice E i H,.int .i64 0] 28)):=(a.block _ (Array.getElem?_eq_some_iff.1 g8.o).1).trans g8.o;have p8:Hid (l.heap.size<=Q.heap.size):=Nat.le_trans p6.o a.size;have f1:Hid (Q.heap[l.heap.size]?=some (.cells #[.slice v j f,.slice u i A,.int .i64 0] 28)):=(a.block _ (Array.getElem?_eq_some_iff.1 d9.o).1).trans d9.o
   have a6:Hid (CIn Q v (markC 1 t)/\NIn Q u (mixN (endC 1 t) s s.length)):=⟨a5.o.1.below a,a5.o.2.below a⟩
   have f5:Hid (OwnO Q I.heap.size (some ⟨I.heap.size,0,none⟩) T.length T.length T):=o3.o.below a;have f7:Hid (Row Q L.heap.size d):=row_of_owns y;have v6:Hid (L.heap.size<=Q.heap.size):=a.size;clear y a;go_wp2_with fail;refine(h8.o _ _ Q c6.o f5.o.oin f7.o).mono ?_;rintro e C ⟨P,M,O,h9,rfl,y,a⟩;have l8:Hid (Below w.heap.size w C):=Below.on c6.o a;have n2:Hid (Below g.heap.size g C):=Below.on n1.o a;have i1:Hid (C.heap[D.heap.size]?=some (.cells #[.slice F j n,.slice E i H,.int .i64 0] 28)):=(a.block _ (Array.getElem?_eq_some_iff.1 g9.o).1).trans g9.o;have p9:Hid (l.heap.size<=C.heap.size):=Nat.le_trans p8.o a.size;have f2:Hid (C.heap[l.heap.size]?=some (.cells #[.slice v j f,.slice u i A,.int .i64 0] 28)):=(a.block _ (Array.getElem?_eq_some_iff.1 f1.o).1).trans f1.o
   have a7:Hid (CIn C v (markC 1 t)/\NIn C u (mixN (endC 1 t) s s.length)):=⟨a6.o.1.below a,a6.o.2.below a⟩
   have d1:Hid (CIn C P t/\NIn C O s):=⟨y.ins.1,y.ins.2.1⟩
   clear y a f5 f7
   obtain⟨G,e5⟩:∃ W,W=C.alloc (.cells #[.slice P j M,.slice O i h9,.int .i64 0] 28):=⟨_,rfl⟩
   have a2:Hid (G=C.alloc (.cells #[.slice P j M,.slice O i h9,.int .i64 0] 28)):=e5
   have a:Below C.heap.size C G:=by rw[e5];exact box_below _ _
   have h4:G.heap[C.heap.size]?=some (.cells #[.slice P j M,.slice O i h9,.int .i64 0] 28):=by rw[e5];exact box_new _ _
   have l9:Hid (Below w.heap.size w G):=Below.on l8.o a;have k4:Hid (Below g.heap.size g G):=Below.on n2.o a;have b2:Hid (G.heap[D.heap.size]?=some (.cells #[.slice F j n,.slice E i H,.int .i64 0] 28)):=(a.block _ (Array.getElem?_eq_some_iff.1 i1.o).1).trans i1.o;have q1:Hid (l.heap.size<=G.heap.size):=Nat.le_trans p9.o a.size;have f3:Hid (G.heap[l.heap.size]?=some (.cells #[.slice v j f,.slice u i A,.int .i64 0] 28)):=(a.block _ (Array.getElem?_eq_some_iff.1 f2.o).1).trans f2.o
   have a8:Hid (CIn G v (markC 1 t)/\NIn G u (mixN (endC 1 t) s s.length)):=⟨a7.o.1.below a,a7.o.2.below a⟩
   have k9:Hid (CIn G P t/\NIn G O s):=⟨d1.o.1.below a,d1.o.2.below a⟩
   have k8:Hid (G.heap[C.heap.size]?=some (.cells #[.slice P j M,.slice O i h9,.int .i64 0] 28)):=h4;clear e5 a h4;obtain⟨y0,y1,y2⟩:=box3 k8.o;obtain⟨x0,x1,x2⟩:=box3 b2.o;rw[a2.o] at y0 y1 y2 x0 x1 x2;go_wp2_with fail;rw[<-a2.o];refine(eqClause_same P F j M n O E i h9 H t s G (by have:=J.o;omega) J.o.2 k9.o ⟨e8.o.1.below k4.o,e8.o.2.below k4.o⟩ K.o.1 K.o.2).mono ?_;rintro e R ⟨rfl,a⟩;clear y0 y1 y2 x0 x1 x2;have m1:Hid (Below w.heap.size w R):=Below.on l9.o a;have n3:Hid (Below g.heap.size g R):=Below.on k4.o a;have i2:Hid (R.heap[D.heap.size]?=some (.cells #[.slice F j n,.slice E i H,.int .i64 0] 28)):=(a.block _ (Array.getElem?_eq_some_iff.1 b2.o).1).trans b2.o;have q2:Hid (l.heap.size<=R.heap.size):=Nat.le_trans q1.o a.size
   have x6:Hid (R.heap[l.heap.size]?=some (.cells #[.slice v j f,.slice u i A,.int .i64 0] 28)):=(a.block _ (Array.getElem?_eq_some_iff.1 f3.o).1).trans f3.o
   have e4:Hid (CIn R v (markC 1 t)/\NIn R u (mixN (endC 1 t) s s.length)):=⟨a8.o.1.below a,a8.o.2.below a⟩
   have d2:Hid (CIn R P t/\NIn R O s):=⟨k9.o.1.below a,k9.o.2.below a⟩
   have a9:Hid (R.heap[C.heap.size]?=some (.cells #[.slice P j M,.slice O i h9,.int .i64 0] 28)):=(a.block _ (Array.getElem?_eq_some_iff.1 k8.o).1).trans k8.o;clear a;obtain⟨y0,y1,y2⟩:=box3 x6.o;go_wp2_with fail;refine(heldClause_any v j f u i A t s R (by have:=J.o;omega) (by have:=J.o;omega) K.o.1 K.o.2 e4.o.1 e4.o.2).mono ?_;rintro e X ⟨rfl,a⟩;clear y0 y1 y2;have m2:Hid (Below w.heap.size w X):=Below.on m1.o a;have v8:Hid (Below g.heap.size g X):=Below.on n3.o a;have y8:Hid (X.heap[D.heap.size]?=some (.cells #[.slice F j n,.slice E i H,.int .i64 0] 28)):=(a.block _ (Array.getElem?_eq_some_iff.1 i2.o).1).trans i2.o;have y7:Hid (l.heap.size<=X.heap.size):=Nat.le_trans q2.o a.size;have y5:Hid (X.heap[l.heap.size]?=some (.cells #[.slice v j f,.slice u i A,.int .i64 0] 28)):=(a.block _ (Array.getElem?_eq_some_iff.1 x6.o).1).trans x6.o
   have v9:Hid (CIn X v (markC 1 t)/\NIn X u (mixN (endC 1 t) s s.length)):=⟨e4.o.1.below a,e4.o.2.below a⟩
   have y4:Hid (CIn X P t/\NIn X O s):=⟨d2.o.1.below a,d2.o.2.below a⟩
   have y3:Hid (X.heap[C.heap.size]?=some (.cells #[.slice P j M,.slice O i h9,.int .i64 0] 28)):=(a.block _ (Array.getElem?_eq_some_iff.1 a9.o).1).trans a9.o;rw[<-o1.o];clear a;go_wp2_with fail;go_ret;exact⟨rfl,m2.o⟩
  ·have er:szR 1048576 (T.length+tl T) = -1:=by rw[szR,if_neg e9]
   rw[er] at HS;clear er h5 e6 hE
   go_enter Tryz.func3,Tryz.ntmps3
   go_wp2_with fail;refine HS.mono ?_;rintro e w0 ⟨rfl,a⟩;have b4:Hid (Below w.heap.size w w0):=a;clear a HS;go_wp2_with fail;go_ret;exact⟨rfl,b4.o⟩
 ·have z2:(1048576:Int)<(d.length:Int):=by omega
  clear h5 e6 hE
  go_enter Tryz.func3,Tryz.ntmps3
  go_wp2_with fail;go_ret;exact⟨rfl,Below.refl _ _⟩
end Go.Proofs.YtlkhmmoimplokaaGreatDoor
