/- Texts of LawFpV, LawFpC, LawFpN, LawFpS, LawFp. Own work of the verifier. -/
import Derived.Test.YtnfnddnffoigfaaGreatDoorUqay
namespace Go.Proofs.YtnfnddnffoigfaaGreatDoor
set_option maxHeartbeats 16000000
set_option maxRecDepth 100000
open Go Go.RowKit
set_option linter.unusedVariables false
set_option linter.unusedSimpArgs false
theorem lawFp_var (p:Option Addr)(I n:Nat)(xs:List Int)(a v:Addr)(B:Int)(w:World)(P:CodeIn w p I n xs)(hg:FpEnv w a v B)(A:Tr)(hV:dvF (xs.take 500)=A.cs)(hA:smallT A)(hl:A.cs.length<=500)(M:∀ x ∈ A.cs,x.1=0->x.2.1<400)(Z:A.1.1=0) :
  Calls Tryz.prog 3 #[.slice p n I] w fun e w'=>e = .returned (.bool true)/\Below w.heap.size w w':=by
 have H:=drawFp P hV
 have F:Hid (smallT A/\A.cs.length<=500/\A.1.1=0):=⟨hA,hl,Z⟩
 have V:=hid M;have h:=hid hg;have g:Hid (Below w.heap.size w w):=Below.refl _ _
 have d1:n<=1048576:=by have:=P.len;have:=P.small;omega
 clear P hg hV hA hl M Z
 go_enter Tryz.func3,Tryz.ntmps3
 go_wp2_with fail;refine(H).mono ?_;rintro e w1 ⟨q,m,y,rfl,z,c⟩
 replace g:Hid (Below w.heap.size w w1):=Below.on g.o c
 replace h:Hid (FpEnv w1 a v B):=h.o.below c
 clear c H;obtain⟨b,o,rfl⟩:=z.at0 (by simp[Tr.cs]);have d:=hid z
 have hm:m<=500:=by rw[z.1];exact F.o.2.1
 have h2:1<=m:=by rw[z.1];simp[Tr.cs]
 clear z;go_wp2_with fail;refine(validFp F.o.1 d.o).mono ?_;rintro e N ⟨rfl,c⟩
 replace g:Hid (Below w.heap.size w N):=Below.on g.o c
 replace h:Hid (FpEnv N a v B):=h.o.below c
 replace d:Hid (TmC N (some ⟨b,o,none⟩) m y A.cs):=d.o.below c
 clear c ;go_wp2_with fail
 go_loopw [4] (fun i wr=>∃ (j:Nat),j<=m/\i = .int .i64 j/\wr=N) (fun i _=>m-(intOf i).toNat)
 case atStart=>exact⟨0,Nat.zero_le _,rfl,rfl⟩
 case round=>
  obtain⟨j,hj,rfl,hw⟩:=hrel;rw[hw];clear hw wr
  by_cases L:j<m
  ·obtain⟨q0,q1,l⟩:=d.o.varAt L V.o
   obtain⟨Q,J⟩:∃ Q,Q=(A.cs.getD j Cel.none).1:=⟨_,rfl⟩
   obtain⟨X,K⟩:∃ X,X=(A.cs.getD j Cel.none).2.1:=⟨_,rfl⟩
   rw[<-J] at q0 l;rw[<-K] at q1 l;clear J K
   by_cases W:Q=0
   ·have h4:=l W
    have b1:((400:Int)<=X)=False:=by simp;omega
    subst W;clear l;go_wp2_with fail;go_roundw
    case rel=>exact⟨j+1,by omega,by go_num,by first | rfl | trivial⟩
    case measure=>simp[intOf];omega
   ·have b1:(Q == 0)=false:=by simpa using W
    clear l;go_wp2_with fail;go_roundw
    case rel=>exact⟨j+1,by omega,by go_num,by first | rfl | trivial⟩
    case measure=>simp[intOf];omega
  ·obtain rfl:j=m:=by omega
   clear L;go_wp2_with fail;refine(variable_any 450 N).mono ?_;rintro e E ⟨t,s,r,rfl,M,c⟩
   replace g:Hid (Below w.heap.size w E):=Below.on g.o c
   replace h:Hid (FpEnv E a v B):=h.o.below c
   replace d:Hid (TmC E (some ⟨b,o,none⟩) j y A.cs):=d.o.below c
   have k:=hid M;clear c M;go_wp2_with fail
   obtain⟨f,O⟩:∃ f,f=E.alloc (.cells #[.slice (some ⟨b,o,none⟩) j y,.slice t s r] 23):=⟨_,rfl⟩
   obtain⟨D,C⟩:∃ D,D=E.heap.size:=⟨_,rfl⟩
   have c:Below E.heap.size E f:=by rw[O];exact(Below.refl _ _).alloc (Nat.le_refl _) _
   have u:f.heap[D]?=some (.cells #[.slice (some ⟨b,o,none⟩) j y,.slice t s r] 23):=by rw[O,C];exact heap_alloc_new _ _
   replace g:Hid (Below w.heap.size w f):=Below.on g.o c
   replace h:Hid (FpEnv f a v B):=h.o.below c
   replace d:Hid (TmC f (some ⟨b,o,none⟩) j y A.cs):=d.o.below c
   replace k:Hid (TmIn f t s r [(0,450,[])]):=k.o.below c
   rw[<-O,<-C];clear O C c;have U:=ef_copy h.o F.o.1 u d.o k.o.tmc;rw[s_copy] at U;refine(U).mono ?_;rintro e R ⟨qK,mK,Y,rfl,z,c⟩
   replace g:Hid (Below w.heap.size w R):=Below.on g.o c
   replace h:Hid (FpEnv R a v B):=h.o.below c
   replace d:Hid (TmC R (some ⟨b,o,none⟩) j y A.cs):=d.o.below c
   replace k:Hid (TmIn R t s r [(0,450,[])]):=k.o.below c
   have G:=hid z;clear c z U u;clear k;go_wp2_with fail;refine(variantFp F.o.1 G.o d.o).mono ?_;rintro e S ⟨rfl,c⟩
   replace g:Hid (Below w.heap.size w S):=Below.on g.o c
   replace h:Hid (FpEnv S a v B):=h.o.below c
   replace d:Hid (TmC S (some ⟨b,o,none⟩) j y A.cs):=d.o.below c
   replace G:Hid (TmC S qK mK Y (A.cs.map (renD 500 (visits [] A.cs)))):=G.o.below c
   clear c ;have t0:=d.o.kind;rw[F.o.2.2] at t0;go_wp2_with fail;refine(variantFp F.o.1 G.o d.o).mono ?_;rintro e T ⟨rfl,c⟩
   replace g:Hid (Below w.heap.size w T):=Below.on g.o c
   replace h:Hid (FpEnv T a v B):=h.o.below c
   replace d:Hid (TmC T (some ⟨b,o,none⟩) j y A.cs):=d.o.below c
   replace G:Hid (TmC T qK mK Y (A.cs.map (renD 500 (visits [] A.cs)))):=G.o.below c
   clear c ;go_wp2_with fail;go_ret;exact⟨rfl,g.o⟩
theorem lawFp_comp (p:Option Addr)(l8 n:Nat)(xs:List Int)(a v:Addr)(B:Int)(w:World)(hx:CodeIn w p l8 n xs)(hg:FpEnv w a v B)(A:Tr)(hV:dvF (xs.take 500)=A.cs)(hA:smallT A)(hl:A.cs.length<=500)(H:∀ x ∈ A.cs,x.1=0->x.2.1<400)(h3:A.1.1=3) :
  Calls Tryz.prog 3 #[.slice p n l8] w fun e w'=>e = .returned (.bool true)/\Below w.heap.size w w':=by
 have l7:=drawFp hx hV
 have I:Hid (smallT A/\A.cs.length<=500/\A.1.1=3):=⟨hA,hl,h3⟩
 have n3:=hid H;have f:=hid hg;have g:Hid (Below w.heap.size w w):=Below.refl _ _
 have d1:n<=1048576:=by have:=hx.len;have:=hx.small;omega
 clear hx hg hV hA hl H h3
 go_enter Tryz.func3,Tryz.ntmps3
 go_wp2_with fail;refine(l7).mono ?_;rintro e w1 ⟨q,m,t,rfl,h1,c⟩
 replace g:Hid (Below w.heap.size w w1):=Below.on g.o c
 replace f:Hid (FpEnv w1 a v B):=f.o.below c
 clear c l7;obtain⟨b,o,rfl⟩:=h1.at0 (by simp[Tr.cs]);have d:=hid h1
 have hm:m<=500:=by rw[h1.1];exact I.o.2.1
 have o1:1<=m:=by rw[h1.1];simp[Tr.cs]
 clear h1;go_wp2_with fail;refine(validFp I.o.1 d.o).mono ?_;rintro e w2 ⟨rfl,c⟩
 replace g:Hid (Below w.heap.size w w2):=Below.on g.o c
 replace f:Hid (FpEnv w2 a v B):=f.o.below c
 replace d:Hid (TmC w2 (some ⟨b,o,none⟩) m t A.cs):=d.o.below c
 clear c ;go_wp2_with fail
 go_loopw [4] (fun i wr=>∃ (j:Nat),j<=m/\i = .int .i64 j/\wr=w2) (fun i _=>m-(intOf i).toNat)
 case atStart=>exact⟨0,Nat.zero_le _,rfl,rfl⟩
 case round=>
  obtain⟨j,hj,rfl,hw⟩:=hrel;rw[hw];clear hw wr
  by_cases m7:j<m
  ·obtain⟨q0,q1,a7⟩:=d.o.varAt m7 n3.o
   obtain⟨kd,m1⟩:∃ kd,kd=(A.cs.getD j Cel.none).1:=⟨_,rfl⟩
   obtain⟨nv,m3⟩:∃ nv,nv=(A.cs.getD j Cel.none).2.1:=⟨_,rfl⟩
   rw[<-m1] at q0 a7;rw[<-m3] at q1 a7;clear m1 m3
   by_cases hk:kd=0
   ·have o2:=a7 hk
    have b1:((400:Int)<=nv)=False:=by simp;omega
    subst hk;clear a7;go_wp2_with fail;go_roundw
    case rel=>exact⟨j+1,by omega,by go_num,by first | rfl | trivial⟩
    case measure=>simp[intOf];omega
   ·have b1:(kd == 0)=false:=by simpa using hk
    clear a7;go_wp2_with fail;go_roundw
    case rel=>exact⟨j+1,by omega,by go_num,by first | rfl | trivial⟩
    case measure=>simp[intOf];omega
  ·obtain rfl:j=m:=by omega
   clear m7;go_wp2_with fail;refine(variable_any 450 w2).mono ?_;rintro e w3 ⟨g3,f6,d9,rfl,H,c⟩
   replace g:Hid (Below w.heap.size w w3):=Below.on g.o c
   replace f:Hid (FpEnv w3 a v B):=f.o.below c
   replace d:Hid (TmC w3 (some ⟨b,o,none⟩) j t A.cs):=d.o.below c
   have c4:=hid H;clear c H;go_wp2_with fail
   obtain⟨x4,E⟩:∃ x4,x4=w3.alloc (.cells #[.slice (some ⟨b,o,none⟩) j t,.slice g3 f6 d9] 23):=⟨_,rfl⟩
   obtain⟨j9,l⟩:∃ j9,j9=w3.heap.size:=⟨_,rfl⟩
   have c:Below w3.heap.size w3 x4:=by rw[E];exact(Below.refl _ _).alloc (Nat.le_refl _) _
   have i1:x4.heap[j9]?=some (.cells #[.slice (some ⟨b,o,none⟩) j t,.slice g3 f6 d9] 23):=by rw[E,l];exact heap_alloc_new _ _
   replace g:Hid (Below w.heap.size w x4):=Below.on g.o c
   replace f:Hid (FpEnv x4 a v B):=f.o.below c
   replace d:Hid (TmC x4 (some ⟨b,o,none⟩) j t A.cs):=d.o.below c
   replace c4:Hid (TmIn x4 g3 f6 d9 [(0,450,[])]):=c4.o.below c
   rw[<-E,<-l];clear E l c;have S:=ef_copy f.o I.o.1 i1 d.o c4.o.tmc;rw[s_copy] at S;refine(S).mono ?_;rintro e w4 ⟨qK,mK,cK,rfl,h1,c⟩
   replace g:Hid (Below w.heap.size w w4):=Below.on g.o c
   replace f:Hid (FpEnv w4 a v B):=f.o.below c
   replace d:Hid (TmC w4 (some ⟨b,o,none⟩) j t A.cs):=d.o.below c
   replace c4:Hid (TmIn w4 g3 f6 d9 [(0,450,[])]):=c4.o.below c
   have HK:=hid h1;clear c h1 S i1;clear c4;go_wp2_with fail;refine(variantFp I.o.1 HK.o d.o).mono ?_;rintro e w5 ⟨rfl,c⟩
   replace g:Hid (Below w.heap.size w w5):=Below.on g.o c
   replace f:Hid (FpEnv w5 a v B):=f.o.below c
   replace d:Hid (TmC w5 (some ⟨b,o,none⟩) j t A.cs):=d.o.below c
   replace HK:Hid (TmC w5 qK mK cK (A.cs.map (renD 500 (visits [] A.cs)))):=HK.o.below c
   clear c ;have t0:=d.o.kind;rw[I.o.2.2] at t0;obtain⟨L,j5,j4,m4,j3⟩:=ptsL_tr I.o.1 I.o.2.1
   have eP:ptsL A=((2,0,A.1.2.2),.nil) :: trs A.2:=by rw[ptsL,if_pos I.o.2.2]
   rw[eP] at j5 j4 j3;have j6:=arityFp I.o.1 I.o.2.2
   obtain⟨u,k8⟩:∃ u,u=A.2.count:=⟨_,rfl⟩
   have m9:(trs A.2).length=u:=by rw[trs_len,k8]
   have m5:1<=u:=by rw[k8];exact j6.1
   have m6:u<=20:=by rw[k8];exact j6.2
   have HL:Hid (L.fo=listT (((2,0,A.1.2.2),.nil) :: trs A.2)/\L.cs=(listT (((2,0,A.1.2.2),.nil) :: trs A.2)).cells/\smallT L/\LsA L (((2,0,A.1.2.2),.nil) :: trs A.2)):=⟨j5,j4,m4,j3⟩
   have r:Hid (u=A.2.count/\(trs A.2).length=u/\1<=u/\u<=20):=⟨k8,m9,m5,m6⟩
   clear j5 j4 m4 j3 eP j6 k8 m9;go_wp2_with fail;refine(variable_any 450 w5).mono ?_;rintro e w6 ⟨g4,f7,f1,rfl,H,c⟩
   replace g:Hid (Below w.heap.size w w6):=Below.on g.o c
   replace f:Hid (FpEnv w6 a v B):=f.o.below c
   replace d:Hid (TmC w6 (some ⟨b,o,none⟩) j t A.cs):=d.o.below c
   have c5:=hid H;clear c H;go_wp2_with fail
   obtain⟨x5,E⟩:∃ x5,x5=w6.alloc (.cells #[.slice (some ⟨b,o,none⟩) j t,.slice g4 f7 f1] 23):=⟨_,rfl⟩
   obtain⟨l1,l⟩:∃ l1,l1=w6.heap.size:=⟨_,rfl⟩
   have c:Below w6.heap.size w6 x5:=by rw[E];exact(Below.refl _ _).alloc (Nat.le_refl _) _
   have i2:x5.heap[l1]?=some (.cells #[.slice (some ⟨b,o,none⟩) j t,.slice g4 f7 f1] 23):=by rw[E,l];exact heap_alloc_new _ _
   replace g:Hid (Below w.heap.size w x5):=Below.on g.o c
   replace f:Hid (FpEnv x5 a v B):=f.o.below c
   replace d:Hid (TmC x5 (some ⟨b,o,none⟩) j t A.cs):=d.o.below c
   replace c5:Hid (TmIn x5 g4 f7 f1 [(0,450,[])]):=c5.o.below c
   rw[<-E,<-l];clear E l c;have S:=ef_univC f.o I.o.1 HL.o.2.2.1 I.o.2.2 (by rw[r.o.2.1];exact r.o.2.2.1) (by rw[r.o.2.1];have:=r.o.2.2.2;omega) HL.o.1 i2 d.o c5.o.tmc;rw[s_univ] at S;refine(S).mono ?_;rintro e w7 ⟨N,M,K,rfl,h1,c⟩
   replace g:Hid (Below w.heap.size w w7):=Below.on g.o c
   replace f:Hid (FpEnv w7 a v B):=f.o.below c
   replace d:Hid (TmC w7 (some ⟨b,o,none⟩) j t A.cs):=d.o.below c
   replace c5:Hid (TmIn w7 g4 f7 f1 [(0,450,[])]):=c5.o.below c
   have k:=hid h1;clear c h1 S i2;clear c5;go_wp2_with fail;refine(variable_any 450 w7).mono ?_;rintro e w8 ⟨g5,f8,f2,rfl,H,c⟩
   replace g:Hid (Below w.heap.size w w8):=Below.on g.o c
   replace f:Hid (FpEnv w8 a v B):=f.o.below c
   replace d:Hid (TmC w8 (some ⟨b,o,none⟩) j t A.cs):=d.o.below c
   replace k:Hid (TmC w8 N M K L.cs):=k.o.below c
   have c6:=hid H;clear c H;go_wp2_with fail
   obtain⟨wr3,E⟩:∃ wr3,wr3=w8.alloc (.cells #[.slice g5 f8 f2,.slice N M K] 23):=⟨_,rfl⟩
   obtain⟨l2,l⟩:∃ l2,l2=w8.heap.size:=⟨_,rfl⟩
   have c:Below w8.heap.size w8 wr3:=by rw[E];exact(Below.refl _ _).alloc (Nat.le_refl _) _
   have i3:wr3.heap[l2]?=some (.cells #[.slice g5 f8 f2,.slice N M K] 23):=by rw[E,l];exact heap_alloc_new _ _
   replace g:Hid (Below w.heap.size w wr3):=Below.on g.o c
   replace f:Hid (FpEnv wr3 a v B):=f.o.below c
   replace d:Hid (TmC wr3 (some ⟨b,o,none⟩) j t A.cs):=d.o.below c
   replace k:Hid (TmC wr3 N M K L.cs):=k.o.below c
   replace c6:Hid (TmIn wr3 g5 f8 f2 [(0,450,[])]):=c6.o.below c
   rw[<-E,<-l];clear E l c;have S:=ef_univBC f.o I.o.1 HL.o.2.2.1 I.o.2.2 (by rw[<-r.o.1];exact r.o.2.2.1) (by rw[<-r.o.1];exact r.o.2.2.2) HL.o.2.2.2 i3 c6.o.tmc k.o;rw[s_univ] at S;refine(S).mono ?_;rintro e w9 ⟨k4,k3,k2,rfl,h1,c⟩
   replace g:Hid (Below w.heap.size w w9):=Below.on g.o c
   replace f:Hid (FpEnv w9 a v B):=f.o.below c
   replace d:Hid (TmC w9 (some ⟨b,o,none⟩) j t A.cs):=d.o.below c
   replace k:Hid (TmC w9 N M K L.cs):=k.o.below c
   replace c6:Hid (TmIn w9 g5 f8 f2 [(0,450,[])]):=c6.o.below c
   have D:=hid h1;clear c h1 S i3;clear c6;go_wp2_with fail;refine(variable_any 450 w9).mono ?_;rintro e a1 ⟨d5,a9,a4,rfl,H,c⟩
   replace g:Hid (Below w.heap.size w a1):=Below.on g.o c
   replace f:Hid (FpEnv a1 a v B):=f.o.below c
   replace d:Hid (TmC a1 (some ⟨b,o,none⟩) j t A.cs):=d.o.below c
   replace k:Hid (TmC a1 N M K L.cs):=k.o.below c
   replace D:Hid (TmC a1 k4 k3 k2 A.cs):=D.o.below c
   have k5:=hid H;clear c H;go_wp2_with fail;refine(variable_any 451 a1).mono ?_;rintro e e6 ⟨g6,f9,f3,rfl,H,c⟩
   replace g:Hid (Below w.heap.size w e6):=Below.on g.o c
   replace f:Hid (FpEnv e6 a v B):=f.o.below c
   replace d:Hid (TmC e6 (some ⟨b,o,none⟩) j t A.cs):=d.o.below c
   replace k:Hid (TmC e6 N M K L.cs):=k.o.below c
   replace D:Hid (TmC e6 k4 k3 k2 A.cs):=D.o.below c
   replace k5:Hid (TmIn e6 d5 a9 a4 [(0,450,[])]):=k5.o.below c
   have c7:=hid H;clear c H;go_wp2_with fail
   obtain⟨wr4,E⟩:∃ wr4,wr4=e6.alloc (.cells #[.slice (some ⟨b,o,none⟩) j t,.slice d5 a9 a4,.slice g6 f9 f3] 23):=⟨_,rfl⟩
   obtain⟨l3,l⟩:∃ l3,l3=e6.heap.size:=⟨_,rfl⟩
   have c:Below e6.heap.size e6 wr4:=by rw[E];exact(Below.refl _ _).alloc (Nat.le_refl _) _
   have i4:wr4.heap[l3]?=some (.cells #[.slice (some ⟨b,o,none⟩) j t,.slice d5 a9 a4,.slice g6 f9 f3] 23):=by rw[E,l];exact heap_alloc_new _ _
   replace g:Hid (Below w.heap.size w wr4):=Below.on g.o c
   replace f:Hid (FpEnv wr4 a v B):=f.o.below c
   replace d:Hid (TmC wr4 (some ⟨b,o,none⟩) j t A.cs):=d.o.below c
   replace k:Hid (TmC wr4 N M K L.cs):=k.o.below c
   replace D:Hid (TmC wr4 k4 k3 k2 A.cs):=D.o.below c
   replace k5:Hid (TmIn wr4 d5 a9 a4 [(0,450,[])]):=k5.o.below c
   replace c7:Hid (TmIn wr4 g6 f9 f3 [(0,451,[])]):=c7.o.below c
   rw[<-E,<-l];clear E l c;have S:=ef_funC0 f.o I.o.1 I.o.2.2 (by rw[r.o.2.1];have:=r.o.2.2.2;omega) i4 d.o k5.o.tmc c7.o.tmc;rw[s_fun] at S;refine(S).mono ?_;rintro e k9 ⟨qN,mN,cN,rfl,h1,c⟩
   replace g:Hid (Below w.heap.size w k9):=Below.on g.o c
   replace f:Hid (FpEnv k9 a v B):=f.o.below c
   replace d:Hid (TmC k9 (some ⟨b,o,none⟩) j t A.cs):=d.o.below c
   replace k:Hid (TmC k9 N M K L.cs):=k.o.below c
   replace D:Hid (TmC k9 k4 k3 k2 A.cs):=D.o.below c
   replace k5:Hid (TmIn k9 d5 a9 a4 [(0,450,[])]):=k5.o.below c
   replace c7:Hid (TmIn k9 g6 f9 f3 [(0,451,[])]):=c7.o.below c
   have s:=hid h1;clear c h1 S i4;clear k5;clear c7;go_wp2_with fail;refine(variable_any 450 k9).mono ?_;rintro e x9 ⟨d6,d2,a5,rfl,H,c⟩
   replace g:Hid (Below w.heap.size w x9):=Below.on g.o c
   replace f:Hid (FpEnv x9 a v B):=f.o.below c
   replace d:Hid (TmC x9 (some ⟨b,o,none⟩) j t A.cs):=d.o.below c
   replace k:Hid (TmC x9 N M K L.cs):=k.o.below c
   replace D:Hid (TmC x9 k4 k3 k2 A.cs):=D.o.below c
   replace s:Hid (TmC x9 qN mN cN [(2,0,A.1.2.2)]):=s.o.below c
   have k6:=hid H;clear c H;go_wp2_with fail;refine(variable_any 451 x9).mono ?_;rintro e e1 ⟨g7,g1,f4,rfl,H,c⟩
   replace g:Hid (Below w.heap.size w e1):=Below.on g.o c
   replace f:Hid (FpEnv e1 a v B):=f.o.below c
   replace d:Hid (TmC e1 (some ⟨b,o,none⟩) j t A.cs):=d.o.below c
   replace k:Hid (TmC e1 N M K L.cs):=k.o.below c
   replace D:Hid (TmC e1 k4 k3 k2 A.cs):=D.o.below c
   replace s:Hid (TmC e1 qN mN cN [(2,0,A.1.2.2)]):=s.o.below c
   replace k6:Hid (TmIn e1 d6 d2 a5 [(0,450,[])]):=k6.o.below c
   have c8:=hid H;clear c H;go_wp2_with fail
   obtain⟨h4,E⟩:∃ h4,h4=e1.alloc (.cells #[.slice (some ⟨b,o,none⟩) j t,.slice d6 d2 a5,.slice g7 g1 f4] 23):=⟨_,rfl⟩
   obtain⟨l4,l⟩:∃ l4,l4=e1.heap.size:=⟨_,rfl⟩
   have c:Below e1.heap.size e1 h4:=by rw[E];exact(Below.refl _ _).alloc (Nat.le_refl _) _
   have i5:h4.heap[l4]?=some (.cells #[.slice (some ⟨b,o,none⟩) j t,.slice d6 d2 a5,.slice g7 g1 f4] 23):=by rw[E,l];exact heap_alloc_new _ _
   replace g:Hid (Below w.heap.size w h4):=Below.on g.o c
   replace f:Hid (FpEnv h4 a v B):=f.o.below c
   replace d:Hid (TmC h4 (some ⟨b,o,none⟩) j t A.cs):=d.o.below c
   replace k:Hid (TmC h4 N M K L.cs):=k.o.below c
   replace D:Hid (TmC h4 k4 k3 k2 A.cs):=D.o.below c
   replace s:Hid (TmC h4 qN mN cN [(2,0,A.1.2.2)]):=s.o.below c
   replace k6:Hid (TmIn h4 d6 d2 a5 [(0,450,[])]):=k6.o.below c
   replace c8:Hid (TmIn h4 g7 g1 f4 [(0,451,[])]):=c8.o.below c
   rw[<-E,<-l];clear E l c;have S:=ef_funC1 f.o I.o.1 I.o.2.2 (by rw[r.o.2.1];have:=r.o.2.2.2;omega) i5 d.o k6.o.tmc c8.o.tmc;rw[s_fun] at S;refine(S).mono ?_;rintro e x1 ⟨qY,mY,cY,rfl,h1,c⟩
   replace g:Hid (Below w.heap.size w x1):=Below.on g.o c
   replace f:Hid (FpEnv x1 a v B):=f.o.below c
   replace d:Hid (TmC x1 (some ⟨b,o,none⟩) j t A.cs):=d.o.below c
   replace k:Hid (TmC x1 N M K L.cs):=k.o.below c
   replace D:Hid (TmC x1 k4 k3 k2 A.cs):=D.o.below c
   replace s:Hid (TmC x1 qN mN cN [(2,0,A.1.2.2)]):=s.o.below c
   replace k6:Hid (TmIn x1 d6 d2 a5 [(0,450,[])]):=k6.o.below c
   replace c8:Hid (TmIn x1 g7 g1 f4 [(0,451,[])]):=c8.o.below c
   have G:=hid h1;clear c h1 S i5;clear k6;clear c8;obtain rfl:mY=1:=G.o.1;obtain rfl:mN=1:=s.o.1;go_wp2_with fail;refine(sameFp I.o.1 D.o d.o).mono ?_;rintro e b4 ⟨rfl,c⟩
   replace g:Hid (Below w.heap.size w b4):=Below.on g.o c
   replace f:Hid (FpEnv b4 a v B):=f.o.below c
   replace d:Hid (TmC b4 (some ⟨b,o,none⟩) j t A.cs):=d.o.below c
   replace k:Hid (TmC b4 N M K L.cs):=k.o.below c
   replace D:Hid (TmC b4 k4 k3 k2 A.cs):=D.o.below c
   replace s:Hid (TmC b4 qN 1 cN [(2,0,A.1.2.2)]):=s.o.below c
   replace G:Hid (TmC b4 qY 1 cY [(1,((trs A.2).length:Int),[])]):=G.o.below c
   clear c ;rw[HL.o.2.1] at k;go_wp2_with fail;refine(itemsT_any (((2,0,A.1.2.2),.nil) :: trs A.2) (by have h:=ptsL_ok I.o.1;rw[ptsL,if_pos I.o.2.2] at h;exact h) (by rw[<-HL.o.2.1];have:=HL.o.2.2.1.2.1;simp[Tr.cs];omega) k.o).mono ?_;rintro e b5 ⟨pP,cP,rfl,j7,c⟩
   replace g:Hid (Below w.heap.size w b5):=Below.on g.o c
   replace f:Hid (FpEnv b5 a v B):=f.o.below c
   replace d:Hid (TmC b5 (some ⟨b,o,none⟩) j t A.cs):=d.o.below c
   replace k:Hid (TmC b5 N M K (listT (((2,0,A.1.2.2),.nil) :: trs A.2)).cells):=k.o.below c
   replace s:Hid (TmC b5 qN 1 cN [(2,0,A.1.2.2)]):=s.o.below c
   replace G:Hid (TmC b5 qY 1 cY [(1,((trs A.2).length:Int),[])]):=G.o.below c
   obtain⟨pb,po,rfl,-⟩:=j7 (by simp);have F:=hid j7;clear j7 c
   obtain⟨np,j2⟩:∃ np,np=((((2,0,A.1.2.2),.nil) :: trs A.2):List Tr).length:=⟨_,rfl⟩
   have o3:np=u+1:=by rw[j2,List.length_cons,r.o.2.1]
   rw[<-j2];clear j2;obtain⟨y,z,ey⟩:=G.o.at0 (by simp);subst ey;have y1:=G.o.numb;rw[show(((trs A.2).length:Int))=(u:Int) by rw[r.o.2.1]] at y1
   have n6:IntKind.i64.wrap ((u:Int)+1)=(u:Int)+1:=by rw[IntKind.wrap_i64];omega
   have b1:((np:Int) == (u:Int)+1)=true:=by simp;omega
   have b2:(np:Int)=(u:Int)+1:=by omega
   have b3:0<np:=by omega
   obtain⟨n2,l9,e5,x8⟩:=F.o.part (i:=0) (by simp);have n1:b5.cell? ⟨pb,po,none⟩=some (.slice n2 1 l9):=e5;have d8:=hid x8;clear e5 x8;clear t0;go_wp2_with fail;refine(sameT_of (X:=[(2,0,A.1.2.2)]) (by have:=I.o.1.2.2 A.1 (by simp[Tr.cs]);simp[tl];omega) d8.o s.o).mono ?_;rintro e C ⟨rfl,c⟩
   replace g:Hid (Below w.heap.size w C):=Below.on g.o c
   replace f:Hid (FpEnv C a v B):=f.o.below c
   replace d:Hid (TmC C (some ⟨b,o,none⟩) j t A.cs):=d.o.below c
   replace k:Hid (TmC C N M K (listT (((2,0,A.1.2.2),.nil) :: trs A.2)).cells):=k.o.below c
   replace s:Hid (TmC C qN 1 cN [(2,0,A.1.2.2)]):=s.o.below c
   replace G:Hid (TmC C (some ⟨y,z,none⟩) 1 cY [(1,((trs A.2).length:Int),[])]):=G.o.below c
   replace F:Hid (CapCC C (some ⟨pb,po,none⟩) ((((2,0,A.1.2.2),.nil) :: trs A.2).map itC)):=F.o.below c
   replace d8:Hid (TmC C n2 1 l9 [(2,0,A.1.2.2)]):=d8.o.below c
   clear c ;clear y1 n1 d8 b1 n6;have t0:=d.o.kind;rw[I.o.2.2] at t0;go_wp2_with fail
   go_loopw [17] (fun i wr=>∃ (jj:Nat),1<=jj/\jj<=np/\i = .int .i64 jj/\Hid (Below C.heap.size C wr)) (fun i _=>np-(intOf i).toNat)
   case atStart=>exact⟨1,Nat.le_refl _,by omega,rfl,Below.refl _ _⟩
   case round=>
    obtain⟨jj,n8,n9,rfl,U⟩:=hrel;have c:=U.o
    replace g:Hid (Below w.heap.size w wr):=Below.on g.o c
    replace f:Hid (FpEnv wr a v B):=f.o.below c
    replace d:Hid (TmC wr (some ⟨b,o,none⟩) j t A.cs):=d.o.below c
    replace k:Hid (TmC wr N M K (listT (((2,0,A.1.2.2),.nil) :: trs A.2)).cells):=k.o.below c
    replace s:Hid (TmC wr qN 1 cN [(2,0,A.1.2.2)]):=s.o.below c
    replace G:Hid (TmC wr (some ⟨y,z,none⟩) 1 cY [(1,((trs A.2).length:Int),[])]):=G.o.below c
    replace F:Hid (CapCC wr (some ⟨pb,po,none⟩) ((((2,0,A.1.2.2),.nil) :: trs A.2).map itC)):=F.o.below c
    clear c t0
    by_cases m8:jj<np
    ·obtain⟨i,ei⟩:∃ i,jj=i+1:=⟨jj-1,by omega⟩
     have j8:i<(trs A.2).length:=by rw[r.o.2.1];omega
     obtain⟨x,ex⟩:∃ x,(trs A.2)[i]?=some x:=⟨_,List.getElem?_eq_getElem j8⟩
     have i9:Hid ((trs A.2)[i]?=some x/\smallT x):=⟨ex,partFp I.o.1 I.o.2.2 ex⟩
     have n7:(jj:Int)=(i:Int)+1:=by omega
     obtain⟨h9,h8,e5,x8⟩:=F.o.part (i:=jj) (by rw[ei];simpa using j8)
     have ec:((((((2,0,A.1.2.2),.nil) :: trs A.2):List Tr).map itC).getD jj [])=x.cs:=by
      rw[ei,List.map_cons,List.getD_cons_succ,List.getD,List.getElem?_map,ex];rfl
     rw[ec] at e5 x8
     obtain⟨lx,m2⟩:∃ lx,lx=x.cs.length:=⟨_,rfl⟩
     rw[<-m2] at e5 x8;have J:=hid e5;have h7:=hid x8;clear ex ec m2 e5 x8 j8;go_wp2_with fail;refine(number_any ((i:Int)+1) wr).mono ?_;rintro e e2 ⟨d7,d3,a6,rfl,H,c⟩
     replace g:Hid (Below w.heap.size w e2):=Below.on g.o c
     replace f:Hid (FpEnv e2 a v B):=f.o.below c
     replace d:Hid (TmC e2 (some ⟨b,o,none⟩) j t A.cs):=d.o.below c
     replace k:Hid (TmC e2 N M K (listT (((2,0,A.1.2.2),.nil) :: trs A.2)).cells):=k.o.below c
     replace s:Hid (TmC e2 qN 1 cN [(2,0,A.1.2.2)]):=s.o.below c
     replace G:Hid (TmC e2 (some ⟨y,z,none⟩) 1 cY [(1,((trs A.2).length:Int),[])]):=G.o.below c
     replace F:Hid (CapCC e2 (some ⟨pb,po,none⟩) ((((2,0,A.1.2.2),.nil) :: trs A.2).map itC)):=F.o.below c
     replace U:Hid (Below C.heap.size C e2):=Below.on U.o c
     replace J:Hid (e2.cell? ⟨pb,po+jj,none⟩=some (.slice h9 lx h8)):=(c.cell (World.block_lt_of_cell? _ _ J.o)).trans J.o
     replace h7:Hid (TmC e2 h9 lx h8 x.cs):=h7.o.below c
     have k7:=hid H;clear c H;go_wp2_with fail;refine(variable_any 450 e2).mono ?_;rintro e Q ⟨g8,g2,f5,rfl,H,c⟩
     replace g:Hid (Below w.heap.size w Q):=Below.on g.o c
     replace f:Hid (FpEnv Q a v B):=f.o.below c
     replace d:Hid (TmC Q (some ⟨b,o,none⟩) j t A.cs):=d.o.below c
     replace k:Hid (TmC Q N M K (listT (((2,0,A.1.2.2),.nil) :: trs A.2)).cells):=k.o.below c
     replace s:Hid (TmC Q qN 1 cN [(2,0,A.1.2.2)]):=s.o.below c
     replace G:Hid (TmC Q (some ⟨y,z,none⟩) 1 cY [(1,((trs A.2).length:Int),[])]):=G.o.below c
     replace F:Hid (CapCC Q (some ⟨pb,po,none⟩) ((((2,0,A.1.2.2),.nil) :: trs A.2).map itC)):=F.o.below c
     replace U:Hid (Below C.heap.size C Q):=Below.on U.o c
     replace J:Hid (Q.cell? ⟨pb,po+jj,none⟩=some (.slice h9 lx h8)):=(c.cell (World.block_lt_of_cell? _ _ J.o)).trans J.o
     replace h7:Hid (TmC Q h9 lx h8 x.cs):=h7.o.below c
     replace k7:Hid (TmIn Q d7 d3 a6 [(1,((i:Int)+1),[])]):=k7.o.below c
     have c9:=hid H;clear c H;go_wp2_with fail
     obtain⟨O,E⟩:∃ O,O=Q.alloc (.cells #[.slice d7 d3 a6,.slice (some ⟨b,o,none⟩) j t,.slice g8 g2 f5] 23):=⟨_,rfl⟩
     obtain⟨l5,l⟩:∃ l5,l5=Q.heap.size:=⟨_,rfl⟩
     have c:Below Q.heap.size Q O:=by rw[E];exact(Below.refl _ _).alloc (Nat.le_refl _) _
     have i6:O.heap[l5]?=some (.cells #[.slice d7 d3 a6,.slice (some ⟨b,o,none⟩) j t,.slice g8 g2 f5] 23):=by rw[E,l];exact heap_alloc_new _ _
     replace g:Hid (Below w.heap.size w O):=Below.on g.o c
     replace f:Hid (FpEnv O a v B):=f.o.below c
     replace d:Hid (TmC O (some ⟨b,o,none⟩) j t A.cs):=d.o.below c
     replace k:Hid (TmC O N M K (listT (((2,0,A.1.2.2),.nil) :: trs A.2)).cells):=k.o.below c
     replace s:Hid (TmC O qN 1 cN [(2,0,A.1.2.2)]):=s.o.below c
     replace G:Hid (TmC O (some ⟨y,z,none⟩) 1 cY [(1,((trs A.2).length:Int),[])]):=G.o.below c
     replace F:Hid (CapCC O (some ⟨pb,po,none⟩) ((((2,0,A.1.2.2),.nil) :: trs A.2).map itC)):=F.o.below c
     replace U:Hid (Below C.heap.size C O):=Below.on U.o c
     replace J:Hid (O.cell? ⟨pb,po+jj,none⟩=some (.slice h9 lx h8)):=(c.cell (World.block_lt_of_cell? _ _ J.o)).trans J.o
     replace h7:Hid (TmC O h9 lx h8 x.cs):=h7.o.below c
     replace k7:Hid (TmIn O d7 d3 a6 [(1,((i:Int)+1),[])]):=k7.o.below c
     replace c9:Hid (TmIn O g8 g2 f5 [(0,450,[])]):=c9.o.below c
     rw[<-E,<-l];clear E l c;have S:=ef_arg f.o I.o.1 I.o.2.2 (by rw[r.o.2.1];have:=r.o.2.2.2;omega) i9.o.1 i9.o.2 (by have:=r.o.2.2.2;omega) i6 k7.o.tmc d.o c9.o.tmc;rw[s_arg] at S;refine(S).mono ?_;rintro e V ⟨qX,mX,cX,rfl,h1,c⟩
     replace g:Hid (Below w.heap.size w V):=Below.on g.o c
     replace f:Hid (FpEnv V a v B):=f.o.below c
     replace d:Hid (TmC V (some ⟨b,o,none⟩) j t A.cs):=d.o.below c
     replace k:Hid (TmC V N M K (listT (((2,0,A.1.2.2),.nil) :: trs A.2)).cells):=k.o.below c
     replace s:Hid (TmC V qN 1 cN [(2,0,A.1.2.2)]):=s.o.below c
     replace G:Hid (TmC V (some ⟨y,z,none⟩) 1 cY [(1,((trs A.2).length:Int),[])]):=G.o.below c
     replace F:Hid (CapCC V (some ⟨pb,po,none⟩) ((((2,0,A.1.2.2),.nil) :: trs A.2).map itC)):=F.o.below c
     replace U:Hid (Below C.heap.size C V):=Below.on U.o c
     replace J:Hid (V.cell? ⟨pb,po+jj,none⟩=some (.slice h9 lx h8)):=(c.cell (World.block_lt_of_cell? _ _ J.o)).trans J.o
     replace h7:Hid (TmC V h9 lx h8 x.cs):=h7.o.below c
     replace k7:Hid (TmIn V d7 d3 a6 [(1,((i:Int)+1),[])]):=k7.o.below c
     replace c9:Hid (TmIn V g8 g2 f5 [(0,450,[])]):=c9.o.below c
     have HX:=hid h1;clear c h1 S i6;clear k7;clear c9;have e5:=J.o;rw[ei] at e5;have o4:V.cell? ⟨pb,po+i+1,none⟩=some (.slice h9 lx h8):=e5;go_wp2_with fail;refine(sameFp i9.o.2 HX.o h7.o).mono ?_;rintro e e3 ⟨rfl,c⟩
     replace g:Hid (Below w.heap.size w e3):=Below.on g.o c
     replace f:Hid (FpEnv e3 a v B):=f.o.below c
     replace d:Hid (TmC e3 (some ⟨b,o,none⟩) j t A.cs):=d.o.below c
     replace k:Hid (TmC e3 N M K (listT (((2,0,A.1.2.2),.nil) :: trs A.2)).cells):=k.o.below c
     replace s:Hid (TmC e3 qN 1 cN [(2,0,A.1.2.2)]):=s.o.below c
     replace G:Hid (TmC e3 (some ⟨y,z,none⟩) 1 cY [(1,((trs A.2).length:Int),[])]):=G.o.below c
     replace F:Hid (CapCC e3 (some ⟨pb,po,none⟩) ((((2,0,A.1.2.2),.nil) :: trs A.2).map itC)):=F.o.below c
     replace U:Hid (Below C.heap.size C e3):=Below.on U.o c
     replace J:Hid (e3.cell? ⟨pb,po+jj,none⟩=some (.slice h9 lx h8)):=(c.cell (World.block_lt_of_cell? _ _ J.o)).trans J.o
     replace h7:Hid (TmC e3 h9 lx h8 x.cs):=h7.o.below c
     replace HX:Hid (TmC e3 qX mX cX x.cs):=HX.o.below c
     clear c ;go_wp2_with fail;go_roundw
     case rel=>exact⟨jj+1,by omega,by omega,by go_num,U⟩
     case measure=>simp[intOf];omega
    ·obtain rfl:jj=np:=by omega
     clear m8 U;go_wp2_with fail;refine(f.o.fe.ops).mono ?_;rintro e W ⟨p0,n0,c0,rfl,h6,c⟩
     replace g:Hid (Below w.heap.size w W):=Below.on g.o c
     replace f:Hid (FpEnv W a v B):=f.o.below c
     replace d:Hid (TmC W (some ⟨b,o,none⟩) j t A.cs):=d.o.below c
     replace k:Hid (TmC W N M K (listT (((2,0,A.1.2.2),.nil) :: trs A.2)).cells):=k.o.below c
     replace s:Hid (TmC W qN 1 cN [(2,0,A.1.2.2)]):=s.o.below c
     replace G:Hid (TmC W (some ⟨y,z,none⟩) 1 cY [(1,((trs A.2).length:Int),[])]):=G.o.below c
     replace F:Hid (CapCC W (some ⟨pb,po,none⟩) ((((2,0,A.1.2.2),.nil) :: trs A.2).map itC)):=F.o.below c
     have e4:=hid h6;clear c h6;have n4:=Lib.run_convert_bytes_const (P:=Tryz.prog) W 22 5 #[.int .u8 97,.int .u8 114,.int .u8 103] 3 3 Tryz.underlying22 Tryz.underlying5;go_wp2_with fail
     obtain⟨Y,en⟩:∃ Y,Y=W.alloc (.cells #[.int .u8 97,.int .u8 114,.int .u8 103] 5 (3,4)):=⟨_,rfl⟩
     obtain⟨x7,j1⟩:∃ x7,x7=W.heap.size:=⟨_,rfl⟩
     have c:Below W.heap.size W Y:=by rw[en];exact(Below.refl _ _).alloc (Nat.le_refl _) _
     have Z:Hid (BIn Y (some ⟨x7,0,none⟩) nArg):=by rw[en,j1];exact bin_lit W nArg #[.int .u8 97,.int .u8 114,.int .u8 103] _ rfl
     replace g:Hid (Below w.heap.size w Y):=Below.on g.o c
     replace f:Hid (FpEnv Y a v B):=f.o.below c
     replace d:Hid (TmC Y (some ⟨b,o,none⟩) j t A.cs):=d.o.below c
     replace k:Hid (TmC Y N M K (listT (((2,0,A.1.2.2),.nil) :: trs A.2)).cells):=k.o.below c
     replace s:Hid (TmC Y qN 1 cN [(2,0,A.1.2.2)]):=s.o.below c
     replace G:Hid (TmC Y (some ⟨y,z,none⟩) 1 cY [(1,((trs A.2).length:Int),[])]):=G.o.below c
     replace F:Hid (CapCC Y (some ⟨pb,po,none⟩) ((((2,0,A.1.2.2),.nil) :: trs A.2).map itC)):=F.o.below c
     replace e4:Hid (BuW Y a v p0 n0 c0):=e4.o.below c
     rw[<-en,<-j1];clear en j1 c n4;refine(number_any ((u:Int)+1) Y).mono ?_;rintro e e7 ⟨c2,b9,b7,rfl,H,c⟩
     replace g:Hid (Below w.heap.size w e7):=Below.on g.o c
     replace f:Hid (FpEnv e7 a v B):=f.o.below c
     replace d:Hid (TmC e7 (some ⟨b,o,none⟩) j t A.cs):=d.o.below c
     replace k:Hid (TmC e7 N M K (listT (((2,0,A.1.2.2),.nil) :: trs A.2)).cells):=k.o.below c
     replace s:Hid (TmC e7 qN 1 cN [(2,0,A.1.2.2)]):=s.o.below c
     replace G:Hid (TmC e7 (some ⟨y,z,none⟩) 1 cY [(1,((trs A.2).length:Int),[])]):=G.o.below c
     replace F:Hid (CapCC e7 (some ⟨pb,po,none⟩) ((((2,0,A.1.2.2),.nil) :: trs A.2).map itC)):=F.o.below c
     replace e4:Hid (BuW e7 a v p0 n0 c0):=e4.o.below c
     replace Z:Hid (BIn e7 (some ⟨x7,0,none⟩) nArg):=Z.o.below c
     have e9:=hid H;clear c H;go_wp2_with fail;refine(variable_any 450 e7).mono ?_;rintro e T ⟨d4,a8,a3,rfl,H,c⟩
     replace g:Hid (Below w.heap.size w T):=Below.on g.o c
     replace f:Hid (FpEnv T a v B):=f.o.below c
     replace d:Hid (TmC T (some ⟨b,o,none⟩) j t A.cs):=d.o.below c
     replace k:Hid (TmC T N M K (listT (((2,0,A.1.2.2),.nil) :: trs A.2)).cells):=k.o.below c
     replace s:Hid (TmC T qN 1 cN [(2,0,A.1.2.2)]):=s.o.below c
     replace G:Hid (TmC T (some ⟨y,z,none⟩) 1 cY [(1,((trs A.2).length:Int),[])]):=G.o.below c
     replace F:Hid (CapCC T (some ⟨pb,po,none⟩) ((((2,0,A.1.2.2),.nil) :: trs A.2).map itC)):=F.o.below c
     replace e4:Hid (BuW T a v p0 n0 c0):=e4.o.below c
     replace Z:Hid (BIn T (some ⟨x7,0,none⟩) nArg):=Z.o.below c
     replace e9:Hid (TmIn T c2 b9 b7 [(1,(u:Int)+1,[])]):=e9.o.below c
     have b6:=hid H;clear c H;go_wp2_with fail
     obtain⟨R,E⟩:∃ R,R=T.alloc (.cells #[.slice c2 b9 b7,.slice (some ⟨b,o,none⟩) j t,.slice d4 a8 a3] 23):=⟨_,rfl⟩
     obtain⟨g9,l⟩:∃ g9,g9=T.heap.size:=⟨_,rfl⟩
     have c:Below T.heap.size T R:=by rw[E];exact(Below.refl _ _).alloc (Nat.le_refl _) _
     have i7:R.heap[g9]?=some (.cells #[.slice c2 b9 b7,.slice (some ⟨b,o,none⟩) j t,.slice d4 a8 a3] 23):=by rw[E,l];exact heap_alloc_new _ _
     replace g:Hid (Below w.heap.size w R):=Below.on g.o c
     replace f:Hid (FpEnv R a v B):=f.o.below c
     replace d:Hid (TmC R (some ⟨b,o,none⟩) j t A.cs):=d.o.below c
     replace k:Hid (TmC R N M K (listT (((2,0,A.1.2.2),.nil) :: trs A.2)).cells):=k.o.below c
     replace s:Hid (TmC R qN 1 cN [(2,0,A.1.2.2)]):=s.o.below c
     replace G:Hid (TmC R (some ⟨y,z,none⟩) 1 cY [(1,((trs A.2).length:Int),[])]):=G.o.below c
     replace F:Hid (CapCC R (some ⟨pb,po,none⟩) ((((2,0,A.1.2.2),.nil) :: trs A.2).map itC)):=F.o.below c
     replace e4:Hid (BuW R a v p0 n0 c0):=e4.o.below c
     replace Z:Hid (BIn R (some ⟨x7,0,none⟩) nArg):=Z.o.below c
     replace e9:Hid (TmIn R c2 b9 b7 [(1,(u:Int)+1,[])]):=e9.o.below c
     replace b6:Hid (TmIn R d4 a8 a3 [(0,450,[])]):=b6.o.below c
     rw[<-E,<-l];clear E l c;have S:=bu_argF e4.o (some ⟨x7,0,none⟩) 3 (some ⟨g9,0,none⟩) 3 450 500 ((u:Int)+1) A (by decide) (by decide) Z.o (args3 i7 e9.o.tmc d.o b6.o.tmc) (okTs3 (numT_small ⟨by omega,by omega⟩) I.o.1 v450_small) I.o.2.2 (by omega) (by rw[r.o.2.1];omega);refine S.mono ?_;rintro e e8 ⟨pl,cl,pr,cr,he,-,-,c,-⟩;have n5:e = .returned (.tuple #[.agg #[.slice pl 0 cl,.slice pr 0 cr,.slice none 0 0,.slice none 0 0],.int .i64 4]):=he;clear he;subst n5
     replace g:Hid (Below w.heap.size w e8):=Below.on g.o c
     replace f:Hid (FpEnv e8 a v B):=f.o.below c
     replace d:Hid (TmC e8 (some ⟨b,o,none⟩) j t A.cs):=d.o.below c
     replace k:Hid (TmC e8 N M K (listT (((2,0,A.1.2.2),.nil) :: trs A.2)).cells):=k.o.below c
     replace s:Hid (TmC e8 qN 1 cN [(2,0,A.1.2.2)]):=s.o.below c
     replace G:Hid (TmC e8 (some ⟨y,z,none⟩) 1 cY [(1,((trs A.2).length:Int),[])]):=G.o.below c
     replace F:Hid (CapCC e8 (some ⟨pb,po,none⟩) ((((2,0,A.1.2.2),.nil) :: trs A.2).map itC)):=F.o.below c
     clear c S i7 e4 Z e9 b6
     obtain⟨wx,ex⟩:∃ wx,wx=e8.alloc (.cells #[.slice pl 0 cl,.slice pr 0 cr,.slice none 0 0,.slice none 0 0] 36):=⟨_,rfl⟩
     have c:Below e8.heap.size e8 wx:=by rw[ex];exact(Below.refl _ _).alloc (Nat.le_refl _) _
     replace g:Hid (Below w.heap.size w wx):=Below.on g.o c
     replace f:Hid (FpEnv wx a v B):=f.o.below c
     replace d:Hid (TmC wx (some ⟨b,o,none⟩) j t A.cs):=d.o.below c
     replace k:Hid (TmC wx N M K (listT (((2,0,A.1.2.2),.nil) :: trs A.2)).cells):=k.o.below c
     replace s:Hid (TmC wx qN 1 cN [(2,0,A.1.2.2)]):=s.o.below c
     replace G:Hid (TmC wx (some ⟨y,z,none⟩) 1 cY [(1,((trs A.2).length:Int),[])]):=G.o.below c
     replace F:Hid (CapCC wx (some ⟨pb,po,none⟩) ((((2,0,A.1.2.2),.nil) :: trs A.2).map itC)):=F.o.below c
     clear c;go_wp2_with fail;rw[<-ex];clear ex;refine(variable_any 450 wx).mono ?_;rintro e h2 ⟨c3,c1,b8,rfl,H,c⟩
     replace g:Hid (Below w.heap.size w h2):=Below.on g.o c
     replace f:Hid (FpEnv h2 a v B):=f.o.below c
     replace d:Hid (TmC h2 (some ⟨b,o,none⟩) j t A.cs):=d.o.below c
     replace k:Hid (TmC h2 N M K (listT (((2,0,A.1.2.2),.nil) :: trs A.2)).cells):=k.o.below c
     replace s:Hid (TmC h2 qN 1 cN [(2,0,A.1.2.2)]):=s.o.below c
     replace G:Hid (TmC h2 (some ⟨y,z,none⟩) 1 cY [(1,((trs A.2).length:Int),[])]):=G.o.below c
     replace F:Hid (CapCC h2 (some ⟨pb,po,none⟩) ((((2,0,A.1.2.2),.nil) :: trs A.2).map itC)):=F.o.below c
     have k1:=hid H;clear c H
     have x6:Hid (TmC h2 (some ⟨y,z,none⟩) 1 cY (numT (u:Int)).cs):=by have h:=G.o;rw[show(((trs A.2).length:Int))=(u:Int) by rw[r.o.2.1]] at h;exact h
     go_wp2_with fail
     obtain⟨h5,E⟩:∃ h5,h5=h2.alloc (.cells #[.slice c3 c1 b8,.slice qN 1 cN,.slice (some ⟨y,z,none⟩) 1 cY] 23):=⟨_,rfl⟩
     obtain⟨l6,l⟩:∃ l6,l6=h2.heap.size:=⟨_,rfl⟩
     have c:Below h2.heap.size h2 h5:=by rw[E];exact(Below.refl _ _).alloc (Nat.le_refl _) _
     have i8:h5.heap[l6]?=some (.cells #[.slice c3 c1 b8,.slice qN 1 cN,.slice (some ⟨y,z,none⟩) 1 cY] 23):=by rw[E,l];exact heap_alloc_new _ _
     replace g:Hid (Below w.heap.size w h5):=Below.on g.o c
     replace f:Hid (FpEnv h5 a v B):=f.o.below c
     replace d:Hid (TmC h5 (some ⟨b,o,none⟩) j t A.cs):=d.o.below c
     replace k:Hid (TmC h5 N M K (listT (((2,0,A.1.2.2),.nil) :: trs A.2)).cells):=k.o.below c
     replace s:Hid (TmC h5 qN 1 cN [(2,0,A.1.2.2)]):=s.o.below c
     replace F:Hid (CapCC h5 (some ⟨pb,po,none⟩) ((((2,0,A.1.2.2),.nil) :: trs A.2).map itC)):=F.o.below c
     replace k1:Hid (TmIn h5 c3 c1 b8 [(0,450,[])]):=k1.o.below c
     replace x6:Hid (TmC h5 (some ⟨y,z,none⟩) 1 cY (numT (u:Int)).cs):=x6.o.below c
     rw[<-E,<-l];clear E l c;have S:=ef_funV f.o r.o.2.2.1 r.o.2.2.2 I.o.1.1.2.1 (I.o.1.2.2 A.1 (by simp[Tr.cs])) i8 k1.o.tmc s.o x6.o;rw[s_fun] at S;refine(S).mono ?_;rintro e x2 ⟨qF,mF,cF,rfl,h1,c⟩
     replace g:Hid (Below w.heap.size w x2):=Below.on g.o c
     replace f:Hid (FpEnv x2 a v B):=f.o.below c
     replace d:Hid (TmC x2 (some ⟨b,o,none⟩) j t A.cs):=d.o.below c
     replace k:Hid (TmC x2 N M K (listT (((2,0,A.1.2.2),.nil) :: trs A.2)).cells):=k.o.below c
     replace s:Hid (TmC x2 qN 1 cN [(2,0,A.1.2.2)]):=s.o.below c
     replace F:Hid (CapCC x2 (some ⟨pb,po,none⟩) ((((2,0,A.1.2.2),.nil) :: trs A.2).map itC)):=F.o.below c
     replace k1:Hid (TmIn x2 c3 c1 b8 [(0,450,[])]):=k1.o.below c
     replace x6:Hid (TmC x2 (some ⟨y,z,none⟩) 1 cY (numT (u:Int)).cs):=x6.o.below c
     have HF:=hid h1;clear c h1 S i8;clear k1;go_wp2_with fail;refine(subsFp (fresh_subs I.o.1 I.o.2.2 r.o.1 (fvT_small (I.o.1.2.2 A.1 (by simp[Tr.cs])) I.o.1.1.2.1 r.o.2.2.1 r.o.2.2.2 (by decide) (by decide))) HF.o d.o).mono ?_;rintro e x3 ⟨rfl,c⟩
     replace g:Hid (Below w.heap.size w x3):=Below.on g.o c
     replace f:Hid (FpEnv x3 a v B):=f.o.below c
     replace d:Hid (TmC x3 (some ⟨b,o,none⟩) j t A.cs):=d.o.below c
     replace k:Hid (TmC x3 N M K (listT (((2,0,A.1.2.2),.nil) :: trs A.2)).cells):=k.o.below c
     replace s:Hid (TmC x3 qN 1 cN [(2,0,A.1.2.2)]):=s.o.below c
     replace F:Hid (CapCC x3 (some ⟨pb,po,none⟩) ((((2,0,A.1.2.2),.nil) :: trs A.2).map itC)):=F.o.below c
     replace x6:Hid (TmC x3 (some ⟨y,z,none⟩) 1 cY (numT (u:Int)).cs):=x6.o.below c
     replace HF:Hid (TmC x3 qF mF cF (fvT A.1.2.2 500 u).cs):=HF.o.below c
     clear c ;go_wp2_with fail;go_ret;exact⟨rfl,g.o⟩
theorem lawFp_num (p:Option Addr)(f6 n:Nat)(xs:List Int)(a v:Addr)(y:Int)(w:World)(hx:CodeIn w p f6 n xs)(hg:FpEnv w a v y)(A:Tr)(hV:dvF (xs.take 500)=A.cs)(hA:smallT A)(hl:A.cs.length<=500)(B:∀ x ∈ A.cs,x.1=0->x.2.1<400)(h3:A.1.1=1) :
  Calls Tryz.prog 3 #[.slice p n f6] w fun e w'=>e = .returned (.bool true)/\Below w.heap.size w w':=by
 have f5:=drawFp hx hV
 have u:Hid (smallT A/\A.cs.length<=500/\A.1.1=1):=⟨hA,hl,h3⟩
 have g5:=hid B;have f:=hid hg;have g:Hid (Below w.heap.size w w):=Below.refl _ _
 have d1:n<=1048576:=by have:=hx.len;have:=hx.small;omega
 clear hx hg hV hA hl B h3
 go_enter Tryz.func3,Tryz.ntmps3
 go_wp2_with fail;refine(f5).mono ?_;rintro e w1 ⟨q,m,s,rfl,E,c⟩
 replace g:Hid (Below w.heap.size w w1):=Below.on g.o c
 replace f:Hid (FpEnv w1 a v y):=f.o.below c
 clear c f5;obtain⟨b,o,rfl⟩:=E.at0 (by simp[Tr.cs]);have d:=hid E
 have hm:m<=500:=by rw[E.1];exact u.o.2.1
 have g6:1<=m:=by rw[E.1];simp[Tr.cs]
 clear E;go_wp2_with fail;refine(validFp u.o.1 d.o).mono ?_;rintro e w2 ⟨rfl,c⟩
 replace g:Hid (Below w.heap.size w w2):=Below.on g.o c
 replace f:Hid (FpEnv w2 a v y):=f.o.below c
 replace d:Hid (TmC w2 (some ⟨b,o,none⟩) m s A.cs):=d.o.below c
 clear c ;go_wp2_with fail
 go_loopw [4] (fun i wr=>∃ (j:Nat),j<=m/\i = .int .i64 j/\wr=w2) (fun i _=>m-(intOf i).toNat)
 case atStart=>exact⟨0,Nat.zero_le _,rfl,rfl⟩
 case round=>
  obtain⟨j,hj,rfl,hw⟩:=hrel;rw[hw];clear hw wr
  by_cases g2:j<m
  ·obtain⟨q0,q1,k9⟩:=d.o.varAt g2 g5.o
   obtain⟨kd,f8⟩:∃ kd,kd=(A.cs.getD j Cel.none).1:=⟨_,rfl⟩
   obtain⟨nv,f9⟩:∃ nv,nv=(A.cs.getD j Cel.none).2.1:=⟨_,rfl⟩
   rw[<-f8] at q0 k9;rw[<-f9] at q1 k9;clear f8 f9
   by_cases hk:kd=0
   ·have g7:=k9 hk
    have b1:((400:Int)<=nv)=False:=by simp;omega
    subst hk;clear k9;go_wp2_with fail;go_roundw
    case rel=>exact⟨j+1,by omega,by go_num,by first | rfl | trivial⟩
    case measure=>simp[intOf];omega
   ·have b1:(kd == 0)=false:=by simpa using hk
    clear k9;go_wp2_with fail;go_roundw
    case rel=>exact⟨j+1,by omega,by go_num,by first | rfl | trivial⟩
    case measure=>simp[intOf];omega
  ·obtain rfl:j=m:=by omega
   clear g2;go_wp2_with fail;refine(variable_any 450 w2).mono ?_;rintro e w3 ⟨c4,b6,x7,rfl,B,c⟩
   replace g:Hid (Below w.heap.size w w3):=Below.on g.o c
   replace f:Hid (FpEnv w3 a v y):=f.o.below c
   replace d:Hid (TmC w3 (some ⟨b,o,none⟩) j s A.cs):=d.o.below c
   have e4:=hid B;clear c B;go_wp2_with fail
   obtain⟨h8,t⟩:∃ h8,h8=w3.alloc (.cells #[.slice (some ⟨b,o,none⟩) j s,.slice c4 b6 x7] 23):=⟨_,rfl⟩
   obtain⟨d6,k⟩:∃ d6,d6=w3.heap.size:=⟨_,rfl⟩
   have c:Below w3.heap.size w3 h8:=by rw[t];exact(Below.refl _ _).alloc (Nat.le_refl _) _
   have a3:h8.heap[d6]?=some (.cells #[.slice (some ⟨b,o,none⟩) j s,.slice c4 b6 x7] 23):=by rw[t,k];exact heap_alloc_new _ _
   replace g:Hid (Below w.heap.size w h8):=Below.on g.o c
   replace f:Hid (FpEnv h8 a v y):=f.o.below c
   replace d:Hid (TmC h8 (some ⟨b,o,none⟩) j s A.cs):=d.o.below c
   replace e4:Hid (TmIn h8 c4 b6 x7 [(0,450,[])]):=e4.o.below c
   rw[<-t,<-k];clear t k c;have C:=ef_copy f.o u.o.1 a3 d.o e4.o.tmc;rw[s_copy] at C;refine(C).mono ?_;rintro e w4 ⟨qK,mK,cK,rfl,E,c⟩
   replace g:Hid (Below w.heap.size w w4):=Below.on g.o c
   replace f:Hid (FpEnv w4 a v y):=f.o.below c
   replace d:Hid (TmC w4 (some ⟨b,o,none⟩) j s A.cs):=d.o.below c
   replace e4:Hid (TmIn w4 c4 b6 x7 [(0,450,[])]):=e4.o.below c
   have HK:=hid E;clear c E C a3;clear e4;go_wp2_with fail;refine(variantFp u.o.1 HK.o d.o).mono ?_;rintro e w5 ⟨rfl,c⟩
   replace g:Hid (Below w.heap.size w w5):=Below.on g.o c
   replace f:Hid (FpEnv w5 a v y):=f.o.below c
   replace d:Hid (TmC w5 (some ⟨b,o,none⟩) j s A.cs):=d.o.below c
   replace HK:Hid (TmC w5 qK mK cK (A.cs.map (renD 500 (visits [] A.cs)))):=HK.o.below c
   clear c ;have t0:=d.o.kind;rw[u.o.2.2] at t0;obtain⟨L,k3,k7,k8,k2⟩:=ptsL_tr u.o.1 u.o.2.1
   have eP:ptsL A = [A]:=by rw[ptsL,if_neg (by have:=u.o.2.2;omega)]
   rw[eP] at k3 k7 k2
   have HL:Hid (L.fo=listT [A]/\L.cs=(listT [A]).cells/\smallT L/\LsA L [A]):=⟨k3,k7,k8,k2⟩
   have Q:Hid (A.1.1=1∨A.1.1=2):=by have:=u.o.2.2;show _∨_;omega
   clear k3 k7 k8 k2 eP;go_wp2_with fail;refine(variable_any 450 w5).mono ?_;rintro e w6 ⟨c5,b7,x8,rfl,B,c⟩
   replace g:Hid (Below w.heap.size w w6):=Below.on g.o c
   replace f:Hid (FpEnv w6 a v y):=f.o.below c
   replace d:Hid (TmC w6 (some ⟨b,o,none⟩) j s A.cs):=d.o.below c
   have e5:=hid B;clear c B;go_wp2_with fail
   obtain⟨h9,t⟩:∃ h9,h9=w6.alloc (.cells #[.slice (some ⟨b,o,none⟩) j s,.slice c5 b7 x8] 23):=⟨_,rfl⟩
   obtain⟨d7,k⟩:∃ d7,d7=w6.heap.size:=⟨_,rfl⟩
   have c:Below w6.heap.size w6 h9:=by rw[t];exact(Below.refl _ _).alloc (Nat.le_refl _) _
   have a4:h9.heap[d7]?=some (.cells #[.slice (some ⟨b,o,none⟩) j s,.slice c5 b7 x8] 23):=by rw[t,k];exact heap_alloc_new _ _
   replace g:Hid (Below w.heap.size w h9):=Below.on g.o c
   replace f:Hid (FpEnv h9 a v y):=f.o.below c
   replace d:Hid (TmC h9 (some ⟨b,o,none⟩) j s A.cs):=d.o.below c
   replace e5:Hid (TmIn h9 c5 b7 x8 [(0,450,[])]):=e5.o.below c
   rw[<-t,<-k];clear t k c;have C:=ef_univL f.o u.o.1 HL.o.2.2.1 Q.o HL.o.1 a4 d.o e5.o.tmc;rw[s_univ] at C;refine(C).mono ?_;rintro e w7 ⟨M,K,J,rfl,E,c⟩
   replace g:Hid (Below w.heap.size w w7):=Below.on g.o c
   replace f:Hid (FpEnv w7 a v y):=f.o.below c
   replace d:Hid (TmC w7 (some ⟨b,o,none⟩) j s A.cs):=d.o.below c
   replace e5:Hid (TmIn w7 c5 b7 x8 [(0,450,[])]):=e5.o.below c
   have l:=hid E;clear c E C a4;clear e5;go_wp2_with fail;refine(variable_any 450 w7).mono ?_;rintro e w8 ⟨c6,b8,x9,rfl,B,c⟩
   replace g:Hid (Below w.heap.size w w8):=Below.on g.o c
   replace f:Hid (FpEnv w8 a v y):=f.o.below c
   replace d:Hid (TmC w8 (some ⟨b,o,none⟩) j s A.cs):=d.o.below c
   replace l:Hid (TmC w8 M K J L.cs):=l.o.below c
   have e6:=hid B;clear c B;go_wp2_with fail
   obtain⟨wr3,t⟩:∃ wr3,wr3=w8.alloc (.cells #[.slice c6 b8 x9,.slice M K J] 23):=⟨_,rfl⟩
   obtain⟨d8,k⟩:∃ d8,d8=w8.heap.size:=⟨_,rfl⟩
   have c:Below w8.heap.size w8 wr3:=by rw[t];exact(Below.refl _ _).alloc (Nat.le_refl _) _
   have a5:wr3.heap[d8]?=some (.cells #[.slice c6 b8 x9,.slice M K J] 23):=by rw[t,k];exact heap_alloc_new _ _
   replace g:Hid (Below w.heap.size w wr3):=Below.on g.o c
   replace f:Hid (FpEnv wr3 a v y):=f.o.below c
   replace d:Hid (TmC wr3 (some ⟨b,o,none⟩) j s A.cs):=d.o.below c
   replace l:Hid (TmC wr3 M K J L.cs):=l.o.below c
   replace e6:Hid (TmIn wr3 c6 b8 x9 [(0,450,[])]):=e6.o.below c
   rw[<-t,<-k];clear t k c;have C:=ef_univBL f.o u.o.1 HL.o.2.2.1 Q.o HL.o.2.2.2 a5 e6.o.tmc l.o;rw[s_univ] at C;refine(C).mono ?_;rintro e w9 ⟨T,S,R,rfl,E,c⟩
   replace g:Hid (Below w.heap.size w w9):=Below.on g.o c
   replace f:Hid (FpEnv w9 a v y):=f.o.below c
   replace d:Hid (TmC w9 (some ⟨b,o,none⟩) j s A.cs):=d.o.below c
   replace l:Hid (TmC w9 M K J L.cs):=l.o.below c
   replace e6:Hid (TmIn w9 c6 b8 x9 [(0,450,[])]):=e6.o.below c
   have r:=hid E;clear c E C a5;clear e6;go_wp2_with fail;refine(variable_any 450 w9).mono ?_;rintro e k4 ⟨x3,x1,k5,rfl,B,c⟩
   replace g:Hid (Below w.heap.size w k4):=Below.on g.o c
   replace f:Hid (FpEnv k4 a v y):=f.o.below c
   replace d:Hid (TmC k4 (some ⟨b,o,none⟩) j s A.cs):=d.o.below c
   replace l:Hid (TmC k4 M K J L.cs):=l.o.below c
   replace r:Hid (TmC k4 T S R A.cs):=r.o.below c
   have Z:=hid B;clear c B;go_wp2_with fail;refine(variable_any 451 k4).mono ?_;rintro e P ⟨c7,b9,b2,rfl,B,c⟩
   replace g:Hid (Below w.heap.size w P):=Below.on g.o c
   replace f:Hid (FpEnv P a v y):=f.o.below c
   replace d:Hid (TmC P (some ⟨b,o,none⟩) j s A.cs):=d.o.below c
   replace l:Hid (TmC P M K J L.cs):=l.o.below c
   replace r:Hid (TmC P T S R A.cs):=r.o.below c
   replace Z:Hid (TmIn P x3 x1 k5 [(0,450,[])]):=Z.o.below c
   have e7:=hid B;clear c B;go_wp2_with fail
   obtain⟨wr4,t⟩:∃ wr4,wr4=P.alloc (.cells #[.slice (some ⟨b,o,none⟩) j s,.slice x3 x1 k5,.slice c7 b9 b2] 23):=⟨_,rfl⟩
   obtain⟨d9,k⟩:∃ d9,d9=P.heap.size:=⟨_,rfl⟩
   have c:Below P.heap.size P wr4:=by rw[t];exact(Below.refl _ _).alloc (Nat.le_refl _) _
   have a6:wr4.heap[d9]?=some (.cells #[.slice (some ⟨b,o,none⟩) j s,.slice x3 x1 k5,.slice c7 b9 b2] 23):=by rw[t,k];exact heap_alloc_new _ _
   replace g:Hid (Below w.heap.size w wr4):=Below.on g.o c
   replace f:Hid (FpEnv wr4 a v y):=f.o.below c
   replace d:Hid (TmC wr4 (some ⟨b,o,none⟩) j s A.cs):=d.o.below c
   replace l:Hid (TmC wr4 M K J L.cs):=l.o.below c
   replace r:Hid (TmC wr4 T S R A.cs):=r.o.below c
   replace Z:Hid (TmIn wr4 x3 x1 k5 [(0,450,[])]):=Z.o.below c
   replace e7:Hid (TmIn wr4 c7 b9 b2 [(0,451,[])]):=e7.o.below c
   rw[<-t,<-k];clear t k c;have C:=ef_funL0 f.o u.o.1 Q.o a6 d.o Z.o.tmc e7.o.tmc;rw[s_fun] at C;refine(C).mono ?_;rintro e h6 ⟨qN,mN,cN,rfl,E,c⟩
   replace g:Hid (Below w.heap.size w h6):=Below.on g.o c
   replace f:Hid (FpEnv h6 a v y):=f.o.below c
   replace d:Hid (TmC h6 (some ⟨b,o,none⟩) j s A.cs):=d.o.below c
   replace l:Hid (TmC h6 M K J L.cs):=l.o.below c
   replace r:Hid (TmC h6 T S R A.cs):=r.o.below c
   replace Z:Hid (TmIn h6 x3 x1 k5 [(0,450,[])]):=Z.o.below c
   replace e7:Hid (TmIn h6 c7 b9 b2 [(0,451,[])]):=e7.o.below c
   have z:=hid E;clear c E C a6;clear Z;clear e7;go_wp2_with fail;refine(variable_any 450 h6).mono ?_;rintro e e1 ⟨x4,x2,k6,rfl,B,c⟩
   replace g:Hid (Below w.heap.size w e1):=Below.on g.o c
   replace f:Hid (FpEnv e1 a v y):=f.o.below c
   replace d:Hid (TmC e1 (some ⟨b,o,none⟩) j s A.cs):=d.o.below c
   replace l:Hid (TmC e1 M K J L.cs):=l.o.below c
   replace r:Hid (TmC e1 T S R A.cs):=r.o.below c
   replace z:Hid (TmC e1 qN mN cN A.cs):=z.o.below c
   have h2:=hid B;clear c B;go_wp2_with fail;refine(variable_any 451 e1).mono ?_;rintro e N ⟨c8,c1,b3,rfl,B,c⟩
   replace g:Hid (Below w.heap.size w N):=Below.on g.o c
   replace f:Hid (FpEnv N a v y):=f.o.below c
   replace d:Hid (TmC N (some ⟨b,o,none⟩) j s A.cs):=d.o.below c
   replace l:Hid (TmC N M K J L.cs):=l.o.below c
   replace r:Hid (TmC N T S R A.cs):=r.o.below c
   replace z:Hid (TmC N qN mN cN A.cs):=z.o.below c
   replace h2:Hid (TmIn N x4 x2 k6 [(0,450,[])]):=h2.o.below c
   have e8:=hid B;clear c B;go_wp2_with fail
   obtain⟨G,t⟩:∃ G,G=N.alloc (.cells #[.slice (some ⟨b,o,none⟩) j s,.slice x4 x2 k6,.slice c8 c1 b3] 23):=⟨_,rfl⟩
   obtain⟨f1,k⟩:∃ f1,f1=N.heap.size:=⟨_,rfl⟩
   have c:Below N.heap.size N G:=by rw[t];exact(Below.refl _ _).alloc (Nat.le_refl _) _
   have a7:G.heap[f1]?=some (.cells #[.slice (some ⟨b,o,none⟩) j s,.slice x4 x2 k6,.slice c8 c1 b3] 23):=by rw[t,k];exact heap_alloc_new _ _
   replace g:Hid (Below w.heap.size w G):=Below.on g.o c
   replace f:Hid (FpEnv G a v y):=f.o.below c
   replace d:Hid (TmC G (some ⟨b,o,none⟩) j s A.cs):=d.o.below c
   replace l:Hid (TmC G M K J L.cs):=l.o.below c
   replace r:Hid (TmC G T S R A.cs):=r.o.below c
   replace z:Hid (TmC G qN mN cN A.cs):=z.o.below c
   replace h2:Hid (TmIn G x4 x2 k6 [(0,450,[])]):=h2.o.below c
   replace e8:Hid (TmIn G c8 c1 b3 [(0,451,[])]):=e8.o.below c
   rw[<-t,<-k];clear t k c;have C:=ef_funL1 f.o u.o.1 Q.o a7 d.o h2.o.tmc e8.o.tmc;rw[s_fun] at C;refine(C).mono ?_;rintro e h7 ⟨qY,mY,cY,rfl,E,c⟩
   replace g:Hid (Below w.heap.size w h7):=Below.on g.o c
   replace f:Hid (FpEnv h7 a v y):=f.o.below c
   replace d:Hid (TmC h7 (some ⟨b,o,none⟩) j s A.cs):=d.o.below c
   replace l:Hid (TmC h7 M K J L.cs):=l.o.below c
   replace r:Hid (TmC h7 T S R A.cs):=r.o.below c
   replace z:Hid (TmC h7 qN mN cN A.cs):=z.o.below c
   replace h2:Hid (TmIn h7 x4 x2 k6 [(0,450,[])]):=h2.o.below c
   replace e8:Hid (TmIn h7 c8 c1 b3 [(0,451,[])]):=e8.o.below c
   have I:=hid E;clear c E C a7;clear h2;clear e8;obtain rfl:mY=1:=I.o.1
   obtain rfl:mN=1:=by rw[z.o.1,(leafK u.o.1.1 Q.o).2];rfl
   go_wp2_with fail;refine(sameFp u.o.1 r.o d.o).mono ?_;rintro e e2 ⟨rfl,c⟩
   replace g:Hid (Below w.heap.size w e2):=Below.on g.o c
   replace f:Hid (FpEnv e2 a v y):=f.o.below c
   replace d:Hid (TmC e2 (some ⟨b,o,none⟩) j s A.cs):=d.o.below c
   replace l:Hid (TmC e2 M K J L.cs):=l.o.below c
   replace r:Hid (TmC e2 T S R A.cs):=r.o.below c
   replace z:Hid (TmC e2 qN 1 cN A.cs):=z.o.below c
   replace I:Hid (TmC e2 qY 1 cY [(1,0,[])]):=I.o.below c
   clear c ;rw[HL.o.2.1] at l;go_wp2_with fail;refine(itemsT_any [A] (by have h:=ptsL_ok u.o.1;rw[ptsL,if_neg (by have:=u.o.2.2;omega)] at h;exact h) (by rw[<-HL.o.2.1];have:=HL.o.2.2.1.2.1;simp[Tr.cs];omega) l.o).mono ?_;rintro e e3 ⟨pP,cP,rfl,d3,c⟩
   replace g:Hid (Below w.heap.size w e3):=Below.on g.o c
   replace f:Hid (FpEnv e3 a v y):=f.o.below c
   replace d:Hid (TmC e3 (some ⟨b,o,none⟩) j s A.cs):=d.o.below c
   replace l:Hid (TmC e3 M K J (listT [A]).cells):=l.o.below c
   replace z:Hid (TmC e3 qN 1 cN A.cs):=z.o.below c
   replace I:Hid (TmC e3 qY 1 cY [(1,0,[])]):=I.o.below c
   obtain⟨pb,po,rfl,-⟩:=d3 (by simp);have Y:=hid d3;clear d3 c;obtain⟨h4,h5,ey⟩:=I.o.at0 (by simp);subst ey;have y1:=I.o.numb;obtain⟨g4,f7,d4,d5⟩:=Y.o.part (i:=0) (by simp)
   have el:(([A].map itC).getD 0 []).length=1:=by show(itC A).length=1;rw[<-cs_eq_itC,(leafK u.o.1.1 Q.o).2];rfl
   rw[el] at d4 d5;have g3:e3.cell? ⟨pb,po,none⟩=some (.slice g4 1 f7):=d4;have x6:=hid d5;clear d4 d5 el;clear t0;go_wp2_with fail;refine(sameFp u.o.1 x6.o z.o).mono ?_;rintro e U ⟨rfl,c⟩
   replace g:Hid (Below w.heap.size w U):=Below.on g.o c
   replace f:Hid (FpEnv U a v y):=f.o.below c
   replace d:Hid (TmC U (some ⟨b,o,none⟩) j s A.cs):=d.o.below c
   replace l:Hid (TmC U M K J (listT [A]).cells):=l.o.below c
   replace z:Hid (TmC U qN 1 cN A.cs):=z.o.below c
   replace I:Hid (TmC U (some ⟨h4,h5,none⟩) 1 cY [(1,0,[])]):=I.o.below c
   replace Y:Hid (CapCC U (some ⟨pb,po,none⟩) ([A].map itC)):=Y.o.below c
   replace x6:Hid (TmC U g4 1 f7 A.cs):=x6.o.below c
   clear c ;clear y1 g3 x6;have t0:=d.o.kind;rw[u.o.2.2] at t0;obtain⟨tq,td,t2⟩:=d.o.text
   obtain⟨f4,d2⟩:∃ f4,f4=A.1.2.2.length:=⟨_,rfl⟩
   rw[<-d2] at t2
   have hz:f4=0:=by rw[d2];exact leafTxt u.o.1.1 u.o.2.2
   clear d2;subst hz;obtain⟨L2,k3,k7,k8,k2⟩:=codes_tr (txtT_ok u.o.1 Q.o).1 (txtT_ok u.o.1 Q.o).2
   have x5:Hid (L2.fo=listT ((txtT A).map cItT)/\smallT L2/\LsA L2 ((txtT A).map cItT)):=⟨k3,k8,k2⟩
   clear k3 k7 k8 k2;go_wp2_with fail;refine(variable_any 450 U).mono ?_;rintro e O ⟨c9,c2,b4,rfl,B,c⟩
   replace g:Hid (Below w.heap.size w O):=Below.on g.o c
   replace f:Hid (FpEnv O a v y):=f.o.below c
   replace d:Hid (TmC O (some ⟨b,o,none⟩) j s A.cs):=d.o.below c
   replace l:Hid (TmC O M K J (listT [A]).cells):=l.o.below c
   replace z:Hid (TmC O qN 1 cN A.cs):=z.o.below c
   replace I:Hid (TmC O (some ⟨h4,h5,none⟩) 1 cY [(1,0,[])]):=I.o.below c
   replace Y:Hid (CapCC O (some ⟨pb,po,none⟩) ([A].map itC)):=Y.o.below c
   have e9:=hid B;clear c B;clear t2;go_wp2_with fail
   obtain⟨H,t⟩:∃ H,H=O.alloc (.cells #[.slice (some ⟨b,o,none⟩) j s,.slice c9 c2 b4] 23):=⟨_,rfl⟩
   obtain⟨f2,k⟩:∃ f2,f2=O.heap.size:=⟨_,rfl⟩
   have c:Below O.heap.size O H:=by rw[t];exact(Below.refl _ _).alloc (Nat.le_refl _) _
   have a8:H.heap[f2]?=some (.cells #[.slice (some ⟨b,o,none⟩) j s,.slice c9 c2 b4] 23):=by rw[t,k];exact heap_alloc_new _ _
   replace g:Hid (Below w.heap.size w H):=Below.on g.o c
   replace f:Hid (FpEnv H a v y):=f.o.below c
   replace d:Hid (TmC H (some ⟨b,o,none⟩) j s A.cs):=d.o.below c
   replace l:Hid (TmC H M K J (listT [A]).cells):=l.o.below c
   replace z:Hid (TmC H qN 1 cN A.cs):=z.o.below c
   replace I:Hid (TmC H (some ⟨h4,h5,none⟩) 1 cY [(1,0,[])]):=I.o.below c
   replace Y:Hid (CapCC H (some ⟨pb,po,none⟩) ([A].map itC)):=Y.o.below c
   replace e9:Hid (TmIn H c9 c2 b4 [(0,450,[])]):=e9.o.below c
   rw[<-t,<-k];clear t k c;have C:=ef_codesF f.o u.o.1 x5.o.2.1 Q.o x5.o.1 a8 d.o e9.o.tmc;rw[s_codes] at C;refine(C).mono ?_;rintro e V ⟨qC,mC,cC,rfl,E,c⟩
   replace g:Hid (Below w.heap.size w V):=Below.on g.o c
   replace f:Hid (FpEnv V a v y):=f.o.below c
   replace d:Hid (TmC V (some ⟨b,o,none⟩) j s A.cs):=d.o.below c
   replace l:Hid (TmC V M K J (listT [A]).cells):=l.o.below c
   replace z:Hid (TmC V qN 1 cN A.cs):=z.o.below c
   replace I:Hid (TmC V (some ⟨h4,h5,none⟩) 1 cY [(1,0,[])]):=I.o.below c
   replace Y:Hid (CapCC V (some ⟨pb,po,none⟩) ([A].map itC)):=Y.o.below c
   replace e9:Hid (TmIn V c9 c2 b4 [(0,450,[])]):=e9.o.below c
   have HC:=hid E;clear c E C a8;clear e9;clear t0;have t0:=d.o.kind;rw[u.o.2.2] at t0;go_wp2_with fail;refine(variable_any 450 V).mono ?_;rintro e F ⟨a1,c3,b5,rfl,B,c⟩
   replace g:Hid (Below w.heap.size w F):=Below.on g.o c
   replace f:Hid (FpEnv F a v y):=f.o.below c
   replace d:Hid (TmC F (some ⟨b,o,none⟩) j s A.cs):=d.o.below c
   replace l:Hid (TmC F M K J (listT [A]).cells):=l.o.below c
   replace z:Hid (TmC F qN 1 cN A.cs):=z.o.below c
   replace I:Hid (TmC F (some ⟨h4,h5,none⟩) 1 cY [(1,0,[])]):=I.o.below c
   replace Y:Hid (CapCC F (some ⟨pb,po,none⟩) ([A].map itC)):=Y.o.below c
   replace HC:Hid (TmC F qC mC cC L2.cs):=HC.o.below c
   have k1:=hid B;clear c B
   have eT:txtT A=decW A.1.2.1:=by rw[txtT,if_pos u.o.2.2]
   have g1:=x5.o.2.2;rw[eT] at g1;go_wp2_with fail
   obtain⟨D,t⟩:∃ D,D=F.alloc (.cells #[.slice a1 c3 b5,.slice qC mC cC] 23):=⟨_,rfl⟩
   obtain⟨f3,k⟩:∃ f3,f3=F.heap.size:=⟨_,rfl⟩
   have c:Below F.heap.size F D:=by rw[t];exact(Below.refl _ _).alloc (Nat.le_refl _) _
   have a9:D.heap[f3]?=some (.cells #[.slice a1 c3 b5,.slice qC mC cC] 23):=by rw[t,k];exact heap_alloc_new _ _
   replace g:Hid (Below w.heap.size w D):=Below.on g.o c
   replace f:Hid (FpEnv D a v y):=f.o.below c
   replace d:Hid (TmC D (some ⟨b,o,none⟩) j s A.cs):=d.o.below c
   replace l:Hid (TmC D M K J (listT [A]).cells):=l.o.below c
   replace z:Hid (TmC D qN 1 cN A.cs):=z.o.below c
   replace I:Hid (TmC D (some ⟨h4,h5,none⟩) 1 cY [(1,0,[])]):=I.o.below c
   replace Y:Hid (CapCC D (some ⟨pb,po,none⟩) ([A].map itC)):=Y.o.below c
   replace HC:Hid (TmC D qC mC cC L2.cs):=HC.o.below c
   replace k1:Hid (TmIn D a1 c3 b5 [(0,450,[])]):=k1.o.below c
   rw[<-t,<-k];clear t k c;have C:=ef_numB f.o x5.o.2.1 g1 (numFp u.o.1.1 u.o.2.2) a9 k1.o.tmc HC.o;rw[s_num] at C;refine(C).mono ?_;rintro e W ⟨qZ,mZ,cZ,rfl,E,c⟩
   replace g:Hid (Below w.heap.size w W):=Below.on g.o c
   replace f:Hid (FpEnv W a v y):=f.o.below c
   replace d:Hid (TmC W (some ⟨b,o,none⟩) j s A.cs):=d.o.below c
   replace l:Hid (TmC W M K J (listT [A]).cells):=l.o.below c
   replace z:Hid (TmC W qN 1 cN A.cs):=z.o.below c
   replace I:Hid (TmC W (some ⟨h4,h5,none⟩) 1 cY [(1,0,[])]):=I.o.below c
   replace Y:Hid (CapCC W (some ⟨pb,po,none⟩) ([A].map itC)):=Y.o.below c
   replace HC:Hid (TmC W qC mC cC L2.cs):=HC.o.below c
   replace k1:Hid (TmIn W a1 c3 b5 [(0,450,[])]):=k1.o.below c
   have HZ:=hid E;clear c E C a9;clear k1;rw[<-cellNum u.o.1.1 u.o.2.2] at HZ;go_wp2_with fail;refine(sameFp u.o.1 HZ.o d.o).mono ?_;rintro e X ⟨rfl,c⟩
   replace g:Hid (Below w.heap.size w X):=Below.on g.o c
   replace f:Hid (FpEnv X a v y):=f.o.below c
   replace d:Hid (TmC X (some ⟨b,o,none⟩) j s A.cs):=d.o.below c
   replace l:Hid (TmC X M K J (listT [A]).cells):=l.o.below c
   replace z:Hid (TmC X qN 1 cN A.cs):=z.o.below c
   replace I:Hid (TmC X (some ⟨h4,h5,none⟩) 1 cY [(1,0,[])]):=I.o.below c
   replace Y:Hid (CapCC X (some ⟨pb,po,none⟩) ([A].map itC)):=Y.o.below c
   replace HC:Hid (TmC X qC mC cC L2.cs):=HC.o.below c
   replace HZ:Hid (TmC X qZ mZ cZ A.cs):=HZ.o.below c
   clear c ;go_wp2_with fail;go_ret;exact⟨rfl,g.o⟩
theorem lawFp_atom (p:Option Addr)(j5 n:Nat)(xs:List Int)(a v:Addr)(y:Int)(w:World)(hx:CodeIn w p j5 n xs)(hg:FpEnv w a v y)(A:Tr)(hV:dvF (xs.take 500)=A.cs)(hA:smallT A)(hl:A.cs.length<=500)(D:∀ x ∈ A.cs,x.1=0->x.2.1<400)(h3:A.1.1=2) :
  Calls Tryz.prog 3 #[.slice p n j5] w fun e w'=>e = .returned (.bool true)/\Below w.heap.size w w':=by
 have j4:=drawFp hx hV
 have B:Hid (smallT A/\A.cs.length<=500/\A.1.1=2):=⟨hA,hl,h3⟩
 have l6:=hid D;have f:=hid hg;have g:Hid (Below w.heap.size w w):=Below.refl _ _
 have d1:n<=1048576:=by have:=hx.len;have:=hx.small;omega
 clear hx hg hV hA hl D h3
 go_enter Tryz.func3,Tryz.ntmps3
 go_wp2_with fail;refine(j4).mono ?_;rintro e w1 ⟨q,m,r,rfl,E,c⟩
 replace g:Hid (Below w.heap.size w w1):=Below.on g.o c
 replace f:Hid (FpEnv w1 a v y):=f.o.below c
 clear c j4;obtain⟨b,o,rfl⟩:=E.at0 (by simp[Tr.cs]);have d:=hid E
 have hm:m<=500:=by rw[E.1];exact B.o.2.1
 have m2:1<=m:=by rw[E.1];simp[Tr.cs]
 clear E;go_wp2_with fail;refine(validFp B.o.1 d.o).mono ?_;rintro e w2 ⟨rfl,c⟩
 replace g:Hid (Below w.heap.size w w2):=Below.on g.o c
 replace f:Hid (FpEnv w2 a v y):=f.o.below c
 replace d:Hid (TmC w2 (some ⟨b,o,none⟩) m r A.cs):=d.o.below c
 clear c ;go_wp2_with fail
 go_loopw [4] (fun i wr=>∃ (j:Nat),j<=m/\i = .int .i64 j/\wr=w2) (fun i _=>m-(intOf i).toNat)
 case atStart=>exact⟨0,Nat.zero_le _,rfl,rfl⟩
 case round=>
  obtain⟨j,hj,rfl,hw⟩:=hrel;rw[hw];clear hw wr
  by_cases l3:j<m
  ·obtain⟨q0,q1,c4⟩:=d.o.varAt l3 l6.o
   obtain⟨kd,j7⟩:∃ kd,kd=(A.cs.getD j Cel.none).1:=⟨_,rfl⟩
   obtain⟨nv,j8⟩:∃ nv,nv=(A.cs.getD j Cel.none).2.1:=⟨_,rfl⟩
   rw[<-j7] at q0 c4;rw[<-j8] at q1 c4;clear j7 j8
   by_cases hk:kd=0
   ·have m3:=c4 hk
    have b1:((400:Int)<=nv)=False:=by simp;omega
    subst hk;clear c4;go_wp2_with fail;go_roundw
    case rel=>exact⟨j+1,by omega,by go_num,by first | rfl | trivial⟩
    case measure=>simp[intOf];omega
   ·have b1:(kd == 0)=false:=by simpa using hk
    clear c4;go_wp2_with fail;go_roundw
    case rel=>exact⟨j+1,by omega,by go_num,by first | rfl | trivial⟩
    case measure=>simp[intOf];omega
  ·obtain rfl:j=m:=by omega
   clear l3;go_wp2_with fail;refine(variable_any 450 w2).mono ?_;rintro e w3 ⟨f3,d5,a6,rfl,D,c⟩
   replace g:Hid (Below w.heap.size w w3):=Below.on g.o c
   replace f:Hid (FpEnv w3 a v y):=f.o.below c
   replace d:Hid (TmC w3 (some ⟨b,o,none⟩) j r A.cs):=d.o.below c
   have b2:=hid D;clear c D;go_wp2_with fail
   obtain⟨k4,t⟩:∃ k4,k4=w3.alloc (.cells #[.slice (some ⟨b,o,none⟩) j r,.slice f3 d5 a6] 23):=⟨_,rfl⟩
   obtain⟨i4,k⟩:∃ i4,i4=w3.heap.size:=⟨_,rfl⟩
   have c:Below w3.heap.size w3 k4:=by rw[t];exact(Below.refl _ _).alloc (Nat.le_refl _) _
   have g1:k4.heap[i4]?=some (.cells #[.slice (some ⟨b,o,none⟩) j r,.slice f3 d5 a6] 23):=by rw[t,k];exact heap_alloc_new _ _
   replace g:Hid (Below w.heap.size w k4):=Below.on g.o c
   replace f:Hid (FpEnv k4 a v y):=f.o.below c
   replace d:Hid (TmC k4 (some ⟨b,o,none⟩) j r A.cs):=d.o.below c
   replace b2:Hid (TmIn k4 f3 d5 a6 [(0,450,[])]):=b2.o.below c
   rw[<-t,<-k];clear t k c;have C:=ef_copy f.o B.o.1 g1 d.o b2.o.tmc;rw[s_copy] at C;refine(C).mono ?_;rintro e w4 ⟨qK,mK,cK,rfl,E,c⟩
   replace g:Hid (Below w.heap.size w w4):=Below.on g.o c
   replace f:Hid (FpEnv w4 a v y):=f.o.below c
   replace d:Hid (TmC w4 (some ⟨b,o,none⟩) j r A.cs):=d.o.below c
   replace b2:Hid (TmIn w4 f3 d5 a6 [(0,450,[])]):=b2.o.below c
   have HK:=hid E;clear c E C g1;clear b2;go_wp2_with fail;refine(variantFp B.o.1 HK.o d.o).mono ?_;rintro e w5 ⟨rfl,c⟩
   replace g:Hid (Below w.heap.size w w5):=Below.on g.o c
   replace f:Hid (FpEnv w5 a v y):=f.o.below c
   replace d:Hid (TmC w5 (some ⟨b,o,none⟩) j r A.cs):=d.o.below c
   replace HK:Hid (TmC w5 qK mK cK (A.cs.map (renD 500 (visits [] A.cs)))):=HK.o.below c
   clear c ;have t0:=d.o.kind;rw[B.o.2.2] at t0;obtain⟨L,h9,k7,k1,Z⟩:=ptsL_tr B.o.1 B.o.2.1
   have eP:ptsL A = [A]:=by rw[ptsL,if_neg (by have:=B.o.2.2;omega)]
   rw[eP] at h9 k7 Z
   have HL:Hid (L.fo=listT [A]/\L.cs=(listT [A]).cells/\smallT L/\LsA L [A]):=⟨h9,k7,k1,Z⟩
   have M:Hid (A.1.1=1∨A.1.1=2):=by have:=B.o.2.2;show _∨_;omega
   clear h9 k7 k1 Z eP;go_wp2_with fail;refine(variable_any 450 w5).mono ?_;rintro e w6 ⟨f4,d6,a7,rfl,D,c⟩
   replace g:Hid (Below w.heap.size w w6):=Below.on g.o c
   replace f:Hid (FpEnv w6 a v y):=f.o.below c
   replace d:Hid (TmC w6 (some ⟨b,o,none⟩) j r A.cs):=d.o.below c
   have b3:=hid D;clear c D;go_wp2_with fail
   obtain⟨k5,t⟩:∃ k5,k5=w6.alloc (.cells #[.slice (some ⟨b,o,none⟩) j r,.slice f4 d6 a7] 23):=⟨_,rfl⟩
   obtain⟨i5,k⟩:∃ i5,i5=w6.heap.size:=⟨_,rfl⟩
   have c:Below w6.heap.size w6 k5:=by rw[t];exact(Below.refl _ _).alloc (Nat.le_refl _) _
   have g2:k5.heap[i5]?=some (.cells #[.slice (some ⟨b,o,none⟩) j r,.slice f4 d6 a7] 23):=by rw[t,k];exact heap_alloc_new _ _
   replace g:Hid (Below w.heap.size w k5):=Below.on g.o c
   replace f:Hid (FpEnv k5 a v y):=f.o.below c
   replace d:Hid (TmC k5 (some ⟨b,o,none⟩) j r A.cs):=d.o.below c
   replace b3:Hid (TmIn k5 f4 d6 a7 [(0,450,[])]):=b3.o.below c
   rw[<-t,<-k];clear t k c;have C:=ef_univL f.o B.o.1 HL.o.2.2.1 M.o HL.o.1 g2 d.o b3.o.tmc;rw[s_univ] at C;refine(C).mono ?_;rintro e w7 ⟨K,J,I,rfl,E,c⟩
   replace g:Hid (Below w.heap.size w w7):=Below.on g.o c
   replace f:Hid (FpEnv w7 a v y):=f.o.below c
   replace d:Hid (TmC w7 (some ⟨b,o,none⟩) j r A.cs):=d.o.below c
   replace b3:Hid (TmIn w7 f4 d6 a7 [(0,450,[])]):=b3.o.below c
   have l:=hid E;clear c E C g2;clear b3;go_wp2_with fail;refine(variable_any 450 w7).mono ?_;rintro e w8 ⟨f5,d7,a8,rfl,D,c⟩
   replace g:Hid (Below w.heap.size w w8):=Below.on g.o c
   replace f:Hid (FpEnv w8 a v y):=f.o.below c
   replace d:Hid (TmC w8 (some ⟨b,o,none⟩) j r A.cs):=d.o.below c
   replace l:Hid (TmC w8 K J I L.cs):=l.o.below c
   have b4:=hid D;clear c D;go_wp2_with fail
   obtain⟨wr3,t⟩:∃ wr3,wr3=w8.alloc (.cells #[.slice f5 d7 a8,.slice K J I] 23):=⟨_,rfl⟩
   obtain⟨i6,k⟩:∃ i6,i6=w8.heap.size:=⟨_,rfl⟩
   have c:Below w8.heap.size w8 wr3:=by rw[t];exact(Below.refl _ _).alloc (Nat.le_refl _) _
   have g3:wr3.heap[i6]?=some (.cells #[.slice f5 d7 a8,.slice K J I] 23):=by rw[t,k];exact heap_alloc_new _ _
   replace g:Hid (Below w.heap.size w wr3):=Below.on g.o c
   replace f:Hid (FpEnv wr3 a v y):=f.o.below c
   replace d:Hid (TmC wr3 (some ⟨b,o,none⟩) j r A.cs):=d.o.below c
   replace l:Hid (TmC wr3 K J I L.cs):=l.o.below c
   replace b4:Hid (TmIn wr3 f5 d7 a8 [(0,450,[])]):=b4.o.below c
   rw[<-t,<-k];clear t k c;have C:=ef_univBL f.o B.o.1 HL.o.2.2.1 M.o HL.o.2.2.2 g3 b4.o.tmc l.o;rw[s_univ] at C;refine(C).mono ?_;rintro e w9 ⟨e2,e1,h8,rfl,E,c⟩
   replace g:Hid (Below w.heap.size w w9):=Below.on g.o c
   replace f:Hid (FpEnv w9 a v y):=f.o.below c
   replace d:Hid (TmC w9 (some ⟨b,o,none⟩) j r A.cs):=d.o.below c
   replace l:Hid (TmC w9 K J I L.cs):=l.o.below c
   replace b4:Hid (TmIn w9 f5 d7 a8 [(0,450,[])]):=b4.o.below c
   have u:=hid E;clear c E C g3;clear b4;go_wp2_with fail;refine(variable_any 450 w9).mono ?_;rintro e c1 ⟨c7,c5,c2,rfl,D,c⟩
   replace g:Hid (Below w.heap.size w c1):=Below.on g.o c
   replace f:Hid (FpEnv c1 a v y):=f.o.below c
   replace d:Hid (TmC c1 (some ⟨b,o,none⟩) j r A.cs):=d.o.below c
   replace l:Hid (TmC c1 K J I L.cs):=l.o.below c
   replace u:Hid (TmC c1 e2 e1 h8 A.cs):=u.o.below c
   have e8:=hid D;clear c D;go_wp2_with fail;refine(variable_any 451 c1).mono ?_;rintro e h2 ⟨f6,d8,a9,rfl,D,c⟩
   replace g:Hid (Below w.heap.size w h2):=Below.on g.o c
   replace f:Hid (FpEnv h2 a v y):=f.o.below c
   replace d:Hid (TmC h2 (some ⟨b,o,none⟩) j r A.cs):=d.o.below c
   replace l:Hid (TmC h2 K J I L.cs):=l.o.below c
   replace u:Hid (TmC h2 e2 e1 h8 A.cs):=u.o.below c
   replace e8:Hid (TmIn h2 c7 c5 c2 [(0,450,[])]):=e8.o.below c
   have b5:=hid D;clear c D;go_wp2_with fail
   obtain⟨wr4,t⟩:∃ wr4,wr4=h2.alloc (.cells #[.slice (some ⟨b,o,none⟩) j r,.slice c7 c5 c2,.slice f6 d8 a9] 23):=⟨_,rfl⟩
   obtain⟨i7,k⟩:∃ i7,i7=h2.heap.size:=⟨_,rfl⟩
   have c:Below h2.heap.size h2 wr4:=by rw[t];exact(Below.refl _ _).alloc (Nat.le_refl _) _
   have g4:wr4.heap[i7]?=some (.cells #[.slice (some ⟨b,o,none⟩) j r,.slice c7 c5 c2,.slice f6 d8 a9] 23):=by rw[t,k];exact heap_alloc_new _ _
   replace g:Hid (Below w.heap.size w wr4):=Below.on g.o c
   replace f:Hid (FpEnv wr4 a v y):=f.o.below c
   replace d:Hid (TmC wr4 (some ⟨b,o,none⟩) j r A.cs):=d.o.below c
   replace l:Hid (TmC wr4 K J I L.cs):=l.o.below c
   replace u:Hid (TmC wr4 e2 e1 h8 A.cs):=u.o.below c
   replace e8:Hid (TmIn wr4 c7 c5 c2 [(0,450,[])]):=e8.o.below c
   replace b5:Hid (TmIn wr4 f6 d8 a9 [(0,451,[])]):=b5.o.below c
   rw[<-t,<-k];clear t k c;have C:=ef_funL0 f.o B.o.1 M.o g4 d.o e8.o.tmc b5.o.tmc;rw[s_fun] at C;refine(C).mono ?_;rintro e k2 ⟨qN,mN,Y,rfl,E,c⟩
   replace g:Hid (Below w.heap.size w k2):=Below.on g.o c
   replace f:Hid (FpEnv k2 a v y):=f.o.below c
   replace d:Hid (TmC k2 (some ⟨b,o,none⟩) j r A.cs):=d.o.below c
   replace l:Hid (TmC k2 K J I L.cs):=l.o.below c
   replace u:Hid (TmC k2 e2 e1 h8 A.cs):=u.o.below c
   replace e8:Hid (TmIn k2 c7 c5 c2 [(0,450,[])]):=e8.o.below c
   replace b5:Hid (TmIn k2 f6 d8 a9 [(0,451,[])]):=b5.o.below c
   have s:=hid E;clear c E C g4;clear e8;clear b5;go_wp2_with fail;refine(variable_any 450 k2).mono ?_;rintro e x1 ⟨c8,c6,c3,rfl,D,c⟩
   replace g:Hid (Below w.heap.size w x1):=Below.on g.o c
   replace f:Hid (FpEnv x1 a v y):=f.o.below c
   replace d:Hid (TmC x1 (some ⟨b,o,none⟩) j r A.cs):=d.o.below c
   replace l:Hid (TmC x1 K J I L.cs):=l.o.below c
   replace u:Hid (TmC x1 e2 e1 h8 A.cs):=u.o.below c
   replace s:Hid (TmC x1 qN mN Y A.cs):=s.o.below c
   have e9:=hid D;clear c D;go_wp2_with fail;refine(variable_any 451 x1).mono ?_;rintro e W ⟨f7,d9,d2,rfl,D,c⟩
   replace g:Hid (Below w.heap.size w W):=Below.on g.o c
   replace f:Hid (FpEnv W a v y):=f.o.below c
   replace d:Hid (TmC W (some ⟨b,o,none⟩) j r A.cs):=d.o.below c
   replace l:Hid (TmC W K J I L.cs):=l.o.below c
   replace u:Hid (TmC W e2 e1 h8 A.cs):=u.o.below c
   replace s:Hid (TmC W qN mN Y A.cs):=s.o.below c
   replace e9:Hid (TmIn W c8 c6 c3 [(0,450,[])]):=e9.o.below c
   have b6:=hid D;clear c D;go_wp2_with fail
   obtain⟨T,t⟩:∃ T,T=W.alloc (.cells #[.slice (some ⟨b,o,none⟩) j r,.slice c8 c6 c3,.slice f7 d9 d2] 23):=⟨_,rfl⟩
   obtain⟨i8,k⟩:∃ i8,i8=W.heap.size:=⟨_,rfl⟩
   have c:Below W.heap.size W T:=by rw[t];exact(Below.refl _ _).alloc (Nat.le_refl _) _
   have g5:T.heap[i8]?=some (.cells #[.slice (some ⟨b,o,none⟩) j r,.slice c8 c6 c3,.slice f7 d9 d2] 23):=by rw[t,k];exact heap_alloc_new _ _
   replace g:Hid (Below w.heap.size w T):=Below.on g.o c
   replace f:Hid (FpEnv T a v y):=f.o.below c
   replace d:Hid (TmC T (some ⟨b,o,none⟩) j r A.cs):=d.o.below c
   replace l:Hid (TmC T K J I L.cs):=l.o.below c
   replace u:Hid (TmC T e2 e1 h8 A.cs):=u.o.below c
   replace s:Hid (TmC T qN mN Y A.cs):=s.o.below c
   replace e9:Hid (TmIn T c8 c6 c3 [(0,450,[])]):=e9.o.below c
   replace b6:Hid (TmIn T f7 d9 d2 [(0,451,[])]):=b6.o.below c
   rw[<-t,<-k];clear t k c;have C:=ef_funL1 f.o B.o.1 M.o g5 d.o e9.o.tmc b6.o.tmc;rw[s_fun] at C;refine(C).mono ?_;rintro e k3 ⟨qY,mY,cY,rfl,E,c⟩
   replace g:Hid (Below w.heap.size w k3):=Below.on g.o c
   replace f:Hid (FpEnv k3 a v y):=f.o.below c
   replace d:Hid (TmC k3 (some ⟨b,o,none⟩) j r A.cs):=d.o.below c
   replace l:Hid (TmC k3 K J I L.cs):=l.o.below c
   replace u:Hid (TmC k3 e2 e1 h8 A.cs):=u.o.below c
   replace s:Hid (TmC k3 qN mN Y A.cs):=s.o.below c
   replace e9:Hid (TmIn k3 c8 c6 c3 [(0,450,[])]):=e9.o.below c
   replace b6:Hid (TmIn k3 f7 d9 d2 [(0,451,[])]):=b6.o.below c
   have z:=hid E;clear c E C g5;clear e9;clear b6;obtain rfl:mY=1:=z.o.1
   obtain rfl:mN=1:=by rw[s.o.1,(leafK B.o.1.1 M.o).2];rfl
   go_wp2_with fail;refine(sameFp B.o.1 u.o d.o).mono ?_;rintro e x2 ⟨rfl,c⟩
   replace g:Hid (Below w.heap.size w x2):=Below.on g.o c
   replace f:Hid (FpEnv x2 a v y):=f.o.below c
   replace d:Hid (TmC x2 (some ⟨b,o,none⟩) j r A.cs):=d.o.below c
   replace l:Hid (TmC x2 K J I L.cs):=l.o.below c
   replace u:Hid (TmC x2 e2 e1 h8 A.cs):=u.o.below c
   replace s:Hid (TmC x2 qN 1 Y A.cs):=s.o.below c
   replace z:Hid (TmC x2 qY 1 cY [(1,0,[])]):=z.o.below c
   clear c ;rw[HL.o.2.1] at l;go_wp2_with fail;refine(itemsT_any [A] (by have h:=ptsL_ok B.o.1;rw[ptsL,if_neg (by have:=B.o.2.2;omega)] at h;exact h) (by rw[<-HL.o.2.1];have:=HL.o.2.2.1.2.1;simp[Tr.cs];omega) l.o).mono ?_;rintro e x3 ⟨pP,cP,rfl,i1,c⟩
   replace g:Hid (Below w.heap.size w x3):=Below.on g.o c
   replace f:Hid (FpEnv x3 a v y):=f.o.below c
   replace d:Hid (TmC x3 (some ⟨b,o,none⟩) j r A.cs):=d.o.below c
   replace l:Hid (TmC x3 K J I (listT [A]).cells):=l.o.below c
   replace s:Hid (TmC x3 qN 1 Y A.cs):=s.o.below c
   replace z:Hid (TmC x3 qY 1 cY [(1,0,[])]):=z.o.below c
   obtain⟨pb,po,rfl,-⟩:=i1 (by simp);have F:=hid i1;clear i1 c;obtain⟨G,H,ey⟩:=z.o.at0 (by simp);subst ey;have y1:=z.o.numb;obtain⟨l5,j6,i2,i3⟩:=F.o.part (i:=0) (by simp)
   have el:(([A].map itC).getD 0 []).length=1:=by show(itC A).length=1;rw[<-cs_eq_itC,(leafK B.o.1.1 M.o).2];rfl
   rw[el] at i2 i3;have l4:x3.cell? ⟨pb,po,none⟩=some (.slice l5 1 j6):=i2;have a3:=hid i3;clear i2 i3 el;clear t0;go_wp2_with fail;refine(sameFp B.o.1 a3.o s.o).mono ?_;rintro e e3 ⟨rfl,c⟩
   replace g:Hid (Below w.heap.size w e3):=Below.on g.o c
   replace f:Hid (FpEnv e3 a v y):=f.o.below c
   replace d:Hid (TmC e3 (some ⟨b,o,none⟩) j r A.cs):=d.o.below c
   replace l:Hid (TmC e3 K J I (listT [A]).cells):=l.o.below c
   replace s:Hid (TmC e3 qN 1 Y A.cs):=s.o.below c
   replace z:Hid (TmC e3 (some ⟨G,H,none⟩) 1 cY [(1,0,[])]):=z.o.below c
   replace F:Hid (CapCC e3 (some ⟨pb,po,none⟩) ([A].map itC)):=F.o.below c
   replace a3:Hid (TmC e3 l5 1 j6 A.cs):=a3.o.below c
   clear c ;clear y1 l4 a3;have t0:=d.o.kind;rw[B.o.2.2] at t0;obtain⟨tq,td,t2⟩:=d.o.text
   obtain⟨c9,j9⟩:∃ c9,c9=A.1.2.2.length:=⟨_,rfl⟩
   rw[<-j9] at t2;clear j9;obtain⟨L2,h9,k7,k1,Z⟩:=codes_tr (txtT_ok B.o.1 M.o).1 (txtT_ok B.o.1 M.o).2
   have a1:Hid (L2.fo=listT ((txtT A).map cItT)/\smallT L2/\LsA L2 ((txtT A).map cItT)):=⟨h9,k1,Z⟩
   clear h9 k7 k1 Z
   by_cases m1:90<c9
   ·have b9:(90:Int)<(c9:Int):=by omega
    go_wp2_with fail;go_ret;exact⟨rfl,g.o⟩
   have b9:((90:Int)<(c9:Int))=False:=by simp;omega
   go_wp2_with fail;refine(variable_any 450 e3).mono ?_;rintro e X ⟨f8,f1,d3,rfl,D,c⟩
   replace g:Hid (Below w.heap.size w X):=Below.on g.o c
   replace f:Hid (FpEnv X a v y):=f.o.below c
   replace d:Hid (TmC X (some ⟨b,o,none⟩) j r A.cs):=d.o.below c
   replace l:Hid (TmC X K J I (listT [A]).cells):=l.o.below c
   replace s:Hid (TmC X qN 1 Y A.cs):=s.o.below c
   replace z:Hid (TmC X (some ⟨G,H,none⟩) 1 cY [(1,0,[])]):=z.o.below c
   replace F:Hid (CapCC X (some ⟨pb,po,none⟩) ([A].map itC)):=F.o.below c
   have b7:=hid D;clear c D;clear t2;go_wp2_with fail
   obtain⟨U,t⟩:∃ U,U=X.alloc (.cells #[.slice (some ⟨b,o,none⟩) j r,.slice f8 f1 d3] 23):=⟨_,rfl⟩
   obtain⟨i9,k⟩:∃ i9,i9=X.heap.size:=⟨_,rfl⟩
   have c:Below X.heap.size X U:=by rw[t];exact(Below.refl _ _).alloc (Nat.le_refl _) _
   have g6:U.heap[i9]?=some (.cells #[.slice (some ⟨b,o,none⟩) j r,.slice f8 f1 d3] 23):=by rw[t,k];exact heap_alloc_new _ _
   replace g:Hid (Below w.heap.size w U):=Below.on g.o c
   replace f:Hid (FpEnv U a v y):=f.o.below c
   replace d:Hid (TmC U (some ⟨b,o,none⟩) j r A.cs):=d.o.below c
   replace l:Hid (TmC U K J I (listT [A]).cells):=l.o.below c
   replace s:Hid (TmC U qN 1 Y A.cs):=s.o.below c
   replace z:Hid (TmC U (some ⟨G,H,none⟩) 1 cY [(1,0,[])]):=z.o.below c
   replace F:Hid (CapCC U (some ⟨pb,po,none⟩) ([A].map itC)):=F.o.below c
   replace b7:Hid (TmIn U f8 f1 d3 [(0,450,[])]):=b7.o.below c
   rw[<-t,<-k];clear t k c;have C:=ef_codesF f.o B.o.1 a1.o.2.1 M.o a1.o.1 g6 d.o b7.o.tmc;rw[s_codes] at C;refine(C).mono ?_;rintro e e4 ⟨qC,mC,cC,rfl,E,c⟩
   replace g:Hid (Below w.heap.size w e4):=Below.on g.o c
   replace f:Hid (FpEnv e4 a v y):=f.o.below c
   replace d:Hid (TmC e4 (some ⟨b,o,none⟩) j r A.cs):=d.o.below c
   replace l:Hid (TmC e4 K J I (listT [A]).cells):=l.o.below c
   replace s:Hid (TmC e4 qN 1 Y A.cs):=s.o.below c
   replace z:Hid (TmC e4 (some ⟨G,H,none⟩) 1 cY [(1,0,[])]):=z.o.below c
   replace F:Hid (CapCC e4 (some ⟨pb,po,none⟩) ([A].map itC)):=F.o.below c
   replace b7:Hid (TmIn e4 f8 f1 d3 [(0,450,[])]):=b7.o.below c
   have HC:=hid E;clear c E C g6;clear b7;clear t0;have t0:=d.o.kind;rw[B.o.2.2] at t0;go_wp2_with fail;refine(variable_any 450 e4).mono ?_;rintro e Q ⟨f9,f2,d4,rfl,D,c⟩
   replace g:Hid (Below w.heap.size w Q):=Below.on g.o c
   replace f:Hid (FpEnv Q a v y):=f.o.below c
   replace d:Hid (TmC Q (some ⟨b,o,none⟩) j r A.cs):=d.o.below c
   replace l:Hid (TmC Q K J I (listT [A]).cells):=l.o.below c
   replace s:Hid (TmC Q qN 1 Y A.cs):=s.o.below c
   replace z:Hid (TmC Q (some ⟨G,H,none⟩) 1 cY [(1,0,[])]):=z.o.below c
   replace F:Hid (CapCC Q (some ⟨pb,po,none⟩) ([A].map itC)):=F.o.below c
   replace HC:Hid (TmC Q qC mC cC L2.cs):=HC.o.below c
   have b8:=hid D;clear c D
   have eT:txtT A=A.1.2.2:=by rw[txtT,if_neg (by have:=B.o.2.2;omega)]
   have l1:=a1.o.2.2;rw[eT] at l1
   have a4:Hid (Byte A.1.2.2/\A.1.2.2.length<=100):=by rw[<-eT];exact txtT_ok B.o.1 M.o
   go_wp2_with fail
   obtain⟨N,t⟩:∃ N,N=Q.alloc (.cells #[.slice f9 f2 d4,.slice qC mC cC] 23):=⟨_,rfl⟩
   obtain⟨j1,k⟩:∃ j1,j1=Q.heap.size:=⟨_,rfl⟩
   have c:Below Q.heap.size Q N:=by rw[t];exact(Below.refl _ _).alloc (Nat.le_refl _) _
   have g7:N.heap[j1]?=some (.cells #[.slice f9 f2 d4,.slice qC mC cC] 23):=by rw[t,k];exact heap_alloc_new _ _
   replace g:Hid (Below w.heap.size w N):=Below.on g.o c
   replace f:Hid (FpEnv N a v y):=f.o.below c
   replace d:Hid (TmC N (some ⟨b,o,none⟩) j r A.cs):=d.o.below c
   replace l:Hid (TmC N K J I (listT [A]).cells):=l.o.below c
   replace s:Hid (TmC N qN 1 Y A.cs):=s.o.below c
   replace z:Hid (TmC N (some ⟨G,H,none⟩) 1 cY [(1,0,[])]):=z.o.below c
   replace F:Hid (CapCC N (some ⟨pb,po,none⟩) ([A].map itC)):=F.o.below c
   replace HC:Hid (TmC N qC mC cC L2.cs):=HC.o.below c
   replace b8:Hid (TmIn N f9 f2 d4 [(0,450,[])]):=b8.o.below c
   rw[<-t,<-k];clear t k c;have C:=ef_codesB f.o a1.o.2.1 l1 a4.o.1 a4.o.2 g7 b8.o.tmc HC.o;rw[s_codes] at C;refine(C).mono ?_;rintro e h4 ⟨qZ,mZ,cZ,rfl,E,c⟩
   replace g:Hid (Below w.heap.size w h4):=Below.on g.o c
   replace f:Hid (FpEnv h4 a v y):=f.o.below c
   replace d:Hid (TmC h4 (some ⟨b,o,none⟩) j r A.cs):=d.o.below c
   replace l:Hid (TmC h4 K J I (listT [A]).cells):=l.o.below c
   replace s:Hid (TmC h4 qN 1 Y A.cs):=s.o.below c
   replace z:Hid (TmC h4 (some ⟨G,H,none⟩) 1 cY [(1,0,[])]):=z.o.below c
   replace F:Hid (CapCC h4 (some ⟨pb,po,none⟩) ([A].map itC)):=F.o.below c
   replace HC:Hid (TmC h4 qC mC cC L2.cs):=HC.o.below c
   replace b8:Hid (TmIn h4 f9 f2 d4 [(0,450,[])]):=b8.o.below c
   have HZ:=hid E;clear c E C g7;clear b8;rw[<-cellAtom B.o.1.1 B.o.2.2] at HZ;obtain⟨L3,h9,k7,k1,Z⟩:=chars_tr (txtT_ok B.o.1 M.o).1 (txtT_ok B.o.1 M.o).2
   have HD:Hid (L3.fo=listT ((txtT A).map hItT)/\smallT L3/\LsA L3 ((txtT A).map hItT)):=⟨h9,k1,Z⟩
   have l2:=Z;rw[eT] at l2;clear h9 k7 k1 Z;go_wp2_with fail;refine(variable_any 450 h4).mono ?_;rintro e R ⟨x8,x6,x4,rfl,D,c⟩
   replace g:Hid (Below w.heap.size w R):=Below.on g.o c
   replace f:Hid (FpEnv R a v y):=f.o.below c
   replace d:Hid (TmC R (some ⟨b,o,none⟩) j r A.cs):=d.o.below c
   replace l:Hid (TmC R K J I (listT [A]).cells):=l.o.below c
   replace s:Hid (TmC R qN 1 Y A.cs):=s.o.below c
   replace z:Hid (TmC R (some ⟨G,H,none⟩) 1 cY [(1,0,[])]):=z.o.below c
   replace F:Hid (CapCC R (some ⟨pb,po,none⟩) ([A].map itC)):=F.o.below c
   replace HZ:Hid (TmC R qZ mZ cZ A.cs):=HZ.o.below c
   have h6:=hid D;clear c D;go_wp2_with fail
   obtain⟨O,t⟩:∃ O,O=R.alloc (.cells #[.slice (some ⟨b,o,none⟩) j r,.slice x8 x6 x4] 23):=⟨_,rfl⟩
   obtain⟨j2,k⟩:∃ j2,j2=R.heap.size:=⟨_,rfl⟩
   have c:Below R.heap.size R O:=by rw[t];exact(Below.refl _ _).alloc (Nat.le_refl _) _
   have g8:O.heap[j2]?=some (.cells #[.slice (some ⟨b,o,none⟩) j r,.slice x8 x6 x4] 23):=by rw[t,k];exact heap_alloc_new _ _
   replace g:Hid (Below w.heap.size w O):=Below.on g.o c
   replace f:Hid (FpEnv O a v y):=f.o.below c
   replace d:Hid (TmC O (some ⟨b,o,none⟩) j r A.cs):=d.o.below c
   replace l:Hid (TmC O K J I (listT [A]).cells):=l.o.below c
   replace s:Hid (TmC O qN 1 Y A.cs):=s.o.below c
   replace z:Hid (TmC O (some ⟨G,H,none⟩) 1 cY [(1,0,[])]):=z.o.below c
   replace F:Hid (CapCC O (some ⟨pb,po,none⟩) ([A].map itC)):=F.o.below c
   replace HZ:Hid (TmC O qZ mZ cZ A.cs):=HZ.o.below c
   replace h6:Hid (TmIn O x8 x6 x4 [(0,450,[])]):=h6.o.below c
   rw[<-t,<-k];clear t k c;have C:=ef_charsF f.o B.o.1 HD.o.2.1 M.o HD.o.1 g8 d.o h6.o.tmc;rw[s_chars] at C;refine(C).mono ?_;rintro e e5 ⟨k9,k8,k6,rfl,E,c⟩
   replace g:Hid (Below w.heap.size w e5):=Below.on g.o c
   replace f:Hid (FpEnv e5 a v y):=f.o.below c
   replace d:Hid (TmC e5 (some ⟨b,o,none⟩) j r A.cs):=d.o.below c
   replace l:Hid (TmC e5 K J I (listT [A]).cells):=l.o.below c
   replace s:Hid (TmC e5 qN 1 Y A.cs):=s.o.below c
   replace z:Hid (TmC e5 (some ⟨G,H,none⟩) 1 cY [(1,0,[])]):=z.o.below c
   replace F:Hid (CapCC e5 (some ⟨pb,po,none⟩) ([A].map itC)):=F.o.below c
   replace HZ:Hid (TmC e5 qZ mZ cZ A.cs):=HZ.o.below c
   replace h6:Hid (TmIn e5 x8 x6 x4 [(0,450,[])]):=h6.o.below c
   have V:=hid E;clear c E C g8;clear h6;go_wp2_with fail;refine(sameFp B.o.1 HZ.o d.o).mono ?_;rintro e h5 ⟨rfl,c⟩
   replace g:Hid (Below w.heap.size w h5):=Below.on g.o c
   replace f:Hid (FpEnv h5 a v y):=f.o.below c
   replace d:Hid (TmC h5 (some ⟨b,o,none⟩) j r A.cs):=d.o.below c
   replace l:Hid (TmC h5 K J I (listT [A]).cells):=l.o.below c
   replace s:Hid (TmC h5 qN 1 Y A.cs):=s.o.below c
   replace z:Hid (TmC h5 (some ⟨G,H,none⟩) 1 cY [(1,0,[])]):=z.o.below c
   replace F:Hid (CapCC h5 (some ⟨pb,po,none⟩) ([A].map itC)):=F.o.below c
   replace HZ:Hid (TmC h5 qZ mZ cZ A.cs):=HZ.o.below c
   replace V:Hid (TmC h5 k9 k8 k6 L3.cs):=V.o.below c
   clear c ;go_wp2_with fail;refine(variable_any 450 h5).mono ?_;rintro e S ⟨x9,x7,x5,rfl,D,c⟩
   replace g:Hid (Below w.heap.size w S):=Below.on g.o c
   replace f:Hid (FpEnv S a v y):=f.o.below c
   replace d:Hid (TmC S (some ⟨b,o,none⟩) j r A.cs):=d.o.below c
   replace l:Hid (TmC S K J I (listT [A]).cells):=l.o.below c
   replace s:Hid (TmC S qN 1 Y A.cs):=s.o.below c
   replace z:Hid (TmC S (some ⟨G,H,none⟩) 1 cY [(1,0,[])]):=z.o.below c
   replace F:Hid (CapCC S (some ⟨pb,po,none⟩) ([A].map itC)):=F.o.below c
   replace V:Hid (TmC S k9 k8 k6 L3.cs):=V.o.below c
   have h7:=hid D;clear c D;go_wp2_with fail
   obtain⟨P,t⟩:∃ P,P=S.alloc (.cells #[.slice x9 x7 x5,.slice k9 k8 k6] 23):=⟨_,rfl⟩
   obtain⟨j3,k⟩:∃ j3,j3=S.heap.size:=⟨_,rfl⟩
   have c:Below S.heap.size S P:=by rw[t];exact(Below.refl _ _).alloc (Nat.le_refl _) _
   have g9:P.heap[j3]?=some (.cells #[.slice x9 x7 x5,.slice k9 k8 k6] 23):=by rw[t,k];exact heap_alloc_new _ _
   replace g:Hid (Below w.heap.size w P):=Below.on g.o c
   replace f:Hid (FpEnv P a v y):=f.o.below c
   replace d:Hid (TmC P (some ⟨b,o,none⟩) j r A.cs):=d.o.below c
   replace l:Hid (TmC P K J I (listT [A]).cells):=l.o.below c
   replace s:Hid (TmC P qN 1 Y A.cs):=s.o.below c
   replace z:Hid (TmC P (some ⟨G,H,none⟩) 1 cY [(1,0,[])]):=z.o.below c
   replace F:Hid (CapCC P (some ⟨pb,po,none⟩) ([A].map itC)):=F.o.below c
   replace V:Hid (TmC P k9 k8 k6 L3.cs):=V.o.below c
   replace h7:Hid (TmIn P x9 x7 x5 [(0,450,[])]):=h7.o.below c
   rw[<-t,<-k];clear t k c;have C:=ef_charsB f.o HD.o.2.1 l2 a4.o.1 a4.o.2 g9 h7.o.tmc V.o;rw[s_chars] at C;refine(C).mono ?_;rintro e e6 ⟨l9,l8,l7,rfl,E,c⟩
   replace g:Hid (Below w.heap.size w e6):=Below.on g.o c
   replace f:Hid (FpEnv e6 a v y):=f.o.below c
   replace d:Hid (TmC e6 (some ⟨b,o,none⟩) j r A.cs):=d.o.below c
   replace l:Hid (TmC e6 K J I (listT [A]).cells):=l.o.below c
   replace s:Hid (TmC e6 qN 1 Y A.cs):=s.o.below c
   replace z:Hid (TmC e6 (some ⟨G,H,none⟩) 1 cY [(1,0,[])]):=z.o.below c
   replace F:Hid (CapCC e6 (some ⟨pb,po,none⟩) ([A].map itC)):=F.o.below c
   replace V:Hid (TmC e6 k9 k8 k6 L3.cs):=V.o.below c
   replace h7:Hid (TmIn e6 x9 x7 x5 [(0,450,[])]):=h7.o.below c
   have a5:=hid E;clear c E C g9;clear h7;rw[<-cellAtom B.o.1.1 B.o.2.2] at a5;go_wp2_with fail;refine(sameFp B.o.1 a5.o d.o).mono ?_;rintro e e7 ⟨rfl,c⟩
   replace g:Hid (Below w.heap.size w e7):=Below.on g.o c
   replace f:Hid (FpEnv e7 a v y):=f.o.below c
   replace d:Hid (TmC e7 (some ⟨b,o,none⟩) j r A.cs):=d.o.below c
   replace l:Hid (TmC e7 K J I (listT [A]).cells):=l.o.below c
   replace s:Hid (TmC e7 qN 1 Y A.cs):=s.o.below c
   replace z:Hid (TmC e7 (some ⟨G,H,none⟩) 1 cY [(1,0,[])]):=z.o.below c
   replace F:Hid (CapCC e7 (some ⟨pb,po,none⟩) ([A].map itC)):=F.o.below c
   replace V:Hid (TmC e7 k9 k8 k6 L3.cs):=V.o.below c
   replace a5:Hid (TmC e7 l9 l8 l7 A.cs):=a5.o.below c
   clear c ;go_wp2_with fail;go_ret;exact⟨rfl,g.o⟩
theorem lawFp_bad (p:Option Addr)(h n:Nat)(u:List Int)(w:World)(k:CodeIn w p h n u)(T:List Cel)(r:BdO T)(s:dvF (u.take 500)=T)(c:validB T=false∨(validB T=true/\500<T.length)) :
  Calls Tryz.prog 3 #[.slice p n h] w fun e y=>e = .returned (.bool true)/\Below w.heap.size w y:=by
 have f:=drawFp k s;have v:=hid r.len
 have C:n<=1048576:=by have:=k.len;have:=k.small;omega
 have a:Hid _:=c;clear k s r c
 go_enter Tryz.func3,Tryz.ntmps3
 go_wp2_with fail;refine f.mono ?_;rintro e D ⟨q,m,B,rfl,j,b⟩;have l:=hid b;have t:m=T.length:=j.1;have g:=validV_any (by have:=v.o;omega) j
 rcases a.o with i | ⟨i,x⟩
 ·rw[i] at g
  clear i a j b f t;go_wp2_with fail;refine g.mono ?_;rintro e z ⟨rfl,b⟩;have d:=hid (Below.on l.o b);clear b g;go_wp2_with fail;go_ret;exact⟨rfl,d.o⟩
 ·rw[i] at g
  have A:(500:Int)<(m:Int):=by omega
  clear i a j b f t x;go_wp2_with fail;refine g.mono ?_;rintro e z ⟨rfl,b⟩;have d:=hid (Below.on l.o b);clear b g;go_wp2_with fail;go_ret;exact⟨rfl,d.o⟩
theorem lawFp_far (p:Option Addr)(t n:Nat)(Q:List Int)(w:World)(B:CodeIn w p t n Q)(A:Tr)(M:dvF (Q.take 500)=A.cs)(L:smallT A)(N:A.cs.length<=500)(O:∃ i,i<A.cs.length/\(A.cs.getD i Cel.none).1=0/\400<=(A.cs.getD i Cel.none).2.1) :
  Calls Tryz.prog 3 #[.slice p n t] w fun e V=>e = .returned (.bool true)/\Below w.heap.size w V:=by
 have r:=drawFp B M
 have I:Hid (smallT A/\A.cs.length<=500):=⟨L,N⟩
 have D:=hid O
 have Z:n<=1048576:=by have:=B.len;have:=B.small;omega
 clear B M L N O
 go_enter Tryz.func3,Tryz.ntmps3
 go_wp2_with fail;refine r.mono ?_;rintro e w1 ⟨q,m,X,rfl,g,k⟩;obtain⟨b,o,rfl⟩:=g.at0 (by simp[Tr.cs])
 have hm:m<=500:=by rw[g.1];exact I.o.2
 have K:=validFp I.o.1 g;have s:=hid g;have l:=hid k;clear g k r;go_wp2_with fail;refine K.mono ?_;rintro e W ⟨rfl,k⟩;have C:=hid (s.o.below k);have R:=hid (Below.on l.o k);clear k K s l;go_wp2_with fail
 go_loopw [4] (fun i wr=>∃ (j:Nat),j<=m/\i = .int .i64 j/\Hid (∀ i,i<j->¬ ((A.cs.getD i Cel.none).1=0/\400<=(A.cs.getD i Cel.none).2.1))/\wr=W) (fun i _=>m-(intOf i).toNat)
 case atStart=>exact⟨0,Nat.zero_le _,rfl,(fun i E=>absurd E (Nat.not_lt_zero _)),rfl⟩
 case round=>
  obtain⟨j,hj,rfl,J,P⟩:=hrel;rw[P];clear P wr
  by_cases G:j<m
  ·have u:j<A.cs.length:=by rw[<-C.o.1];exact G
   obtain⟨q',Y,U,q1,-⟩:=C.o.cells u
   obtain⟨x,d⟩:∃ x,x=(A.cs.getD j Cel.none).1:=⟨_,rfl⟩
   obtain⟨y,f⟩:∃ y,y=(A.cs.getD j Cel.none).2.1:=⟨_,rfl⟩
   rw[<-d] at U;rw[<-f] at q1
   have a:Hid (¬ (x=0/\400<=y)->∀ i,i<j+1->¬ ((A.cs.getD i Cel.none).1=0/\400<=(A.cs.getD i Cel.none).2.1)):=fun H i E=>by
    by_cases F:i<j
    ·exact J.o i F
    ·obtain rfl:i=j:=by omega
     rw[<-d,<-f];exact H
   clear d f u
   by_cases z:x=0
   ·by_cases v:400<=y
    ·subst z
     clear a;go_wp2_with fail;go_ret;exact⟨rfl,R.o⟩
    ·have S:((400:Int)<=y)=False:=by simp;omega
     have c:Hid _:=a.o (fun h=>v h.2);subst z;clear a v;go_wp2_with fail;go_roundw
     case rel=>exact⟨j+1,by omega,by go_num,c,by first | rfl | trivial⟩
     case measure=>simp[intOf];omega
   ·have S:(x == 0)=false:=by simpa using z
    have c:Hid _:=a.o (fun h=>z h.1);clear a;go_wp2_with fail;go_roundw
    case rel=>exact⟨j+1,by omega,by go_num,c,by first | rfl | trivial⟩
    case measure=>simp[intOf];omega
  ·exfalso
   obtain⟨i,E,g,T⟩:=D.o;exact J.o i (by have:=C.o.1;omega) ⟨g,T⟩
theorem lawFp_any (p:Option Addr)(b n:Nat)(d:List Int)(a m:Addr)(u:Int)(w:World)(D:n=d.length)(B:Bytes d)(I:n<=b)(N:n<=9223372036854775807)(E:BIn w p d)(r:FpEnv w a m u) :
  Calls Tryz.prog 3 #[.slice p n b] w fun e L=>e = .returned (.bool true)/\Below w.heap.size w L:=by
 by_cases M:1048576<n
 ·have H:(1048576:Int)<(n:Int):=by omega
  clear r E B I D
  go_enter Tryz.func3,Tryz.ntmps3
  go_wp2_with fail;go_ret;exact⟨rfl,Below.refl _ _⟩
 have j:CodeIn w p b n d:=⟨B,D,by omega,by omega,E⟩
 have v:BdO (dvF (d.take 500)):=(any_bd _ _).o
 cases z:validB (dvF (d.take 500)) with
 | false=>exact lawFp_bad p b n d w j _ v rfl (.inl z)
 | true=>
   by_cases J:500<(dvF (d.take 500)).length
   ·exact lawFp_bad p b n d w j _ v rfl (.inr ⟨z,J⟩)
   ·obtain⟨c,k,F,t,_⟩:=tree_of (fun i s=>v.byte.get i s) z
    have l:dvF (d.take 500)=Tr.cs (c,k):=F
    have f:(Tr.cs (c,k)).length<=500:=by rw[<-l];omega
    have q:smallT (c,k):=smallT.of t (by have h:=f;simp[Tr.cs] at h;show k.cells.length+1<=2000;omega)
    by_cases C:∃ i,i<(Tr.cs (c,k)).length/\((Tr.cs (c,k)).getD i Cel.none).1=0/\400<=((Tr.cs (c,k)).getD i Cel.none).2.1
    ·exact lawFp_far p b n d w j (c,k) l q f C
    ·have g:∀ x ∈ Tr.cs (c,k),x.1=0->x.2.1<400:=fun x A G=>by
      obtain⟨i,s,rfl⟩:=List.getElem_of_mem A
      apply Classical.byContradiction
      intro K
      exact C ⟨i,s,by rw[List.getD,List.getElem?_eq_getElem s];exact G,by rw[List.getD,List.getElem?_eq_getElem s];simp only[Option.getD_some];omega⟩
     have y:=t.1;simp only[cellB,decide_eq_true_eq] at y
     rcases(by omega:c.1=0∨c.1=1∨c.1=2∨c.1=3) with h | h | h | h
     ·exact lawFp_var p b n d a m u w j r (c,k) l q f g h
     ·exact lawFp_num p b n d a m u w j r (c,k) l q f g h
     ·exact lawFp_atom p b n d a m u w j r (c,k) l q f g h
     ·exact lawFp_comp p b n d a m u w j r (c,k) l q f g h
end Go.Proofs.YtnfnddnffoigfaaGreatDoor
