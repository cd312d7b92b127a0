/- Texts of MdQ, MdR. Own work of the verifier. -/
import Derived.Test.YtlkhmmoimplokaaGreatDoorUqbu
namespace Go.Proofs.YtlkhmmoimplokaaGreatDoor
set_option maxRecDepth 100000
set_option maxHeartbeats 8000000
open Go Go.RowKit
set_option linter.unusedVariables false
set_option linter.unusedSimpArgs false
theorem fIdx_hitM (s:List UInt8)(a:Bool):∀ (T:List Cel) (k:Nat),fIdx s a k T = -1∨∃ j,j<T.length/\fIdx s a k T=((k+j:Nat):Int)/\hitB s a (T.getD j Cel.none)=true
 | [],k=>.inl rfl
 | x :: r,k=>by
   unfold fIdx
   split
   ·rename_i h
    exact .inr ⟨0,by simp,by simp,by simpa using h⟩
   ·rcases fIdx_hitM s a r (k+1) with h | ⟨j,c,d,e⟩
    ·exact .inl h
    ·exact .inr ⟨j+1,by simpa using c,by rw[d];congr 1;omega,by simpa using e⟩
theorem opB_ok {T:List Cel}(p:∀ c ∈ T,(1<=c.1/\c.1<=1200)/\(0<=c.2.1/\c.2.1<=6)/\Byte c.2.2/\c.2.2.length<=100){s:RS}{o:Cel}(h:opB T s=some o):decide (o.2.1<=2) = !postB o.2.1/\0<=o.1/\o.1<=1200/\s.ts≠[]/\o.2.2.length<=100:=by
 unfold opB at h
 split at h
 ·rename_i a
  cases h
  exact⟨rfl,by decide,by decide,isP_ne a,by decide⟩
 ·split at h
  ·cases h
  ·rename_i q
   split at h
   ·rename_i l
    have g:s.ts≠[]:=fun e=>by
     apply q
     have:s.kd=0:=kd_nil e
     unfold RS.isP
     rw[this];simp
    rcases fIdx_hitM (strOfNums s.tx).toList false T 0 with m | ⟨j,d,n,f⟩
    ·unfold findW at l;rw[m] at l;omega
    ·have e:opW T (findW T s.tx false)=T[j]:=by
      unfold opW findW;rw[n];simp[List.getD,d]
     rw[e] at h
     cases h
     have i:=p T[j] (List.getElem_mem d);rw[List.getD,List.getElem?_eq_getElem d] at f;simp only[Option.getD_some,hitB,Bool.and_eq_true,beq_iff_eq] at f;refine⟨?_,by omega,i.1.2,g,i.2.2.2⟩;have a:=f.2
     have t:¬ T[j].2.1=3:=fun e=>by rw[e] at a;cases a
     have u:¬ T[j].2.1=4:=fun e=>by rw[e] at a;cases a
     have r:=i.2.1;rw[Bool.eq_iff_iff]
     simp[postB]
     omega
   ·cases h
theorem bhM_no {d:Int->RS->Tr×RS}{T:List Cel}{a p:Int}{t:Tr}{s:RS}(h:okN T s p a=false):∀ g,bhR d T g a t p s=(t,s)
 | 0=>rfl
 | g+1=>by
   unfold bhR
   unfold okN at h
   cases c:opB T s with
   | none=>rfl
   | some o=>
     rw[c] at h;simp only[Bool.and_eq_false_iff,decide_eq_false_iff_not] at h;simp only;rw[if_pos (by omega)]
theorem bhM_yes {c:Int->RS->Tr×RS}{T:List Cel}{a p:Int}{t:Tr}{s:RS}{o:Cel}(d:opB T s=some o)(h:okN T s p a=true)(g:Nat):bhR c T (g+1) a t p s=if postB o.2.1=true then bhR c T g a (cmpT o.2.2 [t]) o.1 s.tk else bhR c T g a (cmpT o.2.2 [t,(c (rightP o) s.tk).1]) o.1 (c (rightP o) s.tk).2:=by
 unfold okN at h
 rw[d] at h;simp only[Bool.and_eq_true,decide_eq_true_eq] at h;rw[bhR,d];simp only;rw[if_neg (by omega)]
theorem opB_nil (T:List Cel){s:RS}(h:s.ts = []):opB T s=none:=by
 have:s.kd=0:=kd_nil h
 unfold opB RS.isP
 rw[this];simp
theorem okN_nil (T:List Cel){s:RS}(h:s.ts = [])(p m:Int):okN T s p m=false:=by unfold okN;rw[opB_nil T h]
def mOf (pb n:Nat)(W:World):Nat:=match W.cell? ⟨pb,3,none⟩ with
 | some (.int _ x)=>if 0<=x then 0 else(match W.cell? ⟨pb,2,none⟩ with
   | some (.int _ y)=>n+1-y.toNat
   | _=>0)
 | _=>0
section
variable {w0:World}{pb:Nat}{po:Option Addr}{co:Nat}{kp:Option Addr}{kc:Nat}{T:List Cel}{L:Int}{all:List Tok}{s:RS}{k:Nat}{b:Int}{w:World}
theorem MS.mof (h:MS w0 pb po co kp kc T L all s k b w):(s.ft≠none->mOf pb all.length w=0)/\(s.ft=none->mOf pb all.length w=all.length+1-k):=by
 unfold mOf
 rw[h.c3,h.c2];simp only[Int.toNat_natCast]
 rcases h.bad with ⟨c,d⟩ | ⟨c,d,_⟩
 ·exact⟨fun a=>absurd c a,fun _=>by rw[d];rfl⟩
 ·exact⟨fun _=>by rw[if_pos d],fun a=>absurd a c⟩
theorem mrd_put (d:pb<w0.heap.size){W:World}{R:Nat}(y:w0.heap.size<=R/\w.heap.size<=R){G:Option Addr}{E j:Nat}{I:Value}(B:W.heap[R]?=some (prtO (.slice G E j) I)){q:Option Addr}{n c:Nat}{t:List Cel}(a:CT W pb q n c t)(A:t.length<=2001){x:Tr}{p:Int}{g:RS}(v:g.ft=none->Cut t (itC x)){C:Nat}{h:Int}(f:MS w0 pb po co kp kc T L all g C h W)(e:MF pb w W) :
  MRd w0 pb po co kp kc T L all w (x,g) (.returned (.agg #[.slice q n c,.int .i64 p])) (put2 W R (.slice q n c) (.int .i64 p)):=by
 obtain⟨F,D,i,H,z,l,m,o,r,u⟩:=mst_put d y B a A v f e (p:=p);exact⟨F,D,i,H,p,z,l,m,o,r,u⟩
structure RIv (w0:World)(pb:Nat)(po:Option Addr)(co:Nat)(kp:Option Addr)(kc:Nat)(T:List Cel)(L:Int)(all:List Tok)(rd:Int->RS->Tr×RS)(f:Nat)(A0:World)(X:Nat)(pri:Int)(R:Tr×RS)(wr:World)(q:Option Addr)(n c:Nat)(t:List Cel)(x:Tr)(p:Int)(g:Nat)(s':RS)(k':Nat)(b':Int):Prop where
 box:wr.heap[X]?=some (prtO (.slice q n c) (.int .i64 p))
 ct:CT wr pb q n c t
 len:t.length<=2001
 cut:s'.ft=none->Cut t (itC x)
 eq:R=bhR rd T g pri x p s'
 fuel:s'.ts.length<=g
 tsl:s'.ts.length<=f
 ms:MS w0 pb po co kp kc T L all s' k' b' wr
 mf:MF pb A0 wr
end
theorem MF.alloc {pb:Nat}{w a:World}(h:MF pb w a)(o:Obj):MF pb w (a.alloc o):=h.below ((Below.refl _ _).alloc (Nat.le_refl _) _)
theorem put2_box {w:World}{R:Nat}{a b x y:Value}{t:TypeId}(h:w.heap[R]?=some (.cells #[a,b] t)):(put2 w R x y).heap[R]?=some (.cells #[x,y] t):=by
 unfold put2 World.setCell
 simp[Array.getElem?_modify,h]
theorem set1_box {w:World}{R:Nat}{a b c v:Value}{t:TypeId}(h:w.heap[R]?=some (.cells #[a,b,c] t)):(w.setCell ⟨R,1,none⟩ v).heap[R]?=some (.cells #[a,v,c] t):=by
 unfold World.setCell
 simp[Array.getElem?_modify,h]
theorem one_row {w:World}{B g:Nat}{v:Value}(c:w.heap[g]?=some (.cells #[v] 25))(a:B<=g):w.ownsRow B 25 1 (.slice (some ⟨g,0,none⟩) 1 1) 1 [v]:=⟨rfl,.inr ⟨g,1,_,rfl,a,c,Nat.le_refl _,by decide,rfl,rfl⟩⟩
theorem bel_alloc (w:World)(o:Obj):Below w.heap.size w (w.alloc o):=(Below.refl _ _).alloc (Nat.le_refl _) _
section
variable {w0:World}{pb:Nat}{po:Option Addr}{co:Nat}{kp:Option Addr}{kc:Nat}{T:List Cel}{L:Int}{all:List Tok}{s:RS}{k:Nat}{b:Int}{w:World}
theorem RIv.next {rd:Int->RS->Tr×RS}{f:Nat}{e:World}{X:Nat}{pri:Int}{R:Tr×RS}{d:World}{B:Option Addr}{z v:Nat}{A:Int}(a:d.heap[X]?=some (prtO (.slice B z v) (.int .i64 A)))(j:pb<w0.heap.size)(q:w0.heap.size<=X/\e.heap.size<=X){r:Option Addr}{m g:Nat}{t:List Cel}(c:CT d pb r m g t)(y:m<=2001){x:Tr}{p1:Int}{g':Nat}{s1:RS}{u:Nat}{p:Int}(hcut:s1.ft=none->Cut t (itC x))(h:R=bhR rd T g' pri x p1 s1)(i:s1.ts.length<=g')(o:s1.ts.length<=f)(n:MS w0 pb po co kp kc T L all s1 u p d)(l:MF pb e d) :
  RIv w0 pb po co kp kc T L all rd f e X pri R (put2 d X (.slice r m g) (.int .i64 p1)) r m g t x p1 g' s1 u p:=
 ⟨put2_box a,c.move (sf_put2 (prt_sl a).1 _ _),by rw[<-c.1];exact y,hcut,h,i,o,n.put2 j q.1 (prt_sl a) _ _,l.put2 q.2 _ _⟩
theorem MS.nearer {s c:RS}{k g:Nat}{b l:Int}{w j:World}(h:MS w0 pb po co kp kc T L all s k b w)(f:s.ft=none)(e:MS w0 pb po co kp kc T L all c g l j)(o:c.ts.length<s.ts.length):mOf pb all.length j<mOf pb all.length w:=by
 rw[h.mof.2 f];have p:=h.kl
 by_cases d:c.ft=none
 ·rw[e.mof.2 d]
  have m:s.ts=all.drop k:=by
   rcases h.rel with ⟨_,_,a⟩ | ⟨i,_,_,a,_⟩
   ·exact a
   ·rw[f] at a;cases a
  have n:c.ts=all.drop g:=by
   rcases e.rel with ⟨_,_,a⟩ | ⟨i,_,_,a,_⟩
   ·exact a
   ·rw[d] at a;cases a
  rw[m,n,List.length_drop,List.length_drop] at o
  omega
 ·rw[e.mof.1 d];omega
theorem l4read_any (E:MEnv w0 pb po co kp kc T L all){f:Nat}(H:MOk w0 pb po co kp kc T L all f)(h:MS w0 pb po co kp kc T L all s k b w)(hf:s.ts.length<=f)(A:Int)
  (m2:∀ (W:World),MS w0 pb po co kp kc T L all s k b W->Calls Tryz.prog 93 #[ptrM pb,.int .i64 A] W (MSt w0 pb po co kp kc T L all W (sttR (rdR T L f) T L A s))) :
  Calls Tryz.prog 53 #[ptrM pb,.int .i64 A] w (MRd w0 pb po co kp kc T L all w (rdR T L (f+1) A s)):=by
 have p2:pb<w.heap.size:=Nat.lt_of_lt_of_le E.lt h.mf.size
 have N:Hid (pb<w0.heap.size/\w0.heap.size<=w.heap.size/\pb<w.heap.size):=⟨E.lt,h.mf.size,p2⟩
 obtain⟨Z,eA⟩:∃ Z,Z=w.alloc (prtO (.slice none 0 0) (.int .i64 0)):=⟨_,rfl⟩
 have i8:Below w.heap.size w Z:=by rw[eA];exact(Below.refl _ _).alloc (Nat.le_refl _) _
 have q2:=h.below i8;have l9:Hid (MF pb w Z):=MF.of pb i8;have q8:Hid (Z=w.alloc (prtO (.slice none 0 0) (.int .i64 0))):=eA
 have g2:Z.heap.size=w.heap.size+1:=by rw[eA];simp
 have p4:Z.heap[w.heap.size]?=some (prtO (.slice none 0 0) (.int .i64 0)):=by rw[eA];exact heap_alloc_new _ _
 have l5:Hid (∀ W,MF pb Z W->W.heap[w.heap.size]?=some (prtO (.slice none 0 0) (.int .i64 0))):=fun W hW=>hW.tag p4 (by decide) (by omega)
 have g4:=m2 Z q2;have f8:=sub_len (stt_g (rd_g T L f) T L A s).sub
 have r3:Hid (∀ (l:RS) (P:Nat) (b':Int) (W:World) (left:Int),MS w0 pb po co kp kc T L all l P b' W->Calls Tryz.prog 94 #[ptrM pb,.int .i64 left,.int .i64 A] W (NxO T l left A pb W)):=fun l P b' W left hs=>l4next_any E hs left A
 have l6:Hid (∀ (pr:Int) (l:RS) (P:Nat) (b':Int) (W:World),MS w0 pb po co kp kc T L all l P b' W->l.ts.length<f->Calls Tryz.prog 53 #[ptrM pb,.int .i64 pr] W (MRd w0 pb po co kp kc T L all W (rdR T L f pr l))):=fun pr l P b' W hs hl=>H pr l P b' W hs hl
 have r4:Hid (∀ (l:RS) (o:Cel),opB T l=some o->decide (o.2.1<=2) = !postB o.2.1/\0<=o.1/\o.1<=1200/\l.ts≠[]/\o.2.2.length<=100):=fun l o ho=>opB_ok E.tab ho
 have l1:Hid (∀ pr l,RdG l (rdR T L f pr l).1 (rdR T L f pr l).2):=fun pr l=>rd_g T L f pr l
 have r1:Hid (∀ pr l,FK l (rdR T L f pr l).2):=fun pr l=>rd_fk T L f pr l
 have q9:Hid (all.length<=10000):=E.len;have hR:rdR T L (f+1) A s=bhR (rdR T L f) T (sttR (rdR T L f) T L A s).2.ts.length A (sttR (rdR T L f) T L A s).1.1 (sttR (rdR T L f) T L A s).1.2 (sttR (rdR T L f) T L A s).2:=rfl
 generalize rdR T L (f+1) A s=R at hR ⊢
 generalize sttR (rdR T L f) T L A s=y at hR g4 f8
 generalize rdR T L f=rd at hR l6 l1 r1
 have l7:Hid (R=bhR rd T y.2.ts.length A y.1.1 y.1.2 y.2):=hR
 have m1:Hid (y.2.ts.length<=f):=by show _<=_;omega
 have y2:=fieldP0
 have y6:w.heap.size<Z.heap.size:=by omega
 have x4:Hid (Z.heap.size=w.heap.size+1):=g2;clear h E H m2 p2 eA i8 q2 p4 hR f8 hf g2
 go_enter Tryz.func53,Tryz.ntmps53
 go_wp2_with fail;rw[<-q8.o];refine g4.mono ?_;rintro e W1 ⟨q,n,c,t,rfl,h8,hl,hP,⟨k1,b1,p6⟩,i9⟩
 obtain⟨V0,eV⟩:∃ V0,V0=W1.alloc (prtO (.slice q n c) (.int .i64 y.1.2)):=⟨_,rfl⟩
 have d7:Below W1.heap.size W1 V0:=by rw[eV];exact(Below.refl _ _).alloc (Nat.le_refl _) _
 obtain⟨X,eX⟩:∃ X,X=W1.heap.size:=⟨_,rfl⟩
 have e2:Hid (Z.heap.size<=X):=by rw[eX];exact i9.size
 have r2:Hid (RIv w0 pb po co kp kc T L all rd f Z X A R V0 q n c t y.1.1 y.1.2 y.2.ts.length y.2 k1 b1):=⟨by rw[eV,eX];exact heap_alloc_new _ _,h8.move (SF.of pb d7),hl,hP,l7.o,Nat.le_refl _,m1.o,p6.below d7,i9.below d7⟩
 have s4:Hid (V0=W1.alloc (prtO (.slice q n c) (.int .i64 y.1.2))):=eV;have s5:Hid (X=W1.heap.size):=eX;clear h8 hP p6 i9 eV d7 eX g4 l7 m1 hl;go_wp2_with fail;rw[<-s4.o,<-s5.o]
 go_loopw [7] (fun _ wr=>Hid (∃ q n c t x p g l P b',RIv w0 pb po co kp kc T L all rd f Z X A R wr q n c t x p g l P b')) (fun _ wr=>mOf pb all.length wr)
 case atStart=>exact⟨_,_,_,_,_,_,_,_,_,_,r2.o⟩
 case round=>
  have HI:=hrel;obtain⟨q,n,c,t,x,p,g,l,P,b',hI⟩:=HI.o;have e3:=hI.ms.c3;obtain⟨y0,y1,q5,q6⟩:=res2 hI.box;have r0:=l5.o wr hI.mf;obtain⟨g0,g1,z0,z1⟩:=res2 r0
  have t5:¬ X=w.heap.size:=by have:=e2.o;have:=x4.o;omega
  have v6:¬ w.heap.size=X:=fun e=>t5 e.symm
  have B:Hid (RIv w0 pb po co kp kc T L all rd f Z X A R wr q n c t x p g l P b'):=hI
  rcases hI.ms.bad with ⟨d8,i5⟩ | ⟨d8,i5,_,q3⟩
  ·subst i5
   have HC:=r3.o l P (-1) wr p hI.ms;have g6:Hid (l.ft=none):=d8;clear hI d8 HI hrel;go_wp2_with fail;refine HC.mono ?_;rintro e W2 ⟨q1,G,d,D,t1,rfl,i6,o7⟩
   obtain⟨U,eU⟩:∃ U,U=W2.alloc (.cells #[.slice q1 G d,.int .i64 D,.int .i64 t1] 60):=⟨_,rfl⟩
   have b9:Below wr.heap.size wr U:=by rw[eU];exact Below.on i6 ((Below.refl _ _).alloc (Nat.le_refl _) _)
   have m4:Hid (U=W2.alloc (.cells #[.slice q1 G d,.int .i64 D,.int .i64 t1] 60)):=eU
   obtain⟨O,eO⟩:∃ O,O=W2.heap.size:=⟨_,rfl⟩
   have r5:Hid (O=W2.heap.size):=eO
   have m9:U.heap[O]?=some (.cells #[.slice q1 G d,.int .i64 D,.int .i64 t1] 60):=by rw[eU,eO];exact heap_alloc_new _ _
   have a6:Hid (MF pb Z U):=B.o.mf.below b9;have w4:Hid (MS w0 pb po co kp kc T L all l P (-1) U):=B.o.ms.below b9;have d6:U.heap[X]?=some (prtO (.slice q n c) (.int .i64 p)):=(b9.block _ (Array.getElem?_eq_some_iff.1 B.o.box).1).trans B.o.box;have a5:Hid (CT U pb q n c t):=B.o.ct.move (SF.of pb b9)
   have j7:Hid (okN T l p A=true->∃ o,opB T l=some o/\G=o.2.2.length/\D=o.1/\t1=o.2.1/\BK U pb q1 o.2.2):=fun h9=>by
    obtain⟨o,h1,h2,h3,h4,h5⟩:=o7 h9;exact⟨o,h1,h2,h3,h4,h5.move (SF.of pb (by rw[eU];exact(Below.refl _ _).alloc (Nat.le_refl _) _))⟩
   have i1:Hid (wr.heap.size<=O):=by rw[eO];exact i6.size
   clear o7 i6 eU eO b9 r0 g0 g1 z0 z1 y0 y1 q5 q6
   cases c9:okN T l p A with
   | false=>
     have r0:=l5.o U a6.o;obtain⟨g0,g1,z0,z1⟩:=res2 r0;obtain⟨y0,y1,q5,q6⟩:=res2 d6
     have HF:Hid (MRd w0 pb po co kp kc T L all w R (.returned (.agg #[.slice q n c,.int .i64 p])) (put2 U w.heap.size (.slice q n c) (.int .i64 p))):=by
      have d5:R=(x,l):=by rw[B.o.eq];exact bhM_no c9 g
      rw[d5];exact mrd_put N.o.1 ⟨N.o.2.1,Nat.le_refl _⟩ r0 a5.o B.o.len B.o.cut w4.o (l9.o.trans a6.o)
     unfold put2 at HF
     clear c9 r0 d6
     go_upto_region 5 with fail
     rw[<-m4.o];go_wp2_with fail;obtain⟨a0,a1⟩:=set2 g0 g1 (.slice q n c) (.int .i64 p);refine bodyPost_ret (v:=.agg #[.slice q n c,.int .i64 p]) (by simp[results,Tryz.results53,go_sem,a0,a1]) rfl ?_;exact HF.o
   | true=>
     obtain⟨o,ho,o4,o8,j2,n8⟩:=j7.o c9;obtain⟨q4,o5,o6,x6,y8⟩:=r4.o l o ho;have u2:=w4.o.c2;have v3:=w4.o.fz 2;have y4:=w4.o.kl;have v9:=q9.o;have y7:IntKind.i64.wrap ((P:Int)+1)=(P:Int)+1:=wrapM (by omega) (by omega);have c8:=w4.o.adv N.o.1 x6
     obtain⟨g',rfl⟩:∃ g',g=g'+1:=⟨g-1,by have:=B.o.fuel;have:=ne_len x6;omega⟩
     have f5:Hid (R=if postB o.2.1=true then bhR rd T g' A (cmpT o.2.2 [x]) o.1 l.tk else bhR rd T g' A (cmpT o.2.2 [x,(rd (rightP o) l.tk).1]) o.1 (rd (rightP o) l.tk).2):=by show _=_;rw[B.o.eq];exact bhM_yes ho c9 g'
     obtain⟨U2,a9⟩:∃ U2,U2=U.setCell ⟨pb,2,none⟩ (.int .i64 ((P:Int)+1)):=⟨_,rfl⟩
     have r6:Hid (U2=U.setCell ⟨pb,2,none⟩ (.int .i64 ((P:Int)+1))):=a9;rw[<-a9] at c8
     have x2:MF pb U U2:=by rw[a9];exact .set _ _ _ _
     have e8:Hid (MS w0 pb po co kp kc T L all l.tk (P+1) (-1) U2/\MF pb U U2):=⟨c8,x2⟩
     have n4:X≠pb:=by have:=e2.o;have:=N.o;have:=x4.o;omega
     have n2:O≠pb:=by have:=i1.o;have:=e2.o;have h9:=(Array.getElem?_eq_some_iff.1 B.o.box).1;have:=N.o;have:=x4.o;omega
     have b6:=x2.tag d6 (by decide) n4;have b3:=x2.tag m9 (by decide) n2
     have HO:Hid (opB T l=some o/\G=o.2.2.length/\D=o.1/\t1=o.2.1/\BK U pb q1 o.2.2/\0<=o.1/\o.1<=1200):=⟨ho,o4,o8,j2,n8,o5,o6⟩
     have a7:Hid (decide (t1<=2) = !postB o.2.1):=by show _=_;rw[j2];exact q4
     have g9:Hid (l.ts≠[]):=x6;clear a9 c8 x2 ho o4 o8 j2 n8 q4 o5 o6 x6 c9 j7
     go_upto_region 6 with fail
     rw[<-m4.o]
     go_upto_region 7 with fail
     rw[<-r6.o,<-r5.o];obtain⟨t9,v1,v2,_,_,_⟩:=res3 b3;obtain⟨j5,v5,_,_⟩:=res2 b6
     obtain⟨U4,x5⟩:∃ U4,U4=(U2.alloc (.cells #[.int .i64 3,.int .i64 1,.slice q1 G d] 102)).alloc (.cells #[.slice q n c] 25):=⟨_,rfl⟩
     have r8:Hid (U4=(U2.alloc (.cells #[.int .i64 3,.int .i64 1,.slice q1 G d] 102)).alloc (.cells #[.slice q n c] 25)):=x5
     obtain⟨C,eC⟩:∃ C,C=U2.heap.size:=⟨_,rfl⟩
     have w2:Hid (C=U2.heap.size):=eC
     have b8:Below U2.heap.size U2 U4:=by rw[x5];exact Below.on (bel_alloc _ _) (bel_alloc _ _)
     have k3:U4.heap[C]?=some (.cells #[.int .i64 3,.int .i64 1,.slice q1 G d] 102):=by rw[x5,Below.heap_alloc _ _ _ (by rw[eC];simp),eC];exact heap_alloc_new _ _
     have f1:U4.heap[C+1]?=some (.cells #[.slice q n c] 25):=by
      have h9:=heap_alloc_new (U2.alloc (.cells #[.int .i64 3,.int .i64 1,.slice q1 G d] 102)) (.cells #[.slice q n c] 25);rw[World.size_alloc,<-eC,<-x5] at h9;exact h9
     have k5:=(b8.block _ (Array.getElem?_eq_some_iff.1 b3).1).trans b3;have h6:=(b8.block _ (Array.getElem?_eq_some_iff.1 b6).1).trans b6
     have v7:O<C:=by rw[eC];exact(Array.getElem?_eq_some_iff.1 b3).1
     have v8:X<C:=by rw[eC];exact(Array.getElem?_eq_some_iff.1 b6).1
     have o9:pb<C:=by rw[eC];exact Nat.lt_of_lt_of_le N.o.1 e8.o.1.mf.size
     have x8:Hid (Below C U2 U4):=by rw[eC];exact b8
     have x3:=l3infix_any t1 U4;have f2:Hid (CT U4 pb q n c t):=(a5.o.move e8.o.2.sf).move (SF.of pb b8);have j9:Hid (CT U2 pb q n c t):=a5.o.move e8.o.2.sf
     have x9:Hid (∀ W,SF pb U2 W->BK W pb q1 o.2.2):=fun W hW=>(HO.o.2.2.2.2.1.move e8.o.2.sf).move hW
     have g7:Hid (MF pb Z U2):=a6.o.trans e8.o.2
     obtain⟨U3,w6⟩:∃ U3,U3=U2.alloc (.cells #[.int .i64 3,.int .i64 1,.slice q1 G d] 102):=⟨_,rfl⟩
     have r7:Hid (U3=U2.alloc (.cells #[.int .i64 3,.int .i64 1,.slice q1 G d] 102)):=w6
     have f9:U3.heap.size=C+1:=by rw[w6,eC];simp
     have n5:Below U2.heap.size U2 U3:=by rw[w6];exact bel_alloc _ _
     have v4:U3.cell? ⟨X,0,none⟩=some (.slice q n c):=(n5.cell (World.block_lt_of_cell? _ _ j5)).trans j5
     have m3:Hid (U4=U3.alloc (.cells #[.slice q n c] 25)):=by rw[x5,w6];rfl
     have s6:Hid (U3.heap.size=C+1):=f9;have l4:Hid (U4.heap[O]?=some (.cells #[.slice q1 G d,.int .i64 D,.int .i64 t1] 60)):=k5;have m5:Hid (U4.heap[X]?=some (prtO (.slice q n c) (.int .i64 p))):=h6;clear x5 eC b8 d6 m9 a5 a6 b6 b3 u2 v3 w6 f9 n5 r8 k5 h6
     go_upto_region 8 with fail
     rw[<-r7.o,<-w2.o];clear j5 v5 t9 v1 v2
     go_upto_region 9 with fail
     rw[<-m3.o,s6.o];have k5:=l4.o;have h6:=m5.o;obtain⟨j3,a4,j4,_,_,_⟩:=res3 k5;clear v4
     cases x7:postB o.2.1 with
     | true=>
       have c5:decide (t1<=2)=false:=by rw[a7.o,x7];rfl
       rw[c5] at x3
       have a8:Hid (R=bhR rd T g' A (cmpT o.2.2 [x]) D l.tk):=by show _=_;rw[HO.o.2.2.1,f5.o,if_pos x7]
       clear c5 x7 a7;go_wp2_with fail;refine x3.mono ?_;rintro e Y ⟨rfl,rfl⟩
       have g5:Hid (Calls Tryz.prog 97 #[.agg #[.int .i64 3,.int .i64 1,.slice q1 G d],.slice (some ⟨C+1,0,none⟩) 1 1] Y.drew fun e w'=>∃ r m J,e = .returned (.slice r m J)/\CT w' pb r m J (((3,1,o.2.2) :: [t].flatten).take 2001)/\m<=2001/\Below Y.drew.heap.size Y.drew w'):=by
        refine l4join_any (by show pb<Y.heap.size;have:=(Array.getElem?_eq_some_iff.1 k3).1;omega) 3 1 q1 G d o.2.2 HO.o.2.1 (x9.o Y.drew (SF.of pb (by rw[<-w2.o];exact x8.o.drew))) _ 1 1 [t] rfl (by decide) (fun u hu=>by rw[List.mem_singleton.1 hu];exact B.o.len) ?_;refine⟨_,rfl,fun i u hu=>?_⟩
        have hi:i=0:=by have:=(List.getElem?_eq_some_iff.1 hu).1;simp at this;omega
        subst hi
        simp at hu
        subst hu;have h8:=f2.o.move (SF.of pb (Below.refl Y.heap.size Y).drew);rw[<-h8.1];exact⟨q,c,by show Y.cell? _=_;unfold World.cell?;rw[f1];rfl,h8⟩
       have e9:Hid (MS w0 pb po co kp kc T L all l.tk (P+1) (-1) Y/\MF pb Z Y):=⟨e8.o.1.below (by rw[<-w2.o];exact x8.o),g7.o.below (by rw[<-w2.o];exact x8.o)⟩
       obtain⟨k1,m6⟩:∃ k1,k1=P+1:=⟨_,rfl⟩
       rw[<-m6] at e9
       have e7:Hid (∀ F r m J,Below Y.heap.size Y F->CT F pb r m J (((3,1,o.2.2) :: [t].flatten).take 2001)->m<=2001->(∃ q n c t x p g l P b',RIv w0 pb po co kp kc T L all rd f Z X A R (put2 F X (.slice r m J) (.int .i64 D)) q n c t x p g l P b')/\mOf pb all.length (put2 F X (.slice r m J) (.int .i64 D))<mOf pb all.length wr):=fun F r m J M h8 hm=>by
        have t8:=tk_len l;have t6:=ne_len g9.o
        have hI:=RIv.next (s1:=l.tk) (x:=cmpT o.2.2 [x]) (p1:=D) (g':=g') (rd:=rd) (f:=f) (pri:=A) (R:=R) ((M.block _ (Array.getElem?_eq_some_iff.1 h6).1).trans h6) N.o.1 ⟨by have:=e2.o;have:=x4.o;have:=N.o;omega,e2.o⟩ h8 hm (fun h0=>join_cut (n:=1) (tss:=[t]) (xs:=[x]) rfl ⟨B.o.cut h0,trivial⟩) a8.o (by have:=B.o.fuel;omega) (by have:=B.o.tsl;omega) (e9.o.1.below M) (e9.o.2.below M)
        exact⟨⟨_,_,_,_,_,_,_,_,_,_,hI⟩,B.o.ms.nearer g6.o hI.ms (by omega)⟩
       have hD:∀ W,Below Y.heap.size Y W->W.cell? ⟨C,0,none⟩=some (.int .i64 3)/\W.cell? ⟨C,1,none⟩=some (.int .i64 1)/\W.cell? ⟨C,2,none⟩=some (.slice q1 G d)/\W.cell? ⟨O,1,none⟩=some (.int .i64 D)/\W.heap[X]?=some (prtO (.slice q n c) (.int .i64 p)):=fun W hW=>by
        obtain⟨a0,a1,a2,_,_,_⟩:=res3 ((hW.block _ (Array.getElem?_eq_some_iff.1 k3).1).trans k3);exact⟨a0,a1,a2,(hW.cell (World.block_lt_of_cell? _ _ a4)).trans a4,(hW.block _ (Array.getElem?_eq_some_iff.1 h6).1).trans h6⟩
       have HD:Hid (∀ W,Below Y.heap.size Y W->W.cell? ⟨C,0,none⟩=some (.int .i64 3)/\W.cell? ⟨C,1,none⟩=some (.int .i64 1)/\W.cell? ⟨C,2,none⟩=some (.slice q1 G d)/\W.cell? ⟨O,1,none⟩=some (.int .i64 D)/\W.heap[X]?=some (prtO (.slice q n c) (.int .i64 p))):=hD
       have h7:Hid (C≠X/\O≠X):=⟨by omega,by have h9:=(Array.getElem?_eq_some_iff.1 B.o.box).1;have:=i1.o;omega⟩
       clear x3 hD j3 a4 j4 k3 f1 h6 k5 m6;go_wp2_with fail;refine wp_region_held_drew (S:=fun W=>W.cell? ⟨C,0,none⟩=some (.int .i64 3)/\W.cell? ⟨C,1,none⟩=some (.int .i64 1)/\W.cell? ⟨C,2,none⟩=some (.slice q1 G d)/\W.cell? ⟨O,1,none⟩=some (.int .i64 D)) (by kernel_rfl) ?_ (fun i3=>?_)
       ·exact⟨(HD.o Y.drew (Below.refl _ _).drew).1,(HD.o Y.drew (Below.refl _ _).drew).2.1,(HD.o Y.drew (Below.refl _ _).drew).2.2.1,(HD.o Y.drew (Below.refl _ _).drew).2.2.2.1⟩
       refine hTr 0 (.agg #[.int .i64 3,.int .i64 1,.slice q1 G d]) 54 (fun o ho W k6=>?y0) ?_
       case y0=>cases ho;obtain⟨s0,s1,s2,s3⟩:=k6;simp[execOp,go_sem,Act.eval,s0,s1,s2]
       simp only[Act.put,zzA,zzB,zzC];refine hTq 1 (.slice (some ⟨C+1,0,none⟩) 1 1) 55 ?_
       simp only[Act.put,zzA,zzB,zzC];refine hTq 3 (.pointer (some ⟨O,1,none⟩)) 57 ?_
       simp only[Act.put,zzA,zzB,zzC];refine hTr 4 (.int .i64 D) 58 (fun o ho W k6=>?y3) ?_
       case y3=>cases ho;obtain⟨s0,s1,s2,s3⟩:=k6;simp[execOp,go_sem,Act.eval,s3]
       simp only[Act.put,zzA,zzB,zzC];refine hCallE (i:=2) (f:=97) (args:=#[.agg #[.int .i64 3,.int .i64 1,.slice q1 G d],.slice (some ⟨C+1,0,none⟩) 1 1]) (some 56) (by kernel_rfl) (by kernel_rfl) (by kernel_rfl) (fun o ho=>?c4) g5.o ?k4 (fun ch w' hh=>by obtain⟨_,_,_,h,_⟩:=hh;cases h) (fun w' hh=>by obtain⟨_,_,_,h,_⟩:=hh;cases h)
       case c4=>cases ho;simp[execOp,go_sem,Act.eval]
       case k4=>
        rintro z F ⟨r,m,J,hu,e6,j1,e5⟩;obtain rfl:=Ending.returned.inj hu;have M:Below Y.heap.size Y F:=((Below.refl Y.heap.size Y).drew).trans e5;obtain⟨d0,d1,d2,d3,d4⟩:=HD.o F M
        have b4:F.cell? ⟨C,0,none⟩=some (.int .i64 3)/\F.cell? ⟨C,1,none⟩=some (.int .i64 1)/\F.cell? ⟨C,2,none⟩=some (.slice q1 G d)/\F.cell? ⟨O,1,none⟩=some (.int .i64 D):=⟨d0,d1,d2,d3⟩
        clear hu e5;refine⟨b4,?_⟩;simp only[Act.put,zzA,zzB,zzC];refine hTq 5 (.agg #[.slice r m J,.int .i64 D]) 59 ?_
        simp only[Act.put,zzA,zzB,zzC];obtain⟨w9,b2⟩:=e7.o F r m J M e6 j1;obtain⟨g0,g1,z0,z1⟩:=res2 d4
        have b5:(put2 F X (.slice r m J) (.int .i64 D)).cell? ⟨C,0,none⟩=some (.int .i64 3)/\(put2 F X (.slice r m J) (.int .i64 D)).cell? ⟨C,1,none⟩=some (.int .i64 1)/\(put2 F X (.slice r m J) (.int .i64 D)).cell? ⟨C,2,none⟩=some (.slice q1 G d)/\(put2 F X (.slice r m J) (.int .i64 D)).cell? ⟨O,1,none⟩=some (.int .i64 D):=by
         have hk:∀ (a:Nat) (o:Nat) (v:Value),a≠X->F.cell? ⟨a,o,none⟩=some v->(put2 F X (.slice r m J) (.int .i64 D)).cell? ⟨a,o,none⟩=some v:=fun a o v ha hc=>(World.cell?_of_block (a:=⟨a,o,none⟩) (put2_heap _ _ _ _ ha)).trans hc
         exact⟨hk _ _ _ h7.o.1 d0,hk _ _ _ h7.o.1 d1,hk _ _ _ h7.o.1 d2,hk _ _ _ h7.o.2 d3⟩
        refine hStore (i:=6) (w':=put2 F X (.slice r m J) (.int .i64 D)) (by kernel_rfl) (by kernel_rfl) (by kernel_rfl) (fun o ho=>?ys) b5 ?_
        case ys=>cases ho;simp[execOp,go_sem,Act.eval,g0,g1,z0,z1,put2]
        refine wpAnyH_done (by kernel_rfl) ?_ _;have w3:Hid (∃ q n c t x p g l P b',RIv w0 pb po co kp kc T L all rd f Z X A R (put2 F X (.slice r m J) (.int .i64 D)) q n c t x p g l P b'):=w9
        obtain⟨WN,w7⟩:∃ WN,WN=put2 F X (.slice r m J) (.int .i64 D):=⟨_,rfl⟩
        rw[<-w7] at w3 b2 ⊢;clear w7 w9 b5 b4 d0 d1 d2 d3 d4 g0 g1 z0 z1 e6 M;go_wp2_with fail;go_roundw
        case rel=>exact w3
        case measure=>exact b2
     | false=>
       have c5:decide (t1<=2)=true:=by rw[a7.o,x7];rfl
       rw[c5] at x3
       have a8:Hid (R=bhR rd T g' A (cmpT o.2.2 [x,(rd (rightP o) l.tk).1]) D (rd (rightP o) l.tk).2):=by show _=_;rw[HO.o.2.2.1,f5.o,if_neg (by rw[x7];decide)]
       clear c5 x7 a7;go_wp2_with fail;refine x3.mono ?_;rintro e Y ⟨rfl,rfl⟩;obtain⟨s7,s8,s9,t2,t3,t4⟩:=res3 k3
       obtain⟨V,k2⟩:∃ V,V=Y.setCell ⟨C,1,none⟩ (.int .i64 2):=⟨_,rfl⟩
       have r9:Hid (V=Y.setCell ⟨C,1,none⟩ (.int .i64 2)):=k2
       have n6:Below C U2 V:=by rw[k2];exact below_set x8.o (Nat.le_refl _) _ _
       have m7:V.heap[C]?=some (.cells #[.int .i64 3,.int .i64 2,.slice q1 G d] 102):=by rw[k2];exact set1_box k3
       have p3:V.heap[C+1]?=some (.cells #[.slice q n c] 25):=by rw[k2];exact(Below.heap_setCell _ _ _ _ (by show C+1≠C;omega)).trans f1
       have i4:V.heap[O]?=some (.cells #[.slice q1 G d,.int .i64 D,.int .i64 t1] 60):=by rw[k2];exact(Below.heap_setCell _ _ _ _ (by show O≠C;omega)).trans k5
       have n3:V.heap[X]?=some (prtO (.slice q n c) (.int .i64 p)):=by rw[k2];exact(Below.heap_setCell _ _ _ _ (by show X≠C;omega)).trans h6
       have e4:Below U2.heap.size U2 V:=by rw[<-w2.o];exact n6
       obtain⟨j3,a4,j4,_,_,_⟩:=res3 i4;have p8:=e8.o.1.below e4
       obtain⟨rp,i2⟩:∃ rp,rp=rightP o:=⟨_,rfl⟩
       have l8:Calls Tryz.prog 96 #[.agg #[.slice q1 G d,.int .i64 D,.int .i64 t1]] V fun e w'=>e = .returned (.int .i64 rp)/\Below V.heap.size V w':=by
        rw[i2,HO.o.2.2.1,HO.o.2.2.2.1];exact right_any o q1 G d V ⟨HO.o.2.2.2.2.2.1,HO.o.2.2.2.2.2.2⟩
       rw[<-i2] at a8
       have o2:l.tk.ts.length<f:=by have h1:=tk_len l;have h2:=ne_len g9.o;have:=B.o.tsl;omega
       have f4:Hid (TRw V pb C (some ⟨C+1,0,none⟩) 1 1 [(q,n,c)] [t]):=by
        refine⟨rfl,fun e=>by simp at e,rfl,one_row p3 (by omega),fun i r t' hr ht=>?_⟩
        have hi:i=0:=by have:=(List.getElem?_eq_some_iff.1 hr).1;simp at this;omega
        subst hi
        simp at hr ht
        subst hr;subst ht
        have hU:CT V pb q n c t:=by
         have h9:=B.o.ct;exact j9.o.move (SF.of pb e4)
        exact hU
       have l2:Hid (MF pb Z V):=g7.o.below e4
       have e9:Hid (MS w0 pb po co kp kc T L all l.tk (P+1) (-1) V/\l.tk.ts.length<f):=⟨p8,o2⟩
       have w1:Hid (V.heap[C]?=some (.cells #[.int .i64 3,.int .i64 2,.slice q1 G d] 102)/\V.heap[O]?=some (.cells #[.slice q1 G d,.int .i64 D,.int .i64 t1] 60)/\V.heap[X]?=some (prtO (.slice q n c) (.int .i64 p))):=⟨m7,i4,n3⟩
       have j6:Hid (∀ W,SF pb V W->BK W pb q1 o.2.2):=fun W hW=>x9.o W ((SF.of pb e4).trans hW)
       clear x3 k2 n6 m7 p3 i4 n3 e4 p8 i2 o2 k3 f1 k5 h6 x8 x9 g7 f2
       go_upto_region 11 with fail
       rw[<-r9.o];clear s7 s8 s9 t2 t3 t4;go_wp2_with fail;refine l8.mono ?_;rintro e U6 ⟨rfl,i7⟩;have j8:=l6.o rp l.tk (P+1) (-1) U6 (e9.o.1.below i7) e9.o.2;have l3:Hid (MF pb V U6):=MF.of pb i7;clear l8 i7 j3 a4 j4;go_wp2_with fail;refine j8.mono ?_;rintro e U7 ⟨q7,n7,c7,t7,p7,rfl,f6,g3,c1,⟨k7,b7,p9⟩,o3⟩;have x1:MF pb V U7:=l3.o.trans o3;have k9:Hid (TRw U7 pb C (some ⟨C+1,0,none⟩) 1 1 [(q,n,c)] [t]):=f4.o.mf o9 x1
       have e1:Hid (CT U7 pb q7 n7 c7 t7/\t7.length<=2001/\((rd rp l.tk).2.ft=none->Cut t7 (itC (rd rp l.tk).1))/\MS w0 pb po co kp kc T L all (rd rp l.tk).2 k7 b7 U7/\MF pb V U7):=⟨f6,g3,c1,p9,x1⟩
       have m8:C<=U7.heap.size:=by have h9:=(Array.getElem?_eq_some_iff.1 w1.o.1).1;have:=x1.size;omega
       have f3:Hid (∀ g8 K I,I.ownsRow C 25 1 (.slice (some ⟨g8,0,none⟩) 2 K) 2 ([(q,n,c),(q7,n7,c7)].map slV)->(U7.alloc (.cells #[.slice q7 n7 c7] 25)).grownBy I (Value.ownBlock (.slice (some ⟨C+1,0,none⟩) 1 1))->TRw I pb C (some ⟨g8,0,none⟩) 2 K [(q,n,c),(q7,n7,c7)] [t,t7]/\MS w0 pb po co kp kc T L all (rd rp l.tk).2 k7 b7 I/\MF pb Z I/\SF pb V I/\(I.heap[C]?=some (.cells #[.int .i64 3,.int .i64 2,.slice q1 G d] 102)/\I.heap[O]?=some (.cells #[.slice q1 G d,.int .i64 D,.int .i64 t1] 60)/\I.heap[X]?=some (prtO (.slice q n c) (.int .i64 p)))):=fun g8 K I p5 c6=>by
        have d9:=k9.o.lt
        have hA:Z.heap.size<=C:=by have:=e2.o;omega
        have n9:∀ j,j<U7.heap.size->j≠C+1->I.heap[j]?=U7.heap[j]?:=fun j hj x6=>(c6.block j (by simp;omega) (fun e=>x6 (by have h9:=e;simp[Value.ownBlock] at h9;omega))).trans (Below.heap_alloc _ _ _ hj)
        have k8:∀ j a ty,V.heap[j]?=some (.cells a ty)->ty≠23->j≠pb->j≠C+1->I.heap[j]?=some (.cells a ty):=fun j a ty hj ht hp hn=>(n9 j (Nat.lt_of_lt_of_le (Array.getElem?_eq_some_iff.1 hj).1 e1.o.2.2.2.2.size) hn).trans (e1.o.2.2.2.2.tag hj ht hp)
        refine⟨k9.o.app e1.o.1 p5 c6,e1.o.2.2.2.1.grow N.o.1 c6 (fun g hg=>⟨by have:=(d9 g hg).1;have:=N.o;have:=x4.o;omega,(d9 g hg).2.2⟩),(l2.o.trans e1.o.2.2.2.2).grow c6 (fun g hg=>by have:=(d9 g hg).1;omega),e1.o.2.2.2.2.sf.trans (sf_grown (fun g hg=>(d9 g hg).2.2.1) c6),k8 _ _ _ w1.o.1 (by decide) (by omega) (by omega),k8 _ _ _ w1.o.2.1 (by decide) n2 (by omega),k8 _ _ _ w1.o.2.2 (by decide) n4 (by omega)⟩
       clear f6 g3 c1 p9 o3 x1 j8 l3;go_wp2_with (at_builtin;refine app_sl U7 rfl _ _ rfl C (some ⟨C+1,0,none⟩) 1 1 [(q,n,c)] q7 n7 c7 rfl k9.o.2.2.2.1 rfl (by decide) m8 ?_;intro g8 K I a3 f7;have Q:Hid (TRw I pb C (some ⟨g8,0,none⟩) 2 K [(q,n,c),(q7,n7,c7)] [t,t7]/\MS w0 pb po co kp kc T L all (rd rp l.tk).2 k7 b7 I/\MF pb Z I/\SF pb V I/\(I.heap[C]?=some (.cells #[.int .i64 3,.int .i64 2,.slice q1 G d] 102)/\I.heap[O]?=some (.cells #[.slice q1 G d,.int .i64 D,.int .i64 t1] 60)/\I.heap[X]?=some (prtO (.slice q n c) (.int .i64 p)))):=f3.o g8 K I a3 f7;clear a3 f7)
       have g5:Hid (Calls Tryz.prog 97 #[.agg #[.int .i64 3,.int .i64 2,.slice q1 G d],.slice (some ⟨g8,0,none⟩) 2 K] I.drew fun e w'=>∃ r m J,e = .returned (.slice r m J)/\CT w' pb r m J (((3,2,o.2.2) :: [t,t7].flatten).take 2001)/\m<=2001/\Below I.drew.heap.size I.drew w'):=by
        refine l4join_any (by show pb<I.heap.size;have:=(Array.getElem?_eq_some_iff.1 Q.o.2.2.2.2.1).1;omega) 3 2 q1 G d o.2.2 HO.o.2.1 (j6.o I.drew (Q.o.2.2.2.1.trans (SF.of pb (Below.refl _ _).drew))) _ 2 K [t,t7] rfl (by decide) (fun u hu=>?_) ((Q.o.1.mf o9 (MF.of pb (Below.refl _ _).drew)).arow (by decide))
        simp at hu
        rcases hu with rfl | rfl
        ·exact B.o.len
        ·exact e1.o.2.1
       have e7:Hid (∀ F r m J,Below I.heap.size I F->CT F pb r m J (((3,2,o.2.2) :: [t,t7].flatten).take 2001)->m<=2001->(∃ q n c t x p g l P b',RIv w0 pb po co kp kc T L all rd f Z X A R (put2 F X (.slice r m J) (.int .i64 D)) q n c t x p g l P b')/\mOf pb all.length (put2 F X (.slice r m J) (.int .i64 D))<mOf pb all.length wr):=fun F r m J M h8 hm=>by
        have t8:=tk_len l;have t6:=ne_len g9.o;have y5:=sub_len (l1.o rp l.tk).sub
        have hI:=RIv.next (s1:=(rd rp l.tk).2) (x:=cmpT o.2.2 [x,(rd rp l.tk).1]) (p1:=D) (g':=g') (rd:=rd) (f:=f) (pri:=A) (R:=R) ((M.block _ (Array.getElem?_eq_some_iff.1 Q.o.2.2.2.2.2.2).1).trans Q.o.2.2.2.2.2.2) N.o.1 ⟨by have:=e2.o;have:=x4.o;have:=N.o;omega,e2.o⟩ h8 hm (fun h0=>join_cut (n:=2) (tss:=[t,t7]) (xs:=[x,(rd rp l.tk).1]) rfl ⟨B.o.cut g6.o,e1.o.2.2.1 h0,trivial⟩) a8.o (by have:=B.o.fuel;omega) (by have:=B.o.tsl;omega) (Q.o.2.1.below M) (Q.o.2.2.1.below M)
        exact⟨⟨_,_,_,_,_,_,_,_,_,_,hI⟩,B.o.ms.nearer g6.o hI.ms (by omega)⟩
       have HD:Hid (∀ W,Below I.heap.size I W->W.cell? ⟨C,0,none⟩=some (.int .i64 3)/\W.cell? ⟨C,1,none⟩=some (.int .i64 2)/\W.cell? ⟨C,2,none⟩=some (.slice q1 G d)/\W.cell? ⟨O,1,none⟩=some (.int .i64 D)/\W.heap[X]?=some (prtO (.slice q n c) (.int .i64 p))):=fun W hW=>by
        obtain⟨a0,a1,a2,_,_,_⟩:=res3 ((hW.block _ (Array.getElem?_eq_some_iff.1 Q.o.2.2.2.2.1).1).trans Q.o.2.2.2.2.1);obtain⟨_,o1,_,_,_,_⟩:=res3 ((hW.block _ (Array.getElem?_eq_some_iff.1 Q.o.2.2.2.2.2.1).1).trans Q.o.2.2.2.2.2.1);exact⟨a0,a1,a2,o1,(hW.block _ (Array.getElem?_eq_some_iff.1 Q.o.2.2.2.2.2.2).1).trans Q.o.2.2.2.2.2.2⟩
       have h7:Hid (C≠X/\O≠X):=⟨by omega,by have h9:=(Array.getElem?_eq_some_iff.1 B.o.box).1;have:=i1.o;omega⟩
       clear f3 k9 w1 l2 e9 f4;refine wp_region_held_drew (S:=fun W=>W.cell? ⟨C,0,none⟩=some (.int .i64 3)/\W.cell? ⟨C,1,none⟩=some (.int .i64 2)/\W.cell? ⟨C,2,none⟩=some (.slice q1 G d)/\W.cell? ⟨O,1,none⟩=some (.int .i64 D)) (by kernel_rfl) ?_ (fun i3=>?_)
       ·exact⟨(HD.o I.drew (Below.refl _ _).drew).1,(HD.o I.drew (Below.refl _ _).drew).2.1,(HD.o I.drew (Below.refl _ _).drew).2.2.1,(HD.o I.drew (Below.refl _ _).drew).2.2.2.1⟩
       refine hTr 0 (.agg #[.int .i64 3,.int .i64 2,.slice q1 G d]) 54 (fun o ho W k6=>?y0) ?_
       case y0=>cases ho;obtain⟨s0,s1,s2,s3⟩:=k6;simp[execOp,go_sem,Act.eval,s0,s1,s2]
       simp only[Act.put,zzA,zzB,zzC];refine hTq 1 (.slice (some ⟨g8,0,none⟩) 2 K) 55 ?_
       simp only[Act.put,zzA,zzB,zzC];refine hTq 3 (.pointer (some ⟨O,1,none⟩)) 57 ?_
       simp only[Act.put,zzA,zzB,zzC];refine hTr 4 (.int .i64 D) 58 (fun o ho W k6=>?y3) ?_
       case y3=>cases ho;obtain⟨s0,s1,s2,s3⟩:=k6;simp[execOp,go_sem,Act.eval,s3]
       simp only[Act.put,zzA,zzB,zzC];refine hCallE (i:=2) (f:=97) (args:=#[.agg #[.int .i64 3,.int .i64 2,.slice q1 G d],.slice (some ⟨g8,0,none⟩) 2 K]) (some 56) (by kernel_rfl) (by kernel_rfl) (by kernel_rfl) (fun o ho=>?c4) g5.o ?k4 (fun ch w' hh=>by obtain⟨_,_,_,h,_⟩:=hh;cases h) (fun w' hh=>by obtain⟨_,_,_,h,_⟩:=hh;cases h)
       case c4=>cases ho;simp[execOp,go_sem,Act.eval]
       case k4=>
        rintro z F ⟨r,m,J,hu,e6,j1,e5⟩;obtain rfl:=Ending.returned.inj hu;have M:Below I.heap.size I F:=((Below.refl I.heap.size I).drew).trans e5;obtain⟨d0,d1,d2,d3,d4⟩:=HD.o F M
        have b4:F.cell? ⟨C,0,none⟩=some (.int .i64 3)/\F.cell? ⟨C,1,none⟩=some (.int .i64 2)/\F.cell? ⟨C,2,none⟩=some (.slice q1 G d)/\F.cell? ⟨O,1,none⟩=some (.int .i64 D):=⟨d0,d1,d2,d3⟩
        clear hu e5;refine⟨b4,?_⟩;simp only[Act.put,zzA,zzB,zzC];refine hTq 5 (.agg #[.slice r m J,.int .i64 D]) 59 ?_
        simp only[Act.put,zzA,zzB,zzC];obtain⟨w9,b2⟩:=e7.o F r m J M e6 j1;obtain⟨g0,g1,z0,z1⟩:=res2 d4
        have b5:(put2 F X (.slice r m J) (.int .i64 D)).cell? ⟨C,0,none⟩=some (.int .i64 3)/\(put2 F X (.slice r m J) (.int .i64 D)).cell? ⟨C,1,none⟩=some (.int .i64 2)/\(put2 F X (.slice r m J) (.int .i64 D)).cell? ⟨C,2,none⟩=some (.slice q1 G d)/\(put2 F X (.slice r m J) (.int .i64 D)).cell? ⟨O,1,none⟩=some (.int .i64 D):=by
         have hk:∀ (a:Nat) (o:Nat) (v:Value),a≠X->F.cell? ⟨a,o,none⟩=some v->(put2 F X (.slice r m J) (.int .i64 D)).cell? ⟨a,o,none⟩=some v:=fun a o v ha hc=>(World.cell?_of_block (a:=⟨a,o,none⟩) (put2_heap _ _ _ _ ha)).trans hc
         exact⟨hk _ _ _ h7.o.1 d0,hk _ _ _ h7.o.1 d1,hk _ _ _ h7.o.1 d2,hk _ _ _ h7.o.2 d3⟩
        refine hStore (i:=6) (w':=put2 F X (.slice r m J) (.int .i64 D)) (by kernel_rfl) (by kernel_rfl) (by kernel_rfl) (fun o ho=>?ys) b5 ?_
        case ys=>cases ho;simp[execOp,go_sem,Act.eval,g0,g1,z0,z1,put2]
        refine wpAnyH_done (by kernel_rfl) ?_ _;have w3:Hid (∃ q n c t x p g l P b',RIv w0 pb po co kp kc T L all rd f Z X A R (put2 F X (.slice r m J) (.int .i64 D)) q n c t x p g l P b'):=w9
        obtain⟨WN,w7⟩:∃ WN,WN=put2 F X (.slice r m J) (.int .i64 D):=⟨_,rfl⟩
        rw[<-w7] at w3 b2 ⊢;clear w7 w9 b5 b4 d0 d1 d2 d3 d4 g0 g1 z0 z1 e6 M;go_wp2_with fail;go_roundw
        case rel=>exact w3
        case measure=>exact b2
  ·have d5:R=(x,l):=by rw[hI.eq];exact bhM_no (okN_nil T q3 p A) g
   have HF:Hid (MRd w0 pb po co kp kc T L all w R (.returned (.agg #[.slice q n c,.int .i64 p])) (put2 wr w.heap.size (.slice q n c) (.int .i64 p))):=by
    rw[d5];exact mrd_put N.o.1 ⟨N.o.2.1,Nat.le_refl _⟩ r0 hI.ct hI.len hI.cut hI.ms (l9.o.trans hI.mf)
   obtain⟨bi,rfl⟩:∃ bi:Nat,b'=bi:=⟨b'.toNat,by omega⟩
   unfold put2 at HF
   clear d5 hI d8 i5 q3 r0 HI B hrel;go_wp2_with fail;obtain⟨a0,a1⟩:=set2 g0 g1 (.slice q n c) (.int .i64 p);refine bodyPost_ret (v:=.agg #[.slice q n c,.int .i64 p]) (by simp[results,Tryz.results53,go_sem,a0,a1]) rfl ?_;exact HF.o
end
end Go.Proofs.YtlkhmmoimplokaaGreatDoor
