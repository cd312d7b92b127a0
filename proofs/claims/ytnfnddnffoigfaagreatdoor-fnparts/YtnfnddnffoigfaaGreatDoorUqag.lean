/- Texts of Scan10, Scan11, LxP, AsF, AsG, RecF. Own work of the verifier. -/
import Derived.Test.YtnfnddnffoigfaaGreatDoorUqad
import Derived.Test.YtnfnddnffoigfaaGreatDoorUqaf
namespace Go.Proofs.YtnfnddnffoigfaaGreatDoor
set_option maxHeartbeats 4000000
set_option linter.unusedVariables false
set_option linter.unusedSimpArgs false
set_option maxRecDepth 100000
section
open Go Go.RowKit
theorem Hid.mk {p:Prop}(h:p):Hid p:=h
theorem grown_on {w a:World}{S:Nat}(h:Below w.heap.size w (w.alloc tokO))(k:(w.alloc tokO).grownBy a (some S)):w.grownBy a (some S):=(grown_of_below h _).trans k
theorem size_lt {w a:World}{S q:Nat}(M:Moved (w.alloc tokO) a S q):w.heap.size<a.heap.size:=by have:=M.grown.size;simp only[World.size_alloc] at this;omega
theorem blk_kept {w a:World}{S q:Nat}(b:S<w.heap.size)(M:Moved (w.alloc tokO) a S q):a.heap[w.heap.size]?=some tokO:=
 (M.grown.block w.heap.size (by simp) (by simp;omega)).trans (by show(w.heap.push tokO)[w.heap.size]?=_;simp)
theorem next_end {w l:World}{S b a m i:Nat}{n o:Int}{p:Option Addr}{u:List Int}(z:Below w.heap.size w (w.alloc tokO))(A:S<w.heap.size)(M:Moved (w.alloc tokO) l S (b+a))
  (t:OwnS l (w.alloc tokO).heap.size p m i u) (r:w.heap.size<l.heap.size) :
  TokOut w S b (.ok (n,a,u,o)) (.returned (tokV n b a p m i o)) (l.setCells w.heap.size 0 [.int .i64 n,.int .i64 b,.int .i64 a,.slice p m i,.int .i64 o]):=by
 have s:=grown_set5 l w.heap.size (.int .i64 n) (.int .i64 b) (.int .i64 a) (.slice p m i) (.int .i64 o)
 have f:∀ g,p=some ⟨g,0,none⟩->w.heap.size+1<=g:=fun g e=>by
  rcases t.form with ⟨j,_⟩ | ⟨B,j,h,_⟩
  ·rw[j] at e;cases e
  ·rw[j] at e;cases e;simpa using h
 have d:=t.kept s (fun g e j=>by have:=f g e;simp only[Option.some.injEq] at j;omega);refine⟨p,m,i,rfl,⟨d.1,d.2.1,d.2.2.imp id fun ⟨g,c,q,v,x,y⟩=>⟨g,c,q,v,by simp at x;omega,y⟩⟩,?_⟩;exact Moved.onto z M (Below.of_grown s (Nat.le_of_lt r) (fun k e=>by cases e;exact Nat.le_refl _)) A
theorem single_out {w b:World}{S a:Nat}{kind x:Int}{g:List Int}{e:Ending}(i:x=g.getD a 0)(h:∃ f d c,e = .returned (tokV kind a 1 f d c 0)/\OwnS b w.heap.size f d c [g.getD a 0]/\Moved w b S (a+1)):TokOut w S a (.ok (kind,1,[x],0)) e b:=by
 rw[i];exact h
theorem tok_drew {W d:World}{S a k:Nat}{r:TokR}{e:Ending}(f:S<W.heap.size)(h:TokOut (W.drewN k) S a r e d):TokOut W S a r e d:=by
 have b:Below W.heap.size W (W.drewN k):=below_drewN (Below.refl _ _) k
 cases r with
 | error code=>exact⟨h.1,(grown_of_below b _).trans h.2⟩
 | ok r=>
   obtain⟨m,l,q,o⟩:=r;obtain⟨p,n,c,g,j,i⟩:=h;exact⟨p,n,c,g,j,Moved.onto b i (Below.refl _ _) f⟩
def callI (ka la ll:Int)(pos:Nat):Bool:=decide (ka=1/\la+ll=pos)
theorem behindS_any (S b:Nat)(f c d:Int)(w:World)(k:w.cell? ⟨S,1,none⟩=some (.int .i64 b))(l:w.cell? ⟨S,2,none⟩=some (.int .i64 f))(n:w.cell? ⟨S,3,none⟩=some (.int .i64 c))(o:w.cell? ⟨S,4,none⟩=some (.int .i64 d))
  (g:0<=c/\c<=100000) (h:0<=d/\d<=100000) (p:b<=100000) :
  Calls Tryz.prog 334 #[.pointer (some ⟨S,0,none⟩)] w fun e j=>e = .returned (.bool (callI f c d b))/\∃ m,j=w.drewN m:=by
 by_cases a:f=1
 ·subst a
  have i:IntKind.i64.wrap (c+d)=c+d:=by rw[IntKind.wrap_i64];omega
  have e:callI 1 c d b=(c+d == (b:Int)):=by unfold callI;rw[Bool.eq_iff_iff];simp
  rw[e];clear e
  go_enter Tryz.func334,Tryz.ntmps334
  go_wp2
  all_goals (try go_quiet (fail))
  all_goals (try go_wp2)
  go_ret;exact⟨rfl,_,rfl⟩
 ·have e:callI f c d b=false:=by unfold callI;rw[decide_eq_false_iff_not];omega
  have t:(f == 1)=false:=by simpa using a
  rw[e];clear e a
  go_enter Tryz.func334,Tryz.ntmps334
  go_wp2
  all_goals (try go_quiet (fail))
  all_goals (try go_wp2)
  go_ret;exact⟨rfl,_,rfl⟩
theorem isOf7_all:(List.range 257).all (fun c=>(!isOfB ((c:Int)-1) 1 || isOfB ((c:Int)-1) 7) && (!isOfB ((c:Int)-1) 2 || isOfB ((c:Int)-1) 7))=true:=by decide +kernel
theorem isOf7 {b:Int}(c : -1<=b)(d:b<256)(h:isOfB b 1=true∨isOfB b 2=true):isOfB b 7=true:=by
 have a:=List.all_eq_true.1 isOf7_all (b+1).toNat (by simp;omega);rw[show(((b+1).toNat:Nat):Int)-1=b by omega] at a;simp only[Bool.and_eq_true,Bool.or_eq_true,Bool.not_eq_true'] at a
 rcases h with h | h
 ·rcases a.1 with h' | h'
  ·rw[h] at h';cases h'
  ·exact h'
 ·rcases a.2 with h' | h'
  ·rw[h] at h';cases h'
  ·exact h'
def runR (xs:List Int)(pos:Nat)(kind k:Int):TokR:=if 100<runI k xs pos then .error 3 else .ok (kind,runI k xs pos,(xs.drop pos).take (runI k xs pos),0)
theorem taken_out {w f:World}{S a:Nat}{kind k:Int}{b:List Int}{e:Ending}(o:a<=b.length)(h:Taken w S kind a (runI k b a) ((b.drop a).take (runI k b a)) e f):TokOut w S a (runR b a kind k) e f:=by
 have d:((b.drop a).take (runI k b a)).length=runI k b a:=by have:=runI_le k b a o;simp;omega
 unfold runR
 rcases h with ⟨h,p,n,c,g,m,l⟩ | ⟨h,i,j⟩
 ·rw[d] at h;rw[if_neg (by omega)];exact⟨p,n,c,g,m,l⟩
 ·rw[d] at h;rw[if_pos h];exact⟨i,j⟩
def nextF (x:Int)(call:Bool)(xs:List Int)(pos:Nat):TokR:=
 if isOfB x 1=true then runR xs pos 1 7 else if isOfB x 2=true then runR xs pos 2 7 else if isOfB x 4=true then numR xs pos
 else if x=46/\endsI (byteI xs (pos+1))=true then .ok (7,1,[],0) else if isOfB x 8=true then runR xs pos 1 8 else if isOfB x 32=true then .ok (1,1,[x],0)
 else if x=39 then quoR xs 1 pos else if x=34 then quoR xs 4 pos else if x=40/\call=true then .ok (6,1,[x],0) else if isOfB x 64=true then .ok (5,1,[x],0) else .error 2
def nextR (xs:List Int)(call:Bool)(pos:Nat):TokR:=nextF (byteI xs pos) call xs pos
theorem nextS_any (S b n c a:Nat)(B u y:Int)(j:List Int)(w:World)(E:Env w S b n c a j)(hp:a<j.length)
  (h2:w.cell? ⟨S,2,none⟩=some (.int .i64 B)) (h3:w.cell? ⟨S,3,none⟩=some (.int .i64 u)) (h4:w.cell? ⟨S,4,none⟩=some (.int .i64 y)) (e3:0<=u/\u<=100000) (e4:0<=y/\y<=100000) :
  Calls Tryz.prog 299 #[.pointer (some ⟨S,0,none⟩)] w fun e k=>TokOut w S a (nextR j (callI B u y a) a) e k:=by
 have d:Hid (Env (w.alloc tokO) S b n c a j):=E.alloc _;have h1:(w.alloc tokO).cell? ⟨S,1,none⟩=some (.int .i64 a):=(E.alloc tokO).at1;have h9:Hid ((w.alloc tokO).cell? ⟨S,2,none⟩=some (.int .i64 B)):=Lib.cell?_alloc_marked _ h2;have e1:Hid ((w.alloc tokO).cell? ⟨S,3,none⟩=some (.int .i64 u)):=Lib.cell?_alloc_marked _ h3;have e2:Hid ((w.alloc tokO).cell? ⟨S,4,none⟩=some (.int .i64 y)):=Lib.cell?_alloc_marked _ h4;have z:Hid (Below w.heap.size w (w.alloc tokO)):=(Below.refl _ _).alloc (Nat.le_refl _) _;have I:Hid (S<w.heap.size):=E.inH;have k2:n<=10000:=E.small
 have k1:a<n:=by rw[E.len];exact hp
 have HP:Hid (a<j.length):=hp;have hr:=byteI_rng E.bytes a
 obtain⟨x,ex⟩:∃ x,x=byteI j a:=⟨_,rfl⟩
 obtain⟨nd,en⟩:∃ nd,nd=endsI (byteI j (a+1)):=⟨_,rfl⟩
 obtain⟨cb,ec⟩:∃ cb,cb=callI B u y a:=⟨_,rfl⟩
 rw[<-ex] at hr
 have D:Hid (nextR j (callI B u y a) a=nextF x cb j a):=by show _=_;rw[ex,ec];rfl
 have H:Hid (byteI j a=x):=ex.symm;have HN:Hid (endsI (byteI j (a+1))=nd):=en.symm;have h8:Hid (callI B u y a=cb):=ec.symm
 have h5:Hid (x=j.getD a 0):=by show _=_;rw[ex,byteI_lt hp]
 clear E h2 h3 h4 ex en ec hp
 by_cases t1:isOfB x 1=true
 ·have l:Hid (nextR j (callI B u y a) a=runR j a 1 7):=by show _=_;rw[D.o];unfold nextF;rw[if_pos t1]
  have s:=(run_any S b n c a 1 7 j (w.alloc tokO) d.o.bytes d.o.len d.o.cap (by omega) HP.o (by rw[H.o];exact isOf7 hr.1 hr.2 (.inl t1)) d.o.src d.o.at1 (d.o.fz 1) d.o.inH d.o.row d.o.tab).mono (fun e k h=>taken_out (Nat.le_of_lt HP.o) h)
  cases q:runR j a 1 7 with
  | error code=>
    rw[q] at s;have C:Hid (nextR j (callI B u y a) a = .error code):=l.o.trans q;clear q D l
    go_enter Tryz.func299,Tryz.ntmps299
    go_wp2_with (first | (go_at_call 324;refine(byteAt_any S b n c j a _ d.o.bytes d.o.len (by have:=d.o.small;omega) (by omega) d.o.src d.o.row).mono ?_;rintro e k ⟨rfl,rfl⟩;rw[H.o]) | (go_at_call 325;refine(isOf_any _ _ _ (by omega) (by omega) d.o.tab).mono ?_;rintro e k ⟨rfl,rfl⟩) | (go_at_call 328;refine s.mono ?_;rintro e t ⟨F,G⟩;cases F));refine⟨rfl,tokOut_of ?_ C.o⟩;exact⟨rfl,grown_on z.o G⟩
  | ok r=>
    obtain⟨V,A,ys,W⟩:=r;rw[q] at s;have C:Hid (nextR j (callI B u y a) a = .ok (V,A,ys,W)):=l.o.trans q;clear q D l
    go_enter Tryz.func299,Tryz.ntmps299
    go_wp2_with (first | (go_at_call 324;refine(byteAt_any S b n c j a _ d.o.bytes d.o.len (by have:=d.o.small;omega) (by omega) d.o.src d.o.row).mono ?_;rintro e k ⟨rfl,rfl⟩;rw[H.o]) | (go_at_call 325;refine(isOf_any _ _ _ (by omega) (by omega) d.o.tab).mono ?_;rintro e k ⟨rfl,rfl⟩) | (go_at_call 328;refine s.mono ?_;rintro e t ⟨p,m,L,rfl,i,M⟩;have J:=Hid.mk M;have K:=Hid.mk i;have g:=size_lt M;have f:=blk_kept I.o M;obtain⟨N,O,P,Q,R⟩:=five t w.heap.size f;obtain⟨g0,g1,g2,g3,g4⟩:=fiveF t w.heap.size f;clear M f i));refine bodyPost_ret (v:=tokV V a A p m L W) (by simp[results,Tryz.results299,go_sem,N,O,P,Q,R,g]) rfl (tokOut_of ?_ C.o);exact next_end z.o I.o J.o K.o g
 have s1:isOfB x 1=false:=by simpa using t1
 by_cases t2:isOfB x 2=true
 ·have l:Hid (nextR j (callI B u y a) a=runR j a 2 7):=by show _=_;rw[D.o];unfold nextF;rw[if_neg t1,if_pos t2]
  have s:=(run_any S b n c a 2 7 j (w.alloc tokO) d.o.bytes d.o.len d.o.cap (by omega) HP.o (by rw[H.o];exact isOf7 hr.1 hr.2 (.inr t2)) d.o.src d.o.at1 (d.o.fz 1) d.o.inH d.o.row d.o.tab).mono (fun e k h=>taken_out (Nat.le_of_lt HP.o) h)
  cases q:runR j a 2 7 with
  | error code=>
    rw[q] at s;have C:Hid (nextR j (callI B u y a) a = .error code):=l.o.trans q;clear q D l
    go_enter Tryz.func299,Tryz.ntmps299
    go_wp2_with (first | (go_at_call 324;refine(byteAt_any S b n c j a _ d.o.bytes d.o.len (by have:=d.o.small;omega) (by omega) d.o.src d.o.row).mono ?_;rintro e k ⟨rfl,rfl⟩;rw[H.o]) | (go_at_call 325;refine(isOf_any _ _ _ (by omega) (by omega) d.o.tab).mono ?_;rintro e k ⟨rfl,rfl⟩) | (go_at_call 328;refine s.mono ?_;rintro e t ⟨F,G⟩;cases F));refine⟨rfl,tokOut_of ?_ C.o⟩;exact⟨rfl,grown_on z.o G⟩
  | ok r=>
    obtain⟨V,A,ys,W⟩:=r;rw[q] at s;have C:Hid (nextR j (callI B u y a) a = .ok (V,A,ys,W)):=l.o.trans q;clear q D l
    go_enter Tryz.func299,Tryz.ntmps299
    go_wp2_with (first | (go_at_call 324;refine(byteAt_any S b n c j a _ d.o.bytes d.o.len (by have:=d.o.small;omega) (by omega) d.o.src d.o.row).mono ?_;rintro e k ⟨rfl,rfl⟩;rw[H.o]) | (go_at_call 325;refine(isOf_any _ _ _ (by omega) (by omega) d.o.tab).mono ?_;rintro e k ⟨rfl,rfl⟩) | (go_at_call 328;refine s.mono ?_;rintro e t ⟨p,m,L,rfl,i,M⟩;have J:=Hid.mk M;have K:=Hid.mk i;have g:=size_lt M;have f:=blk_kept I.o M;obtain⟨N,O,P,Q,R⟩:=five t w.heap.size f;obtain⟨g0,g1,g2,g3,g4⟩:=fiveF t w.heap.size f;clear M f i));refine bodyPost_ret (v:=tokV V a A p m L W) (by simp[results,Tryz.results299,go_sem,N,O,P,Q,R,g]) rfl (tokOut_of ?_ C.o);exact next_end z.o I.o J.o K.o g
 have s2:isOfB x 2=false:=by simpa using t2
 by_cases t3:isOfB x 4=true
 ·have l:Hid (nextR j (callI B u y a) a=numR j a):=by show _=_;rw[D.o];unfold nextF;rw[if_neg t1,if_neg t2,if_pos t3]
  have s:=numberQ_any S b n c a j (w.alloc tokO) d.o (by omega)
  cases q:numR j a with
  | error code=>
    rw[q] at s;have C:Hid (nextR j (callI B u y a) a = .error code):=l.o.trans q;clear q D l
    go_enter Tryz.func299,Tryz.ntmps299
    go_wp2_with (first | (go_at_call 324;refine(byteAt_any S b n c j a _ d.o.bytes d.o.len (by have:=d.o.small;omega) (by omega) d.o.src d.o.row).mono ?_;rintro e k ⟨rfl,rfl⟩;rw[H.o]) | (go_at_call 325;refine(isOf_any _ _ _ (by omega) (by omega) d.o.tab).mono ?_;rintro e k ⟨rfl,rfl⟩) | (go_at_call 329;refine s.mono ?_;rintro e t ⟨F,G⟩;cases F));refine⟨rfl,tokOut_of ?_ C.o⟩;exact⟨rfl,grown_on z.o G⟩
  | ok r=>
    obtain⟨V,A,ys,W⟩:=r;rw[q] at s;have C:Hid (nextR j (callI B u y a) a = .ok (V,A,ys,W)):=l.o.trans q;clear q D l
    go_enter Tryz.func299,Tryz.ntmps299
    go_wp2_with (first | (go_at_call 324;refine(byteAt_any S b n c j a _ d.o.bytes d.o.len (by have:=d.o.small;omega) (by omega) d.o.src d.o.row).mono ?_;rintro e k ⟨rfl,rfl⟩;rw[H.o]) | (go_at_call 325;refine(isOf_any _ _ _ (by omega) (by omega) d.o.tab).mono ?_;rintro e k ⟨rfl,rfl⟩) | (go_at_call 329;refine s.mono ?_;rintro e t ⟨p,m,L,rfl,i,M⟩;have J:=Hid.mk M;have K:=Hid.mk i;have g:=size_lt M;have f:=blk_kept I.o M;obtain⟨N,O,P,Q,R⟩:=five t w.heap.size f;obtain⟨g0,g1,g2,g3,g4⟩:=fiveF t w.heap.size f;clear M f i));refine bodyPost_ret (v:=tokV V a A p m L W) (by simp[results,Tryz.results299,go_sem,N,O,P,Q,R,g]) rfl (tokOut_of ?_ C.o);exact next_end z.o I.o J.o K.o g
 have s3:isOfB x 4=false:=by simpa using t3
 by_cases U:x=46
 ·subst U
  cases nd
  ·have l:Hid (nextR j (callI B u y a) a=runR j a 1 8):=by show _=_;rw[D.o];unfold nextF;rw[if_neg t1,if_neg t2,if_neg t3,HN.o,if_neg (by simp),if_pos (by decide +kernel)]
   have s:=(run_any S b n c a 1 8 j (w.alloc tokO) d.o.bytes d.o.len d.o.cap (by omega) HP.o (by rw[H.o];exact(by decide +kernel)) d.o.src d.o.at1 (d.o.fz 1) d.o.inH d.o.row d.o.tab).mono (fun e k h=>taken_out (Nat.le_of_lt HP.o) h)
   have s8:isOfB 46 8=true:=by decide +kernel
   cases q:runR j a 1 8 with
   | error code=>
     rw[q] at s;have C:Hid (nextR j (callI B u y a) a = .error code):=l.o.trans q;clear q D l
     go_enter Tryz.func299,Tryz.ntmps299
     go_wp2_with (first | (go_at_call 324;refine(byteAt_any S b n c j a _ d.o.bytes d.o.len (by have:=d.o.small;omega) (by omega) d.o.src d.o.row).mono ?_;rintro e k ⟨rfl,rfl⟩;rw[H.o]) | (go_at_call 325;refine(isOf_any _ _ _ (by omega) (by omega) d.o.tab).mono ?_;rintro e k ⟨rfl,rfl⟩) | (go_at_call 330;refine(endsBehind_any S b n c j (a+1) _ d.o.bytes d.o.len (by have:=d.o.small;omega) (by omega) d.o.src d.o.row d.o.tab).mono ?_;rintro e k ⟨rfl,rfl⟩;rw[HN.o]) | (go_at_call 328;refine(s).mono ?_;rintro e t ⟨F,G⟩;cases F));refine⟨rfl,tokOut_of ?_ C.o⟩;exact⟨rfl,grown_on z.o G⟩
   | ok r=>
     obtain⟨V,A,ys,W⟩:=r;rw[q] at s;have C:Hid (nextR j (callI B u y a) a = .ok (V,A,ys,W)):=l.o.trans q;clear q D l
     go_enter Tryz.func299,Tryz.ntmps299
     go_wp2_with (first | (go_at_call 324;refine(byteAt_any S b n c j a _ d.o.bytes d.o.len (by have:=d.o.small;omega) (by omega) d.o.src d.o.row).mono ?_;rintro e k ⟨rfl,rfl⟩;rw[H.o]) | (go_at_call 325;refine(isOf_any _ _ _ (by omega) (by omega) d.o.tab).mono ?_;rintro e k ⟨rfl,rfl⟩) | (go_at_call 330;refine(endsBehind_any S b n c j (a+1) _ d.o.bytes d.o.len (by have:=d.o.small;omega) (by omega) d.o.src d.o.row d.o.tab).mono ?_;rintro e k ⟨rfl,rfl⟩;rw[HN.o]) | (go_at_call 328;refine(s).mono ?_;rintro e t ⟨p,m,L,rfl,i,M⟩;have J:=Hid.mk M;have K:=Hid.mk i;have g:=size_lt M;have f:=blk_kept I.o M;obtain⟨N,O,P,Q,R⟩:=five t w.heap.size f;obtain⟨g0,g1,g2,g3,g4⟩:=fiveF t w.heap.size f;clear M f i))
     refine bodyPost_ret (v:=tokV V a A p m L W) (by simp[results,Tryz.results299,go_sem,N,O,P,Q,R,g]) rfl (tokOut_of ?_ C.o);exact next_end z.o I.o J.o K.o g
  ·have l:Hid (nextR j (callI B u y a) a = .ok (7,1,[],0)):=by show _=_;rw[D.o];unfold nextF;rw[if_neg t1,if_neg t2,if_neg t3,HN.o,if_pos (by simp)]
   have s:Calls Tryz.prog _ _ _ (fun e k=>TokOut (w.alloc tokO) S a (.ok (7,1,[],0)) e k):=(take_fits S a 7 (a+1) none 0 0 (w.alloc tokO) d.o.at1 (d.o.fz 1) d.o.inH (by decide) (by omega) (by omega)).mono (fun e k ⟨he,hm⟩=>⟨none,0,0,by rw[he,show((a+1:Nat):Int)-a=((1:Nat):Int) by omega],OwnS.nil _ _,hm⟩);have C:Hid (nextR j (callI B u y a) a = .ok (7,1,[],0)):=l;clear D l
   go_enter Tryz.func299,Tryz.ntmps299
   go_wp2_with (first | (go_at_call 324;refine(byteAt_any S b n c j a _ d.o.bytes d.o.len (by have:=d.o.small;omega) (by omega) d.o.src d.o.row).mono ?_;rintro e k ⟨rfl,rfl⟩;rw[H.o]) | (go_at_call 325;refine(isOf_any _ _ _ (by omega) (by omega) d.o.tab).mono ?_;rintro e k ⟨rfl,rfl⟩) | (go_at_call 330;refine(endsBehind_any S b n c j (a+1) _ d.o.bytes d.o.len (by have:=d.o.small;omega) (by omega) d.o.src d.o.row d.o.tab).mono ?_;rintro e k ⟨rfl,rfl⟩;rw[HN.o]) | (go_at_call 331;refine(s).mono ?_;rintro e t ⟨p,m,L,rfl,i,M⟩;have J:=Hid.mk M;have K:=Hid.mk i;have g:=size_lt M;have f:=blk_kept I.o M;obtain⟨N,O,P,Q,R⟩:=five t w.heap.size f;obtain⟨g0,g1,g2,g3,g4⟩:=fiveF t w.heap.size f;clear M f i))
   refine bodyPost_ret (v:=tokV 7 a ((1:Nat):Int) p m L 0) (by simp[results,Tryz.results299,go_sem,N,O,P,Q,R,g]) rfl (tokOut_of ?_ C.o);exact next_end z.o I.o J.o K.o g
 have k4:(x == 46)=false:=by simpa using U
 by_cases t8:isOfB x 8=true
 ·have l:Hid (nextR j (callI B u y a) a=runR j a 1 8):=by show _=_;rw[D.o];unfold nextF;rw[if_neg t1,if_neg t2,if_neg t3,if_neg (fun h=>U h.1),if_pos t8]
  have s:=(run_any S b n c a 1 8 j (w.alloc tokO) d.o.bytes d.o.len d.o.cap (by omega) HP.o (by rw[H.o];exact t8) d.o.src d.o.at1 (d.o.fz 1) d.o.inH d.o.row d.o.tab).mono (fun e k h=>taken_out (Nat.le_of_lt HP.o) h)
  cases q:runR j a 1 8 with
  | error code=>
    rw[q] at s;have C:Hid (nextR j (callI B u y a) a = .error code):=l.o.trans q;clear q D l
    go_enter Tryz.func299,Tryz.ntmps299
    go_wp2_with (first | (go_at_call 324;refine(byteAt_any S b n c j a _ d.o.bytes d.o.len (by have:=d.o.small;omega) (by omega) d.o.src d.o.row).mono ?_;rintro e k ⟨rfl,rfl⟩;rw[H.o]) | (go_at_call 325;refine(isOf_any _ _ _ (by omega) (by omega) d.o.tab).mono ?_;rintro e k ⟨rfl,rfl⟩) | (go_at_call 328;refine(s).mono ?_;rintro e t ⟨F,G⟩;cases F));refine⟨rfl,tokOut_of ?_ C.o⟩;exact⟨rfl,grown_on z.o G⟩
  | ok r=>
    obtain⟨V,A,ys,W⟩:=r;rw[q] at s;have C:Hid (nextR j (callI B u y a) a = .ok (V,A,ys,W)):=l.o.trans q;clear q D l
    go_enter Tryz.func299,Tryz.ntmps299
    go_wp2_with (first | (go_at_call 324;refine(byteAt_any S b n c j a _ d.o.bytes d.o.len (by have:=d.o.small;omega) (by omega) d.o.src d.o.row).mono ?_;rintro e k ⟨rfl,rfl⟩;rw[H.o]) | (go_at_call 325;refine(isOf_any _ _ _ (by omega) (by omega) d.o.tab).mono ?_;rintro e k ⟨rfl,rfl⟩) | (go_at_call 328;refine(s).mono ?_;rintro e t ⟨p,m,L,rfl,i,M⟩;have J:=Hid.mk M;have K:=Hid.mk i;have g:=size_lt M;have f:=blk_kept I.o M;obtain⟨N,O,P,Q,R⟩:=five t w.heap.size f;obtain⟨g0,g1,g2,g3,g4⟩:=fiveF t w.heap.size f;clear M f i));refine bodyPost_ret (v:=tokV V a A p m L W) (by simp[results,Tryz.results299,go_sem,N,O,P,Q,R,g]) rfl (tokOut_of ?_ C.o);exact next_end z.o I.o J.o K.o g
 have s8:isOfB x 8=false:=by simpa using t8
 by_cases Z:isOfB x 32=true
 ·have l:Hid (nextR j (callI B u y a) a = .ok (1,1,[x],0)):=by show _=_;rw[D.o];unfold nextF;rw[if_neg t1,if_neg t2,if_neg t3,if_neg (fun h=>U h.1),if_neg t8,if_pos Z]
  have s:=(single_any S b n c a 1 j (w.alloc tokO) d.o.bytes d.o.len (by omega) HP.o d.o.src d.o.at1 (d.o.fz 1) d.o.inH d.o.row).mono (fun e k h=>single_out h5.o h);have C:Hid (nextR j (callI B u y a) a = .ok (1,1,[x],0)):=l;clear D l
  go_enter Tryz.func299,Tryz.ntmps299
  go_wp2_with (first | (go_at_call 324;refine(byteAt_any S b n c j a _ d.o.bytes d.o.len (by have:=d.o.small;omega) (by omega) d.o.src d.o.row).mono ?_;rintro e k ⟨rfl,rfl⟩;rw[H.o]) | (go_at_call 325;refine(isOf_any _ _ _ (by omega) (by omega) d.o.tab).mono ?_;rintro e k ⟨rfl,rfl⟩) | (go_at_call 332;refine(s).mono ?_;rintro e t ⟨p,m,L,rfl,i,M⟩;have J:=Hid.mk M;have K:=Hid.mk i;have g:=size_lt M;have f:=blk_kept I.o M;obtain⟨N,O,P,Q,R⟩:=five t w.heap.size f;obtain⟨g0,g1,g2,g3,g4⟩:=fiveF t w.heap.size f;clear M f i));refine bodyPost_ret (v:=tokV 1 a ((1:Nat):Int) p m L 0) (by simp[results,Tryz.results299,go_sem,N,O,P,Q,R,g]) rfl (tokOut_of ?_ C.o);exact next_end z.o I.o J.o K.o g
 have k3:isOfB x 32=false:=by simpa using Z
 by_cases T:x=39
 ·have l:Hid (nextR j (callI B u y a) a=quoR j 1 a):=by show _=_;rw[D.o];unfold nextF;rw[if_neg t1,if_neg t2,if_neg t3,if_neg (fun h=>U h.1),if_neg t8,if_neg Z,if_pos T]
  have s:=quoted_any S b n c a 1 j (w.alloc tokO) d.o HP.o (.inl (H.o.trans T))
  have e7:(x == 39)=true:=by simpa using T
  clear T
  cases q:quoR j 1 a with
  | error code=>
    rw[q] at s;have C:Hid (nextR j (callI B u y a) a = .error code):=l.o.trans q;clear q D l
    go_enter Tryz.func299,Tryz.ntmps299
    go_wp2_with (first | (go_at_call 324;refine(byteAt_any S b n c j a _ d.o.bytes d.o.len (by have:=d.o.small;omega) (by omega) d.o.src d.o.row).mono ?_;rintro e k ⟨rfl,rfl⟩;rw[H.o]) | (go_at_call 325;refine(isOf_any _ _ _ (by omega) (by omega) d.o.tab).mono ?_;rintro e k ⟨rfl,rfl⟩) | (go_at_call 333;refine(s).mono ?_;rintro e t ⟨F,G⟩;cases F));refine⟨rfl,tokOut_of ?_ C.o⟩;exact⟨rfl,grown_on z.o G⟩
  | ok r=>
    obtain⟨V,A,ys,W⟩:=r;rw[q] at s;have C:Hid (nextR j (callI B u y a) a = .ok (V,A,ys,W)):=l.o.trans q;clear q D l
    go_enter Tryz.func299,Tryz.ntmps299
    go_wp2_with (first | (go_at_call 324;refine(byteAt_any S b n c j a _ d.o.bytes d.o.len (by have:=d.o.small;omega) (by omega) d.o.src d.o.row).mono ?_;rintro e k ⟨rfl,rfl⟩;rw[H.o]) | (go_at_call 325;refine(isOf_any _ _ _ (by omega) (by omega) d.o.tab).mono ?_;rintro e k ⟨rfl,rfl⟩) | (go_at_call 333;refine(s).mono ?_;rintro e t ⟨p,m,L,rfl,i,M⟩;have J:=Hid.mk M;have K:=Hid.mk i;have g:=size_lt M;have f:=blk_kept I.o M;obtain⟨N,O,P,Q,R⟩:=five t w.heap.size f;obtain⟨g0,g1,g2,g3,g4⟩:=fiveF t w.heap.size f;clear M f i));refine bodyPost_ret (v:=tokV V a A p m L W) (by simp[results,Tryz.results299,go_sem,N,O,P,Q,R,g]) rfl (tokOut_of ?_ C.o);exact next_end z.o I.o J.o K.o g
 have e7:(x == 39)=false:=by simpa using T
 by_cases X:x=34
 ·have l:Hid (nextR j (callI B u y a) a=quoR j 4 a):=by show _=_;rw[D.o];unfold nextF;rw[if_neg t1,if_neg t2,if_neg t3,if_neg (fun h=>U h.1),if_neg t8,if_neg Z,if_neg T,if_pos X]
  have s:=quoted_any S b n c a 4 j (w.alloc tokO) d.o HP.o (.inr (H.o.trans X))
  have e6:(x == 34)=true:=by simpa using X
  clear X
  cases q:quoR j 4 a with
  | error code=>
    rw[q] at s;have C:Hid (nextR j (callI B u y a) a = .error code):=l.o.trans q;clear q D l
    go_enter Tryz.func299,Tryz.ntmps299
    go_wp2_with (first | (go_at_call 324;refine(byteAt_any S b n c j a _ d.o.bytes d.o.len (by have:=d.o.small;omega) (by omega) d.o.src d.o.row).mono ?_;rintro e k ⟨rfl,rfl⟩;rw[H.o]) | (go_at_call 325;refine(isOf_any _ _ _ (by omega) (by omega) d.o.tab).mono ?_;rintro e k ⟨rfl,rfl⟩) | (go_at_call 333;refine(s).mono ?_;rintro e t ⟨F,G⟩;cases F));refine⟨rfl,tokOut_of ?_ C.o⟩;exact⟨rfl,grown_on z.o G⟩
  | ok r=>
    obtain⟨V,A,ys,W⟩:=r;rw[q] at s;have C:Hid (nextR j (callI B u y a) a = .ok (V,A,ys,W)):=l.o.trans q;clear q D l
    go_enter Tryz.func299,Tryz.ntmps299
    go_wp2_with (first | (go_at_call 324;refine(byteAt_any S b n c j a _ d.o.bytes d.o.len (by have:=d.o.small;omega) (by omega) d.o.src d.o.row).mono ?_;rintro e k ⟨rfl,rfl⟩;rw[H.o]) | (go_at_call 325;refine(isOf_any _ _ _ (by omega) (by omega) d.o.tab).mono ?_;rintro e k ⟨rfl,rfl⟩) | (go_at_call 333;refine(s).mono ?_;rintro e t ⟨p,m,L,rfl,i,M⟩;have J:=Hid.mk M;have K:=Hid.mk i;have g:=size_lt M;have f:=blk_kept I.o M;obtain⟨N,O,P,Q,R⟩:=five t w.heap.size f;obtain⟨g0,g1,g2,g3,g4⟩:=fiveF t w.heap.size f;clear M f i));refine bodyPost_ret (v:=tokV V a A p m L W) (by simp[results,Tryz.results299,go_sem,N,O,P,Q,R,g]) rfl (tokOut_of ?_ C.o);exact next_end z.o I.o J.o K.o g
 have e6:(x == 34)=false:=by simpa using X
 by_cases Y:x=40
 ·have e8:(x == 40)=true:=by simpa using Y
  cases cb
  ·have l:Hid (nextR j (callI B u y a) a = .ok (5,1,[x],0)):=by show _=_;rw[D.o];unfold nextF;rw[if_neg t1,if_neg t2,if_neg t3,if_neg (fun h=>U h.1),if_neg t8,if_neg Z,if_neg T,if_neg X,if_neg (by simp),if_pos (by rw[Y];decide +kernel)]
   have s:=fun kb=>(single_any S b n c a 5 j ((w.alloc tokO).drewN kb) d.o.bytes d.o.len (by omega) HP.o d.o.src d.o.at1 (d.o.fz 1) d.o.inH d.o.row).mono (fun e k h=>tok_drew d.o.inH (single_out h5.o h))
   have e9:isOfB x 64=true:=by rw[Y];decide +kernel
   clear Y;have C:Hid (nextR j (callI B u y a) a = .ok (5,1,[x],0)):=l;clear D l
   go_enter Tryz.func299,Tryz.ntmps299
   go_wp2_with (first | (go_at_call 324;refine(byteAt_any S b n c j a _ d.o.bytes d.o.len (by have:=d.o.small;omega) (by omega) d.o.src d.o.row).mono ?_;rintro e k ⟨rfl,rfl⟩;rw[H.o]) | (go_at_call 325;refine(isOf_any _ _ _ (by omega) (by omega) d.o.tab).mono ?_;rintro e k ⟨rfl,rfl⟩));refine(behindS_any S a B u y _ d.o.at1 h9.o e1.o e2.o e3 e4 (by omega)).mono ?_;rintro e w2 ⟨rfl,kb,rfl⟩;rw[h8.o];have h6:Hid (Tab ((w.alloc tokO).drewN kb)):=d.o.tab;go_wp2_with (first | (go_at_call 325;refine(isOf_any _ _ _ (by omega) (by omega) h6.o).mono ?_;rintro e k ⟨rfl,rfl⟩) | (go_at_call 332;refine(s _).mono ?_;rintro e t ⟨p,m,L,rfl,i,M⟩;have J:=Hid.mk M;have K:=Hid.mk i;have g:=size_lt M;have f:=blk_kept I.o M;obtain⟨N,O,P,Q,R⟩:=five t w.heap.size f;obtain⟨g0,g1,g2,g3,g4⟩:=fiveF t w.heap.size f;clear M f i))
   refine bodyPost_ret (v:=tokV 5 a ((1:Nat):Int) p m L 0) (by simp[results,Tryz.results299,go_sem,N,O,P,Q,R,g]) rfl (tokOut_of ?_ C.o);exact next_end z.o I.o J.o K.o g
  ·have l:Hid (nextR j (callI B u y a) a = .ok (6,1,[x],0)):=by show _=_;rw[D.o];unfold nextF;rw[if_neg t1,if_neg t2,if_neg t3,if_neg (fun h=>U h.1),if_neg t8,if_neg Z,if_neg T,if_neg X,if_pos ⟨Y,rfl⟩]
   have s:=fun kb=>(single_any S b n c a 6 j ((w.alloc tokO).drewN kb) d.o.bytes d.o.len (by omega) HP.o d.o.src d.o.at1 (d.o.fz 1) d.o.inH d.o.row).mono (fun e k h=>tok_drew d.o.inH (single_out h5.o h))
   clear Y;have C:Hid (nextR j (callI B u y a) a = .ok (6,1,[x],0)):=l;clear D l
   go_enter Tryz.func299,Tryz.ntmps299
   go_wp2_with (first | (go_at_call 324;refine(byteAt_any S b n c j a _ d.o.bytes d.o.len (by have:=d.o.small;omega) (by omega) d.o.src d.o.row).mono ?_;rintro e k ⟨rfl,rfl⟩;rw[H.o]) | (go_at_call 325;refine(isOf_any _ _ _ (by omega) (by omega) d.o.tab).mono ?_;rintro e k ⟨rfl,rfl⟩));refine(behindS_any S a B u y _ d.o.at1 h9.o e1.o e2.o e3 e4 (by omega)).mono ?_;rintro e w2 ⟨rfl,kb,rfl⟩;rw[h8.o];have h6:Hid (Tab ((w.alloc tokO).drewN kb)):=d.o.tab;go_wp2_with (first | (go_at_call 325;refine(isOf_any _ _ _ (by omega) (by omega) h6.o).mono ?_;rintro e k ⟨rfl,rfl⟩) | (go_at_call 332;refine(s _).mono ?_;rintro e t ⟨p,m,L,rfl,i,M⟩;have J:=Hid.mk M;have K:=Hid.mk i;have g:=size_lt M;have f:=blk_kept I.o M;obtain⟨N,O,P,Q,R⟩:=five t w.heap.size f;obtain⟨g0,g1,g2,g3,g4⟩:=fiveF t w.heap.size f;clear M f i))
   refine bodyPost_ret (v:=tokV 6 a ((1:Nat):Int) p m L 0) (by simp[results,Tryz.results299,go_sem,N,O,P,Q,R,g]) rfl (tokOut_of ?_ C.o);exact next_end z.o I.o J.o K.o g
 have e8:(x == 40)=false:=by simpa using Y
 by_cases h7:isOfB x 64=true
 ·have l:Hid (nextR j (callI B u y a) a = .ok (5,1,[x],0)):=by show _=_;rw[D.o];unfold nextF;rw[if_neg t1,if_neg t2,if_neg t3,if_neg (fun h=>U h.1),if_neg t8,if_neg Z,if_neg T,if_neg X,if_neg (fun h=>Y h.1),if_pos h7]
  have s:=(single_any S b n c a 5 j (w.alloc tokO) d.o.bytes d.o.len (by omega) HP.o d.o.src d.o.at1 (d.o.fz 1) d.o.inH d.o.row).mono (fun e k h=>single_out h5.o h);have C:Hid (nextR j (callI B u y a) a = .ok (5,1,[x],0)):=l;clear D l
  go_enter Tryz.func299,Tryz.ntmps299
  go_wp2_with (first | (go_at_call 324;refine(byteAt_any S b n c j a _ d.o.bytes d.o.len (by have:=d.o.small;omega) (by omega) d.o.src d.o.row).mono ?_;rintro e k ⟨rfl,rfl⟩;rw[H.o]) | (go_at_call 325;refine(isOf_any _ _ _ (by omega) (by omega) d.o.tab).mono ?_;rintro e k ⟨rfl,rfl⟩) | (go_at_call 332;refine(s).mono ?_;rintro e t ⟨p,m,L,rfl,i,M⟩;have J:=Hid.mk M;have K:=Hid.mk i;have g:=size_lt M;have f:=blk_kept I.o M;obtain⟨N,O,P,Q,R⟩:=five t w.heap.size f;obtain⟨g0,g1,g2,g3,g4⟩:=fiveF t w.heap.size f;clear M f i));refine bodyPost_ret (v:=tokV 5 a ((1:Nat):Int) p m L 0) (by simp[results,Tryz.results299,go_sem,N,O,P,Q,R,g]) rfl (tokOut_of ?_ C.o);exact next_end z.o I.o J.o K.o g
 have e9:isOfB x 64=false:=by simpa using h7
 have C:Hid (nextR j (callI B u y a) a = .error 2):=by show _=_;rw[D.o];unfold nextF;rw[if_neg t1,if_neg t2,if_neg t3,if_neg (fun h=>U h.1),if_neg t8,if_neg Z,if_neg T,if_neg X,if_neg (fun h=>Y h.1),if_neg h7]
 clear D
 go_enter Tryz.func299,Tryz.ntmps299
 go_wp2_with (first | (go_at_call 324;refine(byteAt_any S b n c j a _ d.o.bytes d.o.len (by have:=d.o.small;omega) (by omega) d.o.src d.o.row).mono ?_;rintro e k ⟨rfl,rfl⟩;rw[H.o]) | (go_at_call 325;refine(isOf_any _ _ _ (by omega) (by omega) d.o.tab).mono ?_;rintro e k ⟨rfl,rfl⟩) | (go_at_call 335;refine(fault_any S a 2 _ d.o.at1 d.o.inH).mono ?_;rintro e t ⟨rfl,e5⟩));refine⟨rfl,tokOut_of ?_ C.o⟩;exact⟨rfl,grown_of_below (Below.on z.o e5) _⟩
def lineI (xs:List Int)(pos:Nat):Nat:=runLen (fun c=>c != 10) (xs.drop pos)
theorem index10:∀ (b:List Int),Bytes b->Lib.indexByte (Lib.bytesOf b) (10:Int).toNat.toUInt8=if runLen (fun c=>c != 10) b=b.length then -1 else(runLen (fun c=>c != 10) b:Int)
 | [],_=>rfl
 | x :: r,h=>by
   have n:=h x (List.mem_cons_self ..);have l:=index10 r (fun y k=>h y (List.mem_cons_of_mem _ k));have j:=runLen_le (fun c=>c != 10) r
   have e:(x.toNat.toUInt8 == (10:Int).toNat.toUInt8)=decide (x=10):=by
    rw[Bool.eq_iff_iff,beq_iff_eq,decide_eq_true_iff]
    constructor
    ·intro d
     have:=congrArg UInt8.toNat d
     simp at this
     omega
    ·intro d;rw[d]
   show(if (x.toNat.toUInt8 == (10:Int).toNat.toUInt8)=true then(0:Int) else if Lib.indexByte (Lib.bytesOf r) _ == -1 then -1 else Lib.indexByte (Lib.bytesOf r) _+1)=_
   have m:runLen (fun c=>c != 10) (x :: r)=if (x != 10)=true then runLen (fun c=>c != 10) r+1 else 0:=rfl
   rw[e,l,m]
   by_cases a:x=10
   ·simp[a]
   ·have i:(x != 10)=true:=by simpa using a
    simp only[a,decide_false,Bool.false_eq_true,if_false,i,if_true,List.length_cons]
    by_cases f:runLen (fun c=>c != 10) r=r.length
    ·simp[f]
    ·have g:((if runLen (fun c=>c != 10) r=r.length then(-1:Int) else(runLen (fun c=>c != 10) r:Int)) == -1)=false:=by
      rw[if_neg f];simp
     rw[g,if_neg f,if_neg (show ¬ runLen (fun c=>c != 10) r+1=r.length+1 by omega)]
     simp
theorem indexByte_any (b o n c:Nat)(a:List Int)(w:World)(j:Bytes a)(h:a.length=n)(g:∀ i,i<n->w.cell? ⟨b,o+i,none⟩=some (.int .u8 (a.getD i 0))) :
  Calls Tryz.prog 368 #[.slice (some ⟨b,o,none⟩) n c,.int .u8 10] w fun e k=>e = .returned (.int .i64 (if runLen (fun c=>c != 10) a=a.length then -1 else(runLen (fun c=>c != 10) a:Int)))/\k=w:=by
 have l:=@run_callFunc_extern Tryz.prog 388 _ Extern.BytealgIndexByte.indexByte Tryz.func388 (by kernel_rfl) (by kernel_rfl) (by kernel_rfl) (by kernel_rfl);have d:=Lib.run_indexByteSlice (P:=Tryz.prog) w b o n c a h g 10;rw[index10 a j] at d
 obtain⟨r,f⟩:∃ r,r=if runLen (fun c=>c != 10) a=a.length then -1 else(runLen (fun c=>c != 10) a:Int):=⟨_,rfl⟩
 rw[<-f] at d ⊢;clear f g
 go_enter Tryz.func368,Tryz.ntmps368
 go_wp2
 go_ret;exact⟨rfl,rfl⟩
theorem skipLine_any (S b n c a:Nat)(d:List Int)(w:World)(E:Env w S b n c a d)(z:a<d.length) :
  Calls Tryz.prog 326 #[.pointer (some ⟨S,0,none⟩)] w fun e F=>e = .returned (.tuple #[])/\Moved w F S (a+lineI d a):=by
 have G:=E.src;have s:=E.at1;have I:=E.fz 1;have D:=E.small
 have l:a<n:=by rw[E.len];exact z
 have u:a<c:=Nat.lt_of_lt_of_le l E.cap
 have y:¬ c=a:=by omega
 have B:(a:Int)<=(n:Nat):=by omega
 have A:(0:Int)<=(a:Nat):=by omega
 have x:n<=c:=E.cap
 have j:lineI d a<=n-a:=by have:=runLen_le (fun c=>c != 10) (d.drop a);unfold lineI;rw[E.len];simpa using this
 have f:=fun k=>indexByte_any b a (n-a) (c-a) (d.drop a) (w.drewN k) (E.bytes.drop a) (by rw[E.len];simp) (fun i J=>by
  have:=E.row (a+i) (by have:=E.len;omega)
  rw[World.cell?_drewN,this];simp[List.getD,List.getElem?_drop])
 have r:Hid ((d.drop a).length=n-a):=by rw[E.len];show _=_;simp
 have p:∀ k q,Hid (Moved w ((w.drewN k).setCell ⟨S,1,none⟩ (.int .i64 (q:Nat))) S q):=fun k q=>Moved.onto (below_drewN (Below.refl _ _) k) (Moved.set a q (show(w.drewN k).cell? _=_ from s)) (Below.refl _ _) E.inH
 have H:=E.inH
 obtain⟨m,h⟩:∃ m,m=lineI d a:=⟨_,rfl⟩
 have g:runLen (fun c=>c != 10) (d.drop a)=m:=h.symm;rw[<-h] at j ⊢;simp only[g,r.o] at f;clear E h g
 by_cases t:m=n-a
 ·simp only[if_pos t] at f
  go_enter Tryz.func326,Tryz.ntmps326
  go_wp2
  go_quiet ((go_at_call 368;exact Calls.quiet_of_same (f _)))
  go_wp2
  all_goals (try go_quiet (fail))
  all_goals (try go_wp2)
  refine bodyPost_end (v:=.tuple #[]) (by simp[results,Tryz.results326,go_sem]) rfl ⟨rfl,?_⟩
  have e:(a:Int)+((n:Int)-a)=((a+m:Nat):Int):=by omega
  rw[e];exact(p _ _).o
 ·simp only[if_neg t] at f
  go_enter Tryz.func326,Tryz.ntmps326
  go_wp2
  go_quiet ((go_at_call 368;exact Calls.quiet_of_same (f _)))
  go_wp2
  refine bodyPost_end (v:=.tuple #[]) (by simp[results,Tryz.results326,go_sem]) rfl ⟨rfl,?_⟩;have C:=(p nq (a+m)).o
  simpa using C
end
section
open Go Go.RowKit
def blkF (xs:List Int):Nat->Nat->Option Nat
 | 0,_=>none
 | f+1,i=>if byteI xs i=42/\byteI xs (i+1)=47 then some i else blkF xs f (i+1)
def blkI (xs:List Int)(i:Nat):Option Nat:=blkF xs (xs.length-i) i
theorem blk_step (a:List Int)(i:Nat)(h:i<a.length):blkI a i=if byteI a i=42/\byteI a (i+1)=47 then some i else blkI a (i+1):=by
 unfold blkI
 rw[show a.length-i=(a.length-(i+1))+1 by omega]
 rfl
theorem blk_end (a:List Int)(i:Nat)(h:a.length<=i):blkI a i=none:=by unfold blkI;rw[show a.length-i=0 by omega];rfl
theorem blk_rng {a:List Int} : ∀ (f i j:Nat),blkF a f i=some j->i<=j/\j+1<a.length
 | 0,i,j,h=>by cases h
 | f+1,i,j,h=>by
   unfold blkF at h
   split at h
   ·rename_i b
    cases h
    refine⟨Nat.le_refl _,?_⟩
    rcases Nat.lt_or_ge (i+1) a.length with h' | h'
    ·exact h'
    ·rw[byteI_ge h'] at b;omega
   ·have:=blk_rng f (i+1) j h;omega
def layI (xs:List Int)(pos:Nat):Option Nat:=
 if endsI (byteI xs pos)=true/\byteI xs pos≠-1/\byteI xs pos≠37 then some 1
 else if byteI xs pos=37 then some (lineI xs pos)
 else if byteI xs pos=47/\byteI xs (pos+1)=42 then(match blkI xs (pos+2) with
  | none=>none
  | some j=>some (j+2-pos))
 else some 0
abbrev LexR:=Except (Int×Nat) (List Tok)
def lexF (xs:List Int):Nat->Nat->Int->List Tok->LexR
 | 0,_,_,acc=>.ok acc
 | f+1,pos,a,acc=>if xs.length<=pos then .ok acc else match layI xs pos with
   | none=>.error (2,pos)
   | some n=>if 0<n then lexF xs f (pos+n) a acc else match nextR xs (decide (a=pos)) pos with
     | .error c=>.error (c,pos)
     | .ok (kind,len,ys,v)=>lexF xs f (pos+len) (if kind=1 then((pos+len:Nat):Int) else -1) (acc ++ [((kind,(pos:Int),(len:Int),v),ys)])
def lexI (xs:List Int)(pos:Nat)(a:Int)(acc:List Tok):LexR:=lexF xs (xs.length+1-pos) pos a acc
end
section
open Go Go.RowKit Go.Extern.Stop Go.Stop Go.Extern
theorem asV2F (t:Addr)(w:World):(ReflectliteValue.unpack (.iface 384 (.pointer (some t)))).run Tryz.prog w
  = .ok (.agg #[.pointer (some ⟨11,384,none⟩),.pointer (some ⟨w.heap.size,0,none⟩),.int .u64 150]) (w.alloc (.cells #[.pointer (some t)] 384)):=by kernel_rfl
theorem asT2F (a:Addr)(w:World):(ReflectliteValue.methodAny (ReflectliteValue.valueError "reflectlite.Value.Type" 0) (fun t _ _ _=>ReflectliteType.toType t) #[.agg #[.pointer (some ⟨11,384,none⟩),.pointer (some a),.int .u64 150]]).run Tryz.prog w
  = .ok (.iface 260 (.agg #[.pointer (some ⟨11,384,none⟩)])) w:=by kernel_rfl
theorem asMKF (h:Value)(w:World):(Go.method 594 260 (.agg #[h]) "Kind").run Tryz.prog w = .ok (428,h) w:=by kernel_rfl
theorem asK2F (w:World):((ReflectliteType.abiMethod fun t=>(fun a:Nat=>Value.int IntKind.u8 (a:Int)) <$> Rtype.kind t) #[.pointer (some ⟨11,384,none⟩)]).run Tryz.prog w = .ok (.int .u8 22) w:=by kernel_rfl
theorem asK1F (w:World):((ReflectliteType.abiMethod fun t=>(fun a:Nat=>Value.int IntKind.u8 (a:Int)) <$> Rtype.kind t) #[.pointer (some ⟨11,334,none⟩)]).run Tryz.prog w = .ok (.int .u8 25) w:=by kernel_rfl
theorem rlmF (z:Sem Value)(f:TypeId->Addr->Nat->Nat->Sem Value)(v:Value) :
  ReflectliteValue.method z f #[v]=(do match <- ReflectliteValue.parts v with | none=>z | some (t,a,fl)=>f t a fl (fl % 32)):=rfl
theorem asP2F (a:Addr)(w:World):(ReflectliteValue.parts (.agg #[.pointer (some ⟨11,384,none⟩),.pointer (some a),.int .u64 150])).run Tryz.prog w = .ok (some (384,a,150)) w:=by kernel_rfl
theorem asN2F (a p:Addr)(W:World)(ha:W.cell? a=some (.pointer (some p))) :
  (ReflectliteValue.method (ReflectliteValue.valueError "reflectlite.Value.IsNil" 0) ReflectliteValue.isNil #[.agg #[.pointer (some ⟨11,384,none⟩),.pointer (some a),.int .u64 150]]).run Tryz.prog W = .ok (.bool false) W:=by
 rw[rlmF];simp only[Sem.run_bind,asP2F,Result.andThen]
 simp[ReflectliteValue.isNil,loadVar,isAgg,underlying,Tryz.underlying384,ha,Result.andThen]
theorem asMEF (h:Value)(w:World):(Go.method 594 260 (.agg #[h]) "Elem").run Tryz.prog w = .ok (446,.agg #[h]) w:=by kernel_rfl
theorem asMIF (h:Value)(w:World):(Go.method 594 260 (.agg #[h]) "Implements").run Tryz.prog w = .ok (447,.agg #[h]) w:=by kernel_rfl
theorem asMAF (h:Value)(w:World):(Go.method 594 260 (.agg #[h]) "AssignableTo").run Tryz.prog w = .ok (444,.agg #[h]) w:=by kernel_rfl
theorem asE2F (w:World):(ReflectliteType.method ReflectliteType.elem #[.agg #[.pointer (some ⟨11,384,none⟩)]]).run Tryz.prog w = .ok (.iface 260 (.agg #[.pointer (some ⟨11,334,none⟩)])) w:=by kernel_rfl
theorem asI1F (w:World):(ReflectliteType.relation "Implements" ReflectliteType.implements_ #[.agg #[.pointer (some ⟨11,334,none⟩)],.iface 260 (.agg #[.pointer (some ⟨11,113,none⟩)])]).run Tryz.prog w = .ok (.bool true) w:=by kernel_rfl
theorem asTOF (v:Value)(w:World):(ReflectliteType.typeOf #[.iface 334 v]).run Tryz.prog w = .ok (.iface 260 (.agg #[.pointer (some ⟨11,334,none⟩)])) w:=by kernel_rfl
theorem asA1F (w:World):(ReflectliteType.relation "AssignableTo" ReflectliteType.assignableTo #[.agg #[.pointer (some ⟨11,334,none⟩)],.iface 260 (.agg #[.pointer (some ⟨11,334,none⟩)])]).run Tryz.prog w = .ok (.bool true) w:=by kernel_rfl
theorem asV1F (c p:Int)(w:World):(ReflectliteValue.unpack (.iface 334 (.agg #[.int .i64 c,.int .i64 p]))).run Tryz.prog w
  = .ok (.agg #[.pointer (some ⟨11,334,none⟩),.pointer (some ⟨w.heap.size,0,none⟩),.int .u64 153]) (w.alloc (.cells #[.int .i64 c,.int .i64 p] 334)):=by kernel_rfl
theorem asEOF (w:World):(Rtype.elem? 384).run Tryz.prog w = .ok (some 334) w:=by kernel_rfl
theorem asM1F (p:Addr)(w:World):(ReflectliteValue.mk 334 p ReflectliteValue.flagAddr).run Tryz.prog w = .ok (.agg #[.pointer (some ⟨11,334,none⟩),.pointer (some p),.int .u64 409]) w:=by kernel_rfl
theorem asEVF (a p:Addr)(W:World)(ha:W.cell? a=some (.pointer (some p))) :
  (ReflectliteValue.method (ReflectliteValue.valueError "reflectlite.Value.Elem" 0) ReflectliteValue.elem #[.agg #[.pointer (some ⟨11,384,none⟩),.pointer (some a),.int .u64 150]]).run Tryz.prog W
    = .ok (.agg #[.pointer (some ⟨11,334,none⟩),.pointer (some p),.int .u64 409]) W:=by
 rw[rlmF];simp only[Sem.run_bind,asP2F,Result.andThen]
 simp[ReflectliteValue.elem,loadVar,isAgg,underlying,Tryz.underlying384,ha,Result.andThen,asEOF,asM1F]
theorem asP1aF (a:Addr)(w:World):(ReflectliteValue.parts (.agg #[.pointer (some ⟨11,334,none⟩),.pointer (some a),.int .u64 409])).run Tryz.prog w = .ok (some (334,a,409)) w:=by kernel_rfl
theorem asP1F (a:Addr)(w:World):(ReflectliteValue.parts (.agg #[.pointer (some ⟨11,334,none⟩),.pointer (some a),.int .u64 153])).run Tryz.prog w = .ok (some (334,a,153)) w:=by kernel_rfl
theorem asD1F (w:World):(Rtype.directlyAssignable 334 334).run Tryz.prog w = .ok true w:=by kernel_rfl
theorem asS1F (w:World):(sizeOf 334).run Tryz.prog w = .ok 2 w:=by kernel_rfl
theorem asLdF (b:Nat)(c p:Int)(W:World)(a:W.cell? ⟨b,0,none⟩=some (.int .i64 c))(d:W.cell? ⟨b,1,none⟩=some (.int .i64 p)):(loadVar 334 ⟨b,0,none⟩).run Tryz.prog W = .ok (.agg #[.int .i64 c,.int .i64 p]) W:=by
 simp[loadVar,isAgg,underlying,Tryz.underlying334,Result.andThen,asS1F,loadCells,loadCellsFrom,Addr.add,a,d]
theorem asSetF (T b:Nat)(c p:Int)(a d:Value)(W:World)(e:W.cell? ⟨b,0,none⟩=some (.int .i64 c))(f:W.cell? ⟨b,1,none⟩=some (.int .i64 p))(g:W.heap[T]?=some (.cells #[a,d] 334 (0,0))) :
  (ReflectliteValue.set #[.agg #[.pointer (some ⟨11,334,none⟩),.pointer (some ⟨T,0,none⟩),.int .u64 409],.agg #[.pointer (some ⟨11,334,none⟩),.pointer (some ⟨b,0,none⟩),.int .u64 153]]).run Tryz.prog W
    = .ok (.tuple #[]) (W.setRow T #[.int .i64 c,.int .i64 p]):=by
 have i:=run_storeVar_row (P:=Tryz.prog) W T 334 334 #[a,d] #[.int .i64 c,.int .i64 p] g (by kernel_rfl) rfl (by simp[Value.oneCell']);have h:=asLdF b c p W e f
 change Sem.run Tryz.prog (ReflectliteValue.parts _ >>= _) W=_
 simp[Array.getLit,asP1aF,asP1F,ReflectliteValue.flagAddr,h,asD1F,i,Result.andThen]
theorem as_hitF (T:Nat)(c p:Int)(n q:Value)(w:World)(r:w.cell? ⟨3,0,none⟩=some (.iface 260 (.agg #[.pointer (some ⟨11,113,none⟩)])))(m:w.heap[T]?=some (.cells #[n,q] 334 (0,0))) :
  Calls Tryz.prog 91 #[.iface 334 (.agg #[.int .i64 c,.int .i64 p]),.iface 384 (.pointer (some ⟨T,0,none⟩))] w fun u E=>u = .returned (.bool true)/\∃ s:World,Below w.heap.size w s/\s.heap[T]?=some (.cells #[n,q] 334 (0,0))/\E=s.setRow T #[.int .i64 c,.int .i64 p]:=by
 have K:=@run_callFunc_extern Tryz.prog 156 _ (fun i=>ReflectliteValue.unpack (i.getD 0 (.tuple #[]))) Tryz.func156 (by kernel_rfl) (by kernel_rfl) (by kernel_rfl) (by kernel_rfl);have L:=@run_callFunc_extern Tryz.prog 157 _ (ReflectliteValue.methodAny (ReflectliteValue.valueError "reflectlite.Value.Type" 0) (fun t _ _ _=>ReflectliteType.toType t)) Tryz.func157 (by kernel_rfl) (by kernel_rfl) (by kernel_rfl) (by kernel_rfl);have M:=@run_callFunc_extern Tryz.prog 158 _ (ReflectliteValue.method (ReflectliteValue.valueError "reflectlite.Value.IsNil" 0) ReflectliteValue.isNil) Tryz.func158 (by kernel_rfl) (by kernel_rfl) (by kernel_rfl) (by kernel_rfl);have z:=@run_callFunc_extern Tryz.prog 428 _ (ReflectliteType.abiMethod fun t=>do pure (.int .u8 (<- Rtype.kind t))) Tryz.func428 (by kernel_rfl) (by kernel_rfl) (by kernel_rfl) (by kernel_rfl)
 have B:=@run_callFunc_extern Tryz.prog 446 _ (ReflectliteType.method ReflectliteType.elem) Tryz.func446 (by kernel_rfl) (by kernel_rfl) (by kernel_rfl) (by kernel_rfl);have C:=@run_callFunc_extern Tryz.prog 447 _ (ReflectliteType.relation "Implements" ReflectliteType.implements_) Tryz.func447 (by kernel_rfl) (by kernel_rfl) (by kernel_rfl) (by kernel_rfl);have v:=@run_callFunc_extern Tryz.prog 154 _ ReflectliteType.typeOf Tryz.func154 (by kernel_rfl) (by kernel_rfl) (by kernel_rfl) (by kernel_rfl);have A:=@run_callFunc_extern Tryz.prog 444 _ (ReflectliteType.relation "AssignableTo" ReflectliteType.assignableTo) Tryz.func444 (by kernel_rfl) (by kernel_rfl) (by kernel_rfl) (by kernel_rfl)
 have x:=@run_callFunc_extern Tryz.prog 203 _ (ReflectliteValue.method (ReflectliteValue.valueError "reflectlite.Value.Elem" 0) ReflectliteValue.elem) Tryz.func203 (by kernel_rfl) (by kernel_rfl) (by kernel_rfl) (by kernel_rfl);have y:=@run_callFunc_extern Tryz.prog 204 _ ReflectliteValue.set Tryz.func204 (by kernel_rfl) (by kernel_rfl) (by kernel_rfl) (by kernel_rfl);have W:=asTOF;have Q:=asMAF;have F:=asA1F;have X:=asV1F;have I:=asV2F;have J:=asT2F;have U:=asMKF;have R:=asMEF;have S:=asMIF;have P:=asK2F;have O:=asK1F;have G:=asE2F;have N:=asI1F
 have j:T<w.heap.size:=by
  rcases Nat.lt_or_ge T w.heap.size with h | h
  ·exact h
  ·rw[Array.getElem?_eq_none h] at m;cases m
 have k:3<w.heap.size:=World.block_lt_of_cell? _ _ r;have V:=asN2F ⟨w.heap.size,0,none⟩ ⟨T,0,none⟩ ((w.alloc (.cells #[.pointer (some ⟨T,0,none⟩)] 384)).alloc (.cells #[.pointer (some ⟨11,384,none⟩),.pointer (some ⟨w.heap.size,0,none⟩),.int .u64 150] 205)) (by simp)
 have D:((w.alloc (.cells #[.pointer (some ⟨T,0,none⟩)] 384)).alloc (.cells #[.pointer (some ⟨11,384,none⟩),.pointer (some ⟨w.heap.size,0,none⟩),.int .u64 150] 205)).cell? ⟨3,0,none⟩=some (.iface 260 (.agg #[.pointer (some ⟨11,113,none⟩)])):=by
  rw[World.cell?_alloc_lt _ _ ⟨3,0,none⟩ (by first | (simp;done) | (simp;omega)),World.cell?_alloc_lt _ _ ⟨3,0,none⟩ k];exact r
 have H:=asEVF ⟨w.heap.size,0,none⟩ ⟨T,0,none⟩ (((w.alloc (.cells #[.pointer (some ⟨T,0,none⟩)] 384)).alloc (.cells #[.pointer (some ⟨11,384,none⟩),.pointer (some ⟨w.heap.size,0,none⟩),.int .u64 150] 205)).alloc (.cells #[.pointer (some ⟨11,384,none⟩),.pointer (some ⟨w.heap.size,0,none⟩),.int .u64 150] 205)) (by rw[World.cell?_alloc_lt _ _ ⟨w.heap.size,0,none⟩ (by simp;omega)];simp)
 obtain⟨e,l⟩:∃ e,e=(((w.alloc (.cells #[.pointer (some ⟨T,0,none⟩)] 384)).alloc (.cells #[.pointer (some ⟨11,384,none⟩),.pointer (some ⟨w.heap.size,0,none⟩),.int .u64 150] 205)).alloc (.cells #[.pointer (some ⟨11,384,none⟩),.pointer (some ⟨w.heap.size,0,none⟩),.int .u64 150] 205)):=⟨_,rfl⟩
 have d:e.heap.size=w.heap.size+1+1+1:=by rw[l];simp
 have b:Below w.heap.size w e:=by
  rw[l];exact(((Below.refl _ _).alloc (Nat.le_refl _) _).alloc (by simp) _).alloc (by simp;omega) _
 have a:(e.alloc (.cells #[.int .i64 c,.int .i64 p] 334)).heap[T]?=some (.cells #[n,q] 334 (0,0)):=by
  rw[Go.heap_alloc_old _ _ (by omega),b.block T j];exact m
 have st:=asSetF T (w.heap.size+1+1+1) c p n q (e.alloc (.cells #[.int .i64 c,.int .i64 p] 334)) (by rw[<-d];unfold World.cell?;rw[heap_alloc_new];rfl) (by rw[<-d];unfold World.cell?;rw[heap_alloc_new];rfl) a;have f:Hid (Below w.heap.size w (e.alloc (.cells #[.int .i64 c,.int .i64 p] 334))):=b.alloc (by omega) _;have g:=Hid.mk a;rw[l] at st f g;clear b d a m j k r l
 go_enter Tryz.func91,Tryz.ntmps91
 go_wp2
 refine wp_loop_rounds 1 ?_;rw[rounds_succ]
 go_wp2
 go_ret;exact⟨rfl,_,f.o,g.o,rfl⟩
theorem fourC {c:World}{g:Nat}{a b:Value}(h:c.heap[g]?=some (.cells #[a,b] 334 (0,0))):c.cell? ⟨g,0,none⟩=some a/\c.cell? ⟨g,1,none⟩=some b/\c.frozen? ⟨g,0,none⟩=false/\c.frozen? ⟨g,1,none⟩=false:=by
 refine⟨?_,?_,?_,?_⟩
 ·unfold World.cell?;rw[h];rfl
 ·unfold World.cell?;rw[h];rfl
 ·unfold World.frozen?;rw[h];rfl
 ·unfold World.frozen?;rw[h];rfl
theorem faultOf_any (c p:Int)(w:World)(r:w.cell? ⟨3,0,none⟩=some (.iface 260 (.agg #[.pointer (some ⟨11,113,none⟩)]))) :
  Calls Tryz.prog 262 #[.iface 334 (.agg #[.int .i64 c,.int .i64 p])] w fun e D=>e = .returned (.agg #[.int .i64 c,.int .i64 p])/\Below w.heap.size w D:=by
 have j:3<w.heap.size:=World.block_lt_of_cell? _ _ r;have C:=run_typeAssert_hasB (P:=Tryz.prog) (asserted:=113) (t:=334) Tryz.underlying113 (by kernel_rfl) (.agg #[.int .i64 c,.int .i64 p]) 20
 obtain⟨b,g⟩:∃ b,b=(w.alloc (.cells #[.int .i64 0,.int .i64 0] 334)).alloc (.cells #[.int .i64 0,.int .i64 0] 334):=⟨_,rfl⟩
 have a:Below w.heap.size w b:=by rw[g];exact((Below.refl _ _).alloc (Nat.le_refl _) _).alloc (by simp) _
 have s:b.heap.size=w.heap.size+1+1:=by rw[g];simp
 have i:b.heap[w.heap.size+1]?=some (.cells #[.int .i64 0,.int .i64 0] 334 (0,0)):=by
  have:=heap_alloc_new (w.alloc (.cells #[.int .i64 0,.int .i64 0] 334)) (.cells #[.int .i64 0,.int .i64 0] 334);rw[<-g] at this
  simpa using this
 have h:b.heap[w.heap.size]?=some (.cells #[.int .i64 0,.int .i64 0] 334 (0,0)):=by
  rw[g,Go.heap_alloc_old _ _ (by simp)];exact heap_alloc_new _ _
 have u:Calls Tryz.prog 91 #[.iface 334 (.agg #[.int .i64 c,.int .i64 p]),.iface 384 (.pointer (some ⟨w.heap.size+1,0,none⟩))] b fun e f=>e = .returned (.bool true)/\Hid (Below w.heap.size w f)/\w.heap.size<f.heap.size/\Hid (f.heap[w.heap.size]?=some (.cells #[.int .i64 0,.int .i64 0] 334 (0,0)))/\Hid (f.heap[w.heap.size+1]?=some (.cells #[.int .i64 c,.int .i64 p] 334 (0,0))):=by
  refine(as_hitF (w.heap.size+1) c p (.int .i64 0) (.int .i64 0) b ((a.cell (p:=⟨3,0,none⟩) j).trans r) i).mono ?_;rintro e f ⟨rfl,E,d,n,rfl⟩;have q:Below w.heap.size w E:=a.trans (d.mono a.size);refine⟨rfl,below_setRow q (by omega) _,?_,?_,setRow_heap _ _ _ _ _ _ n⟩
  ·have:=d.size;simp;omega
  ·show _=_
   rw[setRow_other _ _ _ _ (by omega),d.block _ (by omega)];exact h
 rw[g] at u;clear r j a s i h g
 go_enter Tryz.func262,Tryz.ntmps262
 go_wp2_with (go_at_call 91;refine u.mono ?_;rintro e f ⟨rfl,x,l,y,z⟩;obtain⟨F,G,_,_⟩:=fourC z.o;obtain⟨A,B,H,I⟩:=fourC y.o)
 have m:Below w.heap.size w ((f.setCell ⟨w.heap.size,0,none⟩ (.int .i64 c)).setCell ⟨w.heap.size,1,none⟩ (.int .i64 p)):=
  (x.o.trans (Below.of_grown (grown_setCell _ _ _) (Nat.le_of_lt l) (fun k e=>by cases e;exact Nat.le_refl _))).trans (Below.of_grown (grown_setCell _ _ _) (by simp;omega) (fun k e=>by cases e;exact Nat.le_refl _))
 exact bodyPost_ret (v:=.agg #[.int .i64 c,.int .i64 p]) (by simp[results,Tryz.results262,go_sem,A,B,l]) rfl ⟨rfl,m⟩
end
section
open Go Go.RowKit
structure Said (w w':World)(TB CB AB:Nat)(code at_:Int):Prop where
 os:w'.os=w.os
 tape:w'.tape=w.tape
 output:w'.output=w.output
 size:w.heap.size<=w'.heap.size
 block:∀ k,k<w.heap.size->k≠TB->k≠CB->k≠AB->w'.heap[k]?=w.heap[k]?
 toks:w'.cell? ⟨TB,0,none⟩=some (.slice none 0 0)
 code:w'.cell? ⟨CB,0,none⟩=some (.int .i64 code)
 at_:w'.cell? ⟨AB,0,none⟩=some (.int .i64 at_)
theorem lexD_panicking (n a d f:Nat)(tv L K:Value)(code c:Int)(w:World)(X:w.cell? ⟨3,0,none⟩=some (.iface 260 (.agg #[.pointer (some ⟨11,113,none⟩)])))
  (D:w.cell? ⟨a,0,none⟩=some tv) (C:w.cell? ⟨d,0,none⟩=some L) (A:w.cell? ⟨f,0,none⟩=some K) (P:w.frozen? ⟨a,0,none⟩=false) (O:w.frozen? ⟨d,0,none⟩=false) (N:w.frozen? ⟨f,0,none⟩=false) (T:d=a+1) (U:f=a+2) :
  CallsDIn Fence.wide n Tryz.prog 261 #[.pointer (some ⟨a,0,none⟩),.pointer (some ⟨d,0,none⟩),.pointer (some ⟨f,0,none⟩)] (.panicking ({ v:=.iface 334 (.agg #[.int .i64 code,.int .i64 c]),recovered:=false } :: [])) w fun e u' w'=>
   e = .returned (.tuple #[])/\u' = .panicking ({ v:=.iface 334 (.agg #[.int .i64 code,.int .i64 c]),recovered:=true } :: [])/\Said w w' a d f code c:=by
 have J:=faultOf_any code c w X
 refine callsDIn_of_wpSIn Tryz.func261 rfl trivial fun M cs hu=>?_
 apply wpSIn_seq
 apply wpSIn_region
 simp[wpOpsSIn,go_sem,recoverD,hu,Tryz.ntmps261,Exit.thenS]
 refine wpSIn_of_wpIn rfl ?_;refine wpIn_wide.2 ?_;simp only[Array.replicate_succ,Array.replicate_zero,List.push_toArray,List.nil_append,List.cons_append,List.append_toArray,List.setIfInBounds_toArray,List.set_cons_zero,List.set_cons_succ];go_wp2_with fail;refine J.mono ?_;rintro e r ⟨rfl,l⟩;have H:=World.block_lt_of_cell? _ _ D;have G:=World.block_lt_of_cell? _ _ C;have F:=World.block_lt_of_cell? _ _ A;have kT:=(l.cell H).trans D;have Z:=(l.cell G).trans C;have Y:=(l.cell F).trans A;have S:=(l.frozen H).trans P;have R:=(l.frozen G).trans O;have Q:=(l.frozen F).trans N;have E:=l.size
 have I:a≠r.heap.size:=by simp only at H;omega
 have nC:d≠r.heap.size:=by simp only at G;omega
 have nA:f≠r.heap.size:=by simp only at F;omega
 have s:Hid (Below w.heap.size w r):=l
 have HH:Hid (d=a+1/\f=a+2):=⟨T,U⟩
 have n1:a≠d:=by omega
 have n2:a≠f:=by omega
 have n3:d≠f:=by omega
 clear l D C A P O N J T U X;go_wp2_with fail
 obtain⟨g,t⟩:∃ g,g=r.heap.size:=⟨_,rfl⟩
 obtain⟨b,i⟩:∃ b,b=r.alloc (Obj.cells #[Value.int IntKind.i64 code,Value.int IntKind.i64 c] 334):=⟨_,rfl⟩
 have q:=heap_alloc_new r (Obj.cells #[Value.int IntKind.i64 code,Value.int IntKind.i64 c] 334)
 have m:Hid (Below w.heap.size w b):=by show Below _ _ _;rw[i];exact s.o.alloc s.o.size _
 have x0:b.cell? ⟨g,0,none⟩=some (.int .i64 code):=by rw[i,t];exact cell_of_row _ _ 0 _ _ _ q
 have x1:b.cell? ⟨g,1,none⟩=some (.int .i64 c):=by rw[i,t];exact cell_of_row _ _ 1 _ _ _ q
 have yT:b.cell? ⟨a,0,none⟩=some tv:=by rw[i];exact Lib.cell?_alloc_marked _ kT
 have yC:b.cell? ⟨d,0,none⟩=some L:=by rw[i];exact Lib.cell?_alloc_marked _ Z
 have yA:b.cell? ⟨f,0,none⟩=some K:=by rw[i];exact Lib.cell?_alloc_marked _ Y
 have y:∀ B:Nat,B<r.heap.size->b.frozen? ⟨B,0,none⟩=r.frozen? ⟨B,0,none⟩:=fun B hB=>by rw[i];exact((Below.refl r.heap.size r).alloc (Nat.le_refl _) _).frozen (p:=⟨B,0,none⟩) hB
 have zT:b.frozen? ⟨a,0,none⟩=false:=(y a (by omega)).trans S;have zC:b.frozen? ⟨d,0,none⟩=false:=(y d (by omega)).trans R;have zA:b.frozen? ⟨f,0,none⟩=false:=(y f (by omega)).trans Q;rw[<-t,<-i];rw[<-t] at I nC nA
 have h3:Hid (b.heap.size=g+1):=by show _=_;rw[i,t];simp
 clear i kT Z Y S R Q y q E t s
 obtain⟨V1,z⟩:∃ V,V=b.setCell ⟨a,0,none⟩ (.slice none 0 0):=⟨_,rfl⟩
 have j:∀ (W:World) (B u o:Nat) (v:Value),B≠u->(W.setCell ⟨B,0,none⟩ v).cell? ⟨u,o,none⟩=W.cell? ⟨u,o,none⟩:=fun W B u o v h=>World.cell?_setCell_far W ⟨B,0,none⟩ ⟨u,o,none⟩ v h
 have s1:=(j b a d 0 (.slice none 0 0) n1).trans yC;have s2:=(j b a f 0 (.slice none 0 0) n2).trans yA;have s3:=(j b a g 0 (.slice none 0 0) I).trans x0;have s4:=(j b a g 1 (.slice none 0 0) I).trans x1;have s5:=(j (b.setCell ⟨a,0,none⟩ (.slice none 0 0)) d f 0 (.int .i64 code) n3).trans s2;have s6:=(j (b.setCell ⟨a,0,none⟩ (.slice none 0 0)) d g 1 (.int .i64 code) nC).trans s4
 have x:Hid (Said w (((b.setCell ⟨a,0,none⟩ (.slice none 0 0)).setCell ⟨d,0,none⟩ (.int .i64 code)).setCell ⟨f,0,none⟩ (.int .i64 c)).drew a d f code c):=by
  refine⟨?_,?_,?_,by have:=m.o.size;simp;omega,fun k hk k1 k2 k3=>?_,?_,?_,?_⟩
  ·exact((grown_setCell (((b.setCell ⟨a,0,none⟩ (.slice none 0 0)).setCell ⟨d,0,none⟩ (.int .i64 code))) ⟨f,0,none⟩ (.int .i64 c)).os.trans ((grown_setCell (b.setCell ⟨a,0,none⟩ (.slice none 0 0)) ⟨d,0,none⟩ (.int .i64 code)).os.trans (grown_setCell b ⟨a,0,none⟩ (.slice none 0 0)).os)).trans m.o.os
  ·exact((grown_setCell (((b.setCell ⟨a,0,none⟩ (.slice none 0 0)).setCell ⟨d,0,none⟩ (.int .i64 code))) ⟨f,0,none⟩ (.int .i64 c)).tape.trans ((grown_setCell (b.setCell ⟨a,0,none⟩ (.slice none 0 0)) ⟨d,0,none⟩ (.int .i64 code)).tape.trans (grown_setCell b ⟨a,0,none⟩ (.slice none 0 0)).tape)).trans m.o.tape
  ·exact((grown_setCell (((b.setCell ⟨a,0,none⟩ (.slice none 0 0)).setCell ⟨d,0,none⟩ (.int .i64 code))) ⟨f,0,none⟩ (.int .i64 c)).output.trans ((grown_setCell (b.setCell ⟨a,0,none⟩ (.slice none 0 0)) ⟨d,0,none⟩ (.int .i64 code)).output.trans (grown_setCell b ⟨a,0,none⟩ (.slice none 0 0)).output)).trans m.o.output
  ·show(((b.setCell ⟨a,0,none⟩ (.slice none 0 0)).setCell ⟨d,0,none⟩ (.int .i64 code)).setCell ⟨f,0,none⟩ (.int .i64 c)).heap[k]?=_
   rw[heap_setCell_other _ ⟨f,0,none⟩ k _ (fun e=>k3 (by simpa using e)),heap_setCell_other _ ⟨d,0,none⟩ k _ (fun e=>k2 (by simpa using e)),heap_setCell_other _ ⟨a,0,none⟩ k _ (fun e=>k1 (by simpa using e))];exact m.o.block k hk
  ·show(((b.setCell ⟨a,0,none⟩ (.slice none 0 0)).setCell ⟨d,0,none⟩ (.int .i64 code)).setCell ⟨f,0,none⟩ (.int .i64 c)).cell? _=_
   rw[j _ f a 0 _ (Ne.symm n2),j _ d a 0 _ (Ne.symm n1)];exact World.cell?_setCell_same' _ _ _ (by rw[yT];rfl)
  ·show(((b.setCell ⟨a,0,none⟩ (.slice none 0 0)).setCell ⟨d,0,none⟩ (.int .i64 code)).setCell ⟨f,0,none⟩ (.int .i64 c)).cell? _=_
   rw[j _ f d 0 _ (Ne.symm n3)];exact World.cell?_setCell_same' _ _ _ (by rw[s1];rfl)
  ·show(((b.setCell ⟨a,0,none⟩ (.slice none 0 0)).setCell ⟨d,0,none⟩ (.int .i64 code)).setCell ⟨f,0,none⟩ (.int .i64 c)).cell? _=_
   exact World.cell?_setCell_same' _ _ _ (by rw[s5];rfl)
 clear j z
 go_region
 exact⟨rfl,_,rfl,.tuple #[],by simp[results,Tryz.results261,go_sem],rfl,rfl,x.o⟩
theorem lexD_idle (n:Nat)(a b c:Value)(w:World) :
  CallsDIn Fence.wide n Tryz.prog 261 #[a,b,c] .returning w fun e g h=>e = .returned (.tuple #[])/\g = .returning/\h=w:=by
 refine callsDIn_of_wpSIn Tryz.func261 rfl trivial fun d i f=>?_
 apply wpSIn_seq
 apply wpSIn_region
 simp[wpOpsSIn,go_sem,recoverD,f,Tryz.ntmps261,Exit.thenS]
 refine wpSIn_of_wpIn rfl ?_;refine wpIn_wide.2 ?_;simp only[Array.replicate_succ,Array.replicate_zero,List.push_toArray,List.nil_append,List.cons_append,List.append_toArray,List.setIfInBounds_toArray,List.set_cons_zero,List.set_cons_succ];go_wp2_with fail
 cases d
 simp_all[bodyPostS,results,Tryz.results261]
end
end Go.Proofs.YtnfnddnffoigfaaGreatDoor
