/- Texts of Scan10, Scan11, LxP, Lx6. Own work of the verifier. -/
import Derived.Test.YtlkhmmoimplokaaGreatDoorUqau
import Derived.Lib.BytesEntry
namespace Go.Proofs.YtlkhmmoimplokaaGreatDoor
set_option maxHeartbeats 6000000
set_option linter.unusedVariables false
set_option maxRecDepth 100000
section
open Go Go.RowKit
set_option linter.unusedSimpArgs false
theorem Hid.mk {p:Prop}(h:p):Hid p:=h
theorem grown_on {w a:World}{S:Nat}(h:Below w.heap.size w (w.alloc tokO))(k:(w.alloc tokO).grownBy a (some S)):w.grownBy a (some S):=(grown_of_below h _).trans k
theorem size_lt {w a:World}{S q:Nat}(M:Moved (w.alloc tokO) a S q):w.heap.size<a.heap.size:=by have:=M.grown.size;simp only[World.size_alloc] at this;omega
theorem blk_kept {w a:World}{S q:Nat}(b:S<w.heap.size)(M:Moved (w.alloc tokO) a S q):a.heap[w.heap.size]?=some tokO:=
 (M.grown.block w.heap.size (by simp) (by simp;omega)).trans (by show(w.heap.push tokO)[w.heap.size]?=_;simp)
theorem next_end {w l:World}{S b a m i:Nat}{n o:Int}{p:Option Addr}{u:List Int}(z:Below w.heap.size w (w.alloc tokO))(A:S<w.heap.size)(M:Moved (w.alloc tokO) l S (b+a))
  (t:OwnS l (w.alloc tokO).heap.size p m i u) (r:w.heap.size<l.heap.size) :
  TokOut w S b (.ok (n,a,u,o)) (.returned (tokV n b a p m i o)) (l.setCells w.heap.size 0 [.int .i64 n,.int .i64 b,.int .i64 a,.slice p m i,.int .i64 o]):=by
 have s:=grown_set5 l w.heap.size (.int .i64 n) (.int .i64 b) (.int .i64 a) (.slice p m i) (.int .i64 o)
 have f:∀ g,p=some ⟨g,0,none⟩->w.heap.size+1<=g:=fun g e=>by
  rcases t.form with ⟨j,_⟩ | ⟨B,j,h,_⟩
  ·rw[j] at e;cases e
  ·rw[j] at e;cases e;simpa using h
 have d:=t.kept s (fun g e j=>by have:=f g e;simp only[Option.some.injEq] at j;omega);refine⟨p,m,i,rfl,⟨d.1,d.2.1,d.2.2.imp id fun ⟨g,c,q,v,x,y⟩=>⟨g,c,q,v,by simp at x;omega,y⟩⟩,?_⟩;exact Moved.onto z M (Below.of_grown s (Nat.le_of_lt r) (fun k e=>by cases e;exact Nat.le_refl _)) A
theorem single_out {w b:World}{S a:Nat}{kind x:Int}{g:List Int}{e:Ending}(i:x=g.getD a 0)(h:∃ f d c,e = .returned (tokV kind a 1 f d c 0)/\OwnS b w.heap.size f d c [g.getD a 0]/\Moved w b S (a+1)):TokOut w S a (.ok (kind,1,[x],0)) e b:=by
 rw[i];exact h
theorem tok_drew {W d:World}{S a k:Nat}{r:TokR}{e:Ending}(f:S<W.heap.size)(h:TokOut (W.drewN k) S a r e d):TokOut W S a r e d:=by
 have b:Below W.heap.size W (W.drewN k):=below_drewN (Below.refl _ _) k
 cases r with
 | error code=>exact⟨h.1,(grown_of_below b _).trans h.2⟩
 | ok r=>
   obtain⟨m,l,q,o⟩:=r;obtain⟨p,n,c,g,j,i⟩:=h;exact⟨p,n,c,g,j,Moved.onto b i (Below.refl _ _) f⟩
def callI (ka la ll:Int)(pos:Nat):Bool:=decide (ka=1/\la+ll=pos)
theorem behind_any (S b:Nat)(f c d:Int)(w:World)(k:w.cell? ⟨S,1,none⟩=some (.int .i64 b))(l:w.cell? ⟨S,2,none⟩=some (.int .i64 f))(n:w.cell? ⟨S,3,none⟩=some (.int .i64 c))(o:w.cell? ⟨S,4,none⟩=some (.int .i64 d))
  (g:0<=c/\c<=100000) (h:0<=d/\d<=100000) (p:b<=100000) :
  Calls Tryz.prog 192 #[.pointer (some ⟨S,0,none⟩)] w fun e j=>e = .returned (.bool (callI f c d b))/\∃ m,j=w.drewN m:=by
 by_cases a:f=1
 ·subst a
  have i:IntKind.i64.wrap (c+d)=c+d:=by rw[IntKind.wrap_i64];omega
  have e:callI 1 c d b=(c+d == (b:Int)):=by unfold callI;rw[Bool.eq_iff_iff];simp
  rw[e];clear e
  go_enter Tryz.func192,Tryz.ntmps192
  go_wp2
  all_goals (try go_quiet (fail))
  all_goals (try go_wp2)
  go_ret;exact⟨rfl,_,rfl⟩
 ·have e:callI f c d b=false:=by unfold callI;rw[decide_eq_false_iff_not];omega
  have t:(f == 1)=false:=by simpa using a
  rw[e];clear e a
  go_enter Tryz.func192,Tryz.ntmps192
  go_wp2
  all_goals (try go_quiet (fail))
  all_goals (try go_wp2)
  go_ret;exact⟨rfl,_,rfl⟩
theorem isOf7_all:(List.range 257).all (fun c=>(!isOfB ((c:Int)-1) 1 || isOfB ((c:Int)-1) 7) && (!isOfB ((c:Int)-1) 2 || isOfB ((c:Int)-1) 7))=true:=by decide +kernel
theorem isOf7 {b:Int}(c : -1<=b)(d:b<256)(h:isOfB b 1=true∨isOfB b 2=true):isOfB b 7=true:=by
 have a:=List.all_eq_true.1 isOf7_all (b+1).toNat (by simp;omega);rw[show(((b+1).toNat:Nat):Int)-1=b by omega] at a;simp only[Bool.and_eq_true,Bool.or_eq_true,Bool.not_eq_true'] at a
 rcases h with h | h
 ·rcases a.1 with h' | h'
  ·rw[h] at h';cases h'
  ·exact h'
 ·rcases a.2 with h' | h'
  ·rw[h] at h';cases h'
  ·exact h'
def runR (xs:List Int)(pos:Nat)(kind k:Int):TokR:=if 100<runI k xs pos then .error 3 else .ok (kind,runI k xs pos,(xs.drop pos).take (runI k xs pos),0)
theorem taken_out {w f:World}{S a:Nat}{kind k:Int}{b:List Int}{e:Ending}(o:a<=b.length)(h:Taken w S kind a (runI k b a) ((b.drop a).take (runI k b a)) e f):TokOut w S a (runR b a kind k) e f:=by
 have d:((b.drop a).take (runI k b a)).length=runI k b a:=by have:=runI_le k b a o;simp;omega
 unfold runR
 rcases h with ⟨h,p,n,c,g,m,l⟩ | ⟨h,i,j⟩
 ·rw[d] at h;rw[if_neg (by omega)];exact⟨p,n,c,g,m,l⟩
 ·rw[d] at h;rw[if_pos h];exact⟨i,j⟩
def nextF (x:Int)(call:Bool)(xs:List Int)(pos:Nat):TokR:=
 if isOfB x 1=true then runR xs pos 1 7 else if isOfB x 2=true then runR xs pos 2 7 else if isOfB x 4=true then numR xs pos
 else if x=46/\endsI (byteI xs (pos+1))=true then .ok (7,1,[],0) else if isOfB x 8=true then runR xs pos 1 8 else if isOfB x 32=true then .ok (1,1,[x],0)
 else if x=39 then quoR xs 1 pos else if x=34 then quoR xs 4 pos else if x=40/\call=true then .ok (6,1,[x],0) else if isOfB x 64=true then .ok (5,1,[x],0) else .error 2
def nextR (xs:List Int)(call:Bool)(pos:Nat):TokR:=nextF (byteI xs pos) call xs pos
theorem nextS_any (S b n c a:Nat)(B u y:Int)(j:List Int)(w:World)(E:Env w S b n c a j)(hp:a<j.length)
  (h2:w.cell? ⟨S,2,none⟩=some (.int .i64 B)) (h3:w.cell? ⟨S,3,none⟩=some (.int .i64 u)) (h4:w.cell? ⟨S,4,none⟩=some (.int .i64 y)) (e3:0<=u/\u<=100000) (e4:0<=y/\y<=100000) :
  Calls Tryz.prog 152 #[.pointer (some ⟨S,0,none⟩)] w fun e k=>TokOut w S a (nextR j (callI B u y a) a) e k:=by
 have d:Hid (Env (w.alloc tokO) S b n c a j):=E.alloc _;have h1:(w.alloc tokO).cell? ⟨S,1,none⟩=some (.int .i64 a):=(E.alloc tokO).at1;have h9:Hid ((w.alloc tokO).cell? ⟨S,2,none⟩=some (.int .i64 B)):=Lib.cell?_alloc_marked _ h2;have e1:Hid ((w.alloc tokO).cell? ⟨S,3,none⟩=some (.int .i64 u)):=Lib.cell?_alloc_marked _ h3;have e2:Hid ((w.alloc tokO).cell? ⟨S,4,none⟩=some (.int .i64 y)):=Lib.cell?_alloc_marked _ h4;have z:Hid (Below w.heap.size w (w.alloc tokO)):=(Below.refl _ _).alloc (Nat.le_refl _) _;have I:Hid (S<w.heap.size):=E.inH;have k2:n<=10000:=E.small
 have k1:a<n:=by rw[E.len];exact hp
 have HP:Hid (a<j.length):=hp;have hr:=byteI_rng E.bytes a
 obtain⟨x,ex⟩:∃ x,x=byteI j a:=⟨_,rfl⟩
 obtain⟨nd,en⟩:∃ nd,nd=endsI (byteI j (a+1)):=⟨_,rfl⟩
 obtain⟨cb,ec⟩:∃ cb,cb=callI B u y a:=⟨_,rfl⟩
 rw[<-ex] at hr
 have D:Hid (nextR j (callI B u y a) a=nextF x cb j a):=by show _=_;rw[ex,ec];rfl
 have H:Hid (byteI j a=x):=ex.symm;have HN:Hid (endsI (byteI j (a+1))=nd):=en.symm;have h8:Hid (callI B u y a=cb):=ec.symm
 have h5:Hid (x=j.getD a 0):=by show _=_;rw[ex,byteI_lt hp]
 clear E h2 h3 h4 ex en ec hp
 by_cases t1:isOfB x 1=true
 ·have l:Hid (nextR j (callI B u y a) a=runR j a 1 7):=by show _=_;rw[D.o];unfold nextF;rw[if_pos t1]
  have s:=(run_any S b n c a 1 7 j (w.alloc tokO) d.o.bytes d.o.len d.o.cap (by omega) HP.o (by rw[H.o];exact isOf7 hr.1 hr.2 (.inl t1)) d.o.src d.o.at1 (d.o.fz 1) d.o.inH d.o.row d.o.tab).mono (fun e k h=>taken_out (Nat.le_of_lt HP.o) h)
  cases q:runR j a 1 7 with
  | error code=>
    rw[q] at s;have C:Hid (nextR j (callI B u y a) a = .error code):=l.o.trans q;clear q D l
    go_enter Tryz.func152,Tryz.ntmps152
    go_wp2_with (first | (go_at_call 182;refine(byteAt_any S b n c j a _ d.o.bytes d.o.len (by have:=d.o.small;omega) (by omega) d.o.src d.o.row).mono ?_;rintro e k ⟨rfl,rfl⟩;rw[H.o]) | (go_at_call 183;refine(isOf_any _ _ _ (by omega) (by omega) d.o.tab).mono ?_;rintro e k ⟨rfl,rfl⟩) | (go_at_call 186;refine s.mono ?_;rintro e t ⟨F,G⟩;cases F));refine⟨rfl,tokOut_of ?_ C.o⟩;exact⟨rfl,grown_on z.o G⟩
  | ok r=>
    obtain⟨V,A,ys,W⟩:=r;rw[q] at s;have C:Hid (nextR j (callI B u y a) a = .ok (V,A,ys,W)):=l.o.trans q;clear q D l
    go_enter Tryz.func152,Tryz.ntmps152
    go_wp2_with (first | (go_at_call 182;refine(byteAt_any S b n c j a _ d.o.bytes d.o.len (by have:=d.o.small;omega) (by omega) d.o.src d.o.row).mono ?_;rintro e k ⟨rfl,rfl⟩;rw[H.o]) | (go_at_call 183;refine(isOf_any _ _ _ (by omega) (by omega) d.o.tab).mono ?_;rintro e k ⟨rfl,rfl⟩) | (go_at_call 186;refine s.mono ?_;rintro e t ⟨p,m,L,rfl,i,M⟩;have J:=Hid.mk M;have K:=Hid.mk i;have g:=size_lt M;have f:=blk_kept I.o M;obtain⟨N,O,P,Q,R⟩:=five t w.heap.size f;obtain⟨g0,g1,g2,g3,g4⟩:=fiveF t w.heap.size f;clear M f i));refine bodyPost_ret (v:=tokV V a A p m L W) (by simp[results,Tryz.results152,go_sem,N,O,P,Q,R,g]) rfl (tokOut_of ?_ C.o);exact next_end z.o I.o J.o K.o g
 have s1:isOfB x 1=false:=by simpa using t1
 by_cases t2:isOfB x 2=true
 ·have l:Hid (nextR j (callI B u y a) a=runR j a 2 7):=by show _=_;rw[D.o];unfold nextF;rw[if_neg t1,if_pos t2]
  have s:=(run_any S b n c a 2 7 j (w.alloc tokO) d.o.bytes d.o.len d.o.cap (by omega) HP.o (by rw[H.o];exact isOf7 hr.1 hr.2 (.inr t2)) d.o.src d.o.at1 (d.o.fz 1) d.o.inH d.o.row d.o.tab).mono (fun e k h=>taken_out (Nat.le_of_lt HP.o) h)
  cases q:runR j a 2 7 with
  | error code=>
    rw[q] at s;have C:Hid (nextR j (callI B u y a) a = .error code):=l.o.trans q;clear q D l
    go_enter Tryz.func152,Tryz.ntmps152
    go_wp2_with (first | (go_at_call 182;refine(byteAt_any S b n c j a _ d.o.bytes d.o.len (by have:=d.o.small;omega) (by omega) d.o.src d.o.row).mono ?_;rintro e k ⟨rfl,rfl⟩;rw[H.o]) | (go_at_call 183;refine(isOf_any _ _ _ (by omega) (by omega) d.o.tab).mono ?_;rintro e k ⟨rfl,rfl⟩) | (go_at_call 186;refine s.mono ?_;rintro e t ⟨F,G⟩;cases F));refine⟨rfl,tokOut_of ?_ C.o⟩;exact⟨rfl,grown_on z.o G⟩
  | ok r=>
    obtain⟨V,A,ys,W⟩:=r;rw[q] at s;have C:Hid (nextR j (callI B u y a) a = .ok (V,A,ys,W)):=l.o.trans q;clear q D l
    go_enter Tryz.func152,Tryz.ntmps152
    go_wp2_with (first | (go_at_call 182;refine(byteAt_any S b n c j a _ d.o.bytes d.o.len (by have:=d.o.small;omega) (by omega) d.o.src d.o.row).mono ?_;rintro e k ⟨rfl,rfl⟩;rw[H.o]) | (go_at_call 183;refine(isOf_any _ _ _ (by omega) (by omega) d.o.tab).mono ?_;rintro e k ⟨rfl,rfl⟩) | (go_at_call 186;refine s.mono ?_;rintro e t ⟨p,m,L,rfl,i,M⟩;have J:=Hid.mk M;have K:=Hid.mk i;have g:=size_lt M;have f:=blk_kept I.o M;obtain⟨N,O,P,Q,R⟩:=five t w.heap.size f;obtain⟨g0,g1,g2,g3,g4⟩:=fiveF t w.heap.size f;clear M f i));refine bodyPost_ret (v:=tokV V a A p m L W) (by simp[results,Tryz.results152,go_sem,N,O,P,Q,R,g]) rfl (tokOut_of ?_ C.o);exact next_end z.o I.o J.o K.o g
 have s2:isOfB x 2=false:=by simpa using t2
 by_cases t3:isOfB x 4=true
 ·have l:Hid (nextR j (callI B u y a) a=numR j a):=by show _=_;rw[D.o];unfold nextF;rw[if_neg t1,if_neg t2,if_pos t3]
  have s:=number_any S b n c a j (w.alloc tokO) d.o (by omega)
  cases q:numR j a with
  | error code=>
    rw[q] at s;have C:Hid (nextR j (callI B u y a) a = .error code):=l.o.trans q;clear q D l
    go_enter Tryz.func152,Tryz.ntmps152
    go_wp2_with (first | (go_at_call 182;refine(byteAt_any S b n c j a _ d.o.bytes d.o.len (by have:=d.o.small;omega) (by omega) d.o.src d.o.row).mono ?_;rintro e k ⟨rfl,rfl⟩;rw[H.o]) | (go_at_call 183;refine(isOf_any _ _ _ (by omega) (by omega) d.o.tab).mono ?_;rintro e k ⟨rfl,rfl⟩) | (go_at_call 187;refine s.mono ?_;rintro e t ⟨F,G⟩;cases F));refine⟨rfl,tokOut_of ?_ C.o⟩;exact⟨rfl,grown_on z.o G⟩
  | ok r=>
    obtain⟨V,A,ys,W⟩:=r;rw[q] at s;have C:Hid (nextR j (callI B u y a) a = .ok (V,A,ys,W)):=l.o.trans q;clear q D l
    go_enter Tryz.func152,Tryz.ntmps152
    go_wp2_with (first | (go_at_call 182;refine(byteAt_any S b n c j a _ d.o.bytes d.o.len (by have:=d.o.small;omega) (by omega) d.o.src d.o.row).mono ?_;rintro e k ⟨rfl,rfl⟩;rw[H.o]) | (go_at_call 183;refine(isOf_any _ _ _ (by omega) (by omega) d.o.tab).mono ?_;rintro e k ⟨rfl,rfl⟩) | (go_at_call 187;refine s.mono ?_;rintro e t ⟨p,m,L,rfl,i,M⟩;have J:=Hid.mk M;have K:=Hid.mk i;have g:=size_lt M;have f:=blk_kept I.o M;obtain⟨N,O,P,Q,R⟩:=five t w.heap.size f;obtain⟨g0,g1,g2,g3,g4⟩:=fiveF t w.heap.size f;clear M f i));refine bodyPost_ret (v:=tokV V a A p m L W) (by simp[results,Tryz.results152,go_sem,N,O,P,Q,R,g]) rfl (tokOut_of ?_ C.o);exact next_end z.o I.o J.o K.o g
 have s3:isOfB x 4=false:=by simpa using t3
 by_cases U:x=46
 ·subst U
  cases nd
  ·have l:Hid (nextR j (callI B u y a) a=runR j a 1 8):=by show _=_;rw[D.o];unfold nextF;rw[if_neg t1,if_neg t2,if_neg t3,HN.o,if_neg (by simp),if_pos (by decide +kernel)]
   have s:=(run_any S b n c a 1 8 j (w.alloc tokO) d.o.bytes d.o.len d.o.cap (by omega) HP.o (by rw[H.o];exact(by decide +kernel)) d.o.src d.o.at1 (d.o.fz 1) d.o.inH d.o.row d.o.tab).mono (fun e k h=>taken_out (Nat.le_of_lt HP.o) h)
   have s8:isOfB 46 8=true:=by decide +kernel
   cases q:runR j a 1 8 with
   | error code=>
     rw[q] at s;have C:Hid (nextR j (callI B u y a) a = .error code):=l.o.trans q;clear q D l
     go_enter Tryz.func152,Tryz.ntmps152
     go_wp2_with (first | (go_at_call 182;refine(byteAt_any S b n c j a _ d.o.bytes d.o.len (by have:=d.o.small;omega) (by omega) d.o.src d.o.row).mono ?_;rintro e k ⟨rfl,rfl⟩;rw[H.o]) | (go_at_call 183;refine(isOf_any _ _ _ (by omega) (by omega) d.o.tab).mono ?_;rintro e k ⟨rfl,rfl⟩) | (go_at_call 188;refine(endsBehind_any S b n c j (a+1) _ d.o.bytes d.o.len (by have:=d.o.small;omega) (by omega) d.o.src d.o.row d.o.tab).mono ?_;rintro e k ⟨rfl,rfl⟩;rw[HN.o]) | (go_at_call 186;refine(s).mono ?_;rintro e t ⟨F,G⟩;cases F));refine⟨rfl,tokOut_of ?_ C.o⟩;exact⟨rfl,grown_on z.o G⟩
   | ok r=>
     obtain⟨V,A,ys,W⟩:=r;rw[q] at s;have C:Hid (nextR j (callI B u y a) a = .ok (V,A,ys,W)):=l.o.trans q;clear q D l
     go_enter Tryz.func152,Tryz.ntmps152
     go_wp2_with (first | (go_at_call 182;refine(byteAt_any S b n c j a _ d.o.bytes d.o.len (by have:=d.o.small;omega) (by omega) d.o.src d.o.row).mono ?_;rintro e k ⟨rfl,rfl⟩;rw[H.o]) | (go_at_call 183;refine(isOf_any _ _ _ (by omega) (by omega) d.o.tab).mono ?_;rintro e k ⟨rfl,rfl⟩) | (go_at_call 188;refine(endsBehind_any S b n c j (a+1) _ d.o.bytes d.o.len (by have:=d.o.small;omega) (by omega) d.o.src d.o.row d.o.tab).mono ?_;rintro e k ⟨rfl,rfl⟩;rw[HN.o]) | (go_at_call 186;refine(s).mono ?_;rintro e t ⟨p,m,L,rfl,i,M⟩;have J:=Hid.mk M;have K:=Hid.mk i;have g:=size_lt M;have f:=blk_kept I.o M;obtain⟨N,O,P,Q,R⟩:=five t w.heap.size f;obtain⟨g0,g1,g2,g3,g4⟩:=fiveF t w.heap.size f;clear M f i))
     refine bodyPost_ret (v:=tokV V a A p m L W) (by simp[results,Tryz.results152,go_sem,N,O,P,Q,R,g]) rfl (tokOut_of ?_ C.o);exact next_end z.o I.o J.o K.o g
  ·have l:Hid (nextR j (callI B u y a) a = .ok (7,1,[],0)):=by show _=_;rw[D.o];unfold nextF;rw[if_neg t1,if_neg t2,if_neg t3,HN.o,if_pos (by simp)]
   have s:Calls Tryz.prog _ _ _ (fun e k=>TokOut (w.alloc tokO) S a (.ok (7,1,[],0)) e k):=(take_fits S a 7 (a+1) none 0 0 (w.alloc tokO) d.o.at1 (d.o.fz 1) d.o.inH (by decide) (by omega) (by omega)).mono (fun e k ⟨he,hm⟩=>⟨none,0,0,by rw[he,show((a+1:Nat):Int)-a=((1:Nat):Int) by omega],OwnS.nil _ _,hm⟩);have C:Hid (nextR j (callI B u y a) a = .ok (7,1,[],0)):=l;clear D l
   go_enter Tryz.func152,Tryz.ntmps152
   go_wp2_with (first | (go_at_call 182;refine(byteAt_any S b n c j a _ d.o.bytes d.o.len (by have:=d.o.small;omega) (by omega) d.o.src d.o.row).mono ?_;rintro e k ⟨rfl,rfl⟩;rw[H.o]) | (go_at_call 183;refine(isOf_any _ _ _ (by omega) (by omega) d.o.tab).mono ?_;rintro e k ⟨rfl,rfl⟩) | (go_at_call 188;refine(endsBehind_any S b n c j (a+1) _ d.o.bytes d.o.len (by have:=d.o.small;omega) (by omega) d.o.src d.o.row d.o.tab).mono ?_;rintro e k ⟨rfl,rfl⟩;rw[HN.o]) | (go_at_call 189;refine(s).mono ?_;rintro e t ⟨p,m,L,rfl,i,M⟩;have J:=Hid.mk M;have K:=Hid.mk i;have g:=size_lt M;have f:=blk_kept I.o M;obtain⟨N,O,P,Q,R⟩:=five t w.heap.size f;obtain⟨g0,g1,g2,g3,g4⟩:=fiveF t w.heap.size f;clear M f i))
   refine bodyPost_ret (v:=tokV 7 a ((1:Nat):Int) p m L 0) (by simp[results,Tryz.results152,go_sem,N,O,P,Q,R,g]) rfl (tokOut_of ?_ C.o);exact next_end z.o I.o J.o K.o g
 have k4:(x == 46)=false:=by simpa using U
 by_cases t8:isOfB x 8=true
 ·have l:Hid (nextR j (callI B u y a) a=runR j a 1 8):=by show _=_;rw[D.o];unfold nextF;rw[if_neg t1,if_neg t2,if_neg t3,if_neg (fun h=>U h.1),if_pos t8]
  have s:=(run_any S b n c a 1 8 j (w.alloc tokO) d.o.bytes d.o.len d.o.cap (by omega) HP.o (by rw[H.o];exact t8) d.o.src d.o.at1 (d.o.fz 1) d.o.inH d.o.row d.o.tab).mono (fun e k h=>taken_out (Nat.le_of_lt HP.o) h)
  cases q:runR j a 1 8 with
  | error code=>
    rw[q] at s;have C:Hid (nextR j (callI B u y a) a = .error code):=l.o.trans q;clear q D l
    go_enter Tryz.func152,Tryz.ntmps152
    go_wp2_with (first | (go_at_call 182;refine(byteAt_any S b n c j a _ d.o.bytes d.o.len (by have:=d.o.small;omega) (by omega) d.o.src d.o.row).mono ?_;rintro e k ⟨rfl,rfl⟩;rw[H.o]) | (go_at_call 183;refine(isOf_any _ _ _ (by omega) (by omega) d.o.tab).mono ?_;rintro e k ⟨rfl,rfl⟩) | (go_at_call 186;refine(s).mono ?_;rintro e t ⟨F,G⟩;cases F));refine⟨rfl,tokOut_of ?_ C.o⟩;exact⟨rfl,grown_on z.o G⟩
  | ok r=>
    obtain⟨V,A,ys,W⟩:=r;rw[q] at s;have C:Hid (nextR j (callI B u y a) a = .ok (V,A,ys,W)):=l.o.trans q;clear q D l
    go_enter Tryz.func152,Tryz.ntmps152
    go_wp2_with (first | (go_at_call 182;refine(byteAt_any S b n c j a _ d.o.bytes d.o.len (by have:=d.o.small;omega) (by omega) d.o.src d.o.row).mono ?_;rintro e k ⟨rfl,rfl⟩;rw[H.o]) | (go_at_call 183;refine(isOf_any _ _ _ (by omega) (by omega) d.o.tab).mono ?_;rintro e k ⟨rfl,rfl⟩) | (go_at_call 186;refine(s).mono ?_;rintro e t ⟨p,m,L,rfl,i,M⟩;have J:=Hid.mk M;have K:=Hid.mk i;have g:=size_lt M;have f:=blk_kept I.o M;obtain⟨N,O,P,Q,R⟩:=five t w.heap.size f;obtain⟨g0,g1,g2,g3,g4⟩:=fiveF t w.heap.size f;clear M f i));refine bodyPost_ret (v:=tokV V a A p m L W) (by simp[results,Tryz.results152,go_sem,N,O,P,Q,R,g]) rfl (tokOut_of ?_ C.o);exact next_end z.o I.o J.o K.o g
 have s8:isOfB x 8=false:=by simpa using t8
 by_cases Z:isOfB x 32=true
 ·have l:Hid (nextR j (callI B u y a) a = .ok (1,1,[x],0)):=by show _=_;rw[D.o];unfold nextF;rw[if_neg t1,if_neg t2,if_neg t3,if_neg (fun h=>U h.1),if_neg t8,if_pos Z]
  have s:=(single_any S b n c a 1 j (w.alloc tokO) d.o.bytes d.o.len (by omega) HP.o d.o.src d.o.at1 (d.o.fz 1) d.o.inH d.o.row).mono (fun e k h=>single_out h5.o h);have C:Hid (nextR j (callI B u y a) a = .ok (1,1,[x],0)):=l;clear D l
  go_enter Tryz.func152,Tryz.ntmps152
  go_wp2_with (first | (go_at_call 182;refine(byteAt_any S b n c j a _ d.o.bytes d.o.len (by have:=d.o.small;omega) (by omega) d.o.src d.o.row).mono ?_;rintro e k ⟨rfl,rfl⟩;rw[H.o]) | (go_at_call 183;refine(isOf_any _ _ _ (by omega) (by omega) d.o.tab).mono ?_;rintro e k ⟨rfl,rfl⟩) | (go_at_call 190;refine(s).mono ?_;rintro e t ⟨p,m,L,rfl,i,M⟩;have J:=Hid.mk M;have K:=Hid.mk i;have g:=size_lt M;have f:=blk_kept I.o M;obtain⟨N,O,P,Q,R⟩:=five t w.heap.size f;obtain⟨g0,g1,g2,g3,g4⟩:=fiveF t w.heap.size f;clear M f i));refine bodyPost_ret (v:=tokV 1 a ((1:Nat):Int) p m L 0) (by simp[results,Tryz.results152,go_sem,N,O,P,Q,R,g]) rfl (tokOut_of ?_ C.o);exact next_end z.o I.o J.o K.o g
 have k3:isOfB x 32=false:=by simpa using Z
 by_cases T:x=39
 ·have l:Hid (nextR j (callI B u y a) a=quoR j 1 a):=by show _=_;rw[D.o];unfold nextF;rw[if_neg t1,if_neg t2,if_neg t3,if_neg (fun h=>U h.1),if_neg t8,if_neg Z,if_pos T]
  have s:=quoted_any S b n c a 1 j (w.alloc tokO) d.o HP.o (.inl (H.o.trans T))
  have e7:(x == 39)=true:=by simpa using T
  clear T
  cases q:quoR j 1 a with
  | error code=>
    rw[q] at s;have C:Hid (nextR j (callI B u y a) a = .error code):=l.o.trans q;clear q D l
    go_enter Tryz.func152,Tryz.ntmps152
    go_wp2_with (first | (go_at_call 182;refine(byteAt_any S b n c j a _ d.o.bytes d.o.len (by have:=d.o.small;omega) (by omega) d.o.src d.o.row).mono ?_;rintro e k ⟨rfl,rfl⟩;rw[H.o]) | (go_at_call 183;refine(isOf_any _ _ _ (by omega) (by omega) d.o.tab).mono ?_;rintro e k ⟨rfl,rfl⟩) | (go_at_call 191;refine(s).mono ?_;rintro e t ⟨F,G⟩;cases F));refine⟨rfl,tokOut_of ?_ C.o⟩;exact⟨rfl,grown_on z.o G⟩
  | ok r=>
    obtain⟨V,A,ys,W⟩:=r;rw[q] at s;have C:Hid (nextR j (callI B u y a) a = .ok (V,A,ys,W)):=l.o.trans q;clear q D l
    go_enter Tryz.func152,Tryz.ntmps152
    go_wp2_with (first | (go_at_call 182;refine(byteAt_any S b n c j a _ d.o.bytes d.o.len (by have:=d.o.small;omega) (by omega) d.o.src d.o.row).mono ?_;rintro e k ⟨rfl,rfl⟩;rw[H.o]) | (go_at_call 183;refine(isOf_any _ _ _ (by omega) (by omega) d.o.tab).mono ?_;rintro e k ⟨rfl,rfl⟩) | (go_at_call 191;refine(s).mono ?_;rintro e t ⟨p,m,L,rfl,i,M⟩;have J:=Hid.mk M;have K:=Hid.mk i;have g:=size_lt M;have f:=blk_kept I.o M;obtain⟨N,O,P,Q,R⟩:=five t w.heap.size f;obtain⟨g0,g1,g2,g3,g4⟩:=fiveF t w.heap.size f;clear M f i));refine bodyPost_ret (v:=tokV V a A p m L W) (by simp[results,Tryz.results152,go_sem,N,O,P,Q,R,g]) rfl (tokOut_of ?_ C.o);exact next_end z.o I.o J.o K.o g
 have e7:(x == 39)=false:=by simpa using T
 by_cases X:x=34
 ·have l:Hid (nextR j (callI B u y a) a=quoR j 4 a):=by show _=_;rw[D.o];unfold nextF;rw[if_neg t1,if_neg t2,if_neg t3,if_neg (fun h=>U h.1),if_neg t8,if_neg Z,if_neg T,if_pos X]
  have s:=quoted_any S b n c a 4 j (w.alloc tokO) d.o HP.o (.inr (H.o.trans X))
  have e6:(x == 34)=true:=by simpa using X
  clear X
  cases q:quoR j 4 a with
  | error code=>
    rw[q] at s;have C:Hid (nextR j (callI B u y a) a = .error code):=l.o.trans q;clear q D l
    go_enter Tryz.func152,Tryz.ntmps152
    go_wp2_with (first | (go_at_call 182;refine(byteAt_any S b n c j a _ d.o.bytes d.o.len (by have:=d.o.small;omega) (by omega) d.o.src d.o.row).mono ?_;rintro e k ⟨rfl,rfl⟩;rw[H.o]) | (go_at_call 183;refine(isOf_any _ _ _ (by omega) (by omega) d.o.tab).mono ?_;rintro e k ⟨rfl,rfl⟩) | (go_at_call 191;refine(s).mono ?_;rintro e t ⟨F,G⟩;cases F));refine⟨rfl,tokOut_of ?_ C.o⟩;exact⟨rfl,grown_on z.o G⟩
  | ok r=>
    obtain⟨V,A,ys,W⟩:=r;rw[q] at s;have C:Hid (nextR j (callI B u y a) a = .ok (V,A,ys,W)):=l.o.trans q;clear q D l
    go_enter Tryz.func152,Tryz.ntmps152
    go_wp2_with (first | (go_at_call 182;refine(byteAt_any S b n c j a _ d.o.bytes d.o.len (by have:=d.o.small;omega) (by omega) d.o.src d.o.row).mono ?_;rintro e k ⟨rfl,rfl⟩;rw[H.o]) | (go_at_call 183;refine(isOf_any _ _ _ (by omega) (by omega) d.o.tab).mono ?_;rintro e k ⟨rfl,rfl⟩) | (go_at_call 191;refine(s).mono ?_;rintro e t ⟨p,m,L,rfl,i,M⟩;have J:=Hid.mk M;have K:=Hid.mk i;have g:=size_lt M;have f:=blk_kept I.o M;obtain⟨N,O,P,Q,R⟩:=five t w.heap.size f;obtain⟨g0,g1,g2,g3,g4⟩:=fiveF t w.heap.size f;clear M f i));refine bodyPost_ret (v:=tokV V a A p m L W) (by simp[results,Tryz.results152,go_sem,N,O,P,Q,R,g]) rfl (tokOut_of ?_ C.o);exact next_end z.o I.o J.o K.o g
 have e6:(x == 34)=false:=by simpa using X
 by_cases Y:x=40
 ·have e8:(x == 40)=true:=by simpa using Y
  cases cb
  ·have l:Hid (nextR j (callI B u y a) a = .ok (5,1,[x],0)):=by show _=_;rw[D.o];unfold nextF;rw[if_neg t1,if_neg t2,if_neg t3,if_neg (fun h=>U h.1),if_neg t8,if_neg Z,if_neg T,if_neg X,if_neg (by simp),if_pos (by rw[Y];decide +kernel)]
   have s:=fun kb=>(single_any S b n c a 5 j ((w.alloc tokO).drewN kb) d.o.bytes d.o.len (by omega) HP.o d.o.src d.o.at1 (d.o.fz 1) d.o.inH d.o.row).mono (fun e k h=>tok_drew d.o.inH (single_out h5.o h))
   have e9:isOfB x 64=true:=by rw[Y];decide +kernel
   clear Y;have C:Hid (nextR j (callI B u y a) a = .ok (5,1,[x],0)):=l;clear D l
   go_enter Tryz.func152,Tryz.ntmps152
   go_wp2_with (first | (go_at_call 182;refine(byteAt_any S b n c j a _ d.o.bytes d.o.len (by have:=d.o.small;omega) (by omega) d.o.src d.o.row).mono ?_;rintro e k ⟨rfl,rfl⟩;rw[H.o]) | (go_at_call 183;refine(isOf_any _ _ _ (by omega) (by omega) d.o.tab).mono ?_;rintro e k ⟨rfl,rfl⟩));refine(behind_any S a B u y _ d.o.at1 h9.o e1.o e2.o e3 e4 (by omega)).mono ?_;rintro e w2 ⟨rfl,kb,rfl⟩;rw[h8.o];have h6:Hid (Tab ((w.alloc tokO).drewN kb)):=d.o.tab;go_wp2_with (first | (go_at_call 183;refine(isOf_any _ _ _ (by omega) (by omega) h6.o).mono ?_;rintro e k ⟨rfl,rfl⟩) | (go_at_call 190;refine(s _).mono ?_;rintro e t ⟨p,m,L,rfl,i,M⟩;have J:=Hid.mk M;have K:=Hid.mk i;have g:=size_lt M;have f:=blk_kept I.o M;obtain⟨N,O,P,Q,R⟩:=five t w.heap.size f;obtain⟨g0,g1,g2,g3,g4⟩:=fiveF t w.heap.size f;clear M f i))
   refine bodyPost_ret (v:=tokV 5 a ((1:Nat):Int) p m L 0) (by simp[results,Tryz.results152,go_sem,N,O,P,Q,R,g]) rfl (tokOut_of ?_ C.o);exact next_end z.o I.o J.o K.o g
  ·have l:Hid (nextR j (callI B u y a) a = .ok (6,1,[x],0)):=by show _=_;rw[D.o];unfold nextF;rw[if_neg t1,if_neg t2,if_neg t3,if_neg (fun h=>U h.1),if_neg t8,if_neg Z,if_neg T,if_neg X,if_pos ⟨Y,rfl⟩]
   have s:=fun kb=>(single_any S b n c a 6 j ((w.alloc tokO).drewN kb) d.o.bytes d.o.len (by omega) HP.o d.o.src d.o.at1 (d.o.fz 1) d.o.inH d.o.row).mono (fun e k h=>tok_drew d.o.inH (single_out h5.o h))
   clear Y;have C:Hid (nextR j (callI B u y a) a = .ok (6,1,[x],0)):=l;clear D l
   go_enter Tryz.func152,Tryz.ntmps152
   go_wp2_with (first | (go_at_call 182;refine(byteAt_any S b n c j a _ d.o.bytes d.o.len (by have:=d.o.small;omega) (by omega) d.o.src d.o.row).mono ?_;rintro e k ⟨rfl,rfl⟩;rw[H.o]) | (go_at_call 183;refine(isOf_any _ _ _ (by omega) (by omega) d.o.tab).mono ?_;rintro e k ⟨rfl,rfl⟩));refine(behind_any S a B u y _ d.o.at1 h9.o e1.o e2.o e3 e4 (by omega)).mono ?_;rintro e w2 ⟨rfl,kb,rfl⟩;rw[h8.o];have h6:Hid (Tab ((w.alloc tokO).drewN kb)):=d.o.tab;go_wp2_with (first | (go_at_call 183;refine(isOf_any _ _ _ (by omega) (by omega) h6.o).mono ?_;rintro e k ⟨rfl,rfl⟩) | (go_at_call 190;refine(s _).mono ?_;rintro e t ⟨p,m,L,rfl,i,M⟩;have J:=Hid.mk M;have K:=Hid.mk i;have g:=size_lt M;have f:=blk_kept I.o M;obtain⟨N,O,P,Q,R⟩:=five t w.heap.size f;obtain⟨g0,g1,g2,g3,g4⟩:=fiveF t w.heap.size f;clear M f i))
   refine bodyPost_ret (v:=tokV 6 a ((1:Nat):Int) p m L 0) (by simp[results,Tryz.results152,go_sem,N,O,P,Q,R,g]) rfl (tokOut_of ?_ C.o);exact next_end z.o I.o J.o K.o g
 have e8:(x == 40)=false:=by simpa using Y
 by_cases h7:isOfB x 64=true
 ·have l:Hid (nextR j (callI B u y a) a = .ok (5,1,[x],0)):=by show _=_;rw[D.o];unfold nextF;rw[if_neg t1,if_neg t2,if_neg t3,if_neg (fun h=>U h.1),if_neg t8,if_neg Z,if_neg T,if_neg X,if_neg (fun h=>Y h.1),if_pos h7]
  have s:=(single_any S b n c a 5 j (w.alloc tokO) d.o.bytes d.o.len (by omega) HP.o d.o.src d.o.at1 (d.o.fz 1) d.o.inH d.o.row).mono (fun e k h=>single_out h5.o h);have C:Hid (nextR j (callI B u y a) a = .ok (5,1,[x],0)):=l;clear D l
  go_enter Tryz.func152,Tryz.ntmps152
  go_wp2_with (first | (go_at_call 182;refine(byteAt_any S b n c j a _ d.o.bytes d.o.len (by have:=d.o.small;omega) (by omega) d.o.src d.o.row).mono ?_;rintro e k ⟨rfl,rfl⟩;rw[H.o]) | (go_at_call 183;refine(isOf_any _ _ _ (by omega) (by omega) d.o.tab).mono ?_;rintro e k ⟨rfl,rfl⟩) | (go_at_call 190;refine(s).mono ?_;rintro e t ⟨p,m,L,rfl,i,M⟩;have J:=Hid.mk M;have K:=Hid.mk i;have g:=size_lt M;have f:=blk_kept I.o M;obtain⟨N,O,P,Q,R⟩:=five t w.heap.size f;obtain⟨g0,g1,g2,g3,g4⟩:=fiveF t w.heap.size f;clear M f i));refine bodyPost_ret (v:=tokV 5 a ((1:Nat):Int) p m L 0) (by simp[results,Tryz.results152,go_sem,N,O,P,Q,R,g]) rfl (tokOut_of ?_ C.o);exact next_end z.o I.o J.o K.o g
 have e9:isOfB x 64=false:=by simpa using h7
 have C:Hid (nextR j (callI B u y a) a = .error 2):=by show _=_;rw[D.o];unfold nextF;rw[if_neg t1,if_neg t2,if_neg t3,if_neg (fun h=>U h.1),if_neg t8,if_neg Z,if_neg T,if_neg X,if_neg (fun h=>Y h.1),if_neg h7]
 clear D
 go_enter Tryz.func152,Tryz.ntmps152
 go_wp2_with (first | (go_at_call 182;refine(byteAt_any S b n c j a _ d.o.bytes d.o.len (by have:=d.o.small;omega) (by omega) d.o.src d.o.row).mono ?_;rintro e k ⟨rfl,rfl⟩;rw[H.o]) | (go_at_call 183;refine(isOf_any _ _ _ (by omega) (by omega) d.o.tab).mono ?_;rintro e k ⟨rfl,rfl⟩) | (go_at_call 193;refine(fault_any S a 2 _ d.o.at1 d.o.inH).mono ?_;rintro e t ⟨rfl,e5⟩));refine⟨rfl,tokOut_of ?_ C.o⟩;exact⟨rfl,grown_of_below (Below.on z.o e5) _⟩
def lineI (xs:List Int)(pos:Nat):Nat:=runLen (fun c=>c != 10) (xs.drop pos)
theorem index10:∀ (b:List Int),Bytes b->Lib.indexByte (Lib.bytesOf b) (10:Int).toNat.toUInt8=if runLen (fun c=>c != 10) b=b.length then -1 else(runLen (fun c=>c != 10) b:Int)
 | [],_=>rfl
 | x :: r,h=>by
   have n:=h x (List.mem_cons_self ..);have l:=index10 r (fun y k=>h y (List.mem_cons_of_mem _ k));have j:=runLen_le (fun c=>c != 10) r
   have e:(x.toNat.toUInt8 == (10:Int).toNat.toUInt8)=decide (x=10):=by
    rw[Bool.eq_iff_iff,beq_iff_eq,decide_eq_true_iff]
    constructor
    ·intro d
     have:=congrArg UInt8.toNat d
     simp at this
     omega
    ·intro d;rw[d]
   show(if (x.toNat.toUInt8 == (10:Int).toNat.toUInt8)=true then(0:Int) else if Lib.indexByte (Lib.bytesOf r) _ == -1 then -1 else Lib.indexByte (Lib.bytesOf r) _+1)=_
   have m:runLen (fun c=>c != 10) (x :: r)=if (x != 10)=true then runLen (fun c=>c != 10) r+1 else 0:=rfl
   rw[e,l,m]
   by_cases a:x=10
   ·simp[a]
   ·have i:(x != 10)=true:=by simpa using a
    simp only[a,decide_false,Bool.false_eq_true,if_false,i,if_true,List.length_cons]
    by_cases f:runLen (fun c=>c != 10) r=r.length
    ·simp[f]
    ·have g:((if runLen (fun c=>c != 10) r=r.length then(-1:Int) else(runLen (fun c=>c != 10) r:Int)) == -1)=false:=by
      rw[if_neg f];simp
     rw[g,if_neg f,if_neg (show ¬ runLen (fun c=>c != 10) r+1=r.length+1 by omega)]
     simp
theorem indexByte_any (b o n c:Nat)(a:List Int)(w:World)(j:Bytes a)(h:a.length=n)(g:∀ i,i<n->w.cell? ⟨b,o+i,none⟩=some (.int .u8 (a.getD i 0))) :
  Calls Tryz.prog 203 #[.slice (some ⟨b,o,none⟩) n c,.int .u8 10] w fun e k=>e = .returned (.int .i64 (if runLen (fun c=>c != 10) a=a.length then -1 else(runLen (fun c=>c != 10) a:Int)))/\k=w:=by
 have l:=@run_callFunc_extern Tryz.prog 210 _ Extern.BytealgIndexByte.indexByte Tryz.func210 (by kernel_rfl) (by kernel_rfl) (by kernel_rfl) (by kernel_rfl);have d:=Lib.run_indexByteSlice (P:=Tryz.prog) w b o n c a h g 10;rw[index10 a j] at d
 obtain⟨r,f⟩:∃ r,r=if runLen (fun c=>c != 10) a=a.length then -1 else(runLen (fun c=>c != 10) a:Int):=⟨_,rfl⟩
 rw[<-f] at d ⊢;clear f g
 go_enter Tryz.func203,Tryz.ntmps203
 go_wp2
 go_ret;exact⟨rfl,rfl⟩
theorem skipLine_any (S b n c a:Nat)(d:List Int)(w:World)(E:Env w S b n c a d)(z:a<d.length) :
  Calls Tryz.prog 184 #[.pointer (some ⟨S,0,none⟩)] w fun e F=>e = .returned (.tuple #[])/\Moved w F S (a+lineI d a):=by
 have G:=E.src;have s:=E.at1;have I:=E.fz 1;have D:=E.small
 have l:a<n:=by rw[E.len];exact z
 have u:a<c:=Nat.lt_of_lt_of_le l E.cap
 have y:¬ c=a:=by omega
 have B:(a:Int)<=(n:Nat):=by omega
 have A:(0:Int)<=(a:Nat):=by omega
 have x:n<=c:=E.cap
 have j:lineI d a<=n-a:=by have:=runLen_le (fun c=>c != 10) (d.drop a);unfold lineI;rw[E.len];simpa using this
 have f:=fun k=>indexByte_any b a (n-a) (c-a) (d.drop a) (w.drewN k) (E.bytes.drop a) (by rw[E.len];simp) (fun i J=>by
  have:=E.row (a+i) (by have:=E.len;omega)
  rw[World.cell?_drewN,this];simp[List.getD,List.getElem?_drop])
 have r:Hid ((d.drop a).length=n-a):=by rw[E.len];show _=_;simp
 have p:∀ k q,Hid (Moved w ((w.drewN k).setCell ⟨S,1,none⟩ (.int .i64 (q:Nat))) S q):=fun k q=>Moved.onto (below_drewN (Below.refl _ _) k) (Moved.set a q (show(w.drewN k).cell? _=_ from s)) (Below.refl _ _) E.inH
 have H:=E.inH
 obtain⟨m,h⟩:∃ m,m=lineI d a:=⟨_,rfl⟩
 have g:runLen (fun c=>c != 10) (d.drop a)=m:=h.symm;rw[<-h] at j ⊢;simp only[g,r.o] at f;clear E h g
 by_cases t:m=n-a
 ·simp only[if_pos t] at f
  go_enter Tryz.func184,Tryz.ntmps184
  go_wp2
  go_quiet ((go_at_call 203;exact Calls.quiet_of_same (f _)))
  go_wp2
  all_goals (try go_quiet (fail))
  all_goals (try go_wp2)
  refine bodyPost_end (v:=.tuple #[]) (by simp[results,Tryz.results184,go_sem]) rfl ⟨rfl,?_⟩
  have e:(a:Int)+((n:Int)-a)=((a+m:Nat):Int):=by omega
  rw[e];exact(p _ _).o
 ·simp only[if_neg t] at f
  go_enter Tryz.func184,Tryz.ntmps184
  go_wp2
  go_quiet ((go_at_call 203;exact Calls.quiet_of_same (f _)))
  go_wp2
  refine bodyPost_end (v:=.tuple #[]) (by simp[results,Tryz.results184,go_sem]) rfl ⟨rfl,?_⟩;have C:=(p nq (a+m)).o
  simpa using C
end
section
open Go Go.RowKit
def blkF (xs:List Int):Nat->Nat->Option Nat
 | 0,_=>none
 | f+1,i=>if byteI xs i=42/\byteI xs (i+1)=47 then some i else blkF xs f (i+1)
def blkI (xs:List Int)(i:Nat):Option Nat:=blkF xs (xs.length-i) i
theorem blk_step (a:List Int)(i:Nat)(h:i<a.length):blkI a i=if byteI a i=42/\byteI a (i+1)=47 then some i else blkI a (i+1):=by
 unfold blkI
 rw[show a.length-i=(a.length-(i+1))+1 by omega]
 rfl
theorem blk_end (a:List Int)(i:Nat)(h:a.length<=i):blkI a i=none:=by unfold blkI;rw[show a.length-i=0 by omega];rfl
theorem blk_rng {a:List Int} : ∀ (f i j:Nat),blkF a f i=some j->i<=j/\j+1<a.length
 | 0,i,j,h=>by cases h
 | f+1,i,j,h=>by
   unfold blkF at h
   split at h
   ·rename_i b
    cases h
    refine⟨Nat.le_refl _,?_⟩
    rcases Nat.lt_or_ge (i+1) a.length with h' | h'
    ·exact h'
    ·rw[byteI_ge h'] at b;omega
   ·have:=blk_rng f (i+1) j h;omega
def layI (xs:List Int)(pos:Nat):Option Nat:=
 if endsI (byteI xs pos)=true/\byteI xs pos≠-1/\byteI xs pos≠37 then some 1
 else if byteI xs pos=37 then some (lineI xs pos)
 else if byteI xs pos=47/\byteI xs (pos+1)=42 then(match blkI xs (pos+2) with
  | none=>none
  | some j=>some (j+2-pos))
 else some 0
abbrev LexR:=Except (Int×Nat) (List Tok)
def lexF (xs:List Int):Nat->Nat->Int->List Tok->LexR
 | 0,_,_,acc=>.ok acc
 | f+1,pos,a,acc=>if xs.length<=pos then .ok acc else match layI xs pos with
   | none=>.error (2,pos)
   | some n=>if 0<n then lexF xs f (pos+n) a acc else match nextR xs (decide (a=pos)) pos with
     | .error c=>.error (c,pos)
     | .ok (kind,len,ys,v)=>lexF xs f (pos+len) (if kind=1 then((pos+len:Nat):Int) else -1) (acc ++ [((kind,(pos:Int),(len:Int),v),ys)])
def lexI (xs:List Int)(pos:Nat)(a:Int)(acc:List Tok):LexR:=lexF xs (xs.length+1-pos) pos a acc
def skipS (xs:List Int)(pos:Nat):Int:=
 match layI xs pos with
 | none=>-1
 | some n=>(n:Nat)
theorem blk_last {a:List Int}{i:Nat}(h:a.length<=i+1):blkI a i=none:=by
 rcases Nat.lt_or_ge i a.length with h' | h'
 ·rw[blk_step a i h',byteI_ge (i:=i+1) h,if_neg (by omega),blk_end a (i+1) h]
 ·exact blk_end a i h'
theorem blank_ends {x:Int}(a:0<=x):blankB x=true↔(endsI x=true/\x≠-1/\x≠37):=by
 simp only[blankB,endsI,Bool.or_eq_true,beq_iff_eq,decide_eq_true_eq];omega
theorem skipS_any (b V a:Nat)(d:List Int)(w:World)(Z:Bytes d)(hn:d.length<=10000)(hp:a<d.length)(hc:∀ m,m<d.length->w.cell? ⟨b,m,none⟩=some (.int .u8 (d.getD m 0))) :
  Calls Tryz.prog 51 #[.slice (some ⟨b,0,none⟩) d.length V,.int .i64 a] w fun e O=>e = .returned (.int .i64 (skipS d a))/\O=w:=by
 obtain⟨n,U⟩:∃ n,n=d.length:=⟨_,rfl⟩
 rw[<-U] at hn hp ⊢;have H:Hid (n=d.length):=U
 have s:Hid (∀ m,m<n->w.cell? ⟨b,m,none⟩=some (.int .u8 (d.getD m 0))):=by rw[U];exact hc
 have g:Hid (Bytes d):=Z;have hx:=hc a (by omega);have G:=Z.at a;have K:byteI d a=d.getD a 0:=byteI_lt (by omega)
 have c:layI d a=if endsI (byteI d a)=true/\byteI d a≠-1/\byteI d a≠37 then some 1
  else if byteI d a=37 then some (lineI d a)
  else if byteI d a=47/\byteI d (a+1)=42 then(match blkI d (a+2) with
   | none=>none
   | some j=>some (j+2-a))
  else some 0:=rfl
 obtain⟨x,J⟩:∃ x,x=d.getD a 0:=⟨_,rfl⟩
 rw[<-J] at hx G K;rw[K] at c
 have f:Hid (∀ (k:Int),skipS d a=k->Ending.returned (.int .i64 k) = .returned (.int .i64 (skipS d a))):=fun k h=>by rw[h]
 have q:=blank_any x w G.1 G.2;clear Z hc U K
 cases A:blankB x with
 | true=>
   have t:Hid _:=f.o 1 (by rw[skipS,c,if_pos ((blank_ends G.1).1 A)];rfl);rw[A] at q;clear c f A s g J
   go_enter Tryz.func51,Tryz.ntmps51
   go_wp2_with (go_at_call 85;refine q.mono ?_;rintro e O ⟨rfl,rfl⟩);go_ret;exact⟨t.o,rfl⟩
 | false=>
   rw[if_neg (fun h=>by rw[(blank_ends G.1).2 h] at A;cases A)] at c;rw[A] at q;clear A
   by_cases C:x=37
   ·rw[if_pos C] at c
    have S:Hid (skipS d a=(lineI d a:Nat)):=by show _=_;rw[skipS,c]
    have HX:Hid (d.getD a 0=37):=by show _=_;rw[<-J];exact C
    subst C;clear c J
    go_enter Tryz.func51,Tryz.ntmps51
    go_wp2_with (go_at_call 85;refine q.mono ?_;rintro e O ⟨rfl,N⟩;obtain rfl:=N.symm)
    go_loop [5] (fun i=>∃ j:Nat,a+j<=n/\i = .int .i64 j/\Hid (∀ m,m<j->((d.drop a).getD m 0 != 10)=true)) (fun i=>n-(intOf i).toNat)
    case atStart=>exact⟨0,by omega,rfl,fun _ h=>absurd h (Nat.not_lt_zero _)⟩
    case round=>
     obtain⟨j,hj,rfl,I⟩:=hrel
     by_cases M:a+j<n
     ·have hy:=s.o (a+j) M
      obtain⟨y,Q⟩:∃ y,y=d.getD (a+j) 0:=⟨_,rfl⟩
      rw[<-Q] at hy
      have HY:Hid (y=(d.drop a).getD j 0):=by rw[Q];simp[List.getD,List.getElem?_drop,Hid]
      have F:(a:Int)+j<n:=by omega
      clear Q
      by_cases B:y=10
      ·have R:Hid (lineI d a=j):=runLen_stop _ _ _ (by simp[<-H.o];omega) I.o (.inr (by rw[<-HY.o,B];rfl))
       have t:Hid _:=f.o (j:Nat) (by rw[S.o,R.o]);subst B;clear s g f S R;go_wp2_with fail;go_ret;exact⟨t.o,rfl⟩
      ·have T:(y != 10)=true:=by simpa using B
       have D:Hid (∀ m,m<j+1->((d.drop a).getD m 0 != 10)=true):=fun m hm=>by
        by_cases e:m=j
        ·subst e;rw[<-HY.o];exact T
        ·exact I.o m (by omega)
       clear s g f S B;go_wp2_with fail
       go_round
       case rel=>exact⟨j+1,by omega,by go_num,D⟩
       case measure=>simp[intOf];omega
     ·have F:¬ (a:Int)+j<n:=by omega
      have R:Hid (lineI d a=j):=runLen_stop _ _ _ (by simp[<-H.o];omega) I.o (.inl (by simp[<-H.o];omega));have t:Hid _:=f.o (j:Nat) (by rw[S.o,R.o]);clear s g f S R;go_wp2_with fail;go_ret;exact⟨t.o,rfl⟩
   ·rw[if_neg C] at c
    have h2:(x == 37)=false:=by simpa using C
    by_cases z:x=47
    ·by_cases h1:a+1<n
     ·have hy:=s.o (a+1) h1
      have L:byteI d (a+1)=d.getD (a+1) 0:=byteI_lt (by rw[<-H.o];exact h1)
      obtain⟨y,Q⟩:∃ y,y=d.getD (a+1) 0:=⟨_,rfl⟩
      rw[<-Q] at hy L;rw[L] at c
      have Y:¬ ((n:Int)<=(a:Int)+1):=by omega
      clear Q L
      by_cases E:y=42
      ·rw[if_pos ⟨z,E⟩] at c
       subst z E
       have P:Hid (skipS d a=match blkI d (a+2) with
        | none=>-1
        | some j=>((j+2-a:Nat):Int)):=by
        show _=_
        rw[skipS,c]
        cases blkI d (a+2) <;> rfl
       clear c J
       go_enter Tryz.func51,Tryz.ntmps51
       go_wp2_with (go_at_call 85;refine q.mono ?_;rintro e O ⟨rfl,N⟩;obtain rfl:=N.symm)
       go_loop [5] (fun i=>∃ j:Nat,2<=j/\a+j<=n+2/\i = .int .i64 j/\Hid (blkI d (a+j)=blkI d (a+2))) (fun i=>n+3-(intOf i).toNat)
       case atStart=>exact⟨2,by omega,by omega,rfl,rfl⟩
       case round=>
        obtain⟨j,h4,hj,rfl,I⟩:=hrel
        by_cases M:a+j+1<n
        ·have hu:=s.o (a+j) (by omega)
         have hv:=s.o (a+j+1) M;have l:=blk_step d (a+j) (by rw[<-H.o];omega);rw[byteI_lt (by rw[<-H.o];omega),byteI_lt (i:=a+j+1) (by rw[<-H.o];omega)] at l
         obtain⟨u,W⟩:∃ u,u=d.getD (a+j) 0:=⟨_,rfl⟩
         obtain⟨v,X⟩:∃ v,v=d.getD (a+j+1) 0:=⟨_,rfl⟩
         rw[<-W] at hu;rw[<-X] at hv;rw[<-W,<-X] at l
         have F:(a:Int)+j+1<n:=by omega
         clear W X
         by_cases p:u=42
         ·by_cases r:v=47
          ·rw[if_pos ⟨p,r⟩] at l
           have t:Hid _:=f.o ((j:Int)+2) (by rw[P.o,<-I.o,l];simp only;omega);subst p r;clear s g f P l;go_wp2_with fail;go_ret;exact⟨t.o,rfl⟩
          ·rw[if_neg (fun h=>r h.2)] at l
           have D:Hid (blkI d (a+(j+1))=blkI d (a+2)):=by show _=_;rw[<-I.o,l];rfl
           have h6:(v == 47)=false:=by simpa using r
           subst p;clear s g f P l r;go_wp2_with fail
           go_round
           case rel=>exact⟨j+1,by omega,by omega,by go_num,D⟩
           case measure=>simp[intOf];omega
         ·rw[if_neg (fun h=>p h.1)] at l
          have D:Hid (blkI d (a+(j+1))=blkI d (a+2)):=by show _=_;rw[<-I.o,l];rfl
          have h5:(u == 42)=false:=by simpa using p
          clear s g f P l p;go_wp2_with fail
          go_round
          case rel=>exact⟨j+1,by omega,by omega,by go_num,D⟩
          case measure=>simp[intOf];omega
        ·have F:¬ (a:Int)+j+1<n:=by omega
         have t:Hid _:=f.o (-1) (by rw[P.o,<-I.o,blk_last (by rw[<-H.o];omega)]);clear s g f P;go_wp2_with fail;go_ret;exact⟨t.o,rfl⟩
      ·rw[if_neg (fun h=>E h.2)] at c
       have t:Hid _:=f.o 0 (by rw[skipS,c];rfl)
       have T:(y != 42)=true:=by simpa using E
       subst z;clear c J s g f E
       go_enter Tryz.func51,Tryz.ntmps51
       go_wp2_with (go_at_call 85;refine q.mono ?_;rintro e O ⟨rfl,rfl⟩);go_ret;exact⟨t.o,rfl⟩
     ·have Y:(n:Int)<=(a:Int)+1:=by omega
      rw[byteI_ge (i:=a+1) (by rw[<-H.o];omega),if_neg (by omega)] at c;have t:Hid _:=f.o 0 (by rw[skipS,c];rfl);subst z;clear c J s g f
      go_enter Tryz.func51,Tryz.ntmps51
      go_wp2_with (go_at_call 85;refine q.mono ?_;rintro e O ⟨rfl,rfl⟩);go_ret;exact⟨t.o,rfl⟩
    ·rw[if_neg (fun h=>z h.1)] at c
     have t:Hid _:=f.o 0 (by rw[skipS,c];rfl)
     have h3:(x != 47)=true:=by simpa using z
     clear c J s g f z C
     go_enter Tryz.func51,Tryz.ntmps51
     go_wp2_with (go_at_call 85;refine q.mono ?_;rintro e O ⟨rfl,rfl⟩);go_ret;exact⟨t.o,rfl⟩
end
end Go.Proofs.YtlkhmmoimplokaaGreatDoor
