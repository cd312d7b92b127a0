/- Texts of L1c, Lay3, BigB, IntG, DolP, FnK, FnC, LawPlain, Scan1, Scan2, LawQuote, Until. Own work of the verifier. -/
import Derived.Deep.Upon
import Derived.Below
import Derived.Test.YtlkhmmoimplokaaGreatDoorUqar
import Derived.OrdersHeld
namespace Go.Proofs.YtlkhmmoimplokaaGreatDoor
set_option maxHeartbeats 2000000
set_option linter.unusedVariables false
section
open Go Go.RowKit
theorem news_of {w:World}{b o:Nat}{a:List Int}(g:∀ i,i<a.length->w.cell? ⟨b,o+i,none⟩=some (.int .u8 (a.getD i 0))):∀ j u,(a.map (Value.int .u8))[j]?=some u->w.cell? ((⟨b,o,none⟩:Addr).add j)=some u:=fun j u f=>by
 have d:j<a.length:=by
  rcases Nat.lt_or_ge j a.length with h | h
  ·exact h
  ·simp[List.getElem?_eq_none h] at f
 have e:(⟨b,o,none⟩:Addr).add j=⟨b,o+j,none⟩:=by unfold Addr.add;split <;> simp_all
 rw[e,g j d,<-f]
 simp[List.getD,d]
theorem app_nothing (w:World){ops:Array Oper}{b:List Oper}{o:Oper}{a:Act}{Q:Exit->Act->World->Prop}(g:o.guard=none)(s x:Operand)
  (B:o.op = .call { callee:=.builtin .append,args:=#[s,x],argTypes:=#[23,23] }) (p:Option Addr) (n c:Nat) (f:n<=c) (z:a.eval s = .slice p n c) (q:Option Addr) (e:Nat) (A:a.eval x = .slice q 0 e)
  (h:wpList Tryz.prog ops Q b (a.put o.dst (.slice p n c)) w):wpList Tryz.prog ops Q (o :: b) a w:=by
 obtain⟨i,v,m,C,t⟩:=info_parts infoByte
 refine wpList_plain g fun K l=>?_
 have d:Src Tryz.prog i.size 23 (.slice q 0 e) 0 [] w:=by
  cases q with
  | none=>exact Src.ofNil w Tryz.underlying23 e
  | some r=>exact Src.ofSlice w Tryz.underlying23 r 0 e [] (by simp) (fun j u h=>by simp at h) (fun u h=>by cases h)
 have y:=fun k=>run_append_nothing (P:=Tryz.prog) w 23 23 k 5 i Tryz.underlying23 v p n c f _ d
 unfold Oper.wp
 simp[execOp,B,resolve,invoke,builtin,z,A,y,Result.andThen]
 exact l _ _ h
theorem l1copy_all (p:Option Addr)(n c:Nat)(d:List Int)(w:World)(h:n=d.length)(y:n<=10000000)(k:BIn w p d) :
  Calls Tryz.prog 56 #[.slice p n c] w fun e q=>∃ m i l,e = .returned (.slice m i l)/\OwnS q w.heap.size m i l d/\Below w.heap.size w q:=by
 by_cases t:0<n
 ·obtain⟨b,o,rfl,f⟩:=k (by omega)
  have u:=hid f;have r:=hid h;clear k h f
  go_enter Tryz.func56,Tryz.ntmps56
  go_wp2_with (at_builtin;refine app_bytes _ rfl _ _ rfl w.heap.size none 0 0 [] d n r.o rfl (OwnS.nil _ _) _ c rfl (news_of u.o) t (by omega) (Nat.le_refl _) ?_;intro g i v x a j s);go_ret;exact⟨_,_,_,rfl,a,j⟩
 ·obtain rfl:n=0:=by omega
  obtain rfl:d = []:=List.length_eq_zero_iff.1 h.symm;clear k h
  go_enter Tryz.func56,Tryz.ntmps56
  go_wp2_with (at_builtin;refine app_nothing _ rfl _ _ rfl none 0 0 (Nat.le_refl _) rfl p c rfl ?_);go_ret;exact⟨_,_,_,rfl,OwnS.nil _ _,Below.refl _ _⟩
theorem lay3 (w:World)(a b d:Obj)(W:World)(h:W=((w.alloc a).alloc b).alloc d) :
  Below w.heap.size w W/\W.heap[w.heap.size]?=some a/\W.heap[w.heap.size+1]?=some b/\W.heap[w.heap.size+1+1]?=some d:=by
 subst h
 have e:∀ (V:World) (o:Obj),Below w.heap.size w V->Below w.heap.size w (V.alloc o):=fun V o h=>h.alloc h.size o
 refine⟨e _ _ (e _ _ (e _ _ (Below.refl _ _))),?_,?_,?_⟩
 ·show(((w.heap.push a).push b).push d)[w.heap.size]?=some a
  simp only[Array.getElem?_push,Array.size_push]
  repeat' split
  all_goals first | rfl | omega | (exact absurd trivial ‹¬True›)
 ·show(((w.heap.push a).push b).push d)[w.heap.size+1]?=some b
  simp only[Array.getElem?_push,Array.size_push]
  repeat' split
  all_goals first | rfl | omega | (exact absurd trivial ‹¬True›)
 ·show(((w.heap.push a).push b).push d)[w.heap.size+1+1]?=some d
  simp only[Array.getElem?_push,Array.size_push]
  repeat' split
  all_goals first | rfl | omega | (exact absurd trivial ‹¬True›)
end
section
open Go Go.RowKit Go.Maps
end
section
open Go Go.RowKit
def byteI (xs:List Int)(i:Nat):Int:=if i<xs.length then xs.getD i 0 else -1
theorem byteI_lt {xs:List Int}{i:Nat}(h:i<xs.length):byteI xs i=xs.getD i 0:=by unfold byteI;rw[if_pos h]
theorem byteI_ge {a:List Int}{i:Nat}(h:a.length<=i):byteI a i = -1:=by unfold byteI;rw[if_neg (by omega)]
theorem byteI_rng {xs:List Int}(a:Bytes xs)(i:Nat) : -1<=byteI xs i/\byteI xs i<256:=by
 unfold byteI;split
 ·have:=a.at i;omega
 ·omega
theorem byteAt_any (S b n c:Nat)(d:List Int)(a:Nat)(w:World)(l:Bytes d)(j:n=d.length)(s:n<=1000000)(ha:a<=10000000)
  (r:w.cell? ⟨S,0,none⟩=some (.slice (some ⟨b,0,none⟩) n c)) (f:∀ i,i<d.length->w.cell? ⟨b,i,none⟩=some (.int .u8 (d.getD i 0))) :
  Calls Tryz.prog 182 #[.pointer (some ⟨S,0,none⟩),.int .i64 a] w fun e m=>e = .returned (.int .i64 (byteI d a))/\m=w:=by
 by_cases h:a<d.length
 ·rw[byteI_lt h]
  have o:=f a h;have q:=l.at a
  have k:a<n:=by omega
  obtain⟨x,g⟩:∃ x,x=d.getD a 0:=⟨_,rfl⟩
  rw[<-g] at o q ⊢;clear g f j
  go_enter Tryz.func182,Tryz.ntmps182
  go_wp2
  go_ret;exact⟨rfl,rfl⟩
 ·rw[byteI_ge (by omega)]
  have p:n<=a:=by omega
  clear f j
  go_enter Tryz.func182,Tryz.ntmps182
  go_wp2
  go_ret;exact⟨rfl,rfl⟩
def digI (b:Int):Int:=if 48<=b/\b<=57 then b-48 else if 97<=b/\b<=102 then b-87 else if 65<=b/\b<=70 then b-55 else 16
theorem digitValue_any (b:Int)(w:World)(l : -1<=b)(n:b<256):Calls Tryz.prog 218 #[.int .i64 b] w fun e j=>e = .returned (.int .i64 (digI b))/\j=w:=by
 by_cases a:48<=b/\b<=57
 ·rw[show digI b=b-48 by unfold digI;rw[if_pos a]]
  obtain⟨m,d⟩:=a
  go_enter Tryz.func218,Tryz.ntmps218
  go_wp2
  go_ret;exact⟨rfl,rfl⟩
 by_cases d:97<=b/\b<=102
 ·rw[show digI b=b-87 by unfold digI;rw[if_neg a,if_pos d]]
  obtain⟨f,i⟩:=d
  have g:decide (48<=b)=true:=by rw[decide_eq_true_iff];omega
  have h:decide (b<=57)=false:=by rw[decide_eq_false_iff_not];omega
  clear a
  go_enter Tryz.func218,Tryz.ntmps218
  go_wp2
  go_ret;exact⟨ret_int (by omega),rfl⟩
 by_cases f:65<=b/\b<=70
 ·rw[show digI b=b-55 by unfold digI;rw[if_neg a,if_neg d,if_pos f]]
  obtain⟨i,o⟩:=f
  have g:decide (48<=b)=true:=by rw[decide_eq_true_iff];omega
  have h:decide (b<=57)=false:=by rw[decide_eq_false_iff_not];omega
  have k:decide (97<=b)=false:=by rw[decide_eq_false_iff_not];omega
  clear a d
  go_enter Tryz.func218,Tryz.ntmps218
  go_wp2
  go_ret;exact⟨ret_int (by omega),rfl⟩
 ·rw[show digI b=16 by unfold digI;rw[if_neg a,if_neg d,if_neg f]]
  have g:(decide (48<=b) && decide (b<=57))=false:=by simp;omega
  have h:(decide (97<=b) && decide (b<=102))=false:=by simp;omega
  have k:(decide (65<=b) && decide (b<=70))=false:=by simp;omega
  go_enter Tryz.func218,Tryz.ntmps218
  go_wp2
  all_goals go_ret
  all_goals exact⟨rfl,rfl⟩
theorem standsFor_any (b:Int)(w:World)(f : -1<=b)(g:b<256):Calls Tryz.prog 208 #[.int .i64 b] w fun e d=>e = .returned (.bool (decide (32<=b/\b≠127)))/\d=w:=by
 by_cases a:32<=b
 ·go_enter Tryz.func208,Tryz.ntmps208
  go_wp2
  go_ret;exact⟨ret_bool (by rw[Bool.eq_iff_iff];simp[a]),rfl⟩
 ·have h:decide (32<=b)=false:=by rw[decide_eq_false_iff_not];omega
  go_enter Tryz.func208,Tryz.ntmps208
  go_wp2
  go_ret;exact⟨ret_bool (by first | rfl | (rw[eq_comm,decide_eq_false_iff_not];omega)),rfl⟩
def baseI (b:Int):Int:=if b=120 then 16 else if b=111 then 8 else if b=98 then 2 else 0
theorem baseOf_any (b:Int)(w:World)(h : -1<=b)(i:b<256):Calls Tryz.prog 217 #[.int .i64 b] w fun e g=>e = .returned (.int .i64 (baseI b))/\g=w:=by
 by_cases a:b=120
 ·subst a
  go_enter Tryz.func217,Tryz.ntmps217
  go_wp2
  go_ret;exact⟨rfl,rfl⟩
 by_cases d:b=111
 ·subst d
  clear a
  go_enter Tryz.func217,Tryz.ntmps217
  go_wp2
  go_ret;exact⟨rfl,rfl⟩
 by_cases f:b=98
 ·subst f
  clear a d
  go_enter Tryz.func217,Tryz.ntmps217
  go_wp2
  go_ret;exact⟨rfl,rfl⟩
 ·rw[show baseI b=0 by unfold baseI;rw[if_neg a,if_neg d,if_neg f]]
  have j:(b == 120)=false:=by simpa using a
  have l:(b == 111)=false:=by simpa using d
  have k:(b == 98)=false:=by simpa using f
  clear a d f
  go_enter Tryz.func217,Tryz.ntmps217
  go_wp2
  go_ret;exact⟨rfl,rfl⟩
def endsI (b:Int):Bool:=decide (b = -1∨b=37∨b=32∨b=9∨b=10∨b=13)
theorem isOf16_all:(List.range 257).all (fun c=>isOfB ((c:Int)-1) 16 == decide (((c:Int)-1)=32∨((c:Int)-1)=9∨((c:Int)-1)=10∨((c:Int)-1)=13))=true:=by decide +kernel
theorem isOf16 {b:Int}(d : -1<=b)(a:b<256):isOfB b 16=decide (b=32∨b=9∨b=10∨b=13):=by
 have h:=List.all_eq_true.1 isOf16_all (b+1).toNat (by simp;omega);rw[show(((b+1).toNat:Nat):Int)-1=b by omega] at h
 simpa using h
theorem endsBehind_any (S b n c:Nat)(f:List Int)(d:Nat)(w:World)(p:Bytes f)(u:n=f.length)(z:n<=1000000)(ha:d<=10000000)
  (y:w.cell? ⟨S,0,none⟩=some (.slice (some ⟨b,0,none⟩) n c)) (A:∀ i,i<f.length->w.cell? ⟨b,i,none⟩=some (.int .u8 (f.getD i 0))) (t:Tab w) :
  Calls Tryz.prog 188 #[.pointer (some ⟨S,0,none⟩),.int .i64 d] w fun e k=>e = .returned (.bool (endsI (byteI f d)))/\k=w:=by
 have B:=hid A;have C:=hid t;have s:=hid u;have q:=byteI_rng p d;have l:=isOf16 q.1 q.2;clear A t u
 obtain⟨x,m⟩:∃ x,x=byteI f d:=⟨_,rfl⟩
 rw[<-m] at q l ⊢;have v:=hid m.symm;clear m
 have g:∀ r:Bool,endsI x=r->Hid (endsI x=r):=fun _ h=>h
 by_cases a:x = -1
 rotate_right
 case' _=>
  by_cases j:x=37
  rotate_left
  ·have E:=g (isOfB x 16) (by rw[l];simp[endsI,a,j])
   have D:(x == -1)=false:=by simpa using a
   have F:(x == 37)=false:=by simpa using j
   clear a j l
   go_enter Tryz.func188,Tryz.ntmps188
   go_wp2_with (first | (go_at_call 182;refine(byteAt_any S b n c f d _ p s.o z ha y B.o).mono ?_;rintro e k ⟨rfl,rfl⟩;rw[v.o]) | (go_at_call 183;refine(isOf_any _ _ _ (by omega) (by omega) C.o).mono ?_;rintro e k ⟨rfl,rfl⟩));go_ret;exact⟨ret_bool E.o.symm,rfl⟩
  have E:=g true (by simp[endsI,j]);subst j;clear a
 rotate_right
 case' _=>
  have E:=g true (by simp[endsI,a]);subst a
 all_goals
  go_enter Tryz.func188,Tryz.ntmps188
  go_wp2_with (go_at_call 182;refine(byteAt_any S b n c f d _ p s.o z ha y B.o).mono ?_;rintro e k ⟨rfl,rfl⟩;rw[v.o]);go_ret;exact⟨ret_bool E.o.symm,rfl⟩
def digsB (xs:List Int)(base:Int):Nat->Nat->Int->Int×Nat
 | 0,i,v=>(v,i)
 | f+1,i,v=>if digI (byteI xs i)<base then digsB xs base f (i+1) (min (v * base+digI (byteI xs i)) 1000000000000001) else(v,i)
theorem digs_end (b:List Int)(a:Int)(d:a<=16):∀ (f i:Nat) (v:Int),b.length<=i+f->∀ g,digsB b a (f+g) i v=digsB b a f i v
 | 0,i,v,h,0=>rfl
 | 0,i,v,h,g+1=>by
   have:digI (byteI b i)=16:=by rw[byteI_ge (by omega)];rfl
   have e:(0:Nat)+(g+1)=g+1:=by omega
   rw[e]
   unfold digsB
   rw[if_neg (by omega)]
 | f+1,i,v,h,g=>by
   have e:f+1+g=(f+g)+1:=by omega
   rw[e]
   unfold digsB
   split
   ·exact digs_end b a d f (i+1) _ (by omega) g
   ·rfl
theorem digs_step (xs:List Int)(a:Int)(b:a<=16)(k:Nat)(v:Int)(h:digI (byteI xs k)<a):digsB xs a xs.length k v=digsB xs a xs.length (k+1) (min (v * a+digI (byteI xs k)) 1000000000000001):=by
 have f:k<xs.length:=by
  rcases Nat.lt_or_ge k xs.length with h' | h'
  ·exact h'
  ·rw[byteI_ge h'] at h;have:digI (-1)=16:=rfl;omega
 obtain⟨m,d⟩:∃ m,xs.length=m+1:=⟨xs.length-1,by omega⟩
 have e:digsB xs a (m+1) k v=digsB xs a m (k+1) (min (v * a+digI (byteI xs k)) 1000000000000001):=by
  show(if digI (byteI xs k)<a then _ else _)=_
  rw[if_pos h]
 rw[d,e,digs_end xs a b m (k+1) _ (by omega) 1]
theorem digs_stop (b:List Int)(a:Int)(k:Nat)(v:Int)(h:¬ digI (byteI b k)<a):digsB b a b.length k v=(v,k):=by
 cases e:b.length with
 | zero=>rfl
 | succ m=>unfold digsB;rw[if_neg h]
theorem digI_rng (b:Int):0<=digI b/\digI b<=16:=by
 unfold digI
 repeat' split
 all_goals omega
theorem digits_any (S b n c:Nat)(f:List Int)(g:Nat)(a:Int)(w:World)(E:Bytes f)(K:n=f.length)(M:n<=1000000)(ha:g<=1000010)(s:0<=a)(p:a<=16)
  (L:w.cell? ⟨S,0,none⟩=some (.slice (some ⟨b,0,none⟩) n c)) (N:∀ i,i<f.length->w.cell? ⟨b,i,none⟩=some (.int .u8 (f.getD i 0))) :
  Calls Tryz.prog 215 #[.pointer (some ⟨S,0,none⟩),.int .i64 g,.int .i64 a] w fun e r=>e = .returned (.tuple #[.int .i64 (digsB f a f.length g 0).1,.int .i64 (digsB f a f.length g 0).2])/\r=w:=by
 have O:=hid N;have C:=hid K;clear N K
 go_enter Tryz.func215,Tryz.ntmps215
 go_wp2
 go_loop [1,8] (fun i q=>∃ (k:Nat) (v:Int),i = .int .i64 k/\q = .int .i64 v/\0<=v/\v<=1000000000000001/\k<=2000010/\Hid (k<=f.length+g)/\Hid (digsB f a f.length g 0=digsB f a f.length k v)) (fun i _=>3000000-(intOf i).toNat)
 case atStart=>exact⟨g,0,rfl,rfl,by decide,by decide,by omega,Nat.le_add_left _ _,rfl⟩
 case round=>
  obtain⟨k,v,rfl,rfl,G,A,V,X,F⟩:=hrel;have u:=byteI_rng E k;have J:=digI_rng (byteI f k)
  obtain⟨x,D⟩:∃ x,x=byteI f k:=⟨_,rfl⟩
  rw[<-D] at u J;have j:=hid D.symm
  obtain⟨d,H⟩:∃ d,d=digI x:=⟨_,rfl⟩
  rw[<-H] at J;have l:=hid H.symm;clear D H
  by_cases B:d<a
  ·have t:v * a<=1000000000000001 * 16:=by
    have:=Int.mul_le_mul A p s (by decide)
    omega
   have h:0<=v * a:=Int.mul_nonneg G s
   obtain⟨z,y⟩:∃ z,z=v * a:=⟨_,rfl⟩
   have I:Hid (k<f.length):=by
    rcases Nat.lt_or_ge k f.length with h' | h'
    ·exact h'
    ·have:=j.o;rw[byteI_ge h'] at this;have U:=l.o;rw[<-this] at U;have:digI (-1)=16:=rfl;omega
   have T:Hid (digsB f a f.length g 0=digsB f a f.length (k+1) (min (z+d) 1000000000000001)):=by
    show _=_
    rw[F.o,digs_step f a p k v (by rw[j.o,l.o];exact B),j.o,l.o,y]
   rw[<-y] at t h;have W:v * a=z:=y.symm;clear y F
   have R:k<n:=by rw[C.o];exact I.o
   go_wp2_with (first | (go_at_call 182;refine(byteAt_any S b n c f k _ E C.o M (by omega) L O.o).mono ?_;rintro e r ⟨rfl,rfl⟩;rw[j.o]) | (go_at_call 218;refine(digitValue_any x _ u.1 u.2).mono ?_;rintro e r ⟨rfl,rfl⟩;rw[l.o]))
   go_round
   case rel=>
    have m:min (z+d) 1000000000000001=if 1000000000000001<z+d then 1000000000000001 else z+d:=by split <;> omega
    exact⟨k+1,_,by go_num,rfl,by split <;> omega,by split <;> omega,by omega,by have:=I.o;show _<=_;omega,by rw[<-m];exact T⟩
   case measure=>simp[intOf];omega
  ·go_wp2_with (first | (go_at_call 182;refine(byteAt_any S b n c f k _ E C.o M (by omega) L O.o).mono ?_;rintro e r ⟨rfl,rfl⟩;rw[j.o]) | (go_at_call 218;refine(digitValue_any x _ u.1 u.2).mono ?_;rintro e r ⟨rfl,rfl⟩;rw[l.o]))
   go_ret2
   refine⟨?_,rfl⟩;rw[F.o,digs_stop f a k v (by rw[j.o,l.o];omega)]
   rfl
structure Moved (w w':World)(S:Nat)(pos:Nat):Prop where
 grown:w.grownBy w' (some S)
 at1:w'.cell? ⟨S,1,none⟩=some (.int .i64 pos)
 other:∀ j,j≠1->w'.cell? ⟨S,j,none⟩=w.cell? ⟨S,j,none⟩
 frozen:∀ j,w'.frozen? ⟨S,j,none⟩=w.frozen? ⟨S,j,none⟩
theorem grown_of_below {w w':World}(h:Below w.heap.size w w')(a:Option Nat):w.grownBy w' a:=⟨h.os,h.tape,h.output,h.size,fun k b _=>h.block k b⟩
theorem Moved.of_below {w w':World}{S a:Nat}(h:Below w.heap.size w w')(b:S<w.heap.size)(d:w.cell? ⟨S,1,none⟩=some (.int .i64 a)):Moved w w' S a:=
 ⟨grown_of_below h _,(h.cell (p:=⟨S,1,none⟩) b).trans d,fun j _=>h.cell (p:=⟨S,j,none⟩) b,fun j=>h.frozen (p:=⟨S,j,none⟩) b⟩
theorem Moved.trans {a b c:World}{S p q:Nat}(h:Moved a b S p)(k:Moved b c S q):Moved a c S q:=
 ⟨h.grown.trans k.grown,k.at1,fun j d=>(k.other j d).trans (h.other j d),fun j=>(k.frozen j).trans (h.frozen j)⟩
theorem Moved.set {w:World}{S:Nat}(q a:Nat)(b:w.cell? ⟨S,1,none⟩=some (.int .i64 q)):Moved w (w.setCell ⟨S,1,none⟩ (.int .i64 a)) S a:=
 ⟨⟨rfl,rfl,rfl,by simp,fun k _ d=>heap_setCell_other w ⟨S,1,none⟩ k _ (fun e=>d (by simp[e]))⟩,World.cell?_setCell_same' _ _ _ (by rw[b];rfl),fun j f=>World.cell?_setCell_other _ _ _ _ (by intro e;simp only[Addr.mk.injEq] at e;omega),fun j=>World.frozen?_setCell _ _ _ _⟩
theorem Moved.onto {w W f e:World}{S p:Nat}(h:Below w.heap.size w W)(M:Moved W f S p)(k:Below w.heap.size f e)(b:S<w.heap.size):Moved w e S p:=
 ⟨⟨k.os.trans (M.grown.os.trans h.os),k.tape.trans (M.grown.tape.trans h.tape),k.output.trans (M.grown.output.trans h.output),Nat.le_trans h.size (Nat.le_trans M.grown.size k.size),fun j a d=>(k.block j a).trans ((M.grown.block j (Nat.lt_of_lt_of_le a h.size) d).trans (h.block j a))⟩,
  (k.cell (p:=⟨S,1,none⟩) b).trans M.at1,fun j a=>(k.cell (p:=⟨S,j,none⟩) b).trans ((M.other j a).trans (h.cell (p:=⟨S,j,none⟩) b)),fun j=>(k.frozen (p:=⟨S,j,none⟩) b).trans ((M.frozen j).trans (h.frozen (p:=⟨S,j,none⟩) b))⟩
theorem grown_setCell (w:World)(a:Addr)(v:Value):w.grownBy (w.setCell a v) (some a.block):=⟨rfl,rfl,rfl,by simp,fun k _ b=>heap_setCell_other w a k v (fun e=>b (by rw[e]))⟩
theorem grown_set5 (w:World)(g:Nat)(e b f d a:Value):w.grownBy (w.setCells g 0 [e,b,f,d,a]) (some g):=
 ((((grown_setCell w ⟨g,0,none⟩ e).trans (grown_setCell _ ⟨g,1,none⟩ b)).trans (grown_setCell _ ⟨g,2,none⟩ f)).trans (grown_setCell _ ⟨g,3,none⟩ d)).trans (grown_setCell _ ⟨g,4,none⟩ a)
theorem fault_any (S a:Nat)(code:Int)(w:World)(b:w.cell? ⟨S,1,none⟩=some (.int .i64 a))(g:S<w.heap.size) :
  Calls Tryz.prog 193 #[.pointer (some ⟨S,0,none⟩),.int .i64 code] w fun e d=>e = .returned (.agg #[.int .i64 code,.int .i64 a])/\Below w.heap.size w d:=by
 have f:∀ o,(w.alloc o).cell? ⟨S,1,none⟩=some (.int .i64 a):=fun o=>Lib.cell?_alloc_marked o b
 clear b
 go_enter Tryz.func193,Tryz.ntmps193
 go_wp2
 exact bodyPost_ret (v:=.agg #[.int .i64 code,.int .i64 a]) (by simp[results,Tryz.results193,go_sem]) rfl ⟨rfl,(Below.refl _ _).alloc (Nat.le_refl _) _⟩
def Faults (code:Int)(pos:Nat)(e:Ending):Prop:=e = .panicked [{ v:=.iface 72 (.agg #[.int .i64 code,.int .i64 pos]),recovered:=false }]
theorem take_long (S a:Nat)(kind:Int)(b:Nat)(p:Option Addr)(n c:Nat)(w:World)(f:w.cell? ⟨S,1,none⟩=some (.int .i64 a))(h:S<w.heap.size)(i:100<n)(k:n<=1000000) :
  Calls Tryz.prog 189 #[.pointer (some ⟨S,0,none⟩),.int .i64 kind,.int .i64 b,.slice p n c] w fun e w'=>Faults 3 a e/\Below w.heap.size w w':=by
 have g:Hid (∀ o,(w.alloc o).cell? ⟨S,1,none⟩=some (.int .i64 a)):=fun o=>Lib.cell?_alloc_marked o f
 clear f
 go_enter Tryz.func189,Tryz.ntmps189
 go_wp2_with (go_at_call 193;refine(fault_any S a 3 _ (g.o _) (by simp;omega)).mono ?_;rintro e j ⟨rfl,d⟩);exact⟨rfl,rfl,((Below.refl _ _).alloc (Nat.le_refl _) _).trans (d.mono (by simp))⟩
theorem take_fits (S b:Nat)(kind:Int)(a:Nat)(p:Option Addr)(n c:Nat)(w:World)(d:w.cell? ⟨S,1,none⟩=some (.int .i64 b))(k:w.frozen? ⟨S,1,none⟩=false)(f:S<w.heap.size)(i:n<=100)(j:b<=a)(l:a<=1000000) :
  Calls Tryz.prog 189 #[.pointer (some ⟨S,0,none⟩),.int .i64 kind,.int .i64 a,.slice p n c] w fun e w'=>e = .returned (.agg #[.int .i64 kind,.int .i64 b,.int .i64 (a-b),.slice p n c,.int .i64 0])/\Moved w w' S a:=by
 have h:∀ o,(w.alloc o).cell? ⟨S,1,none⟩=some (.int .i64 b):=fun o=>Lib.cell?_alloc_marked o d
 have g:IntKind.i64.wrap ((a:Int)-b)=(a:Int)-b:=by rw[IntKind.wrap_i64];omega
 go_enter Tryz.func189,Tryz.ntmps189
 go_wp2
 go_region_held3 (fun w'=>w'.cell? ⟨S,1,none⟩=some (.int .i64 b)) (go_keep) (fail)
 all_goals go_wp2
 have M:=(Moved.set b a d).trans (Moved.of_below (w':=((((w.setCell ⟨S,1,none⟩ (.int .i64 a)).alloc (.cells #[.int .i64 kind,.int .i64 b,.int .i64 (a-b),.slice p n c,.int .i64 0] 86)).alloc (.cells #[.int .i64 kind,.int .i64 b,.int .i64 (a-b),.slice p n c,.int .i64 0] 86)).drew))
  ((((Below.refl _ _).alloc (Nat.le_refl _) _).alloc (by simp) _).drew) (by simpa using f) (Moved.set b a d).at1)
 exact bodyPost_ret (v:=.agg #[.int .i64 kind,.int .i64 b,.int .i64 (a-b),.slice p n c,.int .i64 0]) (by simp[results,Tryz.results189,go_sem]) rfl ⟨rfl,M⟩
theorem Below.of_grown {B:Nat}{w b:World}{a:Option Nat}(f:w.grownBy b a)(d:B<=w.heap.size)(e:∀ k,a=some k->B<=k):Below B w b:=(Below.refl _ _).grown f d e
end
section
open Go
section
variable {P:Program}{ops:Array Oper}{Q:Exit->Act->World->Prop}{md:Region.Mode}{S:World->Prop}{c:Nat}
def wpAnyU (P:Program)(md:Region.Mode)(ops:Array Oper)(Q:Exit->Act->World->Prop)(S:World->Prop)(c:Nat):Nat->Array Bool->Act->World->Prop
 | 0,listed,a,w=>Region.ready md ops listed = []/\Q .normal a w
 | fuel+1,listed,a,w=>
   (Region.ready md ops listed = []->Q .normal a w)/\
   ∀ i ∈ Region.ready md ops listed,wpOp P ops Q i (fun a' w'=>((listed.setIfInBounds i true).getD c true=false->S w')/\wpAnyU P md ops Q S c fuel (listed.setIfInBounds i true) a' w') a w
theorem wpAny_of_until:∀ (fuel:Nat) (b:Array Bool) (a:Act) (w:World),wpAnyU P md ops Q S c fuel b a w->wpAny P md ops Q fuel b a w
 | 0,_,_,_,h=>h
 | fuel+1,_,_,_,h=>⟨h.1,fun i e=>wpOp_mono (fun f g d=>wpAny_of_until fuel _ f g d.2) (h.2 i e)⟩
def waitsB (md:Region.Mode)(ops:Array Oper)(D:List Nat)(i:Nat):Bool:=
 !D.contains i && D.all fun d=>match ops[d]? with
  | some o=>o.after.any fun e=>Region.binds md e && (e.on == i || D.contains e.on)
  | none=>false
theorem waits_spec {D:List Nat}{i:Nat}(h:waitsB md ops D i=true):i ∉ D/\∀ d ∈ D,∃ o,ops[d]?=some o/\∃ e ∈ o.after,Region.binds md e=true/\(e.on=i∨e.on ∈ D):=by
 simp only[waitsB,Bool.and_eq_true,Bool.not_eq_true',List.all_eq_true] at h;refine⟨by simpa using h.1,fun d j=>?_⟩;have a:=h.2 d j
 cases b:ops[d]? with
 | none=>simp[b] at a
 | some o=>
   simp only[b,Array.any_eq_true',Bool.and_eq_true,Bool.or_eq_true,beq_iff_eq,List.contains_iff_mem] at a;obtain⟨e,k,f,g⟩:=a;exact⟨o,rfl,e,k,f,g⟩
theorem wpAnyU_first {i:Nat}{x:Oper}{v:Value}{D:List Nat}(V:ops[i]?=some x)(t:∀ (j:Nat) (o:Oper) K b,ops[j]?=some o->o.op≠.select K b)
  (hQ:∀ c a w,Q (.panic c) (a.put x.dst v) w->Q (.panic c) a w) (hw:waitsB md ops D i=true) (z:c ∈ D) :
  ∀ (fuel:Nat) (f:Array Bool) (a:Act) (w:World),
    (∀ j A,ops[j]?=some A->j≠i->f.getD j true=false->(∀ e ∈ A.after,Region.binds md e=true->e.on≠i)->x.apart ops A=true)->
    (∀ d ∈ D,f.getD d true=false)->
    i ∈ Region.ready md ops f->YieldsIf P ops S x v a->S w->
    wpAnyU P md ops Q S c fuel (f.setIfInBounds i true) (a.put x.dst v) w->wpAnyU P md ops Q S c (fuel+1) f a w:=by
 obtain⟨U,y⟩:=waits_spec hw
 intro fuel
 induction fuel with
 | zero=>
   intro f a w _ _ B M F H
   refine⟨fun h=>(by rw[h] at B;cases B),fun j L=>?_⟩
   by_cases g:j=i
   ·subst g;exact M.wpOp V F ⟨fun _=>F,H⟩
   ·have:=ready_mono L g
    rw[H.1] at this
    cases this
 | succ fuel ih=>
   intro f a w m X B M F H
   refine⟨fun h=>(by rw[h] at B;cases B),fun j L=>?_⟩
   by_cases g:j=i
   ·subst g;exact M.wpOp V F ⟨fun _=>F,H⟩
   ·have l:=H.2 j (ready_mono L g)
    obtain⟨s,A,q,u⟩:=mem_ready.1 L
    have r:∀ e ∈ A.after,Region.binds md e=true->e.on≠i:=fun e O N W=>by
     have l:=u e O N;have I:=(mem_ready.1 B).1;rw[W] at l
     rcases Nat.lt_or_ge i f.size with h' | h'
     ·simp[h'] at I l;rw[I] at l;cases l
     ·simp[Array.getElem?_eq_none h'] at l
    have p:j ∉ D:=fun p=>by
     obtain⟨o,ho,e,O,N,hx⟩:=y j p;rw[q] at ho
     cases ho
     rcases hx with hx | hx
     ·exact r e O N hx
     ·have l:=u e O N
      have I:=X _ hx
      rcases Nat.lt_or_ge e.on f.size with h' | h'
      ·simp[h'] at I l;rw[I] at l;cases l
      ·simp[Array.getElem?_eq_none h'] at l
    have C:∀ d ∈ D,(f.setIfInBounds j true).getD d true=false:=fun d Z=>by
     rw[getD_set_ne true (show j≠d from fun e=>p (e▸Z))];exact X d Z
    have E:((f.setIfInBounds i true).setIfInBounds j true).getD c true=false:=by
     rw[getD_set_ne true (show j≠c from fun e=>p (e▸z)),getD_set_ne true (show i≠c from fun e=>U (e▸z))];exact X c z
    have h2:=wpOp_putIf q (m j A q g s r) (fun K b=>t i x K b V) (fun K b=>t j A K b q) hQ M l;have n:∀ k ok,ops[k]?=some ok->k≠i->(f.setIfInBounds j true).getD k true=false->
      (∀ e ∈ ok.after,Region.binds md e=true->e.on≠i)->x.apart ops ok=true:=fun k ok hk T J Y=>by
     refine m k ok hk T ?_ Y
     by_cases G:j=k
     ·subst G;exact s
     ·rw[getD_set_ne true G] at J;exact J
    refine wpOp_mono (fun a' w' R=>⟨fun _=>R.2.1 E,ih (f.setIfInBounds j true) a' w' n C (ready_mono B (Ne.symm g)) R.1 (R.2.1 E) ?_⟩) h2;rw[Array.setIfInBounds_comm _ _ g];exact R.2.2
theorem wpAnyU_take {i:Nat}{v:Value}{D:List Nat}{fuel:Nat}{b:Array Bool}{a:Act}{w:World}(d:Option Tmp)(g:(ops[i]?).map (·.dst)=some d)
  (p:Region.noSelect ops=true) (r:Region.free md ops b i=true) (s:(Region.ready md ops b).contains i=true) (o:waitsB md ops D i=true) (j:D.contains c=true) (q:(D.all fun d=>!b.getD d true)=true)
  (l:∀ c a w,Q (.panic c) (a.put d v) w->Q (.panic c) a w) (n:∀ e,ops[i]?=some e->YieldsIf P ops S e v a) (m:S w)
  (h:wpAnyU P md ops Q S c fuel (b.setIfInBounds i true) (a.put d v) w):wpAnyU P md ops Q S c (fuel+1) b a w:=by
 cases f:ops[i]? with
 | none=>simp[f] at g
 | some e=>
   have k:e.dst=d:=by simpa [f] using g
   subst k;exact wpAnyU_first f (Region.noSelect_spec p) l o (by simpa using j) fuel b a w (Region.free_spec f r) (fun d g=>by have:=List.all_eq_true.1 q d g;simpa using this) (by simpa using s) (n e f) m h
theorem wpAnyU_all {rs:List Nat}{fuel:Nat}{b:Array Bool}{a:Act}{w:World}(e:Region.ready md ops b=rs)(d:rs≠[])
  (h:∀ i ∈ rs,wpOp P ops Q i (fun g w'=>((b.setIfInBounds i true).getD c true=false->S w')/\wpAnyU P md ops Q S c fuel (b.setIfInBounds i true) g w') a w):wpAnyU P md ops Q S c (fuel+1) b a w:=
 ⟨fun f=>absurd (e▸f) d,e▸h⟩
theorem wpAnyU_done {b:Array Bool}{a:Act}{w:World}(d:Region.ready md ops b = [])(h:Q .normal a w) :
  ∀ fuel,wpAnyU P md ops Q S c fuel b a w
 | 0=>⟨d,h⟩
 | _+1=>⟨fun _=>h,by rw[d];simp⟩
theorem wp_region_until {id:Nat}{a:Act}{w:World}(b:P.follows .mixedOrders=true)
  (h:wpAnyU P .any ops Q S c ops.size (Array.replicate ops.size false) a { w with drawn:=w.drawn+1 }):(Code.region id ops true).wp P Q a w:=
 wp_region_any b (wpAny_of_until _ _ _ _ h)
theorem wpOp_value {i:Nat}{v:Value}{a:Act}{w w':World}{K:Act->World->Prop}(d:Option Tmp)(h:(ops[i]?).map (·.dst)=some d)(j:(ops[i]?).map (fun o=>Region.wanted o (yielded ops a.tmps))=some true)
  (e:∀ o,ops[i]?=some o->(execOp a.eval o).run P w = .ok (.value v) w') (k:K (a.put d v) w'):wpOp P ops Q i K a w:=by
 cases b:ops[i]? with
 | none=>simp[b] at h
 | some o=>
   have g:o.dst=d:=by simpa [b] using h
   have f:Region.wanted o (yielded ops a.tmps)=true:=by simpa [b] using j
   subst g
   unfold wpOp
   simp only[b,f,if_true,Oper.wp,e o b,Oper.upon];exact .inl k
theorem wpOp_skip {i:Nat}{a:Act}{w w':World}{K:Act->World->Prop}(d:Option Tmp)(h:(ops[i]?).map (·.dst)=some d)(j:(ops[i]?).map (fun o=>Region.wanted o (yielded ops a.tmps))=some true)
  (e:∀ o,ops[i]?=some o->(execOp a.eval o).run P w = .ok .skip w') (k:K (a.put d undef) w'):wpOp P ops Q i K a w:=by
 cases b:ops[i]? with
 | none=>simp[b] at h
 | some o=>
   have g:o.dst=d:=by simpa [b] using h
   have f:Region.wanted o (yielded ops a.tmps)=true:=by simpa [b] using j
   subst g
   unfold wpOp
   simp only[b,f,if_true,Oper.wp,e o b,Oper.upon];exact .inl k
theorem wpOp_enter {i:Nat}{f:FuncId}{args:Array Value}{R:Ending->World->Prop}{a:Act}{w w':World}{K:Act->World->Prop}(d:Option Tmp)(n:(ops[i]?).map (·.dst)=some d)(t:(ops[i]?).map (fun o=>Region.wanted o (yielded ops a.tmps))=some true)
  (h:∀ o,ops[i]?=some o->(execOp a.eval o).run P w = .ok (.enter f args) w') (q:Calls P f args w' R) (p:∀ u b,R (.returned u) b->K (a.put d u) b) (s:∀ j b,R (.panicked j) b->Q (.panic j) a b) (r:∀ b,¬ R .outgrown b):wpOp P ops Q i K a w:=by
 cases g:ops[i]? with
 | none=>simp[g] at n
 | some o=>
   have l:o.dst=d:=by simpa [g] using n
   have k:Region.wanted o (yielded ops a.tmps)=true:=by simpa [g] using t
   subst l
   unfold wpOp
   simp only[g,k,if_true,Oper.wp,h o g,Oper.upon];refine .inl (q.mono fun e b m=>?_)
   cases e with
   | returned u=>exact p u b m
   | panicked j=>exact s j b m
   | outgrown=>exact absurd m (r b)
end
end
end Go.Proofs.YtlkhmmoimplokaaGreatDoor
