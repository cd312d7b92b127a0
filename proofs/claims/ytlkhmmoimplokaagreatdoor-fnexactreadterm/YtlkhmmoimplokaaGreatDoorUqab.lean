/- Texts of Pure, Base, Base2, Strs, Plain, Plain2, Tab0, Quote, Clone, Quote2, Quote3. Own work of the verifier. -/
import Derived.Laws.BytesArg
import Derived.Lib.Strings
import Derived.WideShapes
import Derived.Test.YtlkhmmoimplokaaGreatDoorUqaa
import Derived.Lib.SlBytesConst
namespace Go.Proofs.YtlkhmmoimplokaaGreatDoor
set_option maxHeartbeats 2000000
set_option linter.unusedVariables false
section
open Go
def smallB (c:Int):Bool:=decide (97<=c/\c<=122)
def digitB (c:Int):Bool:=decide (48<=c/\c<=57)
def alnumB (c:Int):Bool:=decide ((97<=c/\c<=122)∨(65<=c/\c<=90)∨c=95∨(48<=c/\c<=57))
def symL:List Int:=[43,45,42,47,92,94,60,62,61,126,58,46,63,64,35,38,36]
def symbolB (c:Int):Bool:=symL.contains c
def tab:List Int:=[0,0,0,0,0,0,0,0,0,16,16,0,0,16,0,0,0,0,0,0,0,0,0,0,0,0,0,0,0,0,0,0,
 16,32,0,8,8,0,8,0,64,64,8,8,64,8,8,8,4,4,4,4,4,4,4,4,4,4,8,32,8,8,8,8,
 8,2,2,2,2,2,2,2,2,2,2,2,2,2,2,2,2,2,2,2,2,2,2,2,2,2,2,64,8,64,8,2,
 0,1,1,1,1,1,1,1,1,1,1,1,1,1,1,1,1,1,1,1,1,1,1,1,1,1,1,64,64,64,8,0]
def isOfB (b k:Int):Bool:=decide (0<=b) && (decide (b<128) && (bits BinOp.and .u8 (tab.getD b.toNat 0) k != 0))
theorem isOf_all:(List.range 256).all (fun c=>isOfB c 1 == smallB c && (isOfB c 7 == alnumB c && (isOfB c 8 == symbolB c)))=true:=by decide +kernel
theorem isOf_at {c:Int}(b:0<=c)(a:c<256):isOfB c 1=smallB c/\isOfB c 7=alnumB c/\isOfB c 8=symbolB c:=by
 have h:=List.all_eq_true.1 isOf_all c.toNat (by simp;omega);rw[show((c.toNat:Nat):Int)=c by omega] at h
 simpa using h
theorem isOf_hi {b k:Int}(h:128<=b):isOfB b k=false:=by
 have:¬ b<128:=by omega
 simp[isOfB,this]
theorem isOf_lo {b k:Int}(h:b<0):isOfB b k=false:=by
 have:¬ 0<=b:=by omega
 simp[isOfB,this]
theorem isOf_in {b k:Int}(a:0<=b)(h:b<128):isOfB b k=(bits BinOp.and .u8 (tab.getD b.toNat 0) k != 0):=by
 simp[isOfB,a,h]
def runLen (f:Int->Bool):List Int->Nat
 | []=>0
 | x :: r=>if f x then runLen f r+1 else 0
theorem runLen_le (f:Int->Bool):∀ a,runLen f a<=a.length
 | []=>Nat.le_refl _
 | x :: r=>by have:=runLen_le f r;unfold runLen;split <;> simp <;> omega
theorem runLen_stop (f:Int->Bool):∀ (a:List Int) (k:Nat),k<=a.length->(∀ i,i<k->f (a.getD i 0)=true)->(k=a.length∨f (a.getD k 0)=false)->runLen f a=k
 | [],k,h,_,_=>by simp at h;simp[runLen,h]
 | x :: r,0,_,_,h2=>by
   rcases h2 with h2 | h2
   ·simp at h2
   ·have:f x=false:=by simpa using h2
    simp[runLen,this]
 | x :: r,k+1,h,h1,h2=>by
   have b:f x=true:=by simpa using h1 0 (by omega)
   have:=runLen_stop f r k (by simpa using h) (fun i c=>by simpa using h1 (i+1) (by omega)) (by simpa using h2)
   simp[runLen,b,this]
def Bytes (xs:List Int):Prop:=∀ x ∈ xs,0<=x/\x<256
theorem Bytes.at {xs:List Int}(h:Bytes xs)(i:Nat):0<=xs.getD i 0/\xs.getD i 0<256:=by
 by_cases a:i<xs.length
 ·have:=h xs[i] (List.getElem_mem a)
  simpa [List.getD,a] using this
 ·simp[List.getD,List.getElem?_eq_none (Nat.le_of_not_lt a)]
theorem Bytes.take {xs:List Int}(h:Bytes xs)(n:Nat):Bytes (xs.take n):=fun x a=>h x (List.mem_of_mem_take a)
theorem Bytes.drop {a:List Int}(h:Bytes a)(n:Nat):Bytes (a.drop n):=fun x b=>h x (List.mem_of_mem_drop b)
end
section
open Go Go.RowKit
theorem small_any (c:Int)(w:World)(f:0<=c)(g:c<256):Calls Tryz.prog 90 #[.int .u8 c] w fun e d=>e = .returned (.bool (smallB c))/\d=w:=by
 by_cases a:97<=c
 ·by_cases b:c<=122
  ·go_enter Tryz.func90,Tryz.ntmps90
   go_wp2
   go_ret;exact⟨by simp[smallB,a,b],rfl⟩
  ·go_enter Tryz.func90,Tryz.ntmps90
   go_wp2
   go_ret;exact⟨by simp[smallB,a,b],rfl⟩
 ·go_enter Tryz.func90,Tryz.ntmps90
  go_wp2
  go_ret;exact⟨ret_bool (by simp only[smallB];symm;simp;omega),rfl⟩
theorem digit_any (c:Int)(w:World)(f:0<=c)(g:c<256):Calls Tryz.prog 86 #[.int .u8 c] w fun e d=>e = .returned (.bool (digitB c))/\d=w:=by
 by_cases a:48<=c
 ·by_cases b:c<=57
  ·go_enter Tryz.func86,Tryz.ntmps86
   go_wp2
   go_ret;exact⟨by simp[digitB,a,b],rfl⟩
  ·go_enter Tryz.func86,Tryz.ntmps86
   go_wp2
   go_ret;exact⟨by simp[digitB,a,b],rfl⟩
 ·go_enter Tryz.func86,Tryz.ntmps86
  go_wp2
  go_ret;exact⟨ret_bool (by simp only[digitB];symm;simp;omega),rfl⟩
theorem alnum_any (c:Int)(w:World)(g:0<=c)(h:c<256):Calls Tryz.prog 88 #[.int .u8 c] w fun e f=>e = .returned (.bool (alnumB c))/\f=w:=by
 by_cases a:97<=c/\c<=122
 ·have k:smallB c=true:=by simp[smallB,a]
  go_enter Tryz.func88,Tryz.ntmps88
  go_wp2_with (go_at_call 90;refine(small_any c _ g h).mono ?_;rintro e f ⟨rfl,rfl⟩);go_ret;exact⟨by simp[alnumB,a],rfl⟩
 ·have k:smallB c=false:=by simp only[smallB,a,decide_false]
  by_cases b:65<=c
  ·by_cases j:c<=90
   ·go_enter Tryz.func88,Tryz.ntmps88
    go_wp2_with (go_at_call 90;refine(small_any c _ g h).mono ?_;rintro e f ⟨rfl,rfl⟩);go_ret;exact⟨by simp[alnumB,a,b,j],rfl⟩
   ·by_cases d:c=95
    ·subst d
     go_enter Tryz.func88,Tryz.ntmps88
     go_wp2_with (go_at_call 90;refine(small_any _ _ g h).mono ?_;rintro e f ⟨rfl,rfl⟩);go_ret;exact⟨rfl,rfl⟩
    ·have l:digitB c=false:=by simp[digitB];omega
     have i:alnumB c=false:=by simp only[alnumB,decide_eq_false_iff_not];omega
     rw[i];clear a
     go_enter Tryz.func88,Tryz.ntmps88
     go_wp2_with (first | (go_at_call 90;refine(small_any c _ g h).mono ?_;rintro e f ⟨rfl,rfl⟩) | (go_at_call 86;refine(digit_any c _ g h).mono ?_;rintro e f ⟨rfl,rfl⟩));go_ret;exact⟨ret_bool (by simp[d,j]),rfl⟩
  ·have d:¬ c=95:=by omega
   have i:alnumB c=digitB c:=by simp only[alnumB,digitB];congr 1;rw[eq_iff_iff];omega
   rw[i];clear a
   go_enter Tryz.func88,Tryz.ntmps88
   go_wp2_with (first | (go_at_call 90;refine(small_any c _ g h).mono ?_;rintro e f ⟨rfl,rfl⟩) | (go_at_call 86;refine(digit_any c _ g h).mono ?_;rintro e f ⟨rfl,rfl⟩));go_ret;exact⟨ret_bool (by simp[d]),rfl⟩
end
section
open Go Go.RowKit
theorem sym_none (c:Int)(h:∀ j,j<17->symL.getD j 0≠c):symbolB c=false:=by
 unfold symbolB
 rw[Bool.eq_false_iff]
 intro b
 rw[List.contains_iff_mem] at b;obtain⟨i,d,e⟩:=List.mem_iff_getElem.1 b;have a:i<17:=d;exact h i a (by rw[List.getD,List.getElem?_eq_getElem d];exact e)
theorem sym_hit (c:Int)(k:Nat)(h:k<17)(a:symL.getD k 0=c):symbolB c=true:=by
 unfold symbolB
 rw[List.contains_iff_mem,<-a,List.getD,List.getElem?_eq_getElem (show k<symL.length from h)];exact List.getElem_mem _
theorem sym_fin:∀ k:Fin 17,((((⟨#[43,45,42,47,92,94,60,62,61,126,58,46,63,64,35,38,36]⟩:ByteArray)[k.1]'k.2).toNat:Nat):Int)=symL.getD k.1 0:=by decide +kernel
theorem sym_at (k:Nat)(h:k<(⟨#[43,45,42,47,92,94,60,62,61,126,58,46,63,64,35,38,36]⟩:ByteArray).size):((((⟨#[43,45,42,47,92,94,60,62,61,126,58,46,63,64,35,38,36]⟩:ByteArray)[k]'h).toNat:Nat):Int)=symL.getD k 0:=sym_fin ⟨k,h⟩
theorem symbol_any (c:Int)(w:World)(g:0<=c)(l:c<256):Calls Tryz.prog 91 #[.int .u8 c] w fun e f=>e = .returned (.bool (symbolB c))/\f=w:=by
 go_enter Tryz.func91,Tryz.ntmps91
 go_wp2
 go_loop [4] (fun i=>∃ k:Nat,k<=17/\i = .int .i64 k/\Hid (∀ j,j<k->symL.getD j 0≠c)) (fun i=>17-(intOf i).toNat)
 case atStart=>exact⟨0,Nat.zero_le _,rfl,fun _ h=>absurd h (Nat.not_lt_zero _)⟩
 case round=>
  obtain⟨k,n,rfl,d⟩:=hrel
  by_cases a:k<17
  ·go_wp2
   ·go_ret
    have b:=‹(_ == c)=true›;rw[sym_at k a] at b;exact⟨ret_bool (sym_hit c k a (by simpa using b)).symm,rfl⟩
   ·have b:=‹(_ == c)=false›
    rw[sym_at k a] at b
    go_round
    case rel=>exact⟨k+1,by omega,by go_num,fun j m=>by
     by_cases e:j=k
     ·subst e;simpa using b
     ·exact d.o j (by omega)⟩
    case measure=>simp[intOf];omega
  ·obtain rfl:k=17:=by omega
   go_wp2
   go_ret;exact⟨ret_bool (sym_none c d.o).symm,rfl⟩
theorem isOf_any (b k:Int)(w:World)(g : -9223372036854775808<=b)(h:b<=9223372036854775807)(c:∀ i,i<128->w.cell? ⟨3,i,none⟩=some (.int .u8 (tab.getD i 0))) :
  Calls Tryz.prog 183 #[.int .i64 b,.int .u8 k] w fun e d=>e = .returned (.bool (isOfB b k))/\d=w:=by
 by_cases a:0<=b
 ·by_cases f:b<128
  ·have j:=c b.toNat (by omega)
   rw[isOf_in a f];clear c
   go_enter Tryz.func183,Tryz.ntmps183
   go_wp2
   go_ret;exact⟨rfl,rfl⟩
  ·rw[isOf_hi (by omega)]
   clear c
   go_enter Tryz.func183,Tryz.ntmps183
   go_wp2
   go_ret;exact⟨rfl,rfl⟩
 ·rw[isOf_lo (by omega)]
  clear c
  go_enter Tryz.func183,Tryz.ntmps183
  go_wp2
  go_ret;exact⟨rfl,rfl⟩
def clsB (s:Bool)(c:Int):Bool:=if s then symbolB c else alnumB c
theorem l1run_any (b u:Nat)(f:List Int)(a:Nat)(s:Bool)(w:World)(A:Bytes f)(C:f.length<=100000000)(ha:a<=f.length)
  (z:∀ i,i<f.length->w.cell? ⟨b,i,none⟩=some (.int .u8 (f.getD i 0))) :
  Calls Tryz.prog 89 #[.slice (some ⟨b,0,none⟩) f.length u,.int .i64 a,.bool s] w fun e k=>e = .returned (.int .i64 (runLen (clsB s) (f.drop a)))/\k=w:=by
 go_enter Tryz.func89,Tryz.ntmps89
 go_wp2
 go_loop [7] (fun i=>∃ j:Nat,a+j<=f.length/\i = .int .i64 j/\Hid (∀ m,m<j->clsB s ((f.drop a).getD m 0)=true)) (fun i=>f.length-(intOf i).toNat)
 case atStart=>exact⟨0,by omega,rfl,fun _ h=>absurd h (Nat.not_lt_zero _)⟩
 case round=>
  obtain⟨j,D,rfl,r⟩:=hrel
  by_cases q:a+j<f.length
  ·have B:=z (a+j) q
   have d:=A.at (a+j)
   obtain⟨x,t⟩:∃ x,x=f.getD (a+j) 0:=⟨_,rfl⟩
   rw[<-t] at B d
   have y:Hid (x=(f.drop a).getD j 0):=by rw[t];simp[List.getD,List.getElem?_drop,Hid]
   clear t z;have g:symbolB x=clsB true x:=rfl;have c:alnumB x=clsB false x:=rfl
   by_cases n:clsB s x=true
   ·have go:∀ m,m<j+1->clsB s ((f.drop a).getD m 0)=true:=fun m E=>by
     by_cases e:m=j
     ·subst e;rw[<-y.o];exact n
     ·exact r.o m (by omega)
    have v:=hid go;clear go
    cases s
    ·rw[<-c] at n
     clear g c;go_wp2_with (first | (go_at_call 91;refine(symbol_any _ _ d.1 d.2).mono ?_;rintro e k ⟨rfl,rfl⟩) | (go_at_call 88;refine(alnum_any _ _ d.1 d.2).mono ?_;rintro e k ⟨rfl,rfl⟩))
     go_round
     case rel=>exact⟨j+1,by omega,by go_num,v⟩
     case measure=>simp[intOf];omega
    ·rw[<-g] at n
     clear g c;go_wp2_with (first | (go_at_call 91;refine(symbol_any _ _ d.1 d.2).mono ?_;rintro e k ⟨rfl,rfl⟩) | (go_at_call 88;refine(alnum_any _ _ d.1 d.2).mono ?_;rintro e k ⟨rfl,rfl⟩))
     go_round
     case rel=>exact⟨j+1,by omega,by go_num,v⟩
     case measure=>simp[intOf];omega
   ·have l:clsB s x=false:=by simpa using n
    have p:Hid (runLen (clsB s) (f.drop a)=j):=runLen_stop _ _ _ (by simp;omega) r.o (.inr (by rw[<-y.o];exact l));clear n
    cases s
    ·rw[<-c] at l
     clear g c;go_wp2_with (first | (go_at_call 91;refine(symbol_any _ _ d.1 d.2).mono ?_;rintro e k ⟨rfl,rfl⟩) | (go_at_call 88;refine(alnum_any _ _ d.1 d.2).mono ?_;rintro e k ⟨rfl,rfl⟩));go_ret;exact⟨ret_int (by rw[p.o]),rfl⟩
    ·rw[<-g] at l
     clear g c;go_wp2_with (first | (go_at_call 91;refine(symbol_any _ _ d.1 d.2).mono ?_;rintro e k ⟨rfl,rfl⟩) | (go_at_call 88;refine(alnum_any _ _ d.1 d.2).mono ?_;rintro e k ⟨rfl,rfl⟩));go_ret;exact⟨ret_int (by rw[p.o]),rfl⟩
  ·have p:Hid (runLen (clsB s) (f.drop a)=j):=runLen_stop _ _ _ (by simp;omega) r.o (.inl (by simp;omega))
   go_wp2
   go_ret;exact⟨ret_int (by rw[p.o]),rfl⟩
end
section
open Go Go.RowKit
theorem u8_ofS {x:Int}(a:0<=x)(b:x<256):((UInt8.ofNat x.toNat).toNat:Int)=x:=by
 simp only[UInt8.toNat_ofNat'];omega
theorem str_listS {a:List Int} : (strOfNums a).toList=a.map fun n=>UInt8.ofNat n.toNat:=by
 rw[ByteArray.toList_eq];rfl
theorem map_backS:∀ {a:List Int},Bytes a->(a.map fun n=>UInt8.ofNat n.toNat).map (fun u=>(u.toNat:Int))=a
 | [],_=>rfl
 | x :: r,h=>by
   have b:=h x (List.mem_cons_self ..);simp only[List.map_cons];rw[u8_ofS b.1 b.2,map_backS (fun y c=>h y (List.mem_cons_of_mem _ c))]
theorem map_forthS (l:List UInt8):((l.map (fun u=>(u.toNat:Int))).map fun n=>UInt8.ofNat n.toNat)=l:=by
 induction l with
 | nil=>rfl
 | cons a r b=>simp only[List.map_cons,b];simp
theorem str_eqS {a:List Int}(b:Bytes a)(l:List UInt8):(strOfNums a).toList=l↔a=l.map (fun u=>(u.toNat:Int)):=by
 rw[str_listS]
 constructor
 ·intro h;rw[<-h,map_backS b]
 ·intro h;rw[h,map_forthS]
end
section
open Go Go.RowKit
theorem strOf_eq {a ys:List Int}(c:Bytes a)(b:Bytes ys):((strOfNums a).toList == (strOfNums ys).toList)=decide (a=ys):=by
 rw[Bool.eq_iff_iff,beq_iff_eq,decide_eq_true_iff,str_eqS c,str_listS,map_backS b]
def Tab (W:World):Prop:=∀ i,i<128->W.cell? ⟨3,i,none⟩=some (.int .u8 (tab.getD i 0))
theorem Tab.below {W a:World}(h:Tab W)(c:Below W.heap.size W a):Tab a:=fun i b=>(c.cell (World.block_lt_of_cell? _ _ (h i b))).trans (h i b)
def hexL:List Int:=[48,49,50,51,52,53,54,55,56,57,97,98,99,100,101,102]
def hexD (k:Int):Int:=hexL.getD k.toNat 0
def q1 (c:Int):List Int:=
 if c=39∨c=92 then [92,c] else if c=10 then [92,110] else if c=9 then [92,116]
 else if c<32∨126<c then [92,120,hexD (c / 16),hexD (c % 16),92] else [c]
theorem news1 (w:World)(a:Int):∀ j u,(([a]:List Int).map (Value.int .u8))[j]?=some u->(w.alloc (.cells #[.int .u8 a] 5)).cell? ((⟨w.heap.size,0,none⟩:Addr).add j)=some u:=
 World.news_of_block (cs:=#[.int .u8 a]) (heap_alloc_new w _)
theorem news_ofS {w:World}{b o:Nat}{a:List Int}(f:∀ i,i<a.length->w.cell? ⟨b,o+i,none⟩=some (.int .u8 (a.getD i 0))):∀ j u,(a.map (Value.int .u8))[j]?=some u->w.cell? ((⟨b,o,none⟩:Addr).add j)=some u:=fun j u d=>by
 have c:j<a.length:=by
  rcases Nat.lt_or_ge j a.length with h | h
  ·exact h
  ·simp[List.getElem?_eq_none h] at d
 have e:(⟨b,o,none⟩:Addr).add j=⟨b,o+j,none⟩:=by unfold Addr.add;split <;> simp_all
 rw[e,f j c,<-d]
 simp[List.getD,c]
theorem clone_any (b o n c:Nat)(f:List Int)(w:World)(hn:n=f.length)(v:0<n)(A:n<=1000000)(r:∀ i,i<f.length->w.cell? ⟨b,o+i,none⟩=some (.int .u8 (f.getD i 0))) :
  Calls Tryz.prog 205 #[.slice (some ⟨b,o,none⟩) n c] w fun e p=>∃ m d j,e = .returned (.slice m d j)/\OwnS p w.heap.size m d j f/\Below w.heap.size w p:=by
 have x:Hid (∀ k i,i<f.length->(w.alloc k).cell? ⟨b,o+i,none⟩=some (.int .u8 (f.getD i 0))):=fun k i t=>Lib.cell?_alloc_marked k (r i t)
 have s:=hid hn;clear r hn
 have q:∀ (w:World) (a:Option Addr) (n c d j:Nat),(binOp .eql 23 (.slice a n c) (.slice none d j)).run Tryz.prog w = .ok (.bool a.isNone) w:=fun w a n c d j=>Lib.run_eql_slice_nil w _ _ a n c d j Tryz.underlying23
 go_enter Tryz.func205,Tryz.ntmps205
 go_wp2_with (at_builtin;refine app_bytes _ rfl _ _ rfl w.heap.size _ 0 _ [] f n s.o rfl ⟨rfl,World.ownsRow_lit w #[] 0 (Nat.le_refl _) (Nat.zero_le _) rfl⟩ _ c rfl (news_ofS (x.o _)) v (by omega) (by simp) ?_;intro g d y z h l u);go_ret;exact⟨_,_,_,rfl,h,((Below.refl _ _).alloc (Nat.le_refl _) _).trans l⟩
theorem own1 (w:World)(a:Int):OwnS (w.alloc (.cells #[.int .u8 a] 5)) w.heap.size (some ⟨w.heap.size,0,none⟩) 1 1 [a]:=⟨rfl,World.ownsRow_lit w #[.int .u8 a] 1 (Nat.le_refl _) (by unfold maxLen;omega) rfl⟩
theorem wrap_u8_in {x:Int}(a:0<=x)(b:x<256):IntKind.u8.wrap x=x:=by
 simp[IntKind.wrap,IntKind.signed,IntKind.bits]
 omega
end
end Go.Proofs.YtlkhmmoimplokaaGreatDoor
