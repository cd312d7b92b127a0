/- Texts of OpsV1, OpsV2, OpsV3. Own work of the verifier. -/
import Derived.Test.YtlkhmmoimplokaaGreatDoorUqai
import Derived.Lib.BytesEntry
import Derived.Sort.Grow
namespace Go.Proofs.YtlkhmmoimplokaaGreatDoor
set_option maxHeartbeats 2000000
set_option linter.unusedVariables false
set_option maxRecDepth 100000
section
open Go Go.RowKit
def resB (s:ByteArray):Bool:=s.toList == [91,93] || s.toList == [123,125] || s.toList == [124]
def preB (t:Int):Bool:=t == 3 || t == 4
def srt (t:Int):Int:=if preB t then 0 else 1
theorem isReserved_any (s:ByteArray)(w:World):Calls Tryz.prog 127 #[.string s] w fun e f=>e = .returned (.bool (resB s))/\f=w:=by
 cases d:(s.toList == [91,93]) <;> cases c:(s.toList == [123,125]) <;> cases i:(s.toList == [124])
 all_goals
  have g:Hid (∀ b,b=resB s->Ending.returned (.bool b) = .returned (.bool (resB s))):=fun b h=>ret_bool h
  have a:Hid (resB s=(s.toList == [91,93] || s.toList == [123,125] || s.toList == [124])):=rfl;rw[d,c,i] at a
  go_enter Tryz.func127,Tryz.ntmps127
  go_wp2_with fail;go_ret;exact⟨g.o _ a.o.symm,rfl⟩
theorem l3special_any (p:Option Addr)(m a:Nat)(c:List Int)(w:World)(d:m=c.length)(h:BIn w p c):Calls Tryz.prog 49 #[.slice p m a] w fun e k=>e = .returned (.bool (resB (strOfNums c)))/\k=w:=by
 have i:=conv_str h m a d 9 Tryz.underlying9;clear h d
 generalize strOfNums c=s at i ⊢
 cases j:(s.toList == [91,93]) <;> cases g:(s.toList == [123,125]) <;> cases n:(s.toList == [124])
 all_goals
  have l:Hid (∀ b,b=resB s->Ending.returned (.bool b) = .returned (.bool (resB s))):=fun b h=>ret_bool h
  have f:Hid (resB s=(s.toList == [91,93] || s.toList == [123,125] || s.toList == [124])):=rfl;rw[j,g,n] at f
  go_enter Tryz.func49,Tryz.ntmps49
  go_wp2_with fail;go_ret;exact⟨l.o _ f.o.symm,rfl⟩
theorem sortOf_any (t:Int)(w:World):Calls Tryz.prog 134 #[.int .i64 t] w fun e f=>e = .returned (.int .i64 (srt t))/\f=w:=by
 have a:Hid (srt t=if (t == 3 || t == 4) then 0 else 1):=rfl
 cases d:(t == 3) <;> cases c:(t == 4)
 all_goals
  rw[d,c] at a
  have g:Hid (∀ b,b=srt t->Ending.returned (.int .i64 b) = .returned (.int .i64 (srt t))):=fun b h=>ret_int h
  go_enter Tryz.func134,Tryz.ntmps134
  go_wp2_with fail;go_ret;exact⟨g.o _ a.o.symm,rfl⟩
theorem l3prefix_any (t:Int)(w:World):Calls Tryz.prog 50 #[.int .i64 t] w fun e f=>e = .returned (.bool (preB t))/\f=w:=by
 have a:Hid (preB t=(t == 3 || t == 4)):=rfl
 cases d:(t == 3) <;> cases c:(t == 4)
 all_goals
  rw[d,c] at a
  have g:Hid (∀ b,b=preB t->Ending.returned (.bool b) = .returned (.bool (preB t))):=fun b h=>ret_bool h
  go_enter Tryz.func50,Tryz.ntmps50
  go_wp2_with fail;go_ret;exact⟨g.o _ a.o.symm,rfl⟩
theorem isOpName_any (p:Option Addr)(m b:Nat)(w:World)(g:m<=1000000000):Calls Tryz.prog 125 #[.slice p m b] w fun e f=>e = .returned (.bool (decide (1<=m/\m<=100)))/\f=w:=by
 by_cases d:1<=m
 ·by_cases c:m<=100
  ·have e:decide (1<=m/\m<=100)=true:=by simp[d,c]
   have a:decide ((m:Int)<=100)=true:=by simp;omega
   rw[e];clear e
   go_enter Tryz.func125,Tryz.ntmps125
   go_wp2_with fail;go_ret;exact⟨rfl,rfl⟩
  ·have e:decide (1<=m/\m<=100)=false:=by simp;omega
   have a:decide ((m:Int)<=100)=false:=by simp;omega
   rw[e];clear e
   go_enter Tryz.func125,Tryz.ntmps125
   go_wp2_with fail;go_ret;exact⟨rfl,rfl⟩
 ·have e:decide (1<=m/\m<=100)=false:=by simp;omega
  rw[e];clear e
  go_enter Tryz.func125,Tryz.ntmps125
  go_wp2_with fail;go_ret;exact⟨rfl,rfl⟩
theorem isOpType_any (t:Int)(w:World):Calls Tryz.prog 126 #[.int .i64 t] w fun e c=>e = .returned (.bool (decide (0<=t/\t<=6)))/\c=w:=by
 by_cases b:0<=t
 ·by_cases a:t<=6
  ·have e:decide (0<=t/\t<=6)=true:=by simp[b,a]
   rw[e];clear e
   go_enter Tryz.func126,Tryz.ntmps126
   go_wp2_with fail;go_ret;exact⟨rfl,rfl⟩
  ·have e:decide (0<=t/\t<=6)=false:=by simp;omega
   rw[e];clear e
   go_enter Tryz.func126,Tryz.ntmps126
   go_wp2_with fail;go_ret;exact⟨rfl,rfl⟩
 ·have e:decide (0<=t/\t<=6)=false:=by simp;omega
  rw[e];clear e
  go_enter Tryz.func126,Tryz.ntmps126
  go_wp2_with fail;go_ret;exact⟨rfl,rfl⟩
theorem isNaNo_any (x:Int)(w:World):Calls Tryz.prog 173 #[.int .i64 x] w fun e a=>e = .returned (.bool false)/\a=w:=by
 go_enter Tryz.func173,Tryz.ntmps173
 go_wp2_with fail;go_ret;exact⟨rfl,rfl⟩
theorem compareO_any (x y:Int)(w:World):Calls Tryz.prog 133 #[.int .i64 x,.int .i64 y] w fun e g=>e = .returned (.int .i64 (cmpI x y))/\g=w:=by
 have i:=isNaNo_any x w;have k:=isNaNo_any y w
 have a:Hid (∀ c,c=cmpI x y->Ending.returned (.int .i64 c) = .returned (.int .i64 (cmpI x y))):=fun c h=>ret_int h
 by_cases b:x<y
 rotate_right
 case' _=>
  by_cases f:y<x
  rotate_right
  case' _=>
   have d:Hid _:=a.o 0 (by rw[cmpI,if_neg b,if_neg f])
  rotate_right
  case' _=>
   have d:Hid _:=a.o 1 (by rw[cmpI,if_neg b,if_pos f])
 rotate_right
 case' _=>
  have d:Hid _:=a.o (-1) (by rw[cmpI,if_pos b])
 all_goals
  go_enter Tryz.func133,Tryz.ntmps133
  go_wp2_with fail;refine i.mono ?_;rintro e j ⟨rfl,rfl⟩;go_wp2_with fail;refine k.mono ?_;rintro e j ⟨rfl,rfl⟩;go_wp2_with fail;go_ret;exact⟨d.o,rfl⟩
theorem compareBytes_eq:∀ l m:List UInt8,Lib.compareBytes l m=if Op.bytesLess l m then -1 else if l == m then 0 else 1
 | [],[]=>by simp[Lib.compareBytes,Op.bytesLess]
 | [],_ :: _=>by simp[Lib.compareBytes,Op.bytesLess]
 | _ :: _,[]=>by simp[Lib.compareBytes,Op.bytesLess]
 | a :: x,b :: y=>by
   have g:=compareBytes_eq x y;simp only[Lib.compareBytes,Op.bytesLess,g]
   by_cases c:a<b
   ·simp[c]
   ·by_cases d:b<a
    ·have f:¬ a=b:=fun e=>by subst e;exact c d
     simp[c,d,f]
    ·have e:a=b:=by rw[u8_lt] at c d;rw[u8_eq];omega
     subst e
     simp
theorem run_bytesOf {w:World}{p:Option Addr}{c:List Int}(h:BIn w p c)(m f:Nat)(l:m=c.length):(Extern.Bytes.bytesOf (.slice p m f)).run Tryz.prog w = .ok (strOfNums c) w:=by
 subst l
 by_cases i:0<c.length
 ·obtain⟨b,o,rfl,n⟩:=h i
  have k:=Lib.run_loadBytesX (P:=Tryz.prog) w c ⟨b,o,none⟩ .empty (fun j x g=>by
   have d:j<c.length:=(List.getElem?_eq_some_iff.1 g).1
   have e:(⟨b,o,none⟩:Addr).add j=⟨b,o+j,none⟩:=by unfold Addr.add;split <;> simp_all
   rw[e,n j d,List.getD_eq_getElem?_getD,g]
   rfl)
  simp only[Extern.Bytes.bytesOf];rw[k]
  congr 1
  apply ByteArray.ext
  show(#[]:Array UInt8) ++ (Lib.bytesOf c).toArray=(strOfNums c).data
  simp[Lib.bytesOf,strOfNums]
 ·obtain rfl:c = []:=by cases c with | nil=>rfl | cons a r=>simp at i
  cases p with
  | none=>simp[Extern.Bytes.bytesOf];rfl
  | some a=>simp[Extern.Bytes.bytesOf,Extern.Bytes.loadBytes];rfl
theorem run_compareS {w:World}{p q:Option Addr}{c b:List Int}(h:BIn w p c)(g:BIn w q b)(m n a d:Nat)(e:m=c.length)(f:n=b.length) :
  (Extern.BytealgCompare.compare #[.slice p m a,.slice q n d]).run Tryz.prog w = .ok (.int .i64 (cmpS (strOfNums c) (strOfNums b))) w:=by
 change Sem.run Tryz.prog (do pure (goInt (Extern.BytealgCompare.cmp (<- Extern.Bytes.bytesOf (.slice p m a)) (<- Extern.Bytes.bytesOf (.slice q n d))))) w=_
 simp only[Sem.run_bind,run_bytesOf h m a e,run_bytesOf g n d f,Sem.run_pure,Result.andThen];rw[Lib.cmp_eq,compareBytes_eq,cmpS,ByteArray.toList_eq,ByteArray.toList_eq]
 rfl
theorem bytesCompare_any (p q:Option Addr)(m n g j:Nat)(b a:List Int)(w:World)(c:m=b.length)(d:n=a.length)(i:BIn w p b)(h:BIn w q a) :
  Calls Tryz.prog 132 #[.slice p m g,.slice q n j] w fun e k=>e = .returned (.int .i64 (cmpS (strOfNums b) (strOfNums a)))/\k=w:=by
 have f:=run_compareS i h m n g j c d;clear i h c d
 generalize cmpS (strOfNums b) (strOfNums a)=r at f ⊢
 go_enter Tryz.func132,Tryz.ntmps132
 go_wp2_with fail;rw[run_callFunc_extern Tryz.func172 (by kernel_rfl) (by kernel_rfl) (by kernel_rfl) (e:=Extern.BytealgCompare.compare) (by kernel_rfl),f];simp only[Result.andThen];rw[Oper.upon_value];go_wp2_with fail;go_ret;exact⟨rfl,rfl⟩
end
section
open Go Go.RowKit Go.Sort
def opCmp (x y:Cel):Int:=orI (cmpS (strOfNums x.2.2) (strOfNums y.2.2)) (cmpI (srt x.2.1) (srt y.2.1))
theorem compareOps_any (k c j a:Int)(p q:Option Addr)(d f g h:Nat)(n r:List Int)(w:World)(z:d=n.length)(s:f=r.length)(M:BIn w p n)(J:BIn w q r) :
  Calls Tryz.prog 84 #[.agg #[.slice p d g,.int .i64 k,.int .i64 c],.agg #[.slice q f h,.int .i64 j,.int .i64 a]] w fun e i=>e = .returned (.int .i64 (opCmp (k,c,n) (j,a,r)))/\∃ q E,i=grow (w.drewN q) E:=by
 have B:∀ W,Below w.heap.size w W->Calls Tryz.prog 132 #[.slice p d g,.slice q f h] W fun e i=>e = .returned (.int .i64 (cmpS (strOfNums n) (strOfNums r)))/\i=W:=fun W H=>bytesCompare_any p q d f g h n r W z s (M.below H) (J.below H)
 have l:=fun W=>sortOf_any c W
 have m:=fun W=>sortOf_any a W
 have v:=fun W=>compareO_any (srt c) (srt a) W
 rw[opCmp];simp only
 generalize cmpS (strOfNums n) (strOfNums r)=cs at B ⊢
 generalize srt c=s1 at l v ⊢
 generalize srt a=s2 at m v ⊢
 generalize cmpI s1 s2=ci at v ⊢
 have D:∀ (b:Nat) (W:World),W.cell? ⟨b,0,none⟩=some (.int .i64 cs)->W.cell? ⟨b,1,none⟩=some (.int .i64 ci)->Calls Tryz.prog 131 #[.slice (some ⟨b,0,none⟩) 2 2] W fun e i=>e = .returned (.int .i64 (orI cs ci))/\i=W:=fun b W P O=>or_any b cs ci W P O
 generalize orI cs ci=co at D ⊢
 have K:Below w.heap.size w ((w.alloc (.cells #[.slice p d g,.int .i64 k,.int .i64 c] 60)).alloc (.cells #[.slice q f h,.int .i64 j,.int .i64 a] 60)):=((Below.refl _ _).alloc (Nat.le_refl _) _).alloc (by simp) _;have I:Box3 ((w.alloc (.cells #[.slice p d g,.int .i64 k,.int .i64 c] 60)).alloc (.cells #[.slice q f h,.int .i64 j,.int .i64 a] 60)) w.heap.size (.slice p d g) (.int .i64 k) (.int .i64 c):=Box3.of_block (t:=60) ((Below.heap_alloc _ _ _ (by simp)).trans (heap_alloc_new _ _))
 have G:Box3 ((w.alloc (.cells #[.slice p d g,.int .i64 k,.int .i64 c] 60)).alloc (.cells #[.slice q f h,.int .i64 j,.int .i64 a] 60)) (w.heap.size+1) (.slice q f h) (.int .i64 j) (.int .i64 a):=Box3.of_block (t:=60) (by
  have:=heap_alloc_new (w.alloc (.cells #[.slice p d g,.int .i64 k,.int .i64 c] 60)) (.cells #[.slice q f h,.int .i64 j,.int .i64 a] 60);rw[World.size_alloc] at this
  exact this)
 have N:Hid (∃ L,(w.alloc (.cells #[.slice p d g,.int .i64 k,.int .i64 c] 60)).alloc (.cells #[.slice q f h,.int .i64 j,.int .i64 a] 60)=grow w L):=⟨_,by rw[alloc_eq_grow,alloc_eq_grow,grow_grow]⟩
 have S:=hid B;have F:Hid _:=l;have C:Hid _:=m;have R:Hid _:=v;have Q:Hid _:=D;have u:Hid _:=K;have y:Hid _:=I;have x:Hid _:=G;clear B l m v D M J z s K I G
 go_enter Tryz.func84,Tryz.ntmps84
 go_wp2_with fail;obtain⟨Z,X,U,_⟩:=y.o;obtain⟨V,T,Y,_⟩:=x.o;clear y x
 generalize (w.alloc (.cells #[.slice p d g,.int .i64 k,.int .i64 c] 60)).alloc (.cells #[.slice q f h,.int .i64 j,.int .i64 a] 60)=W2 at *
 go_region_held3 (fun W=>(W.cell? ⟨w.heap.size,0,none⟩=some (.slice p d g)/\W.cell? ⟨w.heap.size,2,none⟩=some (.int .i64 c))/\W.cell? ⟨w.heap.size+1,0,none⟩=some (.slice q f h)/\W.cell? ⟨w.heap.size+1,2,none⟩=some (.int .i64 a))
  (go_keep)
  (first
    | (go_at_call 132;refine(S.o _ (by first | exact u.o | exact u.o.trans (Below.refl _ _).drew)).mono ?_;rintro e i ⟨rfl,rfl⟩)
    | (go_at_call 133;refine(R.o _).mono ?_;rintro e i ⟨rfl,rfl⟩)
    | (go_at_call 134;refine(F.o _).mono ?_;rintro e i ⟨rfl,rfl⟩)
    | (go_at_call 134;refine(C.o _).mono ?_;rintro e i ⟨rfl,rfl⟩)
    | (go_at_call 131;refine(Q.o _ _ (by exact(pair_new _ _ _ _).1) (by exact(pair_new _ _ _ _).2)).mono ?_;rintro e i ⟨rfl,rfl⟩))
 all_goals go_wp2_with fail
 all_goals go_ret
 obtain⟨L,A⟩:=N.o;exact⟨rfl,1,_,by rw[A,alloc_eq_grow,grow_grow,drew_grow];rfl⟩
end
section
open Go Go.RowKit
def okB (k n:Int)(s:ByteArray)(m:Nat):Bool:=decide (1<=m/\m<=100) && (decide (0<=n/\n<=6) && (decide (1<=k/\k<=1200) && (if s.toList == [44] then(k == 1000 && n == 1) else !resB s)))
theorem isOp_any (k n:Int)(p:Option Addr)(m a:Nat)(i:List Int)(w:World)(B:m=i.length)(z:m<=1000000000)(A:BIn w p i) :
  Calls Tryz.prog 98 #[.agg #[.slice p m a,.int .i64 k,.int .i64 n]] w fun e j=>e = .returned (.bool (okB k n (strOfNums i) m))/\Below w.heap.size w j:=by
 have q:Below w.heap.size w (w.alloc (Obj.cells #[.slice p m a,.int .i64 k,.int .i64 n] 60)):=(Below.refl _ _).alloc (Nat.le_refl _) _;have D:=conv_str (A.below q) m a B 9 Tryz.underlying9;have F:Hid _:=q;have v:=isOpName_any p m a (w.alloc (Obj.cells #[.slice p m a,.int .i64 k,.int .i64 n] 60)) z;have y:=isOpType_any n (w.alloc (Obj.cells #[.slice p m a,.int .i64 k,.int .i64 n] 60));clear A B z q
 generalize strOfNums i=s at D ⊢
 have C:=isReserved_any s (w.alloc (Obj.cells #[.slice p m a,.int .i64 k,.int .i64 n] 60));have c:Hid (okB k n s m=(decide (1<=m/\m<=100) && (decide (0<=n/\n<=6) && (decide (1<=k/\k<=1200) && (if s.toList == [44] then(k == 1000 && n == 1) else !resB s))))):=rfl
 generalize resB s=r at C c
 generalize decide (1<=m/\m<=100)=b1 at v c
 generalize decide (0<=n/\n<=6)=b2 at y c
 have E:Hid (∀ b,b=okB k n s m->Ending.returned (.bool b) = .returned (.bool (okB k n s m))):=fun b h=>ret_bool h
 cases b1
 rotate_right
 case' _=>
  cases b2
  rotate_right
  case' _=>
   by_cases H:k<1
   rotate_right
   case' _=>
    by_cases G:1200<k
    rotate_right
    case' _=>
     have d:decide (1<=k/\k<=1200)=true:=by simp;omega
     have f:Hid _:=d;clear d
     cases l:(s.toList == [44])
     rotate_right
     case' _=>
      cases u:(k == 1000)
      rotate_right
      case' _=>
       cases x:(n == 1)
       rotate_right
       case' _=>
        have g:Hid (okB k n s m=true):=by show _=_;rw[c.o];rw[f.o,l,u,x];simp
       rotate_right
       case' _=>
        have g:Hid (okB k n s m=false):=by show _=_;rw[c.o];rw[f.o,l,u,x];simp
      rotate_right
      case' _=>
       have g:Hid (okB k n s m=false):=by show _=_;rw[c.o];rw[f.o,l,u];simp
     rotate_right
     case' _=>
      have g:Hid (okB k n s m = !r):=by show _=_;rw[c.o];rw[f.o,l];simp
    rotate_right
    case' _=>
     have d:decide (1<=k/\k<=1200)=false:=by simp;omega
     have g:Hid (okB k n s m=false):=by show _=_;rw[c.o];rw[d];rfl
   rotate_right
   case' _=>
    have t:decide (1<=k/\k<=1200)=false:=by simp;omega
    have g:Hid (okB k n s m=false):=by show _=_;rw[c.o];rw[t];rfl
  rotate_right
  case' _=>
   have g:Hid (okB k n s m=false):=by show _=_;rw[c.o];rfl
 rotate_right
 case' _=>
  have g:Hid (okB k n s m=false):=by show _=_;rw[c.o];rfl
 all_goals
  go_enter Tryz.func98,Tryz.ntmps98
  go_wp2_with (first | (go_at_call 125;refine v.mono ?_;rintro e j ⟨rfl,rfl⟩) | (go_at_call 126;refine y.mono ?_;rintro e j ⟨rfl,rfl⟩) | (go_at_call 127;refine C.mono ?_;rintro e j ⟨rfl,rfl⟩));go_ret;exact⟨E.o _ g.o.symm,F.o⟩
def ltO (a b:Cel):Bool:=decide (opCmp a b<0)
def okC (c:Cel):Bool:=okB c.1 c.2.1 (strOfNums c.2.2) c.2.2.length
def comC (c:Cel):Bool:=(strOfNums c.2.2).toList == [44]
def chainO:Option Cel->List Cel->Bool
 | _,[]=>true
 | a,c :: r=>okC c && (match a with | none=>true | some x=>ltO x c) && chainO (some c) r
def tabB (cs:List Cel):Bool:=decide (cs.length<=200) && (chainO none cs && cs.any comC)
def befO (cs:List Cel)(k:Nat):Option Cel:=if k=0 then none else some (cs.getD (k-1) Cel.none)
theorem chainO_at (b:List Cel)(k:Nat)(h:k<b.length):chainO (befO b k) (b.drop k)=(okC (b.getD k Cel.none) && (match befO b k with | none=>true | some x=>ltO x (b.getD k Cel.none)) && chainO (befO b (k+1)) (b.drop (k+1))):=by
 have e:befO b (k+1)=some (b.getD k Cel.none):=by simp[befO]
 rw[drop_at b k h,e]
 generalize befO b k=a
 cases a <;> rfl
theorem opCmp_lt (x y:Cel):opCmp x y<0↔Op.bytesLess (strOfNums x.2.2).toList (strOfNums y.2.2).toList=true∨((strOfNums x.2.2).toList=(strOfNums y.2.2).toList/\srt x.2.1<srt y.2.1):=by
 unfold opCmp orI cmpI cmpS
 cases a:Op.bytesLess (strOfNums x.2.2).toList (strOfNums y.2.2).toList with
 | true=>simp
 | false=>
   by_cases e:(strOfNums x.2.2).toList=(strOfNums y.2.2).toList
   ·simp only[e]
    simp
    split
    ·simp;omega
    ·split <;> simp <;> omega
   ·simp[e]
theorem ltO_trans {x y z:Cel}(b:ltO x y=true)(a:ltO y z=true):ltO x z=true:=by
 simp only[ltO,decide_eq_true_eq,opCmp_lt] at *
 rcases b with b | ⟨b,h1'⟩ <;> rcases a with a | ⟨a,c⟩
 ·exact .inl (bl_trans _ _ _ b a)
 ·exact .inl (a▸b)
 ·exact .inl (b▸a)
 ·exact .inr ⟨b.trans a,by omega⟩
theorem com_srt {c:Cel}(h:okC c=true)(a:comC c=true):srt c.2.1=1:=by
 simp only[okC,okB,Bool.and_eq_true] at h;rw[comC] at a;rw[if_pos a] at h;simp only[Bool.and_eq_true,beq_iff_eq] at h;rw[h.2.2.2.2];decide
theorem com_not_lt {x y:Cel}(e:okC x=true)(d:okC y=true)(a:comC x=true)(b:comC y=true):ltO x y=false:=by
 rw[ltO,decide_eq_false_iff_not,opCmp_lt]
 have f:(strOfNums x.2.2).toList = [44]:=by simpa [comC] using a
 have c:(strOfNums y.2.2).toList = [44]:=by simpa [comC] using b
 rw[f,c,bl_irrefl,com_srt e a,com_srt d b]
 simp
theorem chainO_all:∀ (b:List Cel) (a:Cel),chainO (some a) b=true->∀ c ∈ b,ltO a c=true/\okC c=true
 | [],a,_,c,hc=>by cases hc
 | x :: r,a,h,c,hc=>by
   simp only[chainO,Bool.and_eq_true] at h
   rcases List.mem_cons.1 hc with rfl | hc
   ·exact⟨h.1.2,h.1.1⟩
   ·have:=chainO_all r x h.2 c hc
    exact⟨ltO_trans h.1.2 this.1,this.2⟩
theorem com_count:∀ (b:List Cel) (a:Option Cel),chainO a b=true->b.countP comC=if b.any comC then 1 else 0
 | [],_,_=>rfl
 | x :: r,a,h=>by
   simp only[chainO,Bool.and_eq_true] at h;have f:=com_count r (some x) h.2;rw[List.countP_cons,f]
   cases e:comC x with
   | false=>rw[List.any_cons,e];cases r.any comC <;> simp
   | true=>
     have:r.any comC=false:=by
      rw[List.any_eq_false]
      intro c g d
      have:=chainO_all r x h.2 c g;rw[com_not_lt h.1.1 this.2 e d] at this
      cases this.1
     rw[List.any_cons,e,this];simp
end
end Go.Proofs.YtlkhmmoimplokaaGreatDoor
