/- Texts of Cell2, Cell3, IsC, Valid1. Own work of the verifier. -/
import Derived.Test.YtlkhmmoimplokaaGreatDoorUqac
import Derived.Test.YtlkhmmoimplokaaGreatDoorUqae
import Derived.Deep.RegionWith
namespace Go.Proofs.YtlkhmmoimplokaaGreatDoor
set_option maxHeartbeats 2000000
open Go Go.RowKit
set_option linter.unusedVariables false
theorem infoCell:(Tryz.prog.info? 102).map (fun i=>(i.zero,i.size,i.bytes))=some (some (.agg #[.int .i64 0,.int .i64 0,.slice none 0 0]),3,40):=by kernel_rfl
def rcV (r:RC):List Value:=[.int .i64 r.1,.int .i64 r.2.1,.slice r.2.2.1 r.2.2.2.1 r.2.2.2.2]
def flat (rs:List RC):List Value:=rs.flatMap rcV
theorem flat_cons (r:RC)(a:List RC):flat (r :: a) = .int .i64 r.1 :: .int .i64 r.2.1 :: .slice r.2.2.1 r.2.2.2.1 r.2.2.2.2 :: flat a:=rfl
theorem flat_append (a b:List RC):flat (a ++ b)=flat a ++ flat b:=List.flatMap_append
theorem flat_len:∀ a:List RC,(flat a).length=a.length * 3
 | []=>rfl
 | r :: a=>by simp only[flat_cons,List.length_cons,flat_len a];omega
theorem flat_at:∀ (a:List RC) (i:Nat),i<a.length->(flat a)[i * 3]?=some (.int .i64 (a.getD i RC.zero).1)/\(flat a)[i * 3+1]?=some (.int .i64 (a.getD i RC.zero).2.1)/\
  (flat a)[i * 3+2]?=some (.slice (a.getD i RC.zero).2.2.1 (a.getD i RC.zero).2.2.2.1 (a.getD i RC.zero).2.2.2.2)
 | [],i,h=>by simp at h
 | r :: a,0,_=>by simp[flat_cons]
 | r :: a,i+1,h=>by
   have:=flat_at a i (by simpa using h);rw[flat_cons,show(i+1) * 3=(i * 3)+1+1+1 by omega,show(i * 3)+1+1+1+1=(i * 3+1)+1+1+1 by omega,show(i * 3)+1+1+1+2=(i * 3+2)+1+1+1 by omega]
   simpa using this
def OwnC (w:World)(B:Nat)(p:Option Addr)(n c:Nat)(cs:List Cel):Prop:=
 n=cs.length/\∃ rs:List RC,rs.length=cs.length/\w.ownsRow B 102 3 (.slice p n c) n (flat rs)/\(∀ i,i<cs.length->Fits w B (rs.getD i RC.zero) (cs.getD i Cel.none))/\ApartC p rs
theorem OwnC.nil (w:World)(B:Nat):OwnC w B none 0 0 []:=⟨rfl,[],rfl,World.ownsRow_nil _ _ _ _,fun i h=>by simp at h,fun i h=>by simp at h,fun i j h=>by simp at h⟩
theorem OwnC.cin {w:World}{B:Nat}{p:Option Addr}{n c:Nat}{f:List Cel}(h:OwnC w B p n c f):CIn w p f:=fun j=>by
 obtain⟨rfl,b,x,a,q,_⟩:=h;obtain⟨g,t,d,u,v⟩:=a.form j;simp only[Value.slice.injEq,true_and] at d;obtain⟨rfl,rfl⟩:=d;refine⟨g,0,rfl,fun i k=>?_⟩;obtain⟨o,r,e⟩:=q i k;obtain⟨s,m,l⟩:=flat_at b i (by omega);rw[Nat.zero_add];refine⟨(b.getD i RC.zero).2.2.1,(b.getD i RC.zero).2.2.2.2,?_,?_,?_,e.bin⟩
 ·rw[a.cellAt _ (by omega),s,o]
 ·rw[a.cellAt _ (by omega),m,r]
 ·rw[a.cellAt _ (by omega),l,e.len]
theorem OwnC.below {w w':World}{B:Nat}{p:Option Addr}{n c:Nat}{k:List Cel}(h:OwnC w B p n c k)(f:Below w.heap.size w w'):OwnC w' B p n c k:=by
 obtain⟨rfl,t,s,l,d,ha⟩:=h;refine⟨rfl,t,s,⟨l.1,?_⟩,fun i b=>⟨(d i b).1,(d i b).2.1,(d i b).2.2.below f⟩,ha⟩
 rcases l.2 with q | ⟨g,e,a,o,m,j,r⟩
 ·exact .inl q
 ·exact .inr ⟨g,e,a,o,m,(f.block g (Array.getElem?_eq_some_iff.1 j).1).trans j,r⟩
theorem OwnC.mono {w:World}{B d:Nat}{p:Option Addr}{n c:Nat}{e:List Cel}(h:OwnC w B p n c e)(f:d<=B):OwnC w d p n c e:=by
 obtain⟨g,rs,k,j,a,ha⟩:=h;exact⟨g,rs,k,ownsRow_down j f,fun i b=>⟨(a i b).1,(a i b).2.1,(a i b).2.2.mono f⟩,ha⟩
theorem eqCell_any (d g k i:Int)(p q:Option Addr)(u A r s:Nat)(b c:List Int)(w:World)(B:u=b.length)(y:A=c.length)(H:u<=1000000000)(I:A<=1000000000)(E:BIn w p b)(D:BIn w q c) :
  Calls Tryz.prog 74 #[.agg #[.int .i64 d,.int .i64 g,.slice p u r],.agg #[.int .i64 k,.int .i64 i,.slice q A s]] w fun e t=>e = .returned (.bool (decide (((d,g,b):Cel)=(k,i,c))))/\Below w.heap.size w t:=by
 subst B y
 have f:Hid (∀ W,Below w.heap.size w W->Calls Tryz.prog 12 #[.slice p b.length r,.slice q c.length s] W fun e t=>e = .returned (.bool (decide (b=c)))/\∃ n,t=W.drewN n):=fun W C=>eqByteS_any p q r s b c W H I (E.below C) (D.below C)
 have a:Below w.heap.size w ((w.alloc (Obj.cells #[Value.int IntKind.i64 d,Value.int IntKind.i64 g,Value.slice p b.length r] 102)).alloc (Obj.cells #[Value.int IntKind.i64 k,Value.int IntKind.i64 i,Value.slice q c.length s] 102)):=((Below.refl _ _).alloc (Nat.le_refl _) _).alloc (by simp) _;clear E D
 by_cases x:d=k
 ·subst x
  by_cases j:g=i
  ·subst j
   have z:=f.o _ a;have l:Hid _:=a;clear a f
   have h:decide (((d,g,b):Cel)=(d,g,c))=decide (b=c):=by simp
   rw[h]
   cases v:decide (b=c)
   rotate_right
   case' _=>
    rw[v] at z
   rotate_right
   case' _=>
    rw[v] at z
   all_goals
    clear v h
    go_enter Tryz.func74,Tryz.ntmps74
    go_wp2_with (go_at_call 12;refine z.mono ?_;rintro e t ⟨rfl,m,rfl⟩);go_ret;exact⟨rfl,below_drewN l.o _⟩
  ·have h:decide (((d,g,b):Cel)=(d,i,c))=false:=by simp[j]
   rw[h];have l:Hid _:=a;clear h f a
   have F:(g != i)=true:=by simpa using j
   go_enter Tryz.func74,Tryz.ntmps74
   go_wp2
   go_ret;exact⟨rfl,l.o⟩
 ·have h:decide (((d,g,b):Cel)=(k,i,c))=false:=by simp[x]
  rw[h];have l:Hid _:=a;clear h f a
  have G:(d != k)=true:=by simpa using x
  go_enter Tryz.func74,Tryz.ntmps74
  go_wp2
  go_ret;exact⟨rfl,l.o⟩
theorem eqCellS_any (p q:Option Addr)(c1 c2:Nat)(c a:List Cel)(w:World)(R:c.length+tl c<=1000000000)(hm:a.length+tl a<=1000000000)(Z:CIn w p c)(T:CIn w q a) :
  Calls Tryz.prog 35 #[.slice p c.length c1,.slice q a.length c2] w fun e I=>e = .returned (.bool (decide (c=a)))/\Below w.heap.size w I:=by
 have X:=hid Z;have M:=hid T;clear Z T
 by_cases y:c.length=a.length
 ·have J:Hid (c.length=a.length):=y
  obtain⟨n,F⟩:∃ n,a.length=n:=⟨_,rfl⟩
  rw[y];rw[y] at R;rw[F] at R hm y ⊢;have H:=hid F;clear y F
  go_enter Tryz.func35,Tryz.ntmps35
  go_wp2
  go_loopw [5] (fun i wr=>∃ k:Nat,k<=n/\i = .int .i64 k/\Hid (Below w.heap.size w wr)/\Hid (∀ j,j<k->c.getD j Cel.none=a.getD j Cel.none)) (fun i _=>n-(intOf i).toNat)
  case atStart=>exact⟨0,Nat.zero_le _,rfl,Below.refl _ _,fun _ h=>absurd h (Nat.not_lt_zero _)⟩
  case round=>
   obtain⟨k,hk,rfl,D,N⟩:=hrel
   by_cases z:k<n
   ·have t:k<c.length:=by rw[J.o,H.o];exact z
    have m:k<a.length:=by rw[H.o];exact z
    obtain⟨b,o,rfl,A⟩:=X.o (by omega);obtain⟨b',o',rfl,C⟩:=M.o (by omega);obtain⟨S,U,x0,x1,x2,P⟩:=(A k t).below D.o;obtain⟨L,qy,y0,y1,y2,y3⟩:=(C k m).below D.o;have bx:=tl_at c k t;have bY:=tl_at a k m;have B:Hid (decide (((c.getD k Cel.none).1,(c.getD k Cel.none).2.1,(c.getD k Cel.none).2.2)=(((a.getD k Cel.none).1,(a.getD k Cel.none).2.1,(a.getD k Cel.none).2.2):Cel))=decide (c.getD k Cel.none=a.getD k Cel.none)):=rfl
    obtain⟨a0,d⟩:∃ x,x=(c.getD k Cel.none).1:=⟨_,rfl⟩
    obtain⟨Y,l⟩:∃ x,x=(c.getD k Cel.none).2.1:=⟨_,rfl⟩
    obtain⟨am,r⟩:∃ x,x=(c.getD k Cel.none).2.2.length:=⟨_,rfl⟩
    obtain⟨O,g⟩:∃ x,x=(a.getD k Cel.none).1:=⟨_,rfl⟩
    obtain⟨V,f⟩:∃ x,x=(a.getD k Cel.none).2.1:=⟨_,rfl⟩
    obtain⟨K,u⟩:∃ x,x=(a.getD k Cel.none).2.2.length:=⟨_,rfl⟩
    have E:Hid (∀ W,Below wr.heap.size wr W->Calls Tryz.prog 74 #[.agg #[.int .i64 a0,.int .i64 Y,.slice S am U],.agg #[.int .i64 O,.int .i64 V,.slice L K qy]] W fun e I=>e = .returned (.bool (decide (c.getD k Cel.none=a.getD k Cel.none)))/\Below W.heap.size W I):=fun W Q=>by
     have:=eqCell_any a0 Y O V S L am K U qy _ _ W r u (by omega) (by omega) (P.below Q) (y3.below Q)
     rwa[d,l,g,f,B.o,<-d,<-l,<-g,<-f] at this
    rw[<-d] at x0;rw[<-l] at x1;rw[<-r] at x2;rw[<-g] at y0;rw[<-f] at y1;rw[<-u] at y2;clear d l r g f u B P y3 A C X M bx bY t m
    cases v:decide (c.getD k Cel.none=a.getD k Cel.none)
    ·rw[v] at E
     have G:Hid _:=v;clear v
     go_wp2
     go_region_with (go_at_call 74;refine(E.o _ (Below.refl _ _).drew).mono ?_;rintro e w2 ⟨rfl,s⟩)
     all_goals go_wp2
     all_goals go_ret
     all_goals exact⟨ret_bool (by
      symm;rw[decide_eq_false_iff_not];intro e
      have:=G.o;rw[decide_eq_false_iff_not] at this
      exact this (by rw[e])),Below.on D.o ((Below.refl _ _).drew.trans s)⟩
    ·rw[v] at E
     have G:Hid _:=v;clear v
     go_wp2
     go_region_with (go_at_call 74;refine(E.o _ (Below.refl _ _).drew).mono ?_;rintro e w2 ⟨rfl,s⟩)
     all_goals go_wp2
     all_goals go_roundw
     all_goals first
      | (simp[intOf];omega)
      | exact⟨k+1,by omega,by go_num,Below.on D.o ((Below.refl _ _).drew.trans s),fun j hj=>by
         by_cases e:j=k
         ·subst e;exact of_decide_eq_true G.o
         ·exact N.o j (by omega)⟩
   ·obtain rfl:k=n:=by omega
    go_wp2
    go_ret;exact⟨ret_bool (by symm;rw[decide_eq_true_iff];exact same_cells J.o (by rw[J.o,H.o];exact N.o)),D.o⟩
 ·have h1:¬ ((c.length:Int)=(a.length:Int)):=by omega
  have e:decide (c=a)=false:=by rw[decide_eq_false_iff_not];intro e;exact y (by rw[e])
  rw[e];clear e
  go_enter Tryz.func35,Tryz.ntmps35
  go_wp2
  go_ret;exact⟨rfl,Below.refl _ _⟩
def cellB (k n:Int)(m:Nat):Bool:=decide ((k=0/\0<=n/\n<=1000000/\m=0)∨(k=1/\-1000000000000000<=n/\n<=1000000000000000/\m=0)∨(k=2/\m<=100/\n=0)∨(k=3/\m<=100/\1<=n/\n<=20))
theorem isCell_any (k n:Int)(p:Option Addr)(m c:Nat)(w:World) :
  Calls Tryz.prog 118 #[.agg #[.int .i64 k,.int .i64 n,.slice p m c]] w fun e v=>e = .returned (.bool (cellB k n m))/\Below w.heap.size w v:=by
 have j:∀ {a:Bool} {o:Obj},a=cellB k n m->(Ending.returned (.bool a) = .returned (.bool (cellB k n m))/\Below w.heap.size w (w.alloc o)):=fun h=>⟨ret_bool h,(Below.refl _ _).alloc (Nat.le_refl _) _⟩
 have b:Hid _:=@j;clear j
 by_cases f:k=0
 ·subst f
  by_cases d:m=0
  ·subst d
   by_cases a:0<=n
   ·go_enter Tryz.func118,Tryz.ntmps118
    go_wp2
    go_ret;exact b.o (by rw[Bool.eq_iff_iff];simp[cellB];omega)
   ·go_enter Tryz.func118,Tryz.ntmps118
    go_wp2
    go_ret;exact b.o (by rw[Bool.eq_iff_iff];simp[cellB];omega)
  ·have q:((m:Int) == 0)=false:=by simp;omega
   have r:=hid d;clear d
   go_enter Tryz.func118,Tryz.ntmps118
   go_wp2
   go_ret;exact b.o (by have:=r.o;rw[Bool.eq_iff_iff];simp[cellB];omega)
 ·by_cases g:k=1
  ·subst g
   by_cases d:m=0
   ·subst d
    by_cases a : -1000000000000000<=n
    ·go_enter Tryz.func118,Tryz.ntmps118
     go_wp2
     go_ret;exact b.o (by rw[Bool.eq_iff_iff];simp[cellB];omega)
    ·go_enter Tryz.func118,Tryz.ntmps118
     go_wp2
     go_ret;exact b.o (by rw[Bool.eq_iff_iff];simp[cellB];omega)
   ·have q:((m:Int) == 0)=false:=by simp;omega
    have r:=hid d;clear d f
    go_enter Tryz.func118,Tryz.ntmps118
    go_wp2
    go_ret;exact b.o (by have:=r.o;rw[Bool.eq_iff_iff];simp[cellB];omega)
  ·have s:(k == 0)=false:=by simpa using f
   have t:(k == 1)=false:=by simpa using g
   by_cases i:k=2
   ·subst i
    clear s t f g
    by_cases d:(m:Int)<=100
    ·go_enter Tryz.func118,Tryz.ntmps118
     go_wp2
     go_ret;exact b.o (by rw[Bool.eq_iff_iff];simp[cellB];omega)
    ·go_enter Tryz.func118,Tryz.ntmps118
     go_wp2
     go_ret;exact b.o (by rw[Bool.eq_iff_iff];simp[cellB];omega)
   ·by_cases l:k=3
    ·subst l
     clear s t f g i
     by_cases d:(m:Int)<=100
     ·by_cases a:1<=n
      ·go_enter Tryz.func118,Tryz.ntmps118
       go_wp2
       go_ret;exact b.o (by rw[Bool.eq_iff_iff];simp[cellB];omega)
      ·go_enter Tryz.func118,Tryz.ntmps118
       go_wp2
       go_ret;exact b.o (by rw[Bool.eq_iff_iff];simp[cellB];omega)
     ·go_enter Tryz.func118,Tryz.ntmps118
      go_wp2
      go_ret;exact b.o (by rw[Bool.eq_iff_iff];simp[cellB];omega)
    ·have y:(k == 2)=false:=by simpa using i
     have x:(k == 3)=false:=by simpa using l
     have u:Hid (k≠0/\k≠1/\k≠2/\k≠3):=⟨f,g,i,l⟩
     clear f g i l
     go_enter Tryz.func118,Tryz.ntmps118
     go_wp2
     go_ret;exact b.o (by have:=u.o;rw[Bool.eq_iff_iff];simp[cellB];omega)
theorem l2cell_any (k n:Int)(p:Option Addr)(m c:Nat)(w:World) :
  Calls Tryz.prog 57 #[.agg #[.int .i64 k,.int .i64 n,.slice p m c]] w fun e u=>e = .returned (.bool (cellB k n m))/\Below w.heap.size w u:=by
 have j:∀ {a:Bool} {o:Obj},a=cellB k n m->(Ending.returned (.bool a) = .returned (.bool (cellB k n m))/\Below w.heap.size w (w.alloc o)):=fun h=>⟨ret_bool h,(Below.refl _ _).alloc (Nat.le_refl _) _⟩
 have d:Hid _:=@j;clear j
 by_cases g:k=0
 ·subst g
  by_cases a:0<=n
  ·by_cases b:n<=1000000
   ·go_enter Tryz.func57,Tryz.ntmps57
    go_wp2
    go_ret;exact d.o (by rw[Bool.eq_iff_iff];simp[cellB];omega)
   ·go_enter Tryz.func57,Tryz.ntmps57
    go_wp2
    go_ret;exact d.o (by rw[Bool.eq_iff_iff];simp[cellB];omega)
  ·go_enter Tryz.func57,Tryz.ntmps57
   go_wp2
   go_ret;exact d.o (by rw[Bool.eq_iff_iff];simp[cellB];omega)
 ·by_cases f:k=1
  ·subst f
   by_cases a : -1000000000000000<=n
   ·by_cases b:n<=1000000000000000
    ·go_enter Tryz.func57,Tryz.ntmps57
     go_wp2
     go_ret;exact d.o (by rw[Bool.eq_iff_iff];simp[cellB];omega)
    ·go_enter Tryz.func57,Tryz.ntmps57
     go_wp2
     go_ret;exact d.o (by rw[Bool.eq_iff_iff];simp[cellB];omega)
   ·go_enter Tryz.func57,Tryz.ntmps57
    go_wp2
    go_ret;exact d.o (by rw[Bool.eq_iff_iff];simp[cellB];omega)
  ·have s:(k == 0)=false:=by simpa using g
   have t:(k == 1)=false:=by simpa using f
   by_cases x:100<m
   ·have r:(100:Int)<m:=by omega
    have q:Hid (k≠0/\k≠1):=⟨g,f⟩
    clear g f
    go_enter Tryz.func57,Tryz.ntmps57
    go_wp2
    go_ret;exact d.o (by have:=q.o;rw[Bool.eq_iff_iff];simp[cellB];omega)
   ·have r:¬ (100:Int)<m:=by omega
    by_cases i:k=2
    ·subst i
     clear s t g f
     go_enter Tryz.func57,Tryz.ntmps57
     go_wp2
     go_ret;exact d.o (by rw[Bool.eq_iff_iff];simp[cellB];omega)
    ·by_cases l:k=3
     ·subst l
      clear s t g f i
      by_cases a:1<=n
      ·go_enter Tryz.func57,Tryz.ntmps57
       go_wp2
       go_ret;exact d.o (by rw[Bool.eq_iff_iff];simp[cellB];omega)
      ·go_enter Tryz.func57,Tryz.ntmps57
       go_wp2
       go_ret;exact d.o (by rw[Bool.eq_iff_iff];simp[cellB];omega)
     ·have y:(k == 2)=false:=by simpa using i
      have v:(k == 3)=false:=by simpa using l
      have q:Hid (k≠0/\k≠1/\k≠2/\k≠3):=⟨g,f,i,l⟩
      clear g f i l
      go_enter Tryz.func57,Tryz.ntmps57
      go_wp2
      go_ret;exact d.o (by have:=q.o;rw[Bool.eq_iff_iff];simp[cellB];omega)
end Go.Proofs.YtlkhmmoimplokaaGreatDoor
