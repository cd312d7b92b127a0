/- Texts of WtP, WtA, WtB, WtC, WtL. Own work of the verifier. -/
import Derived.Test.YtlkhmmoimplokaaGreatDoorUqap
import Derived.Test.YtlkhmmoimplokaaGreatDoorUqam
import Derived.Test.YtlkhmmoimplokaaGreatDoorUqar
namespace Go.Proofs.YtlkhmmoimplokaaGreatDoor
set_option maxHeartbeats 2000000
set_option linter.unusedVariables false
set_option maxRecDepth 100000
section
open Go Go.RowKit
def leftP (op:Cel):Int:=if op.2.1=2∨op.2.1=6 then op.1 else op.1-1
def rightP (op:Cel):Int:=if op.2.1=1∨op.2.1=3 then op.1 else op.1-1
def findW (T:List Cel)(xs:List Int)(pf:Bool):Int:=fIdx (strOfNums xs).toList pf 0 T
def curly:Cel:=(3,1,[123,125])
def opW (T:List Cel)(i:Int):Cel:=T.getD i.toNat Cel.none
end
section
open Go Go.RowKit
set_option linter.unusedSimpArgs false
end
section
open Go Go.RowKit
def NIn (w:World)(p:Option Addr)(N:List (List Int)):Prop:=0<N.length->∃ b o,p=some ⟨b,o,none⟩/\∀ i,i<N.length->∃ q c,w.cell? ⟨b,o+i,none⟩=some (.slice q (N.getD i []).length c)/\BIn w q (N.getD i [])
theorem NIn.below {w W:World}{p:Option Addr}{N:List (List Int)}(h:NIn w p N)(d:Below w.heap.size w W):NIn W p N:=fun g=>by
 obtain⟨b,o,e,h⟩:=h g
 exact⟨b,o,e,fun i j=>by
  obtain⟨q,c,a,f⟩:=h i j
  exact⟨q,c,(d.cell (World.block_lt_of_cell? _ _ a)).trans a,f.below d⟩⟩
theorem leftW_any (op:Cel)(p:Option Addr)(n c:Nat)(w:World)(g:0<=op.1/\op.1<=1200):Calls Tryz.prog 148 #[.agg #[.slice p n c,.int .i64 op.1,.int .i64 op.2.1]] w fun e k=>e = .returned (.int .i64 (leftP op))/\Below w.heap.size w k:=by
 obtain⟨g,m⟩:=g;have a:Hid (leftP op=if op.2.1=2∨op.2.1=6 then op.1 else op.1-1):=rfl
 obtain⟨r,j⟩:∃ r,r=leftP op:=⟨_,rfl⟩
 rw[<-j] at a ⊢;clear j
 obtain⟨x,f⟩:∃ x,x=op.1:=⟨_,rfl⟩
 obtain⟨t,i⟩:∃ t,t=op.2.1:=⟨_,rfl⟩
 rw[<-f,<-i] at a;rw[<-f] at g m ⊢;rw[<-i];clear f i
 by_cases b:t=2
 ·have e:Hid (r=x):=by show _=_;rw[a.o,if_pos (.inl b)]
  subst b;clear a
  go_enter Tryz.func148,Tryz.ntmps148
  go_wp2_with fail;go_ret;exact⟨by rw[e.o];rfl,(Below.refl _ _).alloc (Nat.le_refl _) _⟩
 ·by_cases d:t=6
  ·have e:Hid (r=x):=by show _=_;rw[a.o,if_pos (.inr d)]
   subst d;clear a
   go_enter Tryz.func148,Tryz.ntmps148
   go_wp2_with fail;go_ret;exact⟨by rw[e.o];rfl,(Below.refl _ _).alloc (Nat.le_refl _) _⟩
  ·have e:Hid (r=x-1):=by show _=_;rw[a.o,if_neg (fun h=>h.elim b d)]
   have q:(t == 2)=false:=by simpa using b
   have l:(t == 6)=false:=by simpa using d
   clear a
   go_enter Tryz.func148,Tryz.ntmps148
   go_wp2_with fail;go_ret;exact⟨by rw[e.o];rfl,(Below.refl _ _).alloc (Nat.le_refl _) _⟩
theorem right_any (op:Cel)(p:Option Addr)(n c:Nat)(w:World)(g:0<=op.1/\op.1<=1200):Calls Tryz.prog 96 #[.agg #[.slice p n c,.int .i64 op.1,.int .i64 op.2.1]] w fun e k=>e = .returned (.int .i64 (rightP op))/\Below w.heap.size w k:=by
 obtain⟨g,m⟩:=g;have a:Hid (rightP op=if op.2.1=1∨op.2.1=3 then op.1 else op.1-1):=rfl
 obtain⟨r,j⟩:∃ r,r=rightP op:=⟨_,rfl⟩
 rw[<-j] at a ⊢;clear j
 obtain⟨x,f⟩:∃ x,x=op.1:=⟨_,rfl⟩
 obtain⟨t,i⟩:∃ t,t=op.2.1:=⟨_,rfl⟩
 rw[<-f,<-i] at a;rw[<-f] at g m ⊢;rw[<-i];clear f i
 by_cases b:t=1
 ·have e:Hid (r=x):=by show _=_;rw[a.o,if_pos (.inl b)]
  subst b;clear a
  go_enter Tryz.func96,Tryz.ntmps96
  go_wp2_with fail;go_ret;exact⟨by rw[e.o];rfl,(Below.refl _ _).alloc (Nat.le_refl _) _⟩
 ·by_cases d:t=3
  ·have e:Hid (r=x):=by show _=_;rw[a.o,if_pos (.inr d)]
   subst d;clear a
   go_enter Tryz.func96,Tryz.ntmps96
   go_wp2_with fail;go_ret;exact⟨by rw[e.o];rfl,(Below.refl _ _).alloc (Nat.le_refl _) _⟩
  ·have e:Hid (r=x-1):=by show _=_;rw[a.o,if_neg (fun h=>h.elim b d)]
   have q:(t == 1)=false:=by simpa using b
   have l:(t == 3)=false:=by simpa using d
   clear a
   go_enter Tryz.func96,Tryz.ntmps96
   go_wp2_with fail;go_ret;exact⟨by rw[e.o];rfl,(Below.refl _ _).alloc (Nat.le_refl _) _⟩
end
end Go.Proofs.YtlkhmmoimplokaaGreatDoor
