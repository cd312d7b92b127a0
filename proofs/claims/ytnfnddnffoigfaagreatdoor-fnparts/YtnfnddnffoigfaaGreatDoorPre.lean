/- What all texts import. Own work of the verifier. -/
import Derived.Test.YtnfnddnffoigfaaGreatDoorProg
import Derived.WalkKit
import Derived.WalkSpells
import Derived.WalkLawsBesides
import Derived.Deep.QuietTactic
import Derived.BigQuiet
namespace Go.Proofs.YtnfnddnffoigfaaGreatDoor
open Go Go.RowKit
theorem hid {p:Prop}(h:p):Hid p:=h
theorem _root_.Go.RowKit.Hid.o {p:Prop}(h:Hid p):p:=h
theorem ret_bool {a b:Bool}(h:a=b):Ending.returned (.bool a) = .returned (.bool b):=by rw[h]
theorem ret_int {k:IntKind}{a b:Int}(h:a=b):Ending.returned (.int k a) = .returned (.int k b):=by rw[h]
theorem zzA {b:Type}(l:List b)(i:Nat)(a:b):l.toArray.setIfInBounds i a=(l.set i a).toArray:=by simp
theorem zzB {c:Type}(a b:c)(l:List c):(a :: l).set 0 b=b :: l:=rfl
theorem zzC {c:Type}(a b:c)(l:List c)(i:Nat):(a :: l).set (i+1) b=a :: l.set i b:=rfl
end Go.Proofs.YtnfnddnffoigfaaGreatDoor
