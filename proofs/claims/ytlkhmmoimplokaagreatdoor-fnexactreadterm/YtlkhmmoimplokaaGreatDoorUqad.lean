/- Texts of KeyP, RegK2, RegB, RegA, RegC, RegD, RegE, RegK3, RegT. Own work of the verifier. -/
import Derived.Maps.OwnSet
import Derived.Maps.OwnOps
import Derived.Maps.RangeWalk
import Derived.DeepKeys4
import Derived.Test.YtlkhmmoimplokaaGreatDoorUqac
import Derived.Orders
import Derived.Shelf.Abstract
namespace Go.Proofs.YtlkhmmoimplokaaGreatDoor
set_option maxHeartbeats 2000000
set_option linter.unusedVariables false
section
open Go Go.RowKit Go.Maps
theorem keyPair (P:Program)(k s i:TypeId)(F:Array Field)(a b:Field)(hF:F=#[a,b])(c:P.underlying k=some (.struct F))(l:a.type=s)(w:a.offset=0)(u:b.type=i)(m:b.offset=1)(o:(a.name != "_")=true)(B:(b.name != "_")=true)
  (z:P.underlying s=some .string) (r:P.underlying i=some (.int .i64)) (d:P.cellsOf k=2) (C:P.cellsOf s=1) (q:P.cellsOf i=1) (f:P.keyType k=true) (n:Nat) (p:P.types.size=n+1) (x:ByteArray) (y:Int) (A:x.size<=maxLen) (v:(Lit.int .i64 y).wf=true) :
  keyOf P k (.agg #[.string x,.int .i64 y])=some (.string (keyBytes [.string x.data.toList,.int .i64 y])):=by
 subst hF
 have j:P.keyLits (n+1) s [.string x]=some [.string x.data.toList]:=by unfold Program.keyLits;rw[z];simp[A]
 have t:P.keyLits (n+1) i [.int .i64 y]=some [.int .i64 y]:=by unfold Program.keyLits;rw[r];simp[v]
 have e:P.keyLits (P.types.size+1) k [.string x,.int .i64 y]=some [.string x.data.toList,.int .i64 y]:=by
  rw[p]
  unfold Program.keyLits
  rw[c]
  simp[d,o,B,l,u,w,m,C,q,j,t]
 have h:(Value.agg #[.string x,.int .i64 y]).formed P k=true:=by simp[Value.formed,c,d]
 unfold keyOf
 rw[c];simp only[f,h,Bool.and_self,if_true]
 have g:(Value.agg #[.string x,.int .i64 y]).cells.toList = [.string x,.int .i64 y]:=by simp[Value.cells]
 rw[g,e]
 rfl
end
section
open Go
theorem hStep {P:Program}{ops:Array Oper}{Q:Exit->Act->World->Prop}{md:Region.Mode}{S:World->Prop}{i:Nat}{v:Value}{fuel:Nat}{b:Array Bool}{a:Act}{w w':World}(d:Option Tmp)(k:(ops[i]?).map (·.dst)=some d)
  (p:Region.ready md ops b = [i]) (n:(ops[i]?).map (fun o=>Region.wanted o (yielded ops a.tmps))=some true)
  (e:∀ o,ops[i]?=some o->(execOp a.eval o).run P w = .ok (.value v) w') (l:S w') (h:wpAnyH P md ops Q S fuel (b.setIfInBounds i true) (a.put d v) w'):wpAnyH P md ops Q S (fuel+1) b a w:=by
 refine wpAnyH_all p (by simp) ?_
 intro j m
 obtain rfl:j=i:=by simpa using m
 cases c:ops[j]? with
 | none=>simp[c] at k
 | some o=>
   have g:o.dst=d:=by simpa [c] using k
   have f:Region.wanted o (yielded ops a.tmps)=true:=by simpa [c] using n
   subst g
   unfold wpOp
   simp only[c,f,if_true,Oper.wp,e o c,Oper.upon];exact .inl ⟨l,h⟩
theorem hCallE {P:Program}{ops:Array Oper}{Q:Exit->Act->World->Prop}{md:Region.Mode}{S:World->Prop}{i:Nat}{f:FuncId}{args:Array Value}{R:Ending->World->Prop}{fuel:Nat}{b:Array Bool}{a:Act}{w:World}(d:Option Tmp)(q:(ops[i]?).map (·.dst)=some d)
  (z:Region.ready md ops b = [i]) (y:(ops[i]?).map (fun o=>Region.wanted o (yielded ops a.tmps))=some true)
  (k:∀ o,ops[i]?=some o->(execOp a.eval o).run P w = .ok (.enter f args) w) (t:Calls P f args w R) (r:∀ u g,R (.returned u) g->S g/\wpAnyH P md ops Q S fuel (b.setIfInBounds i true) (a.put d u) g)
  (x:∀ p g,¬ R (.panicked p) g) (v:∀ g,¬ R .outgrown g):wpAnyH P md ops Q S (fuel+1) b a w:=by
 refine wpAnyH_all z (by simp) ?_
 intro j s
 obtain rfl:j=i:=by simpa using s
 cases h:ops[j]? with
 | none=>simp[h] at q
 | some o=>
   have m:o.dst=d:=by simpa [h] using q
   have l:Region.wanted o (yielded ops a.tmps)=true:=by simpa [h] using y
   subst m
   unfold wpOp
   simp only[h,l,if_true,Oper.wp,k o h,Oper.upon];refine .inl (t.mono fun e c n=>?_)
   cases e with
   | returned u=>exact r u c n
   | panicked p=>exact absurd n (x p c)
   | outgrown=>exact absurd n (v c)
section
variable {P:Program}{ops:Array Oper}{Q:Exit->Act->World->Prop}{md:Region.Mode}{S:World->Prop}
end
end
section
open Go Go.RowKit Go.Maps Go.Shelf
set_option linter.unusedSimpArgs false
section
variable {P:Program}{ops:Array Oper}{Q:Exit->Act->World->Prop}{md:Region.Mode}
end
end
section
open Go
section
variable {P:Program}{ops:Array Oper}{Q:Exit->Act->World->Prop}{md:Region.Mode}{S:World->Prop}
def RestQ (Q:Exit->Act->World->Prop)(R:Act->World->Prop):Exit->Act->World->Prop
 | .normal,a,w=>R a w
 | e,a,w=>Q e a w
theorem wpOp_rest {R:Act->World->Prop}{i:Nat}{K:Act->World->Prop}{a:Act}{w:World}(h:wpOp P ops (RestQ Q R) i K a w):wpOp P ops Q i K a w:=by
 unfold wpOp at *
 split
 ·rename_i c;simpa [c] using h
 ·rename_i o c
  simp only[c] at h
  split
  ·rename_i b
   simp only[b,if_true] at h
   have f:LetsOut (RestQ Q R)->LetsOut Q:=fun ⟨a,w,j⟩=>⟨a,w,j⟩
   refine h.imp (fun h=>?_) (fun h=>⟨h.1,f h.2⟩)
   unfold Oper.wp at *
   generalize (execOp a.eval o).run P w=r at *
   cases r with
   | ok n g=>
     cases n <;> simp only[Oper.upon] at h ⊢ <;>
      first
       | exact h
       | exact Calls.mono h (fun e k d=>by cases e <;> first | exact d | exact f d)
   | halt x g=>cases x <;> simp only[Oper.upon] at h ⊢ <;> exact h
  ·rename_i b;simp only[b] at h;exact h
end
section
variable {P:Program}{ops:Array Oper}{Q:Exit->Act->World->Prop}{md:Region.Mode}{S:World->Prop}
theorem getD_two {L:Array Bool}{i:Nat}(a:i<L.size):L.getD i true=L.getD i false:=by simp[a]
end
def tailB (md:Region.Mode)(ops:Array Oper)(p:Nat):Bool:=
 decide (ops.size=p+2) && ((List.range ops.size).all fun i=>((ops[i]?).map (·.after.all fun e=>!Region.binds md e || decide (e.on<i))).getD true) &&
 ((List.range p).all fun j=>(List.range (p+1)).any fun i=>decide (j<i) && ((ops[i]?).map (·.after.any fun e=>Region.binds md e && decide (e.on=j))).getD false) &&
 ((ops[p+1]?).map (·.after.any fun e=>Region.binds md e && decide (e.on=p))).getD false
section
variable {P:Program}{ops:Array Oper}{Q:Exit->Act->World->Prop}{md:Region.Mode}{S:World->Prop}
theorem tailB_parts {p:Nat}(g:tailB md ops p=true):ops.size=p+2/\(∀ i o,ops[i]?=some o->∀ e ∈ o.after,Region.binds md e=true->e.on<i)/\(∀ j,j<p->∃ i o,j<i/\i<=p/\ops[i]?=some o/\∃ e ∈ o.after,Region.binds md e=true/\e.on=j)/\∃ o,ops[p+1]?=some o/\∃ e ∈ o.after,Region.binds md e=true/\e.on=p:=by
 simp only[tailB,Bool.and_eq_true,decide_eq_true_eq] at g;obtain⟨⟨⟨l,k⟩,n⟩,q⟩:=g
 have a:∀ (i j:Nat),((ops[i]?).map (·.after.any fun e=>Region.binds md e && decide (e.on=j))).getD false=true->∃ o,ops[i]?=some o/\∃ e ∈ o.after,Region.binds md e=true/\e.on=j:=fun i j h=>by
  cases b:ops[i]? with
  | none=>rw[b] at h;cases h
  | some o=>
    rw[b] at h;simp only[Option.map_some,Option.getD_some,Array.any_eq_true'] at h;obtain⟨e,c,h⟩:=h;rw[Bool.and_eq_true,decide_eq_true_eq] at h;exact⟨o,rfl,e,c,h.1,h.2⟩
 refine⟨l,fun i o b e c d=>?_,fun j m=>?_,a _ _ q⟩
 ·have f:i<ops.size:=(Array.getElem?_eq_some_iff.1 b).1
  have:=List.all_eq_true.1 k i (by simpa using f);rw[b] at this;simp only[Option.map_some,Option.getD_some,Array.all_eq_true'] at this;have:=this e c;rw[d] at this
  simpa using this
 ·have:=List.all_eq_true.1 n j (by simpa using m)
  rw[List.any_eq_true] at this;obtain⟨i,f,h⟩:=this;rw[Bool.and_eq_true,decide_eq_true_eq] at h;obtain⟨o,b,c⟩:=a _ _ h.2;exact⟨i,o,h.1,by have:=List.mem_range.1 f;omega,b,c⟩
def Clo (md:Region.Mode)(ops:Array Oper)(L:Array Bool):Prop:=∀ i o,ops[i]?=some o->L.getD i false=true->∀ e ∈ o.after,Region.binds md e=true->L.getD e.on false=true
theorem clo_start (md:Region.Mode)(ops:Array Oper)(n:Nat):Clo md ops (Array.replicate n false):=fun i o _ h=>by
 exfalso
 by_cases a:i<n <;> simp[a] at h
theorem Clo.set {L:Array Bool}(h:Clo md ops L){i:Nat}(l:i ∈ Region.ready md ops L):Clo md ops (L.setIfInBounds i true):=fun j o k d e g a=>by
 by_cases f:i=j
 ·subst f
  obtain⟨_,m,b,c⟩:=mem_ready.1 l;rw[k] at b
  cases b
  exact getD_set_true (c e g a)
 ·rw[getD_set_ne false f] at d
  exact getD_set_true (h j o k d e g a)
theorem ready_some2 (h:∀ i o,ops[i]?=some o->∀ e ∈ o.after,Region.binds md e=true->e.on<i){L:Array Bool}(q:L.size=ops.size):∀ (k:Nat),k<ops.size->L.getD k true=false->∃ i,i ∈ Region.ready md ops L:=by
 intro k
 induction k using Nat.strongRecOn with
 | ind k l=>
   intro m n
   obtain⟨o,g⟩:∃ o,ops[k]?=some o:=⟨ops[k],by simp[m]⟩
   by_cases a:∀ e ∈ o.after,Region.binds md e=true->L.getD e.on false=true
   ·exact⟨k,mem_ready.2 ⟨n,o,g,a⟩⟩
   ·obtain⟨e,p⟩:=Classical.not_forall.1 a
    obtain⟨c,b⟩:=Classical.not_imp.1 p;obtain⟨d,j⟩:=Classical.not_imp.1 b;have f:=h k o g e c d;refine l e.on f (by omega) ?_;rw[getD_two (by omega)]
    simpa using j
theorem wpAny_tail_step {p:Nat}(Z:tailB md ops p=true){L:Array Bool}{a:Act}{w:World}(O:L.size=ops.size)(hc:Clo md ops L)(N:L.getD p true=false)(hq:L.getD (p+1) true=false)(f:Nat)
  (H:wpAnyH P md ops (RestQ Q (wpOp P ops Q p (wpOp P ops Q (p+1) (Q .normal)))) S f ((L.setIfInBounds p true).setIfInBounds (p+1) true) a w)
  (h:∀ i,i ∈ Region.ready md ops L->i≠p->i≠p+1->i ∈ Region.ready md ops ((L.setIfInBounds p true).setIfInBounds (p+1) true)->wpOp P ops Q i (wpAny P md ops Q (f+1) (L.setIfInBounds i true)) a w):wpAny P md ops Q (f+2) L a w:=by
 obtain⟨h1,K,h3,oq,z,eq,D,B,t⟩:=tailB_parts Z;refine⟨fun G=>?_,fun i m=>?_⟩
 ·obtain⟨i,m⟩:=ready_some2 K O p (by omega) N
  rw[G] at m;cases m
 ·have y:i≠p+1:=fun e=>by
   subst e;obtain⟨_,o,R,c⟩:=mem_ready.1 m;rw[z] at R
   cases R
   have:=c eq D B;rw[t,<-getD_two (by omega),N] at this
   cases this
  by_cases e:i=p
  ·subst e
   -- all others are listed
   obtain⟨_,oi,F,c⟩:=mem_ready.1 m
   have b:∀ d j,i-j<=d->j<i->L.getD j false=true:=by
    intro d
    induction d with
    | zero=>intro j V q;omega
    | succ d E=>
      intro j V q
      obtain⟨k,ok,h5,Y,l,I,u,s,x⟩:=h3 j q
      by_cases ek:k=i
      ·subst ek
       rw[F] at l
       cases l
       rw[<-x];exact c I u s
      ·rw[<-x]
       exact hc k ok l (E k (by omega) (by omega)) I u s
   have v:Region.ready md ops ((L.setIfInBounds i true).setIfInBounds (i+1) true) = []:=by
    rw[List.eq_nil_iff_forall_not_mem]
    intro j q
    obtain⟨g,oj,n,_⟩:=mem_ready.1 q;have A:j<ops.size:=(Array.getElem?_eq_some_iff.1 n).1
    by_cases M:i+1=j
    ·subst M
     have:i+1<L.size:=by omega
     simp[this] at g
    ·rw[getD_set_ne true M] at g
     by_cases r:i=j
     ·subst r
      have:i<L.size:=by omega
      simp[this] at g
     ·rw[getD_set_ne true r,getD_two (by omega),b (i-j) j (Nat.le_refl _) (by omega)] at g
      cases g
   have T:wpOp P ops Q i (wpOp P ops Q (i+1) (Q .normal)) a w:=by
    cases f with
    | zero=>exact H.2
    | succ f=>exact H.1 v
   refine wpOp_mono (fun a' w' X=>?_) T;refine⟨fun G=>?_,fun j q=>?_⟩
   ·obtain⟨k,J⟩:=ready_some2 K (L:=L.setIfInBounds i true) (by simpa using O) (i+1) (by omega) (by rw[getD_set_ne true (by omega)];exact hq)
    rw[G] at J;cases J
   ·obtain rfl:j=i+1:=by
     obtain⟨g,oj,n,_⟩:=mem_ready.1 q;have A:j<ops.size:=(Array.getElem?_eq_some_iff.1 n).1
     by_cases r:i=j
     ·subst r
      have:i<L.size:=by omega
      simp[this] at g
     ·by_cases U:j<i
      ·rw[getD_set_ne true r,getD_two (by omega),b (i-j) j (Nat.le_refl _) U] at g
       cases g
      ·omega
    exact wpOp_mono (fun W h4 C=>wpAny_done v C f) X
  ·exact h i m e y (ready_mono (ready_mono m e) y)
theorem wpAny_tail {p:Nat}(k:tailB md ops p=true):∀ (f:Nat) (L:Array Bool) (a:Act) (w:World),L.size=ops.size->Clo md ops L->L.getD p true=false->L.getD (p+1) true=false->
  wpAnyH P md ops (RestQ Q (wpOp P ops Q p (wpOp P ops Q (p+1) (Q .normal)))) S f ((L.setIfInBounds p true).setIfInBounds (p+1) true) a w->wpAny P md ops Q (f+2) L a w:=by
 obtain⟨A,z,B,y,o,eq,t,s,l⟩:=tailB_parts k
 intro f
 induction f with
 | zero=>
   intro L a w h j g e H
   exact wpAny_tail_step k h j g e 0 H (fun i m b c d=>by
    rw[H.1] at d;cases d)
 | succ f u=>
   intro L a w h j g e H
   exact wpAny_tail_step k h j g e (f+1) H (fun i m b c d=>by
    refine wpOp_mono (fun v r q=>?_) (wpOp_rest (H.2 i d));refine u (L.setIfInBounds i true) v r (by simpa using h) (j.set m) (by rw[getD_set_ne true b];exact g) (by rw[getD_set_ne true c];exact e) ?_;have n:=q.2;rw[Array.setIfInBounds_comm _ _ (fun x=>c x.symm),Array.setIfInBounds_comm _ _ (fun x=>b x.symm)] at n
    exact n)
theorem op_valT {i:Nat}{o:Oper}{a:Act}{w b:World}{v:Value}{K:Act->World->Prop}(d:ops[i]?=some o)(f:o.guard=none)(e:(execOp a.eval o).run P w = .ok (.value v) b)(h:K (a.put o.dst v) b):wpOp P ops Q i K a w:=by
 have c:Region.wanted o (yielded ops a.tmps)=true:=by simp[Region.wanted,f]
 unfold wpOp
 simp only[d,c,if_true];refine .inl ?_
 unfold Oper.wp
 rw[e];exact h
end
theorem hStore {P:Program}{ops:Array Oper}{Q:Exit->Act->World->Prop}{md:Region.Mode}{S:World->Prop}{i:Nat}{fuel:Nat}{b:Array Bool}{a:Act}{w w':World}(g:(ops[i]?).map (·.dst)=some none)
  (n:Region.ready md ops b = [i]) (m:(ops[i]?).map (fun o=>Region.wanted o (yielded ops a.tmps))=some true)
  (d:∀ o,ops[i]?=some o->(execOp a.eval o).run P w = .ok .skip w') (k:S w') (h:wpAnyH P md ops Q S fuel (b.setIfInBounds i true) a w'):wpAnyH P md ops Q S (fuel+1) b a w:=by
 refine wpAnyH_all n (by simp) ?_
 intro j l
 obtain rfl:j=i:=by simpa using l
 cases c:ops[j]? with
 | none=>simp[c] at g
 | some o=>
   have f:o.dst=none:=by simpa [c] using g
   have e:Region.wanted o (yielded ops a.tmps)=true:=by simpa [c] using m
   unfold wpOp
   simp only[c,e,if_true,Oper.wp,d o c,Oper.upon];exact .inl ⟨k,by rw[f];exact h⟩
end
section
open Go Go.RowKit
theorem op_skipS {P:Program}{ops:Array Oper}{Q:Exit->Act->World->Prop}{i:Nat}{o:Oper}{a:Act}{w b:World}{K:Act->World->Prop}(d:ops[i]?=some o)(g:o.guard=none)(f:o.dst=none)(e:(execOp a.eval o).run P w = .ok .skip b)(h:K a b):wpOp P ops Q i K a w:=by
 unfold wpOp
 have c:Region.wanted o (yielded ops a.tmps)=true:=by simp[Region.wanted,g]
 simp only[d,c,if_true];refine .inl ?_
 unfold Oper.wp
 rw[e]
 simpa [Oper.upon,f,Act.put] using h
theorem tail_store {P:Program}{ops:Array Oper}{Q:Exit->Act->World->Prop}{p q:Nat}{o b:Oper}{a:Act}{w w':World}{v:Value}(d:Option Tmp)(j:ops[p]?=some o)(i:o.dst=d)(k:o.guard=none)(l:(execOp a.eval o).run P w = .ok (.value v) w)(f:ops[q]?=some b)(e:b.guard=none)(c:b.dst=none)
  (g:(execOp (a.put d v).eval b).run P w = .ok .skip w') (h:Q .normal (a.put d v) w'):RestQ Q (wpOp P ops Q p (wpOp P ops Q q (Q .normal))) .normal a w:=by
 subst i
 show wpOp P ops Q p (wpOp P ops Q q (Q .normal)) a w
 exact op_valT j k l (op_skipS f e c g h)
end
end Go.Proofs.YtlkhmmoimplokaaGreatDoor
