/- Texts of EvA, Lay3, RegK, RegK2, KeyP, FunK, RegA, ErrIs, Pure, Base, Base2. Own work of the verifier. -/
import Derived.Test.YtnfnddnffoigfaaGreatDoorPre
import Derived.Below
import Derived.Deep.RegionHeld3
import Derived.Maps.OwnSet
import Derived.Maps.OwnOps
import Derived.Maps.RangeWalk
import Derived.DeepKeys4
import Derived.Orders
import Derived.Shelf.Abstract
import Derived.LaidEql
import Derived.Stop.Asserts
import Derived.RowKitTokens
namespace Go.Proofs.YtnfnddnffoigfaaGreatDoor
set_option maxRecDepth 100000
set_option maxHeartbeats 2000000
set_option linter.unusedVariables false
section
open Go Go.RowKit
def InB (v:Int):Prop:=-1000000000000000<=v/\v<=1000000000000000
instance (v:Int):Decidable (InB v):=inferInstanceAs (Decidable (_/\_))
end
section
open Go
section
variable {P:Program}{ops:Array Oper}{Q:Exit->Act->World->Prop}{md:Region.Mode}{S:World->Prop}
theorem hTake {i:Nat}{v:Value}{fuel:Nat}{b:Array Bool}{a:Act}{w:World}(d:Option Tmp)(k:(ops[i]?).map (·.dst)=some d)
  (q:Region.noSelect ops=true) (n:Region.free md ops b i=true) (p:(Region.ready md ops b).contains i=true) (r:(ops[i]?).map (fun o=>Region.wanted o (yielded ops a.tmps))=some true)
  (l:∀ c a w,Q (.panic c) (a.put d v) w->Q (.panic c) a w) (f:∀ o,ops[i]?=some o->∀ w,S w->(execOp a.eval o).run P w = .ok (.value v) w) (m:S w)
  (h:wpAnyH P md ops Q S fuel (b.setIfInBounds i true) (a.put d v) w):wpAnyH P md ops Q S (fuel+1) b a w:=by
 cases e:ops[i]? with
 | none=>simp[e] at k
 | some o=>
   have g:o.dst=d:=by simpa [e] using k
   have j:Region.wanted o (yielded ops a.tmps)=true:=by simpa [e] using r
   subst g;exact wpAnyH_take e q n p l (.inl ⟨j,f o e⟩) m h
theorem hSkip {i:Nat}{fuel:Nat}{b:Array Bool}{a:Act}{w:World}(d:Option Tmp)(j:(ops[i]?).map (·.dst)=some d)
  (p:Region.noSelect ops=true) (m:Region.free md ops b i=true) (n:(Region.ready md ops b).contains i=true) (q:(ops[i]?).map (fun o=>Region.wanted o (yielded ops a.tmps))=some false)
  (k:∀ c a w,Q (.panic c) (a.put d undef) w->Q (.panic c) a w) (l:S w)
  (h:wpAnyH P md ops Q S fuel (b.setIfInBounds i true) (a.put d undef) w):wpAnyH P md ops Q S (fuel+1) b a w:=by
 cases e:ops[i]? with
 | none=>simp[e] at j
 | some o=>
   have f:o.dst=d:=by simpa [e] using j
   have g:Region.wanted o (yielded ops a.tmps)=false:=by simpa [e] using q
   subst f;exact wpAnyH_take e p m n k (.inr ⟨g,rfl⟩) l h
theorem hTk {i:Nat}{v:Value}{fuel:Nat}{b:Array Bool}{a:Act}{w:World}(d:Option Tmp)(e:∀ o,ops[i]?=some o->∀ w,S w->(execOp a.eval o).run P w = .ok (.value v) w)(g:S w)
  (h:wpAnyH P md ops Q S fuel (b.setIfInBounds i true) (a.put d v) w) (f:∀ c a w,Q (.panic c) (a.put d v) w->Q (.panic c) a w:=by exact fun _ _ _ h=>h) (j:(ops[i]?).map (·.dst)=some d:=by kernel_rfl)
  (m:Region.noSelect ops=true:=by kernel_rfl) (k:Region.free md ops b i=true:=by kernel_rfl) (l:(Region.ready md ops b).contains i=true:=by kernel_rfl) (n:(ops[i]?).map (fun o=>Region.wanted o (yielded ops a.tmps))=some true:=by kernel_rfl):wpAnyH P md ops Q S (fuel+1) b a w:=hTake d j m k l n f e g h
theorem hSk {i:Nat}{fuel:Nat}{b:Array Bool}{a:Act}{w:World}(d:Option Tmp)(f:S w)
  (h:wpAnyH P md ops Q S fuel (b.setIfInBounds i true) (a.put d undef) w) (e:∀ c a w,Q (.panic c) (a.put d undef) w->Q (.panic c) a w:=by exact fun _ _ _ h=>h) (g:(ops[i]?).map (·.dst)=some d:=by kernel_rfl)
  (l:Region.noSelect ops=true:=by kernel_rfl) (j:Region.free md ops b i=true:=by kernel_rfl) (k:(Region.ready md ops b).contains i=true:=by kernel_rfl) (m:(ops[i]?).map (fun o=>Region.wanted o (yielded ops a.tmps))=some false:=by kernel_rfl):wpAnyH P md ops Q S (fuel+1) b a w:=hSkip d g l j k m e f h
theorem hTq {fuel:Nat}{b:Array Bool}{a:Act}{w:World}(i:Nat)(v:Value)(d:Tmp)(h:wpAnyH P md ops Q S fuel (b.setIfInBounds i true) (a.put (some d) v) w) (e:∀ o,ops[i]?=some o->∀ w,S w->(execOp a.eval o).run P w = .ok (.value v) w:=by intro o m W j;cases m;simp[execOp,go_sem,Act.eval]) (g:S w:=by assumption)
 (f:∀ c a w,Q (.panic c) (a.put (some d) v) w->Q (.panic c) a w:=by exact fun _ _ _ h=>h) (k:(ops[i]?).map (·.dst)=some (some d):=by kernel_rfl) (p:Region.noSelect ops=true:=by kernel_rfl) (l:Region.free md ops b i=true:=by kernel_rfl) (n:(Region.ready md ops b).contains i=true:=by kernel_rfl) (q:(ops[i]?).map (fun o=>Region.wanted o (yielded ops a.tmps))=some true:=by kernel_rfl):wpAnyH P md ops Q S (fuel+1) b a w:=hTake _ k p l n q f e g h
theorem hTr {fuel:Nat}{b:Array Bool}{a:Act}{w:World}(i:Nat)(v:Value)(d:Tmp)(e:∀ o,ops[i]?=some o->∀ w,S w->(execOp a.eval o).run P w = .ok (.value v) w)(h:wpAnyH P md ops Q S fuel (b.setIfInBounds i true) (a.put (some d) v) w) (g:S w:=by assumption)
 (f:∀ c a w,Q (.panic c) (a.put (some d) v) w->Q (.panic c) a w:=by exact fun _ _ _ h=>h) (j:(ops[i]?).map (·.dst)=some (some d):=by kernel_rfl) (m:Region.noSelect ops=true:=by kernel_rfl) (k:Region.free md ops b i=true:=by kernel_rfl) (l:(Region.ready md ops b).contains i=true:=by kernel_rfl) (n:(ops[i]?).map (fun o=>Region.wanted o (yielded ops a.tmps))=some true:=by kernel_rfl):wpAnyH P md ops Q S (fuel+1) b a w:=hTake _ j m k l n f e g h
theorem hSq {fuel:Nat}{b:Array Bool}{a:Act}{w:World}(i:Nat)(d:Tmp)(h:wpAnyH P md ops Q S fuel (b.setIfInBounds i true) (a.put (some d) undef) w) (f:S w:=by assumption)
 (e:∀ c a w,Q (.panic c) (a.put (some d) undef) w->Q (.panic c) a w:=by exact fun _ _ _ h=>h) (g:(ops[i]?).map (·.dst)=some (some d):=by kernel_rfl) (l:Region.noSelect ops=true:=by kernel_rfl) (j:Region.free md ops b i=true:=by kernel_rfl) (k:(Region.ready md ops b).contains i=true:=by kernel_rfl) (m:(ops[i]?).map (fun o=>Region.wanted o (yielded ops a.tmps))=some false:=by kernel_rfl):wpAnyH P md ops Q S (fuel+1) b a w:=hSkip _ g l j k m e f h
theorem hCall {i:Nat}{f:FuncId}{c:Array Value}{v:Value}{T:World->Prop}{fuel:Nat}{b:Array Bool}{a:Act}{w:World}(d:Option Tmp)(n:(ops[i]?).map (·.dst)=some d)
  (t:Region.ready md ops b = [i]) (x:(ops[i]?).map (fun o=>Region.wanted o (yielded ops a.tmps))=some true)
  (h:∀ o,ops[i]?=some o->(execOp a.eval o).run P w = .ok (.enter f c) w) (p:Calls P f c w fun e k=>e = .returned v/\T k)
  (q:∀ k,T k->S k/\wpAnyH P md ops Q S fuel (b.setIfInBounds i true) (a.put d v) k):wpAnyH P md ops Q S (fuel+1) b a w:=by
 refine wpAnyH_all t (by simp) ?_
 intro j s
 obtain rfl:j=i:=by simpa using s
 cases g:ops[j]? with
 | none=>simp[g] at n
 | some o=>
   have l:o.dst=d:=by simpa [g] using n
   have m:Region.wanted o (yielded ops a.tmps)=true:=by simpa [g] using x
   subst l
   unfold wpOp
   simp only[g,m,if_true,Oper.wp,h o g,Oper.upon];refine .inl (p.mono fun e y r=>?_);obtain⟨rfl,u⟩:=r;exact q _ u
end
theorem hStep {P:Program}{ops:Array Oper}{Q:Exit->Act->World->Prop}{md:Region.Mode}{S:World->Prop}{i:Nat}{v:Value}{fuel:Nat}{b:Array Bool}{a:Act}{w w':World}(d:Option Tmp)(k:(ops[i]?).map (·.dst)=some d)
  (n:Region.ready md ops b = [i]) (p:(ops[i]?).map (fun o=>Region.wanted o (yielded ops a.tmps))=some true)
  (e:∀ o,ops[i]?=some o->(execOp a.eval o).run P w = .ok (.value v) w') (l:S w') (h:wpAnyH P md ops Q S fuel (b.setIfInBounds i true) (a.put d v) w'):wpAnyH P md ops Q S (fuel+1) b a w:=by
 refine wpAnyH_all n (by simp) ?_
 intro j m
 obtain rfl:j=i:=by simpa using m
 cases c:ops[j]? with
 | none=>simp[c] at k
 | some o=>
   have f:o.dst=d:=by simpa [c] using k
   have g:Region.wanted o (yielded ops a.tmps)=true:=by simpa [c] using p
   subst f
   unfold wpOp
   simp only[c,g,if_true,Oper.wp,e o c,Oper.upon];exact .inl ⟨l,h⟩
theorem hCallE {P:Program}{ops:Array Oper}{Q:Exit->Act->World->Prop}{md:Region.Mode}{S:World->Prop}{i:Nat}{f:FuncId}{args:Array Value}{R:Ending->World->Prop}{fuel:Nat}{b:Array Bool}{a:Act}{w:World}(d:Option Tmp)(p:(ops[i]?).map (·.dst)=some d)
  (x:Region.ready md ops b = [i]) (y:(ops[i]?).map (fun o=>Region.wanted o (yielded ops a.tmps))=some true)
  (h:∀ o,ops[i]?=some o->(execOp a.eval o).run P w = .ok (.enter f args) w) (q:Calls P f args w R) (r:∀ u w',R (.returned u) w'->S w'/\wpAnyH P md ops Q S fuel (b.setIfInBounds i true) (a.put d u) w')
  (t:∀ k w',¬ R (.panicked k) w') (s:∀ w',¬ R .outgrown w'):wpAnyH P md ops Q S (fuel+1) b a w:=by
 refine wpAnyH_all x (by simp) ?_
 intro j v
 obtain rfl:j=i:=by simpa using v
 cases g:ops[j]? with
 | none=>simp[g] at p
 | some o=>
   have l:o.dst=d:=by simpa [g] using p
   have n:Region.wanted o (yielded ops a.tmps)=true:=by simpa [g] using y
   subst l
   unfold wpOp
   simp only[g,n,if_true,Oper.wp,h o g,Oper.upon];refine .inl (q.mono fun e c m=>?_)
   cases e with
   | returned u=>exact r u c m
   | panicked k=>exact absurd m (t k c)
   | outgrown=>exact absurd m (s c)
end
section
open Go Go.RowKit Go.Maps
theorem keyPair (P:Program)(k s i:TypeId)(F:Array Field)(a b:Field)(hF:F=#[a,b])(c:P.underlying k=some (.struct F))(B:a.type=s)(z:a.offset=0)(C:b.type=i)(A:b.offset=1)(v:(a.name != "_")=true)(w:(b.name != "_")=true)
  (q:P.underlying s=some .string) (o:P.underlying i=some (.int .i64)) (d:P.cellsOf k=2) (f:P.cellsOf s=1) (e:P.cellsOf i=1) (r:P.keyType k=true) (n:Nat) (p:P.types.size=n+1) (x:ByteArray) (y:Int) (u:x.size<=maxLen) (t:(Lit.int .i64 y).wf=true) :
  keyOf P k (.agg #[.string x,.int .i64 y])=some (.string (keyBytes [.string x.data.toList,.int .i64 y])):=by
 subst hF
 have g:P.keyLits (n+1) s [.string x]=some [.string x.data.toList]:=by unfold Program.keyLits;rw[q];simp[u]
 have h:P.keyLits (n+1) i [.int .i64 y]=some [.int .i64 y]:=by unfold Program.keyLits;rw[o];simp[t]
 have j:P.keyLits (P.types.size+1) k [.string x,.int .i64 y]=some [.string x.data.toList,.int .i64 y]:=by
  rw[p]
  unfold Program.keyLits
  rw[c]
  simp[d,v,w,B,C,z,A,f,e,g,h]
 have l:(Value.agg #[.string x,.int .i64 y]).formed P k=true:=by simp[Value.formed,c,d]
 unfold keyOf
 rw[c];simp only[r,l,Bool.and_self,if_true]
 have m:(Value.agg #[.string x,.int .i64 y]).cells.toList = [.string x,.int .i64 y]:=by simp[Value.cells]
 rw[m,j]
 rfl
theorem keyStr_inv {P:Program}{s:TypeId}(b:P.underlying s=some .string){n:Nat}{a:List Value}{L:List Lit}(h:P.keyLits (n+1) s a=some L):∃ x,a = [.string x]:=by
 unfold Program.keyLits at h
 rw[b] at h
 match a,h with
 | [.string x],_=>exact⟨x,rfl⟩
theorem keyInt_inv {P:Program}{s:TypeId}(c:P.underlying s=some (.int .i64)){n:Nat}{a:List Value}{L:List Lit}(h:P.keyLits (n+1) s a=some L):∃ x,a = [.int .i64 x]:=by
 unfold Program.keyLits at h
 rw[c] at h
 match a,h with
 | [.int q x],h=>
   simp only at h
   split at h
   ·rename_i b;exact⟨x,by rw[b.1]⟩
   ·cases h
theorem keyPair_inv (P:Program)(k s i:TypeId)(F:Array Field)(e f:Field)(hF:F=#[e,f])(m:P.underlying k=some (.struct F))(E:e.type=s)(C:e.offset=0)(G:f.type=i)(D:f.offset=1)(K:(e.name != "_")=true)(M:(f.name != "_")=true)
  (B:P.underlying s=some .string) (w:P.underlying i=some (.int .i64)) (t:P.cellsOf k=2) (u:P.cellsOf s=1) (r:P.cellsOf i=1) (n:Nat) (A:P.types.size=n+1) {v:Value} {l:Lit} (h:keyOf P k v=some l) :
  ∃ (x:ByteArray) (y:Int),v = .agg #[.string x,.int .i64 y]:=by
 subst hF
 have d:(match P.underlying k with | some (.array _ _) | some (.struct _)=>true | _=>false)=true:=by rw[m]
 obtain⟨H,L,rfl,c,_⟩:=keyOf_top d h;obtain⟨q⟩:=H;rw[A] at c
 unfold Program.keyLits at c
 rw[m] at c;simp only[t] at c
 split at c
 ·rename_i z
  obtain⟨a,b,rfl⟩:∃ a b,q = [a,b]:=by
   match q,z.1 with
   | [a,b],_=>exact⟨a,b,rfl⟩
  simp only[E,G,C,D,u,r,List.drop_zero,List.take_succ_cons,List.take_zero,List.drop_succ_cons,List.mapM_cons,List.mapM_nil,Option.pure_def,Option.bind_eq_bind] at c
  cases g:P.keyLits (n+1) s [a] with
  | none=>simp[g] at c
  | some I=>
    cases j:P.keyLits (n+1) i [b] with
    | none=>simp[g,j] at c
    | some J=>
      obtain⟨x,o⟩:=keyStr_inv B g;obtain⟨y,p⟩:=keyInt_inv w j;simp only[List.cons.injEq,and_true] at o p;exact⟨x,y,by rw[o,p]⟩
 ·cases c
abbrev Fun:=ByteArray×Int
theorem laidFun:laidOutB Tryz.prog=true:=by kernel_rfl
theorem rowFun:(61:TypeId)<Tryz.prog.types.size:=of_decide_eq_true (by kernel_rfl)
theorem keyAtFun:Tryz.prog.keyTypeAt 3 61=true:=by kernel_rfl
theorem lawFunK:WideMaps.KeyLaw Tryz.prog 61:=deep_law_laid laidFun (m:=3) (by decide) rowFun keyAtFun (by kernel_rfl)
theorem lawFun:Keyed Tryz.prog 61:=Keyed.of_law lawFunK
theorem typFun:Tryz.prog.keyType 61=true:=by kernel_rfl
theorem cellsFun:Tryz.prog.cellsOf 61=2:=by kernel_rfl
theorem cellsStr:Tryz.prog.cellsOf 9=1:=by kernel_rfl
theorem cellsIn:Tryz.prog.cellsOf 3=1:=by kernel_rfl
def fk (f:Fun):Lit:=.string (keyBytes [.string f.1.data.toList,.int .i64 f.2])
theorem nTypes:∃ n,Tryz.prog.types.size=n+1:=by
 have h:61<Tryz.prog.types.size:=rowFun
 generalize Tryz.prog.types.size=m at h
 exact⟨m-1,by omega⟩
end
section
open Go Go.RowKit Go.Maps Go.Shelf
set_option linter.unusedSimpArgs false
def unl (L:Array Bool):Nat:=(L.toList.filter (fun b=>!b)).length
theorem unl_list:∀ (l:List Bool) (i:Nat),l[i]?=some false->((l.set i true).filter (fun b=>!b)).length+1=(l.filter (fun b=>!b)).length
 | [],i,h=>by simp at h
 | b :: r,0,h=>by
   simp only[List.getElem?_cons_zero,Option.some.injEq] at h;subst h
   simp
 | b :: r,i+1,h=>by
   have:=unl_list r i (by simpa using h)
   cases b <;> simp[List.set_cons_succ,List.filter_cons] <;> omega
theorem getD_list {L:Array Bool}{i:Nat}(h:L.getD i true=false):L.toList[i]?=some false:=by
 simp only[Array.getD_eq_getD_getElem?] at h;rw[Array.getElem?_toList]
 cases a:L[i]? with
 | none=>rw[a] at h;cases h
 | some b=>rw[a] at h;simp at h;rw[h]
theorem unl_set {L:Array Bool}{i:Nat}(h:L.getD i true=false):unl (L.setIfInBounds i true)+1=unl L:=by
 unfold unl
 rw[Array.toList_setIfInBounds];exact unl_list _ _ (getD_list h)
theorem unl_zero {L:Array Bool}(h:unl L=0)(i:Nat):L.getD i true≠false:=fun e=>by
 have:=unl_set e
 omega
section
variable {P:Program}{ops:Array Oper}{Q:Exit->Act->World->Prop}{md:Region.Mode}
theorem wpAny_inv (I:Array Bool->Act->World->Prop)(f:∀ L a w,I L a w->∀ i ∈ Region.ready md ops L,wpOp P ops Q i (fun c e=>I (L.setIfInBounds i true) c e) a w)
  (d:∀ L a w,I L a w->Region.ready md ops L = []->Q .normal a w):∀ (fuel:Nat) (L:Array Bool) (a:Act) (w:World),I L a w->unl L<=fuel->wpAny P md ops Q fuel L a w
 | 0,L,a,w,h,hu=>by
   have b:Region.ready md ops L = []:=by
    cases k:Region.ready md ops L with
    | nil=>rfl
    | cons i r=>
      have:i ∈ Region.ready md ops L:=by rw[k];simp
      exact absurd (mem_ready.1 this).1 (unl_zero (by omega) i)
   exact⟨b,d L a w h b⟩
 | fuel+1,L,a,w,h,hu=>by
   refine⟨fun b=>d L a w h b,fun i g=>?_⟩;have l:=unl_set (mem_ready.1 g).1;exact wpOp_mono (fun c e j=>wpAny_inv I f d fuel _ c e j (by omega)) (f L a w h i g)
theorem op_value {i:Nat}{o:Oper}{a:Act}{w w':World}{v:Value}{K:Act->World->Prop}(c:ops[i]?=some o)(b:o.guard=none)(d:(execOp a.eval o).run P w = .ok (.value v) w')(h:K (a.put o.dst v) w'):wpOp P ops Q i K a w:=by
 unfold wpOp
 simp only[c,Region.wanted,b,if_true,Oper.wp,d,Oper.upon];exact .inl h
end
theorem put_other {a:Act}{d p:Nat}{v:Value}(h:d≠p):(a.put (some d) v).tmps[p]?=a.tmps[p]?:=by simp[Act.put,Array.getElem?_setIfInBounds_ne h]
theorem put_same {a:Act}{d:Nat}{v:Value}(h:d<a.tmps.size):(a.put (some d) v).tmps[d]?=some v:=by simp[Act.put,h]
theorem put_size {a:Act}{d:Option Nat}{v:Value} : (a.put d v).tmps.size=a.tmps.size:=by cases d <;> simp[Act.put]
theorem put_defs {a:Act}{d:Option Nat}{v:Value} : (a.put d v).defers=a.defers:=by cases d <;> rfl
theorem set_at {L:Array Bool}{i p:Nat}(h:(L.setIfInBounds i true).getD p false=true)(a:i≠p):L.getD p false=true:=by rwa[getD_set_ne false a] at h
theorem dep_of {o:Oper}{i:Nat}{L:Array Bool}(h:(o.after.toList.any fun e=>(e.on == i) && Region.binds .any e)=true)(c:∀ e ∈ o.after,Region.binds .any e=true->L.getD e.on false=true):L.getD i false=true:=by
 obtain⟨e,b,a⟩:=List.any_eq_true.1 h;simp only[Bool.and_eq_true,beq_iff_eq] at a;rw[<-a.1];exact c e (by simpa using b) a.2
theorem unl_le (L:Array Bool):unl L<=L.size:=by
 unfold unl
 have:=List.length_filter_le (fun b=>!b) L.toList
 simpa using this
theorem eval_tmp {a:Act}{p:Nat}{v:Value}(h:a.tmps[p]?=some v):a.eval (.tmp p)=v:=by simp[Act.eval,h]
theorem getD_false {L:Array Bool}{i:Nat}(h:L.getD i true=false):L.getD i false=false:=by
 simp only[Array.getD_eq_getD_getElem?] at h ⊢
 cases a:L[i]? with
 | none=>rfl
 | some b=>rw[a] at h;exact h
theorem set_self {L:Array Bool}{i:Nat}(h:i<L.size):(L.setIfInBounds i true).getD i false=true:=by simp[h]
end
section
open Go Go.RowKit Go.Extern
theorem eiTypeOf (v:Value)(w:World):(Extern.ReflectliteType.typeOf #[.iface 459 v]).run Tryz.prog w = .ok (.iface 260 (.agg #[.pointer (some ⟨11,459,none⟩)])) w:=by kernel_rfl
theorem eiFind:(Extern.find Tryz.f445).isSome=true:=by kernel_rfl
theorem eiComparable (w:World):(((Extern.find Tryz.f445).get eiFind) #[.agg #[.pointer (some ⟨11,459,none⟩)]]).run Tryz.prog w = .ok (.bool true) w:=by kernel_rfl
theorem eiCall (w:World):(callFunc 445 #[.agg #[.pointer (some ⟨11,459,none⟩)]]).run Tryz.prog w = .ok (.value (.bool true)) w:=by
 rw[run_callFunc_extern Tryz.func445 (by kernel_rfl) (by kernel_rfl) (by kernel_rfl) (Option.some_get eiFind).symm,eiComparable]
 rfl
theorem eiMethod (v:Value)(w:World):(Go.method 594 260 v "Comparable").run Tryz.prog w = .ok (445,v) w:=by kernel_rfl
theorem eiComp:(Tryz.prog.info? 459).map (·.comparable)=some true:=by kernel_rfl
theorem eiSize:(Tryz.prog.info? 483).map (·.size)=some 1:=by kernel_rfl
theorem is_same (a:Addr)(w:World) :
  Calls Tryz.prog 90 #[.iface 459 (.pointer (some a)),.iface 459 (.pointer (some a))] w fun e w'=>e = .returned (.bool true)/\w'=w:=by
 obtain⟨i,d,b⟩:=Option.map_eq_some_iff.1 eiComp;obtain⟨j,f,g⟩:=Option.map_eq_some_iff.1 eiSize;have k:=@run_callFunc_extern Tryz.prog 154 _ Extern.ReflectliteType.typeOf Tryz.func154 (by kernel_rfl) (by kernel_rfl) (by kernel_rfl) (by kernel_rfl);have m:=eiTypeOf;have h:=eiCall;have l:=eiMethod;have c:=run_eql_iface_ptr_same (P:=Tryz.prog) w a Tryz.underlying113 Tryz.underlying459 d b f
 go_enter Tryz.func90,Tryz.ntmps90
 go_wp2
 refine wp_loop_rounds 1 ?_;rw[rounds_succ]
 go_wp2
 go_ret;exact⟨rfl,rfl⟩
end
section
open Go
def smallB (c:Int):Bool:=decide (97<=c/\c<=122)
def digitB (c:Int):Bool:=decide (48<=c/\c<=57)
def alnumB (c:Int):Bool:=decide ((97<=c/\c<=122)∨(65<=c/\c<=90)∨c=95∨(48<=c/\c<=57))
def symL:List Int:=[43,45,42,47,92,94,60,62,61,126,58,46,63,64,35,38,36]
def symbolB (c:Int):Bool:=symL.contains c
def tab:List Int:=[0,0,0,0,0,0,0,0,0,16,16,0,0,16,0,0,0,0,0,0,0,0,0,0,0,0,0,0,0,0,0,0,
 16,32,0,8,8,0,8,0,64,64,8,8,64,8,8,8,4,4,4,4,4,4,4,4,4,4,8,32,8,8,8,8,
 8,2,2,2,2,2,2,2,2,2,2,2,2,2,2,2,2,2,2,2,2,2,2,2,2,2,2,64,8,64,8,2,
 0,1,1,1,1,1,1,1,1,1,1,1,1,1,1,1,1,1,1,1,1,1,1,1,1,1,1,64,64,64,8,0]
def isOfB (b k:Int):Bool:=decide (0<=b) && (decide (b<128) && (bits BinOp.and .u8 (tab.getD b.toNat 0) k != 0))
theorem isOf_hi {b k:Int}(h:128<=b):isOfB b k=false:=by
 have:¬ b<128:=by omega
 simp[isOfB,this]
theorem isOf_lo {b k:Int}(h:b<0):isOfB b k=false:=by
 have:¬ 0<=b:=by omega
 simp[isOfB,this]
theorem isOf_in {b k:Int}(a:0<=b)(h:b<128):isOfB b k=(bits BinOp.and .u8 (tab.getD b.toNat 0) k != 0):=by
 simp[isOfB,a,h]
def runLen (f:Int->Bool):List Int->Nat
 | []=>0
 | x :: r=>if f x then runLen f r+1 else 0
theorem runLen_le (f:Int->Bool):∀ a,runLen f a<=a.length
 | []=>Nat.le_refl _
 | x :: r=>by have:=runLen_le f r;unfold runLen;split <;> simp <;> omega
theorem runLen_stop (f:Int->Bool):∀ (a:List Int) (k:Nat),k<=a.length->(∀ i,i<k->f (a.getD i 0)=true)->(k=a.length∨f (a.getD k 0)=false)->runLen f a=k
 | [],k,h,_,_=>by simp at h;simp[runLen,h]
 | x :: r,0,_,_,h2=>by
   rcases h2 with h2 | h2
   ·simp at h2
   ·have:f x=false:=by simpa using h2
    simp[runLen,this]
 | x :: r,k+1,h,h1,h2=>by
   have b:f x=true:=by simpa using h1 0 (by omega)
   have:=runLen_stop f r k (by simpa using h) (fun i c=>by simpa using h1 (i+1) (by omega)) (by simpa using h2)
   simp[runLen,b,this]
def Bytes (xs:List Int):Prop:=∀ x ∈ xs,0<=x/\x<256
theorem Bytes.at {xs:List Int}(h:Bytes xs)(i:Nat):0<=xs.getD i 0/\xs.getD i 0<256:=by
 by_cases a:i<xs.length
 ·have:=h xs[i] (List.getElem_mem a)
  simpa [List.getD,a] using this
 ·simp[List.getD,List.getElem?_eq_none (Nat.le_of_not_lt a)]
theorem Bytes.take {a:List Int}(h:Bytes a)(n:Nat):Bytes (a.take n):=fun x b=>h x (List.mem_of_mem_take b)
theorem Bytes.drop {a:List Int}(h:Bytes a)(n:Nat):Bytes (a.drop n):=fun x b=>h x (List.mem_of_mem_drop b)
end
section
open Go Go.RowKit
end
section
open Go Go.RowKit
theorem isOf_any (b k:Int)(w:World)(g : -9223372036854775808<=b)(h:b<=9223372036854775807)(c:∀ i,i<128->w.cell? ⟨7,i,none⟩=some (.int .u8 (tab.getD i 0))) :
  Calls Tryz.prog 325 #[.int .i64 b,.int .u8 k] w fun e f=>e = .returned (.bool (isOfB b k))/\f=w:=by
 by_cases a:0<=b
 ·by_cases d:b<128
  ·have j:=c b.toNat (by omega)
   rw[isOf_in a d];clear c
   go_enter Tryz.func325,Tryz.ntmps325
   go_wp2
   go_ret;exact⟨rfl,rfl⟩
  ·rw[isOf_hi (by omega)]
   clear c
   go_enter Tryz.func325,Tryz.ntmps325
   go_wp2
   go_ret;exact⟨rfl,rfl⟩
 ·rw[isOf_lo (by omega)]
  clear c
  go_enter Tryz.func325,Tryz.ntmps325
  go_wp2
  go_ret;exact⟨rfl,rfl⟩
end
end Go.Proofs.YtnfnddnffoigfaaGreatDoor
