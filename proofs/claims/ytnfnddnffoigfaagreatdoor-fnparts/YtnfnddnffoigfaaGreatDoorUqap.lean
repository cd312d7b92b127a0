/- Texts of FeJ, FeJ2, FeK0, FeK. Own work of the verifier. -/
import Derived.Test.YtnfnddnffoigfaaGreatDoorUqah
import Derived.Test.YtnfnddnffoigfaaGreatDoorUqai
namespace Go.Proofs.YtnfnddnffoigfaaGreatDoor
set_option maxHeartbeats 8000000
set_option maxRecDepth 100000
open Go Go.RowKit
set_option linter.unusedVariables false
set_option linter.unusedSimpArgs false
def RowS (w:World)(g:Nat):Prop:=∃ cur t fz,w.heap[g]?=some (.cells cur t fz)/\t≠27/\∃ q n c,cur[0]?=some (.slice q n c)
theorem RowG.rs {w:World}{g:Nat}(h:RowG w g):RowS w g:=by
 obtain⟨a,d,e⟩:=h;exact⟨a,_,_,d,by decide,e⟩
theorem OwnC.grownS {w D:World}{B n c:Nat}{p:Option Addr}{r:List Cel}{j:Option Nat}(h:OwnC w B p n c r)(u:w.grownBy D j)(C:∀ g,j=some g->RowS w g):OwnC D B p n c r:=by
 obtain⟨N,P,M,A,l,ha⟩:=h;refine⟨N,P,M,A.kept u ?_,fun i o=>⟨(l i o).1,(l i o).2.1,(l i o).2.2.other u.size (fun k y G=>?_)⟩,ha⟩
 ·rcases A.2 with ⟨v,_⟩ | ⟨g,E,F,v,_,f,_⟩
  ·rw[v];exact .inl rfl
  ·refine .inr (fun e=>?_)
   rw[v] at e;obtain⟨a,Q,H,s,O,_⟩:=C g e.symm;rw[s] at f
   simp at f
   exact O f.2.1
 ·obtain⟨S,x,_,K,J⟩:=(l i o).2.2.2 y
  rw[G] at x
  cases x
  refine u.block k K (fun e=>?_);obtain⟨a,Q,H,s,_,q,m,d,I⟩:=C k e.symm;have t:=(J 0 y).1
  unfold World.cell? at t
  simp only[s] at t
  have z:a[0]?=some (.int .u8 (((r.getD i Cel.none).2.2).getD 0 0)):=by simpa using t
  rw[I] at z
  cases z
theorem LS.keptS {w f:World}{B m c:Nat}{q:Option Addr}{a:List (List Cel)}{row:Option Nat}(h:LS w B q m c a)(e:w.grownBy f row)(s:∀ g,row=some g->RowS w g)(d:Value.ownBlock (.slice q m c)=none∨Value.ownBlock (.slice q m c)≠row):LS f B q m c a:=by
 obtain⟨t,u,i,k,l,o⟩:=h;exact⟨t,u,i,k,l.kept e d,fun j r=>(o j r).grownS e s⟩
theorem LS.rowT {w:World}{B m c:Nat}{q:Option Addr}{e:List (List Cel)}(h:LS w B q m c e){g:Nat}(d:Value.ownBlock (.slice q m c)=some g):∃ a j,w.heap[g]?=some (.cells a 23 j)/\B<=g/\g<w.heap.size:=by
 obtain⟨y,z,u,v,l,x⟩:=h
 rcases l.2 with ⟨k,_⟩ | ⟨t,i,a,s,o,f,r⟩
 ·rw[k] at d;cases d
 ·rw[s] at d
  cases d
  exact⟨a,_,f,o,(Array.getElem?_eq_some_iff.1 f).1⟩
theorem LS.set {w:World}{B m c:Nat}{q:Option Addr}{d:List (List Cel)}(h:LS w B q m c d){b i:Nat}{a:Array Value}{t:TypeId}{r:Nat×Nat}(s:w.heap[b]?=some (.cells a t r))(y:t≠27)(j:t≠23)(x:∃ q n c,a[0]?=some (.slice q n c))(v:Value):LS (w.setCell ⟨b,i,none⟩ v) B q m c d:=by
 refine h.keptS (row:=some b) ⟨rfl,rfl,rfl,by simp,fun k A f=>heap_setCell_other _ _ _ _ (fun e=>f (by simp at e;rw[e]))⟩ (fun g e=>by cases e;exact⟨a,t,r,s,y,x⟩) ?_
 cases z:Value.ownBlock (.slice q m c) with
 | none=>exact .inl rfl
 | some g=>
   refine .inr (fun e=>?_)
   cases e
   obtain⟨o,u,l,_⟩:=h.rowT z;rw[s] at l
   simp at l
   exact j l.2.1
theorem run_app_ls (w:World)(K:TypeId)(B:Nat)(q:Option Addr)(m c:Nat)(i:List (List Cel))(l:Sl3)(E:List Cel)(b:Nat)(f:LS w B q m c i)(y:OwnC w B l.1 l.2.1 l.2.2 E)(N:w.cell? ⟨b,0,none⟩=some (slV l))(M:B<=w.heap.size)(U:m<=1000) :
  ∃ g d s,(Builtin.append_ #[31,31] K #[.slice q m c,.slice (some ⟨b,0,none⟩) 1 1]).run Tryz.prog w = .ok (.slice (some ⟨g,0,none⟩) (m+1) d) s/\LS s B (some ⟨g,0,none⟩) (m+1) d (i ++ [E])/\w.grownBy s (Value.ownBlock (.slice q m c))/\(Value.ownBlock (.slice q m c)=some g∨g=w.heap.size):=by
 obtain⟨T,O,z,A,C⟩:=info_parts infoCells;have H:=f;obtain⟨J,D,t,F,G,I⟩:=f;obtain⟨g,d,s,Q,k,a,v,r⟩:=run_append_lies (P:=Tryz.prog) w 31 K B 23 T (.slice none 0 0) 1 24 Tryz.underlying31 O z A C rfl (by decide) (.slice q m c) m (D.map slV) G ⟨b,0,none⟩ 1 1 [slV l] rfl
  (fun j u o=>by
    cases j with
    | zero=>simp at o;subst o;rw[Addr.add_lit];exact N
    | succ j=>simp at o) (fun u S=>by rw[List.mem_singleton.1 S];rfl) (by decide) (by unfold maxLen;omega) (by omega) M _ rfl
 have h:∀ g,Value.ownBlock (.slice q m c)=some g->RowG w g:=fun g x=>by
  rcases Nat.eq_zero_or_pos m with h00 | h00
  ·rw[J (by omega)] at x;cases x
  ·exact(LS.row ⟨J,D,t,F,G,I⟩ g x (by omega)).1
 refine⟨g,d,s,Q,⟨fun e=>by simp at e,D ++ [l],by simp[t],by simp[F],by rw[List.map_append];exact k,fun j o=>?_⟩,a,v⟩;rw[sl_cat_at,css_cat_at,t]
 split
 ·rename_i r
  exact(I j r).grown a h
 ·obtain rfl:j=i.length:=by simp at o;omega
  simpa using y.grown a h
structure IC (w0 w:World)(b:Nat)(pl:Option Addr)(jl cl:Nat)(L:List (List Cel))(pr:Option Addr)(jr cr:Nat)(R:List (List Cel))(ov:Value):Prop where
 bel:Below w0.heap.size w0 w
 lft:LS w w0.heap.size pl jl cl L
 rgt:LS w w0.heap.size pr jr cr R
 apt:Value.ownBlock (.slice pl jl cl)=none∨Value.ownBlock (.slice pl jl cl)≠Value.ownBlock (.slice pr jr cr)
 box:w.heap[b]?=some (.cells #[.slice pl jl cl,.slice pr jr cr,.slice none 0 0,ov] 36)
 low:w0.heap.size<=b
section
variable {w0 w:World}{b:Nat}{pl:Option Addr}{jl cl:Nat}{L:List (List Cel)}{pr:Option Addr}{jr cr:Nat}{R:List (List Cel)}{ov:Value}
theorem IC.below (H:IC w0 w b pl jl cl L pr jr cr R ov){w':World}(a:Below w.heap.size w w'):IC w0 w' b pl jl cl L pr jr cr R ov:=
 ⟨Below.on H.bel a,H.lft.below a,H.rgt.below a,H.apt,(a.block _ (Array.getElem?_eq_some_iff.1 H.box).1).trans H.box,H.low⟩
theorem IC.bx (H:IC w0 w b pl jl cl L pr jr cr R ov):w.cell? ⟨b,0,none⟩=some (.slice pl jl cl)/\w.cell? ⟨b,1,none⟩=some (.slice pr jr cr)/\w.cell? ⟨b,2,none⟩=some (.slice none 0 0)/\w.cell? ⟨b,3,none⟩=some ov/\∀ j,w.frozen? ⟨b,j,none⟩=false:=by
 have h:=H.box;exact⟨cell_of_row _ _ 0 _ _ _ h,cell_of_row _ _ 1 _ _ _ h,cell_of_row _ _ 2 _ _ _ h,cell_of_row _ _ 3 _ _ _ h,fun j=>frozen_of_row _ _ _ _ _ h⟩
theorem IC.left (H:IC w0 w b pl jl cl L pr jr cr R ov)(D:TypeId)(s:Sl3)(u:List Cel)(e:Nat)(x:OwnC w w0.heap.size s.1 s.2.1 s.2.2 u)(G:w.cell? ⟨e,0,none⟩=some (slV s))(I:jl<=1000) :
  ∃ g a w',(Builtin.append_ #[31,31] D #[.slice pl jl cl,.slice (some ⟨e,0,none⟩) 1 1]).run Tryz.prog w = .ok (.slice (some ⟨g,0,none⟩) (jl+1) a) w'/\IC w0 (w'.setCell ⟨b,0,none⟩ (.slice (some ⟨g,0,none⟩) (jl+1) a)) b (some ⟨g,0,none⟩) (jl+1) a (L ++ [u]) pr jr cr R ov/\
    (∀ (k:Nat) (m:Array Value) (t:TypeId) (o:Nat×Nat),w.heap[k]?=some (.cells m t o)->t≠23->w'.heap[k]?=some (.cells m t o))/\w.heap.size<=w'.heap.size:=by
 obtain⟨g,a,w',K,y,i,v⟩:=run_app_ls w D w0.heap.size pl jl cl L s u e H.lft x G H.bel.size I
 have j:∀ (k:Nat) (m:Array Value) (t:TypeId) (o:Nat×Nat),w.heap[k]?=some (.cells m t o)->t≠23->w'.heap[k]?=some (.cells m t o):=fun k m t o d M=>by
  refine(i.block k (Array.getElem?_eq_some_iff.1 d).1 (fun e=>?_)).trans d;obtain⟨E,F,A,_⟩:=H.lft.rowT e.symm;rw[d] at A
  simp at A
  exact M A.2.1
 have l:=j _ _ _ _ H.box (by decide)
 have r:∀ g,Value.ownBlock (.slice pl jl cl)=some g->RowS w g:=fun g i=>by
  rcases Nat.eq_zero_or_pos L.length with h00 | h00
  ·rw[H.lft.1 h00] at i;cases i
  ·exact(H.lft.row g i h00).1.rs
 have f:Value.ownBlock (.slice pr jr cr)=none∨Value.ownBlock (.slice pr jr cr)≠Value.ownBlock (.slice pl jl cl):=by
  rcases H.apt with h | h
  ·cases N:Value.ownBlock (.slice pr jr cr) with
   | none=>exact .inl rfl
   | some k=>exact .inr (by rw[h];simp)
  ·exact .inr (fun e=>h e.symm)
 have J:=H.rgt.keptS i r f
 have z:∀ k,Value.ownBlock (.slice pr jr cr)=some k->k≠g:=fun k d e=>by
  subst e
  rcases v with h | h
  ·rcases f with h' | h'
   ·rw[h'] at d;cases d
   ·exact h' (d.trans h.symm)
  ·have:=(H.rgt.rowT d)
   obtain⟨_,_,_,_,C⟩:=this
   omega
 have B:∃ q n c,(#[.slice pl jl cl,.slice pr jr cr,.slice none 0 0,ov]:Array Value)[0]?=some (.slice q n c):=⟨_,_,_,rfl⟩
 refine⟨g,a,w',K,⟨?_,y.set l (by decide) (by decide) B _,J.set l (by decide) (by decide) B _,?_,?_,H.low⟩,j,i.size⟩
 ·exact((Below.refl _ _).trans H.bel).grown i H.bel.size (fun k d=>by obtain⟨_,_,_,C,_⟩:=H.lft.rowT d;exact C) |>.setCell (by simpa using H.low) _
 ·exact .inr (fun e=>z g e.symm rfl)
 ·rw[heap_setCell_same _ _ _ _ _ _ l];rfl
theorem IC.right (H:IC w0 w b pl jl cl L pr jr cr R ov)(D:TypeId)(s:Sl3)(u:List Cel)(e:Nat)(x:OwnC w w0.heap.size s.1 s.2.1 s.2.2 u)(G:w.cell? ⟨e,0,none⟩=some (slV s))(I:jr<=1000) :
  ∃ g a w',(Builtin.append_ #[31,31] D #[.slice pr jr cr,.slice (some ⟨e,0,none⟩) 1 1]).run Tryz.prog w = .ok (.slice (some ⟨g,0,none⟩) (jr+1) a) w'/\IC w0 (w'.setCell ⟨b,1,none⟩ (.slice (some ⟨g,0,none⟩) (jr+1) a)) b pl jl cl L (some ⟨g,0,none⟩) (jr+1) a (R ++ [u]) ov/\
    (∀ (k:Nat) (m:Array Value) (t:TypeId) (o:Nat×Nat),w.heap[k]?=some (.cells m t o)->t≠23->w'.heap[k]?=some (.cells m t o))/\w.heap.size<=w'.heap.size:=by
 obtain⟨g,a,w',K,y,i,v⟩:=run_app_ls w D w0.heap.size pr jr cr R s u e H.rgt x G H.bel.size I
 have j:∀ (k:Nat) (m:Array Value) (t:TypeId) (o:Nat×Nat),w.heap[k]?=some (.cells m t o)->t≠23->w'.heap[k]?=some (.cells m t o):=fun k m t o d M=>by
  refine(i.block k (Array.getElem?_eq_some_iff.1 d).1 (fun e=>?_)).trans d;obtain⟨E,F,A,_⟩:=H.rgt.rowT e.symm;rw[d] at A
  simp at A
  exact M A.2.1
 have l:=j _ _ _ _ H.box (by decide)
 have r:∀ g,Value.ownBlock (.slice pr jr cr)=some g->RowS w g:=fun g i=>by
  rcases Nat.eq_zero_or_pos R.length with h00 | h00
  ·rw[H.rgt.1 h00] at i;cases i
  ·exact(H.rgt.row g i h00).1.rs
 have f:Value.ownBlock (.slice pl jl cl)=none∨Value.ownBlock (.slice pl jl cl)≠Value.ownBlock (.slice pr jr cr):=by
  exact H.apt
 have J:=H.lft.keptS i r f
 have z:∀ k,Value.ownBlock (.slice pl jl cl)=some k->k≠g:=fun k d e=>by
  subst e
  rcases v with h | h
  ·rcases f with h' | h'
   ·rw[h'] at d;cases d
   ·exact h' (d.trans h.symm)
  ·have:=(H.lft.rowT d)
   obtain⟨_,_,_,_,C⟩:=this
   omega
 have B:∃ q n c,(#[.slice pl jl cl,.slice pr jr cr,.slice none 0 0,ov]:Array Value)[0]?=some (.slice q n c):=⟨_,_,_,rfl⟩
 refine⟨g,a,w',K,⟨?_,J.set l (by decide) (by decide) B _,y.set l (by decide) (by decide) B _,?_,?_,H.low⟩,j,i.size⟩
 ·exact((Below.refl _ _).trans H.bel).grown i H.bel.size (fun k d=>by obtain⟨_,_,_,C,_⟩:=H.rgt.rowT d;exact C) |>.setCell (by simpa using H.low) _
 ·cases N:Value.ownBlock (.slice pl jl cl) with
  | none=>exact .inl rfl
  | some k=>exact .inr (fun e=>z k N (by simpa [Value.ownBlock] using e))
 ·rw[heap_setCell_same _ _ _ _ _ _ l];rfl
end
theorem exec_appF {a:Act}{o:Oper}{s x:Operand}{t u:TypeId}{w w':World}{v y r:Value}(d:o.op = .call { callee:=.builtin .append,args:=#[s,x],argTypes:=#[t,u] })(f:a.eval s=v)(g:a.eval x=y)
  (e:(Builtin.append_ #[t,u] o.type #[v,y]).run Tryz.prog w = .ok r w'):(execOp a.eval o).run Tryz.prog w = .ok (.value r) w':=by
 unfold execOp
 simp only[d,resolve,invoke,builtin,Sem.run_bind,Sem.run_pure,Result.andThen_ok,List.map_toArray,List.map_cons,List.map_nil,f,g,e]
abbrev wr4 (w:World)(T:Nat)(a b c d:Value):World:=(((w.setCell ⟨T,0,none⟩ a).setCell ⟨T,1,none⟩ b).setCell ⟨T,2,none⟩ c).setCell ⟨T,3,none⟩ d
theorem wr4_block {w:World}{T:Nat}{u0 u1 u2 u3:Value}{t:TypeId}(h:w.heap[T]?=some (.cells #[u0,u1,u2,u3] t))(a b c d:Value):(wr4 w T a b c d).heap[T]?=some (.cells #[a,b,c,d] t):=by
 have e:(w.setCell ⟨T,0,none⟩ a).heap[T]?=some (.cells #[a,u1,u2,u3] t):=by rw[heap_setCell_same _ _ _ _ _ _ h];rfl
 have f:((w.setCell ⟨T,0,none⟩ a).setCell ⟨T,1,none⟩ b).heap[T]?=some (.cells #[a,b,u2,u3] t):=by rw[heap_setCell_same _ _ _ _ _ _ e];rfl
 have g:(((w.setCell ⟨T,0,none⟩ a).setCell ⟨T,1,none⟩ b).setCell ⟨T,2,none⟩ c).heap[T]?=some (.cells #[a,b,c,u3] t):=by rw[heap_setCell_same _ _ _ _ _ _ f];rfl
 rw[heap_setCell_same _ _ _ _ _ _ g];rfl
theorem wr4_box {w:World}{T:Nat}{u0 u1 u2 u3:Value}{t:TypeId}(h:w.heap[T]?=some (.cells #[u0,u1,u2,u3] t))(a b c d:Value):(wr4 w T a b c d).cell? ⟨T,0,none⟩=some a/\(wr4 w T a b c d).cell? ⟨T,1,none⟩=some b/\(wr4 w T a b c d).cell? ⟨T,2,none⟩=some c/\(wr4 w T a b c d).cell? ⟨T,3,none⟩=some d:=by
 have e:=wr4_block h a b c d;exact⟨cell_of_row _ _ 0 _ _ _ e,cell_of_row _ _ 1 _ _ _ e,cell_of_row _ _ 2 _ _ _ e,cell_of_row _ _ 3 _ _ _ e⟩
theorem wr4_other {w:World}{T k:Nat}{a b c d:Value}(h:k≠T):(wr4 w T a b c d).heap[k]?=w.heap[k]?:=by
 have q:∀ (W:World) (i:Nat) (v:Value),(W.setCell ⟨T,i,none⟩ v).heap[k]?=W.heap[k]?:=fun W i v=>heap_setCell_other W ⟨T,i,none⟩ k v (fun e=>by simp at e;omega)
 exact(q _ _ _).trans ((q _ _ _).trans ((q _ _ _).trans (q _ _ _)))
theorem wr4_below {w0 w:World}{T B:Nat}(h:Below B w0 w)(f:B<=T)(a b c d:Value):Below B w0 (wr4 w T a b c d):=
 ⟨h.os,h.tape,h.output,by simpa [wr4] using h.size,fun k e=>(wr4_other (by omega)).trans (h.block k e)⟩
theorem wr4_ls {w:World}{T B m i:Nat}{q:Option Addr}{f:List (List Cel)}(h:LS w B q m i f){x:Option Addr}{v s:Nat}{u1 u2 u3:Value}(o:w.heap[T]?=some (.cells #[.slice x v s,u1,u2,u3] 36))(a b c d:Value):LS (wr4 w T a b c d) B q m i f:=by
 refine h.keptS (row:=some T) ⟨rfl,rfl,rfl,by simp[wr4],fun k y j=>wr4_other (fun e=>j (by rw[e]))⟩ (fun g e=>by cases e;exact⟨_,_,_,o,by decide,_,_,_,rfl⟩) ?_
 cases u:Value.ownBlock (.slice q m i) with
 | none=>exact .inl rfl
 | some g=>
   refine .inr (fun e=>?_)
   cases e
   obtain⟨l,t,r,_⟩:=h.rowT u;rw[o] at r
   simp at r
def PairsF (w:World)(p:Option Addr)(ts:List TT):Prop:=∀ i,i<ts.length->∃ g v u,p=some ⟨g,0,none⟩/\w.cell? ⟨g,i * 2,none⟩=some v/\w.cell? ⟨g,i * 2+1,none⟩=some u/\FoIn w 0 (ts.getD i ((Cel.none,.nil),(Cel.none,.nil))).1.fo [v]/\FoIn w 0 (ts.getD i ((Cel.none,.nil),(Cel.none,.nil))).2.fo [u]
theorem PairsF.below {w w':World}{p:Option Addr}{ts:List TT}(h:PairsF w p ts)(a:Below w.heap.size w w'):PairsF w' p ts:=fun i l=>by
 obtain⟨g,v,u,e,d,f,j,k⟩:=h i l;exact⟨g,v,u,e,(a.cell (World.block_lt_of_cell? _ _ d)).trans d,(a.cell (World.block_lt_of_cell? _ _ f)).trans f,j.below a,k.below a⟩
def Tr.cs (t:Tr):List Cel:=t.1 :: t.2.cells
def okP (ts:List TT):Prop:=∀ t ∈ ts,t.1.fo.ok/\t.1.2.cells.length<=10000/\t.2.fo.ok/\t.2.2.cells.length<=10000
theorem okP.at {ts:List TT}(h:okP ts)(i:Nat)(a:i<ts.length):(ts.getD i ((Cel.none,.nil),(Cel.none,.nil))).1.fo.ok/\(ts.getD i ((Cel.none,.nil),(Cel.none,.nil))).1.2.cells.length<=10000/\(ts.getD i ((Cel.none,.nil),(Cel.none,.nil))).2.fo.ok/\(ts.getD i ((Cel.none,.nil),(Cel.none,.nil))).2.2.cells.length<=10000:=by
 rw[List.getD,List.getElem?_eq_getElem a];exact h _ (List.getElem_mem a)
def lefts (ts:List TT):List (List Cel):=ts.map fun t=>t.1.cs
def rights (ts:List TT):List (List Cel):=ts.map fun t=>t.2.cs
def CelAt (w:World)(v:Value)(cs:List Cel):Prop:=∀ W,Below w.heap.size w W->Calls Tryz.prog 24 #[v] W fun e w'=>∃ q m cp,e = .returned (.slice q m cp)/\OwnC w' W.heap.size q m cp cs/\Below W.heap.size W w'
theorem CelAt.below {w w':World}{v:Value}{a:List Cel}(h:CelAt w v a)(e:Below w.heap.size w w'):CelAt w' v a:=fun W d=>h W (Below.on e d)
abbrev C2:=List Cel×List Cel
def PairsK (w:World)(p:Option Addr)(ts:List C2):Prop:=∀ i,i<ts.length->∃ g tv xv tu xu,p=some ⟨g,0,none⟩/\w.cell? ⟨g,i * 2,none⟩=some (.iface tv xv)/\w.cell? ⟨g,i * 2+1,none⟩=some (.iface tu xu)/\CelAt w (.iface tv xv) (ts.getD i ([],[])).1/\CelAt w (.iface tu xu) (ts.getD i ([],[])).2
def leftsK (ts:List C2):List (List Cel):=ts.map Prod.fst
def rightsK (ts:List C2):List (List Cel):=ts.map Prod.snd
theorem leftsK_snoc (ts:List C2)(j:Nat)(a:j<ts.length):(leftsK ts).take (j+1)=(leftsK ts).take j ++ [(ts.getD j ([],[])).1]:=by
 rw[List.take_succ_eq_append_getElem (by simpa [leftsK] using a),List.getD,List.getElem?_eq_getElem a]
 simp[leftsK]
theorem rightsK_snoc (ts:List C2)(j:Nat)(a:j<ts.length):(rightsK ts).take (j+1)=(rightsK ts).take j ++ [(ts.getD j ([],[])).2]:=by
 rw[List.take_succ_eq_append_getElem (by simpa [rightsK] using a),List.getD,List.getElem?_eq_getElem a]
 simp[rightsK]
theorem inCells_gen (p:Option Addr)(n c:Nat)(I:Option Addr)(H G:Nat)(ts:List C2)(w:World)(hn:n=ts.length)(hl:n<=900)(c1:PairsK w p ts) :
  Calls Tryz.prog 28 #[.agg #[.slice p n c,.nilIface,.slice I H G]] w fun e w'=>∃ pl cl pr cr,e = .returned (.agg #[.slice pl n cl,.slice pr n cr,.slice none 0 0,.slice I H G])/\LS w' w.heap.size pl n cl (leftsK ts)/\LS w' w.heap.size pr n cr (rightsK ts)/\Below w.heap.size w w':=by
 obtain⟨E,eE⟩:∃ E,E=w.heap.size:=⟨_,rfl⟩
 obtain⟨d,h4⟩:∃ d,d=w.heap.size+1+1:=⟨_,rfl⟩
 obtain⟨w1,e1⟩:∃ w1,w1=w.alloc (.cells #[.slice p n c,.nilIface,.slice I H G] 70):=⟨_,rfl⟩
 obtain⟨w2,e2⟩:∃ w2,w2=w1.alloc (.cells #[.slice none 0 0,.slice none 0 0,.slice none 0 0,.slice none 0 0] 36):=⟨_,rfl⟩
 obtain⟨w3,e3⟩:∃ w3,w3=w2.alloc (.cells #[.slice none 0 0,.slice none 0 0,.slice none 0 0,.slice I H G] 36):=⟨_,rfl⟩
 have x9:w1.heap.size=w.heap.size+1:=by rw[e1];simp
 have c4:w2.heap.size=w.heap.size+1+1:=by rw[e2,<-x9];simp
 have b9:Below w.heap.size w w1:=by rw[e1];exact(Below.refl _ _).alloc (Nat.le_refl _) _
 have x5:Below w1.heap.size w1 w2:=by rw[e2];exact(Below.refl _ _).alloc (Nat.le_refl _) _
 have k8:Below w2.heap.size w2 w3:=by rw[e3];exact(Below.refl _ _).alloc (Nat.le_refl _) _
 have b8:Below w.heap.size w w3:=Below.on b9 (Below.on x5 k8)
 have k1:w3.heap[E]?=some (.cells #[.slice p n c,.nilIface,.slice I H G] 70):=by rw[eE,k8.block _ (by omega),x5.block _ (by omega),e1];exact heap_alloc_new _ _
 have k2:w3.heap[E+1]?=some (.cells #[.slice none 0 0,.slice none 0 0,.slice none 0 0,.slice none 0 0] 36):=by rw[eE,k8.block _ (by omega),e2,<-x9];exact heap_alloc_new _ _
 have k3:w3.heap[d]?=some (.cells #[.slice none 0 0,.slice none 0 0,.slice none 0 0,.slice I H G] 36):=by rw[h4,e3,<-c4];exact heap_alloc_new _ _
 have a2:Hid (IC w w3 d none 0 0 ((leftsK ts).take 0) none 0 0 ((rightsK ts).take 0) (.slice I H G)):=⟨b8,by simpa using LS.nil w3 _,by simpa using LS.nil w3 _,.inl rfl,k3,by omega⟩
 have Y:Hid (w3.heap[E]?=some (.cells #[.slice p n c,.nilIface,.slice I H G] 70)/\w3.heap[E+1]?=some (.cells #[.slice none 0 0,.slice none 0 0,.slice none 0 0,.slice none 0 0] 36)/\E+1≠d/\E≠d):=⟨k1,k2,by omega,by omega⟩
 have a3:=hid c1;have HN:=hid hn
 have HE:Hid (E=w.heap.size/\d=w.heap.size+1+1):=⟨eE,h4⟩
 have x0:=cell_of_row _ _ 0 _ _ _ k1;have x1:=cell_of_row _ _ 2 _ _ _ k1;rw[eE] at x0 x1;rw[e1] at e2;rw[e2] at e3;rw[e3] at x0 x1;clear c1 hn x9 c4 b9 x5 k8 b8 k1 k2 k3 e1 e2
 go_enter Tryz.func28,Tryz.ntmps28
 go_wp2_with fail;rw[<-e3,<-eE];rw[<-eE] at h4;rw[<-h4];clear e3 eE h4 x0 x1
 go_loopw [12] (fun i wr=>∃ (j:Nat) (pl:Option Addr) (cl:Nat) (pr:Option Addr) (cr:Nat),j<=n/\i = .int .i64 j/\Hid (IC w wr d pl j cl ((leftsK ts).take j) pr j cr ((rightsK ts).take j) (.slice I H G))/\Hid (wr.heap[E]?=some (.cells #[.slice p n c,.nilIface,.slice I H G] 70)/\wr.heap[E+1]?=some (.cells #[.slice none 0 0,.slice none 0 0,.slice none 0 0,.slice none 0 0] 36))) (fun i _=>n-(intOf i).toNat)
 case atStart=>exact⟨0,none,0,none,0,Nat.zero_le _,rfl,a2.o,Y.o.1,Y.o.2.1⟩
 case round=>
  obtain⟨j,pl,cl,pr,cr,hj,rfl,HI,M⟩:=hrel
  by_cases x8:j<n
  ·obtain⟨g,tv,xv,tu,xu,rfl,w4,w9,x7,x6⟩:=a3.o j (by rw[<-HN.o];exact x8)
   obtain⟨A,eA⟩:∃ A,A=ts.getD j ([],[]):=⟨_,rfl⟩
   rw[<-eA] at x7 x6
   have b5:Hid ((leftsK ts).take (j+1)=(leftsK ts).take j ++ [A.1]/\(rightsK ts).take (j+1)=(rightsK ts).take j ++ [A.2]):=by
    rw[eA];exact⟨leftsK_snoc ts j (by rw[<-HN.o];exact x8),rightsK_snoc ts j (by rw[<-HN.o];exact x8)⟩
   have h6:=HI.o.bel;have y0:=(h6.cell (World.block_lt_of_cell? _ _ w4)).trans w4;have y1:=(h6.cell (World.block_lt_of_cell? _ _ w9)).trans w9
   obtain⟨F,k7⟩:∃ F,F=wr.alloc (.cells #[.iface tv xv,.iface tu xu] 89):=⟨_,rfl⟩
   obtain⟨z,x3⟩:∃ z,z=wr.heap.size:=⟨_,rfl⟩
   have k9:Below wr.heap.size wr F:=by rw[k7];exact(Below.refl _ _).alloc (Nat.le_refl _) _
   have kP:F.heap[z]?=some (.cells #[.iface tv xv,.iface tu xu] 89):=by rw[x3,k7];exact heap_alloc_new _ _
   have kE:=(k9.block _ (Array.getElem?_eq_some_iff.1 M.o.1).1).trans M.o.1;have kR:=(k9.block _ (Array.getElem?_eq_some_iff.1 M.o.2).1).trans M.o.2;have h3:=hid (HI.o.below k9);obtain⟨k5,h1,c6,c7,-⟩:=h3.o.bx;have c3:=cell_of_row _ _ 0 _ _ _ kP;have h9:=cell_of_row _ _ 1 _ _ _ kP
   have b4:Hid (F.heap[E]?=some (.cells #[.slice (some ⟨g,0,none⟩) n c,.nilIface,.slice I H G] 70)/\F.heap[E+1]?=some (.cells #[.slice none 0 0,.slice none 0 0,.slice none 0 0,.slice none 0 0] 36)/\F.heap[z]?=some (.cells #[.iface tv xv,.iface tu xu] 89)):=⟨kE,kR,kP⟩
   have c9:=hid x7;have a1:=hid x6
   have c2:j<=1000:=by omega
   have t:Hid (∀ W,Below F.heap.size F W->W.cell? ⟨d,0,none⟩=some (.slice pl j cl)/\W.cell? ⟨z,0,none⟩=some (.iface tv xv)):=fun W hW=>⟨(hW.cell (World.block_lt_of_cell? _ _ k5)).trans k5,(hW.cell (World.block_lt_of_cell? _ _ c3)).trans c3⟩
   clear k9 h6 x7 x6 w4 w9 kP kE kR eA HI M h1 c6 c7 h9;go_wp2_with fail;rw[<-k7,<-x3];clear k7 y0 y1 x3;have b2:Hid (Below w.heap.size w F.drew):=h3.o.bel.trans (Below.refl _ _).drew;obtain⟨hO,hP⟩:=t.o _ (Below.refl _ _).drew;refine wp_region_any (by kernel_rfl) ?_;refine wpAny_tail (p:=7) (S:=fun W=>W.cell? ⟨d,0,none⟩=some (.slice pl j cl)/\W.cell? ⟨z,0,none⟩=some (.iface tv xv)) (by kernel_rfl) 7 _ _ _ rfl (clo_start _ _ _) (by kernel_rfl) (by kernel_rfl) ?_
   change wpAnyH _ _ _ _ _ _ _ _ F.drew
   have x4:F.drew.cell? ⟨d,0,none⟩=some (.slice pl j cl)/\F.drew.cell? ⟨z,0,none⟩=some (.iface tv xv):=⟨hO,hP⟩
   refine hTq 0 (.pointer (some ⟨d,0,none⟩)) 16 ?_
   simp only[Act.put,zzA,zzB,zzC];refine hTr 1 (.slice pl j cl) 17 (fun o x W Q=>?y21) ?_
   case y21=>cases x;obtain⟨t0,t1⟩:=Q;simp[execOp,go_sem,Act.eval,t0]
   simp only[Act.put,zzA,zzB,zzC];refine hTq 2 (.pointer (some ⟨z,0,none⟩)) 18 ?_
   simp only[Act.put,zzA,zzB,zzC];refine hTr 3 (.iface tv xv) 19 (fun o x W Q=>?y23) ?_
   case y23=>cases x;obtain⟨t0,t1⟩:=Q;simp[execOp,go_sem,Act.eval,t1]
   simp only[Act.put,zzA,zzB,zzC];refine hCallE (i:=4) (f:=24) (args:=#[(.iface tv xv)]) (some 20) (by kernel_rfl) (by kernel_rfl) (by kernel_rfl) (fun o x=>?c24) (c9.o _ (b2.o)) ?k24 (fun ch w' hh=>by obtain⟨_,_,_,h,_⟩:=hh;cases h) (fun w' hh=>by obtain⟨_,_,_,h,_⟩:=hh;cases h)
   case c24=>cases x;simp[execOp,go_sem,Act.eval]
   case k24=>
    rintro u5 s ⟨q5,m5,c5,e7,h8,h5⟩;obtain rfl:=Ending.returned.inj e7;have m:Below F.heap.size F s:=(Below.refl _ _).drew.trans h5;have D:OwnC s w.heap.size q5 m5 c5 A.1:=h8.mono (by simpa using h3.o.bel.size);clear e7 h8 h5 x4;refine⟨t.o s m,?_⟩;simp only[Act.put,zzA,zzB,zzC];have l:Below F.heap.size F (s.alloc (.cells #[.slice q5 m5 c5] 23)):=m.alloc m.size _;refine hStep (i:=5) (v:=.slice (some ⟨s.heap.size,0,none⟩) 1 1) (w':=s.alloc (.cells #[.slice q5 m5 c5] 23)) (some 21) (by kernel_rfl) (by kernel_rfl) (by kernel_rfl) (fun o x=>?y25) (t.o _ l) ?_
    case y25=>cases x;simp[execOp,go_sem,Act.eval]
    simp only[Act.put,zzA,zzB,zzC]
    obtain⟨w6,e6⟩:∃ w6,w6=s.alloc (.cells #[.slice q5 m5 c5] 23):=⟨_,rfl⟩
    have kn:w6.cell? ⟨s.heap.size,0,none⟩=some (slV (q5,m5,c5)):=by rw[e6];exact cell_of_row _ _ 0 _ _ _ (heap_alloc_new _ _)
    have C:Below s.heap.size s w6:=by rw[e6];exact(Below.refl _ _).alloc (Nat.le_refl _) _
    rw[<-e6] at l;rw[<-e6];have N:=h3.o.below l;obtain⟨g6,q,w7,e4,O,a,e5⟩:=N.left 31 (q5,m5,c5) A.1 s.heap.size (D.below C) kn c2;obtain⟨T,X,U⟩:=b4.o;have e9:=a _ _ _ _ ((l.block _ (Array.getElem?_eq_some_iff.1 T).1).trans T) (by decide);have k4:=a _ _ _ _ ((l.block _ (Array.getElem?_eq_some_iff.1 X).1).trans X) (by decide);have r:=a _ _ _ _ ((l.block _ (Array.getElem?_eq_some_iff.1 U).1).trans U) (by decide);have y:=a _ _ _ _ N.box (by decide)
    have P:w7.cell? ⟨d,0,none⟩=some (.slice pl j cl)/\w7.cell? ⟨z,0,none⟩=some (.iface tv xv):=⟨cell_of_row _ _ 0 _ _ _ y,cell_of_row _ _ 0 _ _ _ r⟩
    refine hStep (i:=6) (v:=.slice (some ⟨g6,0,none⟩) (j+1) q) (w':=w7) (some 22) (by kernel_rfl) (by kernel_rfl) (by kernel_rfl) (fun o x=>?y6) P ?_
    case y6=>
     cases x
     exact exec_appF rfl rfl rfl e4
    simp only[Act.put,zzA,zzB,zzC];refine wpAnyH_done (by kernel_rfl) ?_ _;have f7:w7.frozen? ⟨d,0,none⟩=false:=frozen_of_row _ _ _ _ _ y;have B:=P.1
    obtain⟨J,e8⟩:∃ J,J=w7.setCell ⟨d,0,none⟩ (.slice (some ⟨g6,0,none⟩) (j+1) q):=⟨_,rfl⟩
    refine tail_store (some 23) (by rfl) (by rfl) (by rfl) (v:=.pointer (some ⟨d,0,none⟩)) ?_ (by rfl) (by rfl) (by rfl) (w':=J) ?_ ?_
    ·simp[execOp,go_sem,Act.eval]
    ·rw[e8];simp[execOp,go_sem,Act.eval,Act.put,B,f7]
    simp only[Act.put,zzA,zzB,zzC];rw[<-e8] at O;have nE:E≠d:=Y.o.2.2.2;have nR:E+1≠d:=Y.o.2.2.1
    have nP:z≠d:=fun e=>by rw[e,y] at r;simp at r
    have K:=hid O
    have h7:J.heap[E]?=some (.cells #[.slice (some ⟨g,0,none⟩) n c,.nilIface,.slice I H G] 70)/\J.heap[E+1]?=some (.cells #[.slice none 0 0,.slice none 0 0,.slice none 0 0,.slice none 0 0] 36)/\J.heap[z]?=some (.cells #[.iface tv xv,.iface tu xu] 89):=by
     rw[e8,heap_setCell_other _ _ _ _ (by simpa using nE),heap_setCell_other _ _ _ _ (by simpa using nR),heap_setCell_other _ _ _ _ (by simpa using nP)];exact⟨e9,k4,r⟩
    have Z:Hid _:=h7;clear h7 nE nR nP O e8 P B f7 y r k4 e9 T X U e4 a e5 N kn C l e6 D m hO hP;obtain⟨k5,h1,-,-,-⟩:=K.o.bx;have h9:=cell_of_row _ _ 1 _ _ _ Z.o.2.2
    have u:Hid (∀ W,Below J.heap.size J W->W.cell? ⟨d,1,none⟩=some (.slice pr j cr)/\W.cell? ⟨z,1,none⟩=some (.iface tu xu)):=fun W hW=>⟨(hW.cell (World.block_lt_of_cell? _ _ h1)).trans h1,(hW.cell (World.block_lt_of_cell? _ _ h9)).trans h9⟩
    obtain⟨b1,b7⟩:∃ b1,b1=some (⟨g6,0,none⟩:Addr):=⟨_,rfl⟩
    rw[<-b7] at K;have k6:=hid K;have a4:=Z;have b3:Hid (Below w.heap.size w J.drew):=k6.o.bel.trans (Below.refl _ _).drew
    obtain⟨x2,b6⟩:∃ x2,x2=q:=⟨_,rfl⟩
    rw[<-b6] at k6;clear K Z k5 h1 h9 h3 b4 t b7 b6;go_wp2_with fail;obtain⟨hO,hP⟩:=u.o _ (Below.refl _ _).drew;refine wp_region_any (by kernel_rfl) ?_;refine wpAny_tail (p:=7) (S:=fun W=>W.cell? ⟨d,1,none⟩=some (.slice pr j cr)/\W.cell? ⟨z,1,none⟩=some (.iface tu xu)) (by kernel_rfl) 7 _ _ _ rfl (clo_start _ _ _) (by kernel_rfl) (by kernel_rfl) ?_
    change wpAnyH _ _ _ _ _ _ _ _ J.drew
    have x4:J.drew.cell? ⟨d,1,none⟩=some (.slice pr j cr)/\J.drew.cell? ⟨z,1,none⟩=some (.iface tu xu):=⟨hO,hP⟩
    refine hTq 0 (.pointer (some ⟨d,1,none⟩)) 24 ?_
    simp only[Act.put,zzA,zzB,zzC];refine hTr 1 (.slice pr j cr) 25 (fun o x W Q=>?y61) ?_
    case y61=>cases x;obtain⟨t0,t1⟩:=Q;simp[execOp,go_sem,Act.eval,t0]
    simp only[Act.put,zzA,zzB,zzC];refine hTq 2 (.pointer (some ⟨z,1,none⟩)) 26 ?_
    simp only[Act.put,zzA,zzB,zzC];refine hTr 3 (.iface tu xu) 27 (fun o x W Q=>?y63) ?_
    case y63=>cases x;obtain⟨t0,t1⟩:=Q;simp[execOp,go_sem,Act.eval,t1]
    simp only[Act.put,zzA,zzB,zzC];refine hCallE (i:=4) (f:=24) (args:=#[(.iface tu xu)]) (some 28) (by kernel_rfl) (by kernel_rfl) (by kernel_rfl) (fun o x=>?c64) (a1.o _ (b3.o)) ?k64 (fun ch w' hh=>by obtain⟨_,_,_,h,_⟩:=hh;cases h) (fun w' hh=>by obtain⟨_,_,_,h,_⟩:=hh;cases h)
    case c64=>cases x;simp[execOp,go_sem,Act.eval]
    case k64=>
     rintro u5 s ⟨q5,m5,c5,e7,h8,h5⟩;obtain rfl:=Ending.returned.inj e7;have m:Below J.heap.size J s:=(Below.refl _ _).drew.trans h5;have D:OwnC s w.heap.size q5 m5 c5 A.2:=h8.mono (by simpa using k6.o.bel.size);clear e7 h8 h5 x4;refine⟨u.o s m,?_⟩;simp only[Act.put,zzA,zzB,zzC];have l:Below J.heap.size J (s.alloc (.cells #[.slice q5 m5 c5] 23)):=m.alloc m.size _;refine hStep (i:=5) (v:=.slice (some ⟨s.heap.size,0,none⟩) 1 1) (w':=s.alloc (.cells #[.slice q5 m5 c5] 23)) (some 29) (by kernel_rfl) (by kernel_rfl) (by kernel_rfl) (fun o x=>?y65) (u.o _ l) ?_
     case y65=>cases x;simp[execOp,go_sem,Act.eval]
     simp only[Act.put,zzA,zzB,zzC]
     obtain⟨w6,e6⟩:∃ w6,w6=s.alloc (.cells #[.slice q5 m5 c5] 23):=⟨_,rfl⟩
     have kn:w6.cell? ⟨s.heap.size,0,none⟩=some (slV (q5,m5,c5)):=by rw[e6];exact cell_of_row _ _ 0 _ _ _ (heap_alloc_new _ _)
     have C:Below s.heap.size s w6:=by rw[e6];exact(Below.refl _ _).alloc (Nat.le_refl _) _
     rw[<-e6] at l;rw[<-e6];have N:=k6.o.below l;obtain⟨g6,q,w7,e4,O,a,e5⟩:=N.right 31 (q5,m5,c5) A.2 s.heap.size (D.below C) kn c2;obtain⟨T,X,U⟩:=a4.o;have e9:=a _ _ _ _ ((l.block _ (Array.getElem?_eq_some_iff.1 T).1).trans T) (by decide);have k4:=a _ _ _ _ ((l.block _ (Array.getElem?_eq_some_iff.1 X).1).trans X) (by decide);have r:=a _ _ _ _ ((l.block _ (Array.getElem?_eq_some_iff.1 U).1).trans U) (by decide);have y:=a _ _ _ _ N.box (by decide)
     have P:w7.cell? ⟨d,1,none⟩=some (.slice pr j cr)/\w7.cell? ⟨z,1,none⟩=some (.iface tu xu):=⟨cell_of_row _ _ 1 _ _ _ y,cell_of_row _ _ 1 _ _ _ r⟩
     refine hStep (i:=6) (v:=.slice (some ⟨g6,0,none⟩) (j+1) q) (w':=w7) (some 30) (by kernel_rfl) (by kernel_rfl) (by kernel_rfl) (fun o x=>?y6) P ?_
     case y6=>
      cases x
      exact exec_appF rfl rfl rfl e4
     simp only[Act.put,zzA,zzB,zzC];refine wpAnyH_done (by kernel_rfl) ?_ _;have f7:w7.frozen? ⟨d,1,none⟩=false:=frozen_of_row _ _ _ _ _ y;have B:=P.1
     obtain⟨w8,e8⟩:∃ w8,w8=w7.setCell ⟨d,1,none⟩ (.slice (some ⟨g6,0,none⟩) (j+1) q):=⟨_,rfl⟩
     refine tail_store (some 31) (by rfl) (by rfl) (by rfl) (v:=.pointer (some ⟨d,1,none⟩)) ?_ (by rfl) (by rfl) (by rfl) (w':=w8) ?_ ?_
     ·simp[execOp,go_sem,Act.eval]
     ·rw[e8];simp[execOp,go_sem,Act.eval,Act.put,B,f7]
     simp only[Act.put,zzA,zzB,zzC];rw[<-e8] at O;have nE:E≠d:=Y.o.2.2.2;have nR:E+1≠d:=Y.o.2.2.1
     have nP:z≠d:=fun e=>by rw[e,y] at r;simp at r
     have K:=hid O
     have h7:w8.heap[E]?=some (.cells #[.slice (some ⟨g,0,none⟩) n c,.nilIface,.slice I H G] 70)/\w8.heap[E+1]?=some (.cells #[.slice none 0 0,.slice none 0 0,.slice none 0 0,.slice none 0 0] 36)/\w8.heap[z]?=some (.cells #[.iface tv xv,.iface tu xu] 89):=by
      rw[e8,heap_setCell_other _ _ _ _ (by simpa using nE),heap_setCell_other _ _ _ _ (by simpa using nR),heap_setCell_other _ _ _ _ (by simpa using nP)];exact⟨e9,k4,r⟩
     have Z:Hid _:=h7;clear h7 nE nR nP O e8 P B f7 y r k4 e9 T X U e4 a e5 N kn C l e6 D m hO hP;rw[<-b5.o.1,<-b5.o.2] at K;go_wp2_with fail;go_roundw
     case rel=>exact⟨j+1,b1,x2,some ⟨g6,0,none⟩,q,by omega,by go_num,K,Z.o.1,Z.o.2.1⟩
     case measure=>simp[intOf];omega
  ·obtain rfl:j=n:=by omega
   have h2:IC w wr d pl j cl (leftsK ts) pr j cr (rightsK ts) (.slice I H G):=by
    have h:=HI.o;rw[List.take_of_length_le (by simp[leftsK,HN.o]),List.take_of_length_le (by simp[rightsK,HN.o])] at h;exact h
   obtain⟨k5,h1,c6,c7,-⟩:=h2.bx;have z0:=cell_of_row _ _ 1 _ _ _ M.o.1
   have c8:Hid (∀ v0 v1 v2 v3,LS (wr4 wr (E+1) v0 v1 v2 v3) w.heap.size pl j cl (leftsK ts)/\LS (wr4 wr (E+1) v0 v1 v2 v3) w.heap.size pr j cr (rightsK ts)/\Below w.heap.size w (wr4 wr (E+1) v0 v1 v2 v3)):=fun v0 v1 v2 v3=>by
    have hE:=HE.o.1;exact⟨wr4_ls h2.lft M.o.2 _ _ _ _,wr4_ls h2.rgt M.o.2 _ _ _ _,wr4_below h2.bel (by omega) _ _ _ _⟩
   have HP:Hid (∀ v0 v1 v2 v3,(wr4 wr (E+1) v0 v1 v2 v3).cell? ⟨E+1,0,none⟩=some v0/\(wr4 wr (E+1) v0 v1 v2 v3).cell? ⟨E+1,1,none⟩=some v1/\(wr4 wr (E+1) v0 v1 v2 v3).cell? ⟨E+1,2,none⟩=some v2/\(wr4 wr (E+1) v0 v1 v2 v3).cell? ⟨E+1,3,none⟩=some v3):=fun v0 v1 v2 v3=>wr4_box M.o.2 _ _ _ _
   have r0:=cell_of_row _ _ 0 _ _ _ M.o.2;have r1:=cell_of_row _ _ 1 _ _ _ M.o.2;have r2:=cell_of_row _ _ 2 _ _ _ M.o.2;have r3:=cell_of_row _ _ 3 _ _ _ M.o.2
   have rf:=fun k=>frozen_of_row _ _ k _ _ M.o.2
   clear HI M h2;go_wp2_with fail;obtain⟨d0,d1,d2,d3⟩:=HP.o (.slice pl j cl) (.slice pr j cr) (.slice none 0 0) (.slice I H G);exact bodyPost_ret (v:=.agg #[.slice pl j cl,.slice pr j cr,.slice none 0 0,.slice I H G]) (by simp[results,Tryz.results28,go_sem,d0,d1,d2,d3]) rfl ⟨pl,cl,pr,cr,rfl,c8.o _ _ _ _⟩
theorem inCells_pairs (p:Option Addr)(n c:Nat)(o:Option Addr)(m d:Nat)(ts:List TT)(w:World)(D:n=ts.length)(C:n<=900)(l:okP ts)(j:PairsF w p ts) :
  Calls Tryz.prog 28 #[.agg #[.slice p n c,.nilIface,.slice o m d]] w fun e q=>∃ pl cl pr cr,e = .returned (.agg #[.slice pl n cl,.slice pr n cr,.slice none 0 0,.slice o m d])/\LS q w.heap.size pl n cl (lefts ts)/\LS q w.heap.size pr n cr (rights ts)/\Below w.heap.size w q:=by
 have h:=inCells_gen p n c o m d (ts.map fun t=>(t.1.cs,t.2.cs)) w (by simpa using D) C (fun i B=>by
  have a:i<ts.length:=by simpa using B
  obtain⟨g,v,u,e,z,A,s,x⟩:=j i a;obtain⟨E,F,G,H⟩:=l.at i a;obtain⟨J,M,rfl⟩:=FoIn.iface (c:=(ts.getD i ((Cel.none,.nil),(Cel.none,.nil))).1.1) (k:=(ts.getD i ((Cel.none,.nil),(Cel.none,.nil))).1.2) (r:=.nil) s;obtain⟨I,K,rfl⟩:=FoIn.iface (c:=(ts.getD i ((Cel.none,.nil),(Cel.none,.nil))).2.1) (k:=(ts.getD i ((Cel.none,.nil),(Cel.none,.nil))).2.2) (r:=.nil) x
  have y:(ts.map fun t=>(t.1.cs,t.2.cs)).getD i ([],[])=((ts.getD i ((Cel.none,.nil),(Cel.none,.nil))).1.cs,(ts.getD i ((Cel.none,.nil),(Cel.none,.nil))).2.cs):=by simp[List.getD,a]
  rw[y]
  exact⟨g,J,M,I,K,e,z,A,fun W f=>cellsOf_any _ _ _ 0 W E (s.below f) F,fun W f=>cellsOf_any _ _ _ 0 W G (x.below f) H⟩)
 simpa [leftsK,rightsK,lefts,rights,Function.comp_def] using h
theorem foA_upF {W:World}{A:Nat->Prop}{B:Nat}{F:Fo}{e:List Value}(h:FoIn W B F e)(f:∀ a,A a->a<B):FoA A W F e:=by
 refine FoIn.imp (Nat.zero_le _) (fun b o i j=>?_) (by rw[strikeA_size];exact Nat.le_refl _) F e h
 cases d:W.cell? ⟨b,o,none⟩ with
 | some v=>exact strikeA_cell.2 ⟨fun ha=>by have:=f _ ha;simp only at this;omega,d⟩
 | none=>
   cases g:(strikeA A W).cell? ⟨b,o,none⟩ with
   | none=>rfl
   | some v=>rw[(strikeA_cell.1 g).2] at d;cases d
theorem FoA.belowF {A:Nat->Prop}{W a:World}{F:Fo}{f:List Value}(h:FoA A W F f)(d:Below W.heap.size W a):FoA A a F f:=
 h.move (fun p v g e=>⟨g,(d.cell (World.block_lt_of_cell? _ _ e)).trans e⟩) d.size
def T0:Tr:=(Cel.none,.nil)
def ArgT (W:World)(p:Option Addr)(ts:List Tr):Prop:=∀ i,i<ts.length->∃ g v,p=some ⟨g,0,none⟩/\W.cell? ⟨g,i,none⟩=some v/\FoIn W 0 (ts.getD i T0).fo [v]
theorem ArgT.below {w w':World}{p:Option Addr}{ts:List Tr}(h:ArgT w p ts)(d:Below w.heap.size w w'):ArgT w' p ts:=fun i j=>by
 obtain⟨g,v,e,a,f⟩:=h i j;exact⟨g,v,e,(d.cell (World.block_lt_of_cell? _ _ a)).trans a,f.below d⟩
structure AT (w0 w:World)(cb:Nat)(p:Option Addr)(n c:Nat)(V:List Value)(ts:List Tr)(ops fr:Value):Prop where
 bel:Below cb w0 w
 len:n=V.length/\n=ts.length
 row:w.ownsRow (cb+1) 48 1 (.slice p n c) n V
 box:w.heap[cb]?=some (.cells #[ops,.slice p n c,fr] 67)
 tre:∀ i,i<n->FoA (fun k=>k=cb∨some k=Value.ownBlock (.slice p n c)) w (ts.getD i T0).fo [V.getD i .nilIface]
section
variable {w0 w:World}{cb:Nat}{p:Option Addr}{n c:Nat}{V:List Value}{ts:List Tr}{ops fr:Value}
theorem AT.lt (H:AT w0 w cb p n c V ts ops fr):cb<w.heap.size:=(Array.getElem?_eq_some_iff.1 H.box).1
theorem AT.rowT (H:AT w0 w cb p n c V ts ops fr){g:Nat}(d:Value.ownBlock (.slice p n c)=some g):∃ a h,w.heap[g]?=some (.cells a 48 h)/\cb+1<=g/\g<w.heap.size:=by
 rcases H.row.2 with ⟨i,_⟩ | ⟨l,f,a,k,j,e,r⟩
 ·rw[i] at d;cases d
 ·rw[k] at d
  cases d
  exact⟨a,_,e,j,(Array.getElem?_eq_some_iff.1 e).1⟩
theorem AT.below (H:AT w0 w cb p n c V ts ops fr){w':World}(a:Below w.heap.size w w'):AT w0 w' cb p n c V ts ops fr:=
 ⟨⟨a.os.trans H.bel.os,a.tape.trans H.bel.tape,a.output.trans H.bel.output,Nat.le_trans H.bel.size a.size,fun k e=>(a.block k (by have:=H.lt;omega)).trans (H.bel.block k e)⟩,H.len,row_below H.row a,(a.block _ H.lt).trans H.box,fun i d=>(H.tre i d).belowF a⟩
theorem AT.args (H:AT w0 w cb p n c V ts ops fr):ArgT w p ts:=fun i e=>by
 have hn:i<n:=by rw[H.len.2];exact e
 obtain⟨g,d,a,f,h⟩:=H.row.form (by omega);simp only[Value.slice.injEq,true_and] at a;obtain⟨rfl,rfl⟩:=a;refine⟨g,V.getD i .nilIface,rfl,?_,(H.tre i hn).foIn⟩;rw[H.row.cellAt i (by omega),List.getD,List.getElem?_eq_getElem (by rw[<-H.len.1];exact hn)]
 rfl
theorem getD_appL {e:Type}(a b:List e)(i:Nat)(d:e)(h:i<a.length):(a ++ b).getD i d=a.getD i d:=by simp[List.getD,List.getElem?_append_left h]
theorem getD_lastL {e:Type}(a:List e)(x d:e)(i:Nat)(h:i=a.length):(a ++ [x]).getD i d=x:=by subst h;simp[List.getD]
theorem AT.app (H:AT w0 w cb p n c V ts ops fr)(Q:TypeId)(A:Tr)(v:Value)(e:Nat)(T:FoA (fun k=>k=cb∨some k=Value.ownBlock (.slice p n c)) w A.fo [v])(S:w.cell? ⟨e,0,none⟩=some v)(t:v.oneCell'=true)(Z:n<=1000) :
  ∃ g a w',(Builtin.append_ #[52,52] Q #[.slice p n c,.slice (some ⟨e,0,none⟩) 1 1]).run Tryz.prog w = .ok (.slice (some ⟨g,0,none⟩) (n+1) a) w'/\AT w0 (w'.setCell ⟨cb,1,none⟩ (.slice (some ⟨g,0,none⟩) (n+1) a)) cb (some ⟨g,0,none⟩) (n+1) a (V ++ [v]) (ts ++ [A]) ops fr/\w'.heap[cb]?=some (.cells #[ops,.slice p n c,fr] 67):=by
 obtain⟨Y,M,E,G,I⟩:=info_parts infoTerm;have z:=H.lt;obtain⟨g,a,w',W,f,d,o,U⟩:=run_append_lies (P:=Tryz.prog) w 52 Q (cb+1) 48 Y .nilIface 1 16 Tryz.underlying52 M E G I rfl (by decide) (.slice p n c) n V H.row ⟨e,0,none⟩ 1 1 [v] rfl
  (fun j u y=>by
    cases j with
    | zero=>simp at y;subst y;rw[Addr.add_lit];exact S
    | succ j=>simp at y) (fun u X=>by rw[List.mem_singleton.1 X];exact t) (by decide) (by unfold maxLen;omega) (by omega) (by omega) _ rfl
 have r:w'.heap[cb]?=some (.cells #[ops,.slice p n c,fr] 67):=by
  refine(d.block cb z (fun e=>?_)).trans H.box;obtain⟨_,_,_,m,_⟩:=H.rowT e.symm
  omega
 have x:g≠cb:=by
  rcases o with h | h
  ·obtain⟨_,_,_,m,_⟩:=H.rowT h
   omega
  ·omega
 have s:∀ F J,FoA (fun k=>k=cb∨some k=Value.ownBlock (.slice p n c)) w F J->FoA (fun k=>k=cb∨some k=Value.ownBlock (.slice (some ⟨g,0,none⟩) (n+1) a)) (w'.setCell ⟨cb,1,none⟩ (.slice (some ⟨g,0,none⟩) (n+1) a)) F J:=fun F J hF=>by
  refine hF.move (fun q u K O=>?_) (by simpa using d.size);have D:=World.block_lt_of_cell? _ _ O
  have t:q.block≠cb:=fun e=>K (.inl e)
  have m:some q.block≠Value.ownBlock (.slice p n c):=fun e=>K (.inr e)
  refine⟨fun h=>?_,?_⟩
  ·rcases h with h | h
   ·exact t h
   ·have C:q.block=g:=by simpa [Value.ownBlock] using h
    rcases o with h' | h'
    ·exact m (by rw[C];exact h'.symm)
    ·omega
  ·rw[World.cell?_setCell_other _ _ _ _ (fun e=>t (by rw[<-e])),World.cell?_of_block (d.block _ D m)]
   exact O
 refine⟨g,a,w',W,⟨?_,⟨by simp[H.len.1],by simp[H.len.2]⟩,?_,?_,fun i M=>?_⟩,r⟩
 ·have l:=H.bel
  refine Below.setCell ⟨d.os.trans l.os,d.tape.trans l.tape,d.output.trans l.output,Nat.le_trans l.size d.size,fun k N=>(d.block k (by omega) (fun e=>?_)).trans (l.block k N)⟩ (Nat.le_refl _) _;obtain⟨_,_,_,m,_⟩:=H.rowT e.symm
  omega
 ·refine f.kept (row:=some cb) ⟨rfl,rfl,rfl,by simp,fun k N B=>heap_setCell_other _ _ _ _ (fun e=>B (by simp at e;rw[e]))⟩ (.inr (fun e=>x (by simpa [Value.ownBlock] using e)))
 ·rw[heap_setCell_same _ _ _ _ _ _ r];rfl
 ·rcases Nat.lt_or_ge i n with hin | hin
  ·have h:=s _ _ (H.tre i hin)
   rw[getD_appL _ _ _ _ (by rw[<-H.len.2];exact hin),getD_appL _ _ _ _ (by rw[<-H.len.1];exact hin)];exact h
  ·obtain rfl:i=n:=by omega
   have h:=s _ _ T;rw[getD_lastL ts A T0 i H.len.2,getD_lastL V v .nilIface i H.len.1];exact h
end
def ArgsB (w:World)(pa:Option Addr)(ts:List Tr):Prop:=∀ i,i<ts.length->∃ g q cc,pa=some ⟨g,0,none⟩/\w.cell? ⟨g,i,none⟩=some (.slice q (ts.getD i T0).cs.length cc)/\CIn w q (ts.getD i T0).cs/\(ts.getD i T0).cs.length<=cc/\cc<=9223372036854775807
def okTs (ts:List Tr):Prop:=∀ i,i<ts.length->(ts.getD i T0).fo.ok/\validB (ts.getD i T0).cs=true/\(ts.getD i T0).cs.length<=2001
theorem BuIn.mapB {w:World}{b N:Nat}{T:Fun->Option Nat}(h:BuIn w b N T):∃ d a,w.heap[b]?=some (.map d a):=by
 obtain⟨D,⟨d,a,e,r⟩,f⟩:=h;exact⟨d,a,e⟩
theorem wr2_block {w:World}{T:Nat}{u0 u1:Value}{t:TypeId}(h:w.heap[T]?=some (.cells #[u0,u1] t))(a b:Value):((w.setCell ⟨T,0,none⟩ a).setCell ⟨T,1,none⟩ b).heap[T]?=some (.cells #[a,b] t):=by
 have d:(w.setCell ⟨T,0,none⟩ a).heap[T]?=some (.cells #[a,u1] t):=by rw[heap_setCell_same _ _ _ _ _ _ h];rfl
 rw[heap_setCell_same _ _ _ _ _ _ d];rfl
theorem wr2_other {w:World}{T k:Nat}{a b:Value}(h:k≠T):((w.setCell ⟨T,0,none⟩ a).setCell ⟨T,1,none⟩ b).heap[k]?=w.heap[k]?:=by
 have q:∀ (W:World) (i:Nat) (v:Value),(W.setCell ⟨T,i,none⟩ v).heap[k]?=W.heap[k]?:=fun W i v=>heap_setCell_other W ⟨T,i,none⟩ k v (fun e=>by simp at e;omega)
 exact(q _ _ _).trans (q _ _ _)
theorem wr2_below {w0 w:World}{T B:Nat}(h:Below B w0 w)(e:B<=T)(a b:Value):Below B w0 ((w.setCell ⟨T,0,none⟩ a).setCell ⟨T,1,none⟩ b):=
 ⟨h.os,h.tape,h.output,by simpa using h.size,fun k d=>(wr2_other (by omega)).trans (h.block k d)⟩
theorem lit_wf9 (n:Nat)(h:n<=8):(Lit.int .i64 (n:Int)).wf=true:=by
 have:∀ k:Fin 9,(Lit.int .i64 ((k.1:Nat):Int)).wf=true:=by decide
 exact this ⟨n,by omega⟩
theorem func_nil (K:Nat)(W:World):(binOp BinOp.eql 63 (.func (.func K) #[] #[]) .nilFunc).run Tryz.prog W = .ok (.bool false) W:=by
 kernel_rfl
theorem builtin_by (K:Nat)(p0:Option Addr)(n0 c0:Nat)(pn:Option Addr)(s:List Int)(ln cn:Nat)(pa:Option Addr)(J ca:Nat)(ts:List Tr)(fr code:Int)(X:Value->Value->Value->World->Prop)(Y:Value->Value->Value->Value->World->Prop)(w:World)
  (i8:ln=s.length) (j4:s.length<=255) (j2:BIn w pn s) (i9:J=ts.length) (j1:J<=8) (j3:okTs ts) (i7:ArgsB w pa ts) (l1:0<=fr) (l2:fr<=1000000) (hK:buTab (strOfNums s,(J:Int))=some K)
  (HV:∀ W,Below w.heap.size w W->Calls Tryz.prog 26 #[.slice p0 n0 c0] W fun e M=>e = .returned (.bool true)/\Below W.heap.size W M)
  (HR:∀ W b p c,Below w.heap.size w W->BuIn W b 92 buTab->ArgT W p ts->Calls Tryz.prog 27 #[.map (some b),.agg #[.string (strOfNums s),.int .i64 J],.agg #[.slice p0 n0 c0,.slice p J c,.int .i64 fr]] W fun e M=>∃ x0 x1 x2,e = .returned (.tuple #[.agg #[x0,x1,x2],.int .i64 code])/\x0.oneCell'=true/\x1.oneCell'=true/\x2.oneCell'=true/\X x0 x1 x2 M/\Below W.heap.size W M)
  (HX:∀ x0 x1 x2 W W',X x0 x1 x2 W->Below W.heap.size W W'->X x0 x1 x2 W')
  (HI:∀ W x0 x1 x2,Below w.heap.size w W->X x0 x1 x2 W->Calls Tryz.prog 28 #[.agg #[x0,x1,x2]] W fun e M=>∃ N O P Q,e = .returned (.agg #[N,O,P,Q])/\N.oneCell'=true/\O.oneCell'=true/\P.oneCell'=true/\Q.oneCell'=true/\Y N O P Q M/\Below W.heap.size W M)
  (HY:∀ N O P Q W T a b c d,Y N O P Q W->W.heap[T]?=some (.cells #[.slice none 0 0,.slice none 0 0,.slice none 0 0,.slice none 0 0] 36)->Y N O P Q (wr4 W T a b c d)) :
  Calls Tryz.prog 12 #[.slice p0 n0 c0,.slice pn ln cn,.slice pa J ca,.int .i64 fr] w fun e M=>∃ N O P Q,e = .returned (.tuple #[.agg #[N,O,P,Q],.int .i64 code])/\Y N O P Q M/\Below w.heap.size w M:=by
 obtain⟨nm,c7⟩:∃ nm,nm=strOfNums s:=⟨_,rfl⟩
 have j5:Hid (∀ W,Below w.heap.size w W->(convert 22 9 (.slice pn ln cn)).run Tryz.prog W = .ok (.string nm) W):=fun W hW=>by rw[c7];exact conv_str (j2.below hW) ln cn i8 9 Tryz.underlying9
 have j8:nm.size<=255:=by rw[c7];simpa [strOfNums,ByteArray.size] using j4
 have d6:okN (nm,(J:Int)):=⟨by show nm.size<=_;omega,lit_wf9 J j1⟩
 have g7:Hid (∀ (W:World) (b:Nat),BuIn W b 92 buTab->(Instr.lookup 58 (.map (some b)) (.agg #[.string nm,.int .i64 J]) false).run Tryz.prog W = .ok (.func (.func K) #[] #[]) W):=fun W b hb=>hb.getE (nm,(J:Int)) d6 (by rw[c7];exact hK)
 have i1:=hid HV;have f4:Hid _:=HR;rw[<-c7] at f4;have g3:Hid _:=HI;have i2:Hid _:=HX;have i3:Hid _:=HY;have g9:=hid j3;have g4:=hid i7;have x5:=hid i9
 have d1:decide (fr<0)=false:=by simp;omega
 have d2:decide (fr > 1000000)=false:=by simp;omega
 have d3:decide (1000000<fr)=false:=by simp;omega
 obtain⟨U,d5⟩:∃ U,U=w.heap.size:=⟨_,rfl⟩
 obtain⟨x,e1⟩:∃ x,x=w.alloc (.cells #[.slice none 0 0,.slice none 0 0,.slice none 0 0,.slice none 0 0] 36):=⟨_,rfl⟩
 have i5:Below w.heap.size w x:=by rw[e1];exact(Below.refl _ _).alloc (Nat.le_refl _) _
 have j7:x.heap.size=w.heap.size+1:=by rw[e1];simp
 have k1:x.heap[U]?=some (.cells #[.slice none 0 0,.slice none 0 0,.slice none 0 0,.slice none 0 0] 36):=by rw[e1,d5];exact heap_alloc_new _ _
 have b8:=hid i5
 have g5:Hid (x.heap[U]?=some (.cells #[.slice none 0 0,.slice none 0 0,.slice none 0 0,.slice none 0 0] 36)/\U=w.heap.size/\U<x.heap.size):=⟨k1,d5,by omega⟩
 have g8:Hid (∀ W,Calls Tryz.prog 25 #[] W fun e M=>∃ b,e = .returned (.map (some b))/\BuIn M b 92 buTab/\Below W.heap.size W M):=fun W=>newBuiltins_any W
 clear HV HR HX HI HY j3 i7 i9 i8 j4 j2 hK c7 j8 d6 i5 j7 k1
 go_enter Tryz.func12,Tryz.ntmps12
 go_wp2_with fail;rw[<-e1,<-d5];clear e1 d5;refine wp_region_held_drew (S:=fun W=>Below x.heap.size x W) (by kernel_rfl) ?_ (fun j6=>?_)
 ·exact(Below.refl _ _).drew
 refine hTq 1 (.slice pn ln cn) 18 ?_
 simp only[Act.put,zzA,zzB,zzC];refine hTr 2 (.string nm) 19 (fun o H W a2=>?y101) ?_
 case y101=>
  cases H
  have kc:=j5.o W (Below.on b8.o a2)
  simp[execOp,go_sem,Act.eval,kc]
 simp only[Act.put,zzA,zzB,zzC];refine hTq 3 (.slice pa J ca) 20 ?_
 simp only[Act.put,zzA,zzB,zzC];refine hTq 4 (.int .i64 J) 21 ?_
 simp only[Act.put,zzA,zzB,zzC];refine hTq 5 (.agg #[.string nm,.int .i64 J]) 22 ?_
 simp only[Act.put,zzA,zzB,zzC];refine hBoth (i:=0) (j:=6) (by kernel_rfl) ?zA ?zB
 case zA=>
  refine opCall (f:=25) (args:=#[]) (some 17) (by kernel_rfl) (by kernel_rfl) (fun o H=>?cA) (g8.o _) ?kA (fun ch M h=>by obtain⟨_,h,_⟩:=h;cases h) (fun M h=>by obtain⟨_,h,_⟩:=h;cases h)
  case cA=>cases H;simp[execOp,go_sem,Act.eval]
  case kA=>
   rintro u w3 ⟨b,hu,i4,i6⟩;obtain rfl:=Ending.returned.inj hu;have h9:Below x.heap.size x w3:=(Below.refl _ _).drew.trans i6;clear hu i6;refine⟨h9,?_⟩;simp only[Act.put,zzA,zzB,zzC];refine hStep (i:=6) (v:=.pointer (some ⟨w3.heap.size,0,none⟩)) (w':=w3.alloc (.cells #[.string ⟨#[]⟩,.int .i64 0] 61)) (some 11) (by kernel_rfl) (by kernel_rfl) (by kernel_rfl) (fun o H=>?y200) (h9.alloc h9.size _) ?_
   case y200=>cases H;simp[execOp,go_sem,Act.eval]
   simp only[Act.put,zzA,zzB,zzC]
   obtain⟨w4,e4⟩:∃ w4,w4=w3.alloc (.cells #[.string ⟨#[]⟩,.int .i64 0] 61):=⟨_,rfl⟩
   have b7:Below x.heap.size x w4:=by rw[e4];exact h9.alloc h9.size _
   have kF:w4.heap[w3.heap.size]?=some (.cells #[.string ⟨#[]⟩,.int .i64 0] 61):=by rw[e4];exact heap_alloc_new _ _
   have hF:x.heap.size<=w3.heap.size:=h9.size
   have hM:BuIn w4 b 92 buTab:=by rw[e4];exact i4.below ((Below.refl _ _).alloc (Nat.le_refl _) _)
   obtain⟨F,eF⟩:∃ F,F=w3.heap.size:=⟨_,rfl⟩
   rw[<-eF] at kF hF;rw[<-e4,<-eF];clear e4 eF i4 h9;refine hTq 7 (.map (some b)) 10 ?_
   simp only[Act.put,zzA,zzB,zzC]
   obtain⟨B,e5⟩:∃ B,B=(w4.setCell ⟨F,0,none⟩ (.string nm)).setCell ⟨F,1,none⟩ (.int .i64 J):=⟨_,rfl⟩
   have x9:Below x.heap.size x B:=by rw[e5];exact wr2_below b7 hF _ _
   have f0:=cell_of_row _ _ 0 _ _ _ kF;have f1:=cell_of_row _ _ 1 _ _ _ kF
   have ff:=fun k=>frozen_of_row _ _ k _ _ kF
   refine hStepS (i:=8) (w':=B) none (by kernel_rfl) (by kernel_rfl) (by kernel_rfl) (fun o H=>?y9) x9 ?_
   case y9=>
    cases H
    rw[e5]
    simp[execOp,go_sem,Act.eval,f0,f1,ff]
   simp only[Act.put,zzA,zzB,zzC];refine wpAnyH_done (by kernel_rfl) ?_ _
   change Exit.then _ _ _ _ B
   have b6:B.heap[F]?=some (.cells #[.string nm,.int .i64 J] 61):=by rw[e5];exact wr2_block kF _ _
   have a1:BuIn B b 92 buTab:=by
    refine hM.of ?_;rw[e5];exact wr2_other (fun e=>by obtain⟨_,_,h⟩:=hM.mapB;rw[e,kF] at h;cases h)
   have D:Hid (BuIn B b 92 buTab/\Below x.heap.size x B/\F<B.heap.size):=⟨a1,x9,(Array.getElem?_eq_some_iff.1 b6).1⟩
   have k2:=hid b6;clear hM b7 hF kF e5 x9 f0 f1 ff b6 a1
   obtain⟨cb,z⟩:∃ cb,cb=B.heap.size:=⟨_,rfl⟩
   obtain⟨w6,E⟩:∃ w6,w6=B.alloc (.cells #[.slice p0 n0 c0,.slice none 0 0,.int .i64 fr] 67):=⟨_,rfl⟩
   have k4:Below B.heap.size B w6:=by rw[E];exact(Below.refl _ _).alloc (Nat.le_refl _) _
   have k6:w6.heap[cb]?=some (.cells #[.slice p0 n0 c0,.slice none 0 0,.int .i64 fr] 67):=by rw[z,E];exact heap_alloc_new _ _
   have lk:=g7.o B b D.o.1;have nk:=func_nil K B;have c6:=i1.o B (Below.on b8.o D.o.2.1);have g0:=cell_of_row _ _ 0 _ _ _ k2.o;have g1:=cell_of_row _ _ 1 _ _ _ k2.o;clear E k6 k4 w6 z cb;go_wp2_with fail;refine c6.mono ?_;rintro e v5 ⟨rfl,I⟩;have l:=hid (Below.on (Below.on b8.o D.o.2.1) I);have c4:=hid (D.o.1.below I)
   have h7:Hid (v5.heap[F]?=some (.cells #[.string nm,.int .i64 J] 61)/\v5.heap[U]?=some (.cells #[.slice none 0 0,.slice none 0 0,.slice none 0 0,.slice none 0 0] 36)/\U<v5.heap.size/\w.heap.size<=U/\F<v5.heap.size):=by
    have h1:=D.o.2.1;have h2:=g5.o;have h3:=D.o.2.2;have h4:=h1.size;have h5:=I.size;exact⟨(I.block _ h3).trans k2.o,(I.block _ (by omega)).trans ((h1.block _ h2.2.2).trans h2.1),by omega,by omega,by omega⟩
   obtain⟨cb,z⟩:∃ cb,cb=v5.heap.size:=⟨_,rfl⟩
   obtain⟨w6,E⟩:∃ w6,w6=v5.alloc (.cells #[.slice p0 n0 c0,.slice none 0 0,.int .i64 fr] 67):=⟨_,rfl⟩
   have k4:Below v5.heap.size v5 w6:=by rw[E];exact(Below.refl _ _).alloc (Nat.le_refl _) _
   have k6:w6.heap[cb]?=some (.cells #[.slice p0 n0 c0,.slice none 0 0,.int .i64 fr] 67):=by rw[z,E];exact heap_alloc_new _ _
   have d8:Hid (AT v5 w6 cb none 0 0 [] [] (.slice p0 n0 c0) (.int .i64 fr)):=⟨by rw[z];exact k4,⟨rfl,rfl⟩,World.ownsRow_nil _ _ _ _,k6,fun i hi=>absurd hi (Nat.not_lt_zero _)⟩
   have h6:=hid z;clear lk nk c6 g0 g1 I k4 k6 D k2;go_wp2_with fail;rw[<-E,<-z];clear E z
   go_loopw [46] (fun i wr=>∃ (j:Nat) (p:Option Addr) (c:Nat) (V:List Value),j<=J/\i = .int .i64 j/\Hid (AT v5 wr cb p j c V (ts.take j) (.slice p0 n0 c0) (.int .i64 fr))) (fun i _=>J-(intOf i).toNat)
   case atStart=>exact⟨0,none,0,[],Nat.zero_le _,rfl,d8.o⟩
   case round=>
    obtain⟨j,p,c,V,hj,rfl,y⟩:=hrel
    by_cases b4:j<J
    ·obtain⟨g,q,cc,rfl,y0,x4,x3,a4⟩:=g4.o j (by rw[<-x5.o];exact b4)
     obtain⟨o1,o2,o3⟩:=g9.o j (by rw[<-x5.o];exact b4)
     obtain⟨A,eA⟩:∃ A,A=ts.getD j T0:=⟨_,rfl⟩
     rw[<-eA] at y0 x4 x3 o1 o2 o3
     have f6:Hid (ts.take (j+1)=ts.take j ++ [A]):=by
      have h:j<ts.length:=by rw[<-x5.o];exact b4
      rw[eA,List.take_succ_eq_append_getElem h,List.getD,List.getElem?_eq_getElem h]
      rfl
     have k8:Below w.heap.size w wr:=⟨y.o.bel.os.trans l.o.os,y.o.bel.tape.trans l.o.tape,y.o.bel.output.trans l.o.output,Nat.le_trans l.o.size y.o.bel.size,fun k hk=>(y.o.bel.block k (by have h1:=h6.o;have h2:=l.o.size;omega)).trans (l.o.block k hk)⟩
     have yr:=(k8.cell (World.block_lt_of_cell? _ _ y0)).trans y0
     obtain⟨m,em⟩:∃ m,m=A.cs.length:=⟨_,rfl⟩
     have w9:=implValid_any q cc A.cs wr (by omega) (x4.below k8);rw[o2,<-em] at w9;rw[<-em] at yr x3 o3
     have f5:Hid (∀ W,Below w.heap.size w W->Calls Tryz.prog 21 #[.slice q m cc] W fun e M=>∃ v,e = .returned v/\FoIn M W.heap.size A.fo [v]/\Below W.heap.size W M):=fun W hW=>termOf_any A.1 A.2 q m cc W o1 (by rw[em];simp[Tr.cs]) x3 a4 (x4.below hW)
     have Z:=hid k8
     have g2:j<=1000:=by omega
     clear y0 x4 x3 a4 o1 o2 eA k8 em o3;go_wp2_with fail;refine w9.mono ?_;rintro e wA ⟨rfl,b1⟩;have e9:=hid (y.o.below b1);have f2:=hid (Below.on Z.o b1);have b5:=cell_of_row _ _ 1 _ _ _ e9.o.box
     have C:Hid (∀ W,Below wA.heap.size wA W->W.cell? ⟨cb,1,none⟩=some (.slice p j c)):=fun W hW=>(hW.cell (World.block_lt_of_cell? _ _ b5)).trans b5
     clear w9 b1 yr y Z b5;go_wp2_with fail;have f3:Hid (Below w.heap.size w wA.drew):=f2.o.trans (Below.refl _ _).drew;have f8:=C.o _ (Below.refl _ _).drew;refine wp_region_any (by kernel_rfl) ?_;refine wpAny_tail (p:=6) (S:=fun W=>W.cell? ⟨cb,1,none⟩=some (.slice p j c)) (by kernel_rfl) 6 _ _ _ rfl (clo_start _ _ _) (by kernel_rfl) (by kernel_rfl) ?_
     change wpAnyH _ _ _ _ _ _ _ _ wA.drew
     refine hTq 0 (.pointer (some ⟨cb,1,none⟩)) 54 ?_
     simp only[Act.put,zzA,zzB,zzC];refine hTr 1 (.slice p j c) 55 (fun o H W a2=>?y253) ?_
     case y253=>cases H;simp[execOp,go_sem,Act.eval,a2]
     simp only[Act.put,zzA,zzB,zzC];refine hTq 2 (.slice q m cc) 56 ?_
     simp only[Act.put,zzA,zzB,zzC];refine hCallE (i:=3) (f:=21) (args:=#[.slice q m cc]) (some 57) (by kernel_rfl) (by kernel_rfl) (by kernel_rfl) (fun o H=>?c255) (f5.o _ f3.o) ?k255 (fun ch M hh=>by obtain⟨_,h,_⟩:=hh;cases h) (fun M hh=>by obtain⟨_,h,_⟩:=hh;cases h)
     case c255=>cases H;simp[execOp,go_sem,Act.eval]
     case k255=>
      rintro u5 t ⟨v,a7,b3,a3⟩;obtain rfl:=Ending.returned.inj a7;obtain⟨tv,xv,rfl⟩:=FoIn.iface (c:=A.1) (k:=A.2) (r:=.nil) b3;have G:Below wA.heap.size wA t:=(Below.refl _ _).drew.trans a3;have c2:=hid b3;clear a7 b3 a3 f8;refine⟨C.o t G,?_⟩;simp only[Act.put,zzA,zzB,zzC];have k9:Below wA.heap.size wA (t.alloc (.cells #[.iface tv xv] 48)):=G.alloc G.size _;refine hStep (i:=4) (v:=.slice (some ⟨t.heap.size,0,none⟩) 1 1) (w':=t.alloc (.cells #[.iface tv xv] 48)) (some 58) (by kernel_rfl) (by kernel_rfl) (by kernel_rfl) (fun o H=>?y256) (C.o _ k9) ?_
      case y256=>cases H;simp[execOp,go_sem,Act.eval]
      simp only[Act.put,zzA,zzB,zzC]
      obtain⟨e7,E⟩:∃ e7,e7=t.alloc (.cells #[.iface tv xv] 48):=⟨_,rfl⟩
      have kn:e7.cell? ⟨t.heap.size,0,none⟩=some (.iface tv xv):=by rw[E];exact cell_of_row _ _ 0 _ _ _ (heap_alloc_new _ _)
      have x6:Below t.heap.size t e7:=by rw[E];exact(Below.refl _ _).alloc (Nat.le_refl _) _
      rw[<-E] at k9;rw[<-E];have c8:=e9.o.below k9
      have a5:FoA (fun k=>k=cb∨some k=Value.ownBlock (.slice p j c)) e7 A.fo [.iface tv xv]:=foA_upF (c2.o.below x6) (fun a ha=>by
       rcases ha with rfl | ha
       ·exact e9.o.lt
       ·obtain⟨_,_,_,_,h⟩:=e9.o.rowT ha.symm
        exact h)
      obtain⟨g6,h8,w7,a6,x8,e2⟩:=c8.app 52 A (.iface tv xv) t.heap.size a5 kn rfl g2;have w2:=cell_of_row _ _ 1 _ _ _ e2;refine hStep (i:=5) (v:=.slice (some ⟨g6,0,none⟩) (j+1) h8) (w':=w7) (some 59) (by kernel_rfl) (by kernel_rfl) (by kernel_rfl) (fun o H=>?y6) w2 ?_
      case y6=>
       cases H
       exact exec_appF rfl rfl rfl a6
      simp only[Act.put,zzA,zzB,zzC];refine wpAnyH_done (by kernel_rfl) ?_ _;have f7:w7.frozen? ⟨cb,1,none⟩=false:=frozen_of_row _ _ _ _ _ e2
      obtain⟨w8,e8⟩:∃ w8,w8=w7.setCell ⟨cb,1,none⟩ (.slice (some ⟨g6,0,none⟩) (j+1) h8):=⟨_,rfl⟩
      refine tail_store (some 60) (by rfl) (by rfl) (by rfl) (v:=.pointer (some ⟨cb,1,none⟩)) ?_ (by rfl) (by rfl) (by rfl) (w':=w8) ?_ ?_
      ·simp[execOp,go_sem,Act.eval]
      ·rw[e8];simp[execOp,go_sem,Act.eval,Act.put,w2,f7]
      simp only[Act.put,zzA,zzB,zzC];rw[<-e8,<-f6.o] at x8;have d9:Hid _:=x8;clear x8 e8 f7 w2 e2 a6 a5 c8 kn x6 k9 E G c2;go_wp2_with fail;go_roundw
      case rel=>exact⟨j+1,some ⟨g6,0,none⟩,h8,V ++ [.iface tv xv],by omega,by go_num,d9⟩
      case measure=>simp[intOf];omega
    ·obtain rfl:j=J:=by omega
     have Z:Hid (Below w.heap.size w wr):=⟨y.o.bel.os.trans l.o.os,y.o.bel.tape.trans l.o.tape,y.o.bel.output.trans l.o.output,Nat.le_trans l.o.size y.o.bel.size,fun k hk=>(y.o.bel.block k (by have h1:=h6.o;have h2:=l.o.size;omega)).trans (l.o.block k hk)⟩
     have c9:ArgT wr p ts:=by
      have h:=y.o.args;rw[List.take_of_length_le (by rw[x5.o];exact Nat.le_refl _)] at h;exact h
     have kf:wr.heap[F]?=some (.cells #[.string nm,.int .i64 j] 61):=(y.o.bel.block _ (by have:=h6.o;have:=h7.o.2.2.2.2;omega)).trans h7.o.1;have kr:wr.heap[U]?=some (.cells #[.slice none 0 0,.slice none 0 0,.slice none 0 0,.slice none 0 0] 36):=(y.o.bel.block _ (by have:=h6.o;have:=h7.o.2.2.1;omega)).trans h7.o.2.1;have hm:BuIn wr b 92 buTab:=c4.o.of (y.o.bel.block _ (by have:=h6.o;have:=c4.o.lt;omega));have kc:=y.o.box;have c5:=f4.o wr b p c Z.o hm c9;have g0:=cell_of_row _ _ 0 _ _ _ kf;have g1:=cell_of_row _ _ 1 _ _ _ kf;have h0:=cell_of_row _ _ 0 _ _ _ kc;have h1:=cell_of_row _ _ 1 _ _ _ kc;have h2:=cell_of_row _ _ 2 _ _ _ kc
     have x7:Hid (wr.heap[U]?=some (.cells #[.slice none 0 0,.slice none 0 0,.slice none 0 0,.slice none 0 0] 36)/\U<wr.heap.size):=⟨kr,(Array.getElem?_eq_some_iff.1 kr).1⟩
     clear y c9 kf kr hm kc;go_wp2_with fail;refine c5.mono ?_;rintro e wB ⟨x0,x1,x2,rfl,q0,q1,q2,hX,k5⟩;have k7:Below wB.heap.size wB (wB.alloc (.cells #[x0,x1,x2] 70)):=(Below.refl _ _).alloc (Nat.le_refl _) _;have b9:=hid (Below.on (Below.on Z.o k5) k7);have c3:Hid ((wB.alloc (.cells #[x0,x1,x2] 70)).heap[U]?=some (.cells #[.slice none 0 0,.slice none 0 0,.slice none 0 0,.slice none 0 0] 36)):=(k7.block _ (by have:=k5.size;have:=x7.o.2;omega)).trans ((k5.block _ x7.o.2).trans x7.o.1);have c1:=g3.o _ x0 x1 x2 b9.o (i2.o _ _ _ _ _ hX k7);clear c5 hX k5 k7 g0 g1 h0 h1 h2
     have a8:=fun W a m=>run_store Tryz.prog W a x0 m q0
     have a9:=fun W a m=>run_store Tryz.prog W a x1 m q1
     have d4:=fun W a m=>run_store Tryz.prog W a x2 m q2
     go_wp2_with fail;refine c1.mono ?_;rintro e wD ⟨N,O,P,Q,rfl,z0,z1,z2,z3,hY,b2⟩;have kD:=(b2.block _ (Array.getElem?_eq_some_iff.1 c3.o).1).trans c3.o;have r0:=cell_of_row _ _ 0 _ _ _ kD;have r1:=cell_of_row _ _ 1 _ _ _ kD;have r2:=cell_of_row _ _ 2 _ _ _ kD;have r3:=cell_of_row _ _ 3 _ _ _ kD
     have rf:=fun k=>frozen_of_row _ _ k _ _ kD
     have HP:Hid _:=wr4_box kD N O P Q
     have d7:Hid (Y N O P Q (wr4 wD U N O P Q)/\Below w.heap.size w (wr4 wD U N O P Q)):=⟨i3.o _ _ _ _ _ _ _ _ _ _ hY kD,wr4_below (Below.on b9.o b2) h7.o.2.2.2.1 _ _ _ _⟩
     clear c1 hY b2 kD a8 a9 d4
     have a8:=fun W a m=>run_store Tryz.prog W a N m z0
     have a9:=fun W a m=>run_store Tryz.prog W a O m z1
     have d4:=fun W a m=>run_store Tryz.prog W a P m z2
     have j9:=fun W a m=>run_store Tryz.prog W a Q m z3
     go_wp2
     obtain⟨d0,d1,d2,d3⟩:=HP.o;exact bodyPost_ret (v:=.tuple #[.agg #[N,O,P,Q],.int .i64 code]) (by simp[results,Tryz.results12,go_sem,d0,d1,d2,d3]) rfl ⟨N,O,P,Q,rfl,d7.o⟩
 case zB=>
  obtain⟨w3,e3⟩:∃ w3,w3=x.drew.alloc (.cells #[.string ⟨#[]⟩,.int .i64 0] 61):=⟨_,rfl⟩
  have h9:Below x.heap.size x w3:=by rw[e3];exact((Below.refl _ _).drew).alloc (Nat.le_refl _) _
  have k3:w3.heap[x.heap.size]?=some (.cells #[.string ⟨#[]⟩,.int .i64 0] 61):=by rw[e3];exact heap_alloc_new x.drew _
  refine opStep (v:=.pointer (some ⟨x.heap.size,0,none⟩)) (w':=w3) (some 11) (by kernel_rfl) (by kernel_rfl) (fun o H=>?y8) ⟨h9,?_⟩
  case y8=>
   cases H
   rw[e3]
   simp[execOp,go_sem,Act.eval]
  simp only[Act.put,zzA,zzB,zzC];refine hCallE (i:=0) (f:=25) (args:=#[]) (some 17) (by kernel_rfl) (by kernel_rfl) (by kernel_rfl) (fun o H=>?c600) (g8.o w3) ?k600 (fun ch M h=>by obtain⟨_,h,_⟩:=h;cases h) (fun M h=>by obtain⟨_,h,_⟩:=h;cases h)
  case c600=>cases H;simp[execOp,go_sem,Act.eval]
  case k600=>
   rintro u w4 ⟨b,hu,hM,f9⟩;obtain rfl:=Ending.returned.inj hu;have b7:Below x.heap.size x w4:=Below.on h9 f9;have kF:=(f9.block _ (Array.getElem?_eq_some_iff.1 k3).1).trans k3;have hF:x.heap.size<=x.heap.size:=Nat.le_refl _;clear hu f9 h9 k3 e3;refine⟨b7,?_⟩;simp only[Act.put,zzA,zzB,zzC];refine hTq 7 (.map (some b)) 10 ?_
   simp only[Act.put,zzA,zzB,zzC]
   obtain⟨B,e5⟩:∃ B,B=(w4.setCell ⟨x.heap.size,0,none⟩ (.string nm)).setCell ⟨x.heap.size,1,none⟩ (.int .i64 J):=⟨_,rfl⟩
   have x9:Below x.heap.size x B:=by rw[e5];exact wr2_below b7 hF _ _
   have f0:=cell_of_row _ _ 0 _ _ _ kF;have f1:=cell_of_row _ _ 1 _ _ _ kF
   have ff:=fun k=>frozen_of_row _ _ k _ _ kF
   refine hStepS (i:=8) (w':=B) none (by kernel_rfl) (by kernel_rfl) (by kernel_rfl) (fun o H=>?y9) x9 ?_
   case y9=>
    cases H
    rw[e5]
    simp[execOp,go_sem,Act.eval,f0,f1,ff]
   simp only[Act.put,zzA,zzB,zzC];refine wpAnyH_done (by kernel_rfl) ?_ _
   change Exit.then _ _ _ _ B
   have b6:B.heap[x.heap.size]?=some (.cells #[.string nm,.int .i64 J] 61):=by rw[e5];exact wr2_block kF _ _
   have a1:BuIn B b 92 buTab:=by
    refine hM.of ?_;rw[e5];exact wr2_other (fun e=>by obtain⟨_,_,h⟩:=hM.mapB;rw[e,kF] at h;cases h)
   have D:Hid (BuIn B b 92 buTab/\Below x.heap.size x B/\x.heap.size<B.heap.size):=⟨a1,x9,(Array.getElem?_eq_some_iff.1 b6).1⟩
   have k2:=hid b6;clear hM b7 hF kF e5 x9 f0 f1 ff b6 a1
   obtain⟨cb,z⟩:∃ cb,cb=B.heap.size:=⟨_,rfl⟩
   obtain⟨w6,E⟩:∃ w6,w6=B.alloc (.cells #[.slice p0 n0 c0,.slice none 0 0,.int .i64 fr] 67):=⟨_,rfl⟩
   have k4:Below B.heap.size B w6:=by rw[E];exact(Below.refl _ _).alloc (Nat.le_refl _) _
   have k6:w6.heap[cb]?=some (.cells #[.slice p0 n0 c0,.slice none 0 0,.int .i64 fr] 67):=by rw[z,E];exact heap_alloc_new _ _
   have lk:=g7.o B b D.o.1;have nk:=func_nil K B;have c6:=i1.o B (Below.on b8.o D.o.2.1);have g0:=cell_of_row _ _ 0 _ _ _ k2.o;have g1:=cell_of_row _ _ 1 _ _ _ k2.o;clear E k6 k4 w6 z cb;go_wp2_with fail;refine c6.mono ?_;rintro e v5 ⟨rfl,I⟩;have l:=hid (Below.on (Below.on b8.o D.o.2.1) I);have c4:=hid (D.o.1.below I)
   have h7:Hid (v5.heap[x.heap.size]?=some (.cells #[.string nm,.int .i64 J] 61)/\v5.heap[U]?=some (.cells #[.slice none 0 0,.slice none 0 0,.slice none 0 0,.slice none 0 0] 36)/\U<v5.heap.size/\w.heap.size<=U/\x.heap.size<v5.heap.size):=by
    have h1:=D.o.2.1;have h2:=g5.o;have h3:=D.o.2.2;have h4:=h1.size;have h5:=I.size;exact⟨(I.block _ h3).trans k2.o,(I.block _ (by omega)).trans ((h1.block _ h2.2.2).trans h2.1),by omega,by omega,by omega⟩
   obtain⟨cb,z⟩:∃ cb,cb=v5.heap.size:=⟨_,rfl⟩
   obtain⟨w6,E⟩:∃ w6,w6=v5.alloc (.cells #[.slice p0 n0 c0,.slice none 0 0,.int .i64 fr] 67):=⟨_,rfl⟩
   have k4:Below v5.heap.size v5 w6:=by rw[E];exact(Below.refl _ _).alloc (Nat.le_refl _) _
   have k6:w6.heap[cb]?=some (.cells #[.slice p0 n0 c0,.slice none 0 0,.int .i64 fr] 67):=by rw[z,E];exact heap_alloc_new _ _
   have d8:Hid (AT v5 w6 cb none 0 0 [] [] (.slice p0 n0 c0) (.int .i64 fr)):=⟨by rw[z];exact k4,⟨rfl,rfl⟩,World.ownsRow_nil _ _ _ _,k6,fun i hi=>absurd hi (Nat.not_lt_zero _)⟩
   have h6:=hid z;clear lk nk c6 g0 g1 I k4 k6 D k2;go_wp2_with fail;rw[<-E,<-z];clear E z
   go_loopw [46] (fun i wr=>∃ (j:Nat) (p:Option Addr) (c:Nat) (V:List Value),j<=J/\i = .int .i64 j/\Hid (AT v5 wr cb p j c V (ts.take j) (.slice p0 n0 c0) (.int .i64 fr))) (fun i _=>J-(intOf i).toNat)
   case atStart=>exact⟨0,none,0,[],Nat.zero_le _,rfl,d8.o⟩
   case round=>
    obtain⟨j,p,c,V,hj,rfl,y⟩:=hrel
    by_cases b4:j<J
    ·obtain⟨g,q,cc,rfl,y0,x4,x3,a4⟩:=g4.o j (by rw[<-x5.o];exact b4)
     obtain⟨o1,o2,o3⟩:=g9.o j (by rw[<-x5.o];exact b4)
     obtain⟨A,eA⟩:∃ A,A=ts.getD j T0:=⟨_,rfl⟩
     rw[<-eA] at y0 x4 x3 o1 o2 o3
     have f6:Hid (ts.take (j+1)=ts.take j ++ [A]):=by
      have h:j<ts.length:=by rw[<-x5.o];exact b4
      rw[eA,List.take_succ_eq_append_getElem h,List.getD,List.getElem?_eq_getElem h]
      rfl
     have k8:Below w.heap.size w wr:=⟨y.o.bel.os.trans l.o.os,y.o.bel.tape.trans l.o.tape,y.o.bel.output.trans l.o.output,Nat.le_trans l.o.size y.o.bel.size,fun k hk=>(y.o.bel.block k (by have h1:=h6.o;have h2:=l.o.size;omega)).trans (l.o.block k hk)⟩
     have yr:=(k8.cell (World.block_lt_of_cell? _ _ y0)).trans y0
     obtain⟨m,em⟩:∃ m,m=A.cs.length:=⟨_,rfl⟩
     have w9:=implValid_any q cc A.cs wr (by omega) (x4.below k8);rw[o2,<-em] at w9;rw[<-em] at yr x3 o3
     have f5:Hid (∀ W,Below w.heap.size w W->Calls Tryz.prog 21 #[.slice q m cc] W fun e M=>∃ v,e = .returned v/\FoIn M W.heap.size A.fo [v]/\Below W.heap.size W M):=fun W hW=>termOf_any A.1 A.2 q m cc W o1 (by rw[em];simp[Tr.cs]) x3 a4 (x4.below hW)
     have Z:=hid k8
     have g2:j<=1000:=by omega
     clear y0 x4 x3 a4 o1 o2 eA k8 em o3;go_wp2_with fail;refine w9.mono ?_;rintro e wA ⟨rfl,b1⟩;have e9:=hid (y.o.below b1);have f2:=hid (Below.on Z.o b1);have b5:=cell_of_row _ _ 1 _ _ _ e9.o.box
     have C:Hid (∀ W,Below wA.heap.size wA W->W.cell? ⟨cb,1,none⟩=some (.slice p j c)):=fun W hW=>(hW.cell (World.block_lt_of_cell? _ _ b5)).trans b5
     clear w9 b1 yr y Z b5;go_wp2_with fail;have f3:Hid (Below w.heap.size w wA.drew):=f2.o.trans (Below.refl _ _).drew;have f8:=C.o _ (Below.refl _ _).drew;refine wp_region_any (by kernel_rfl) ?_;refine wpAny_tail (p:=6) (S:=fun W=>W.cell? ⟨cb,1,none⟩=some (.slice p j c)) (by kernel_rfl) 6 _ _ _ rfl (clo_start _ _ _) (by kernel_rfl) (by kernel_rfl) ?_
     change wpAnyH _ _ _ _ _ _ _ _ wA.drew
     refine hTq 0 (.pointer (some ⟨cb,1,none⟩)) 54 ?_
     simp only[Act.put,zzA,zzB,zzC];refine hTr 1 (.slice p j c) 55 (fun o H W a2=>?y653) ?_
     case y653=>cases H;simp[execOp,go_sem,Act.eval,a2]
     simp only[Act.put,zzA,zzB,zzC];refine hTq 2 (.slice q m cc) 56 ?_
     simp only[Act.put,zzA,zzB,zzC];refine hCallE (i:=3) (f:=21) (args:=#[.slice q m cc]) (some 57) (by kernel_rfl) (by kernel_rfl) (by kernel_rfl) (fun o H=>?c655) (f5.o _ f3.o) ?k655 (fun ch M hh=>by obtain⟨_,h,_⟩:=hh;cases h) (fun M hh=>by obtain⟨_,h,_⟩:=hh;cases h)
     case c655=>cases H;simp[execOp,go_sem,Act.eval]
     case k655=>
      rintro u5 t ⟨v,a7,b3,a3⟩;obtain rfl:=Ending.returned.inj a7;obtain⟨tv,xv,rfl⟩:=FoIn.iface (c:=A.1) (k:=A.2) (r:=.nil) b3;have G:Below wA.heap.size wA t:=(Below.refl _ _).drew.trans a3;have c2:=hid b3;clear a7 b3 a3 f8;refine⟨C.o t G,?_⟩;simp only[Act.put,zzA,zzB,zzC];have k9:Below wA.heap.size wA (t.alloc (.cells #[.iface tv xv] 48)):=G.alloc G.size _;refine hStep (i:=4) (v:=.slice (some ⟨t.heap.size,0,none⟩) 1 1) (w':=t.alloc (.cells #[.iface tv xv] 48)) (some 58) (by kernel_rfl) (by kernel_rfl) (by kernel_rfl) (fun o H=>?y656) (C.o _ k9) ?_
      case y656=>cases H;simp[execOp,go_sem,Act.eval]
      simp only[Act.put,zzA,zzB,zzC]
      obtain⟨e7,E⟩:∃ e7,e7=t.alloc (.cells #[.iface tv xv] 48):=⟨_,rfl⟩
      have kn:e7.cell? ⟨t.heap.size,0,none⟩=some (.iface tv xv):=by rw[E];exact cell_of_row _ _ 0 _ _ _ (heap_alloc_new _ _)
      have x6:Below t.heap.size t e7:=by rw[E];exact(Below.refl _ _).alloc (Nat.le_refl _) _
      rw[<-E] at k9;rw[<-E];have c8:=e9.o.below k9
      have a5:FoA (fun k=>k=cb∨some k=Value.ownBlock (.slice p j c)) e7 A.fo [.iface tv xv]:=foA_upF (c2.o.below x6) (fun a ha=>by
       rcases ha with rfl | ha
       ·exact e9.o.lt
       ·obtain⟨_,_,_,_,h⟩:=e9.o.rowT ha.symm
        exact h)
      obtain⟨g6,h8,w7,a6,x8,e2⟩:=c8.app 52 A (.iface tv xv) t.heap.size a5 kn rfl g2;have w2:=cell_of_row _ _ 1 _ _ _ e2;refine hStep (i:=5) (v:=.slice (some ⟨g6,0,none⟩) (j+1) h8) (w':=w7) (some 59) (by kernel_rfl) (by kernel_rfl) (by kernel_rfl) (fun o H=>?y6) w2 ?_
      case y6=>
       cases H
       exact exec_appF rfl rfl rfl a6
      simp only[Act.put,zzA,zzB,zzC];refine wpAnyH_done (by kernel_rfl) ?_ _;have f7:w7.frozen? ⟨cb,1,none⟩=false:=frozen_of_row _ _ _ _ _ e2
      obtain⟨w8,e8⟩:∃ w8,w8=w7.setCell ⟨cb,1,none⟩ (.slice (some ⟨g6,0,none⟩) (j+1) h8):=⟨_,rfl⟩
      refine tail_store (some 60) (by rfl) (by rfl) (by rfl) (v:=.pointer (some ⟨cb,1,none⟩)) ?_ (by rfl) (by rfl) (by rfl) (w':=w8) ?_ ?_
      ·simp[execOp,go_sem,Act.eval]
      ·rw[e8];simp[execOp,go_sem,Act.eval,Act.put,w2,f7]
      simp only[Act.put,zzA,zzB,zzC];rw[<-e8,<-f6.o] at x8;have d9:Hid _:=x8;clear x8 e8 f7 w2 e2 a6 a5 c8 kn x6 k9 E G c2;go_wp2_with fail;go_roundw
      case rel=>exact⟨j+1,some ⟨g6,0,none⟩,h8,V ++ [.iface tv xv],by omega,by go_num,d9⟩
      case measure=>simp[intOf];omega
    ·obtain rfl:j=J:=by omega
     have Z:Hid (Below w.heap.size w wr):=⟨y.o.bel.os.trans l.o.os,y.o.bel.tape.trans l.o.tape,y.o.bel.output.trans l.o.output,Nat.le_trans l.o.size y.o.bel.size,fun k hk=>(y.o.bel.block k (by have h1:=h6.o;have h2:=l.o.size;omega)).trans (l.o.block k hk)⟩
     have c9:ArgT wr p ts:=by
      have h:=y.o.args;rw[List.take_of_length_le (by rw[x5.o];exact Nat.le_refl _)] at h;exact h
     have kf:wr.heap[x.heap.size]?=some (.cells #[.string nm,.int .i64 j] 61):=(y.o.bel.block _ (by have:=h6.o;have:=h7.o.2.2.2.2;omega)).trans h7.o.1;have kr:wr.heap[U]?=some (.cells #[.slice none 0 0,.slice none 0 0,.slice none 0 0,.slice none 0 0] 36):=(y.o.bel.block _ (by have:=h6.o;have:=h7.o.2.2.1;omega)).trans h7.o.2.1;have hm:BuIn wr b 92 buTab:=c4.o.of (y.o.bel.block _ (by have:=h6.o;have:=c4.o.lt;omega));have kc:=y.o.box;have c5:=f4.o wr b p c Z.o hm c9;have g0:=cell_of_row _ _ 0 _ _ _ kf;have g1:=cell_of_row _ _ 1 _ _ _ kf;have h0:=cell_of_row _ _ 0 _ _ _ kc;have h1:=cell_of_row _ _ 1 _ _ _ kc;have h2:=cell_of_row _ _ 2 _ _ _ kc
     have x7:Hid (wr.heap[U]?=some (.cells #[.slice none 0 0,.slice none 0 0,.slice none 0 0,.slice none 0 0] 36)/\U<wr.heap.size):=⟨kr,(Array.getElem?_eq_some_iff.1 kr).1⟩
     clear y c9 kf kr hm kc;go_wp2_with fail;refine c5.mono ?_;rintro e wB ⟨x0,x1,x2,rfl,q0,q1,q2,hX,k5⟩;have k7:Below wB.heap.size wB (wB.alloc (.cells #[x0,x1,x2] 70)):=(Below.refl _ _).alloc (Nat.le_refl _) _;have b9:=hid (Below.on (Below.on Z.o k5) k7);have c3:Hid ((wB.alloc (.cells #[x0,x1,x2] 70)).heap[U]?=some (.cells #[.slice none 0 0,.slice none 0 0,.slice none 0 0,.slice none 0 0] 36)):=(k7.block _ (by have:=k5.size;have:=x7.o.2;omega)).trans ((k5.block _ x7.o.2).trans x7.o.1);have c1:=g3.o _ x0 x1 x2 b9.o (i2.o _ _ _ _ _ hX k7);clear c5 hX k5 k7 g0 g1 h0 h1 h2
     have a8:=fun W a m=>run_store Tryz.prog W a x0 m q0
     have a9:=fun W a m=>run_store Tryz.prog W a x1 m q1
     have d4:=fun W a m=>run_store Tryz.prog W a x2 m q2
     go_wp2_with fail;refine c1.mono ?_;rintro e wD ⟨N,O,P,Q,rfl,z0,z1,z2,z3,hY,b2⟩;have kD:=(b2.block _ (Array.getElem?_eq_some_iff.1 c3.o).1).trans c3.o;have r0:=cell_of_row _ _ 0 _ _ _ kD;have r1:=cell_of_row _ _ 1 _ _ _ kD;have r2:=cell_of_row _ _ 2 _ _ _ kD;have r3:=cell_of_row _ _ 3 _ _ _ kD
     have rf:=fun k=>frozen_of_row _ _ k _ _ kD
     have HP:Hid _:=wr4_box kD N O P Q
     have d7:Hid (Y N O P Q (wr4 wD U N O P Q)/\Below w.heap.size w (wr4 wD U N O P Q)):=⟨i3.o _ _ _ _ _ _ _ _ _ _ hY kD,wr4_below (Below.on b9.o b2) h7.o.2.2.2.1 _ _ _ _⟩
     clear c1 hY b2 kD a8 a9 d4
     have a8:=fun W a m=>run_store Tryz.prog W a N m z0
     have a9:=fun W a m=>run_store Tryz.prog W a O m z1
     have d4:=fun W a m=>run_store Tryz.prog W a P m z2
     have j9:=fun W a m=>run_store Tryz.prog W a Q m z3
     go_wp2
     obtain⟨d0,d1,d2,d3⟩:=HP.o;exact bodyPost_ret (v:=.tuple #[.agg #[N,O,P,Q],.int .i64 code]) (by simp[results,Tryz.results12,go_sem,d0,d1,d2,d3]) rfl ⟨N,O,P,Q,rfl,d7.o⟩
end Go.Proofs.YtnfnddnffoigfaaGreatDoor
