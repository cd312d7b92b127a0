/- Texts of CelB, Ops1, Ops2. Own work of the verifier. -/
import Derived.Test.YtlkhmmoimplokaaGreatDoorUqaa
namespace Go.Proofs.YtlkhmmoimplokaaGreatDoor
set_option maxHeartbeats 2000000
open Go Go.RowKit
set_option linter.unusedVariables false
abbrev RC:=Int×Int×Option Addr×Nat×Nat
def RC.zero:RC:=(0,0,none,0,0)
def OwnT (w:World)(B:Nat)(p:Option Addr)(n c:Nat)(ys:List Int):Prop:=
 n=ys.length/\(0<n->∃ g,p=some ⟨g,0,none⟩/\B<=g/\g<w.heap.size/\∀ i,i<n->w.cell? ⟨g,i,none⟩=some (.int .u8 (ys.getD i 0))/\w.frozen? ⟨g,i,none⟩=false)
theorem OwnS.toT {w:World}{B:Nat}{p:Option Addr}{n c:Nat}{b:List Int}(h:OwnS w B p n c b):OwnT w B p n c b:=by
 refine⟨h.1,fun j=>?_⟩
 rcases h.form with ⟨_,f,_⟩ | ⟨g,rfl,e,a⟩
 ·omega
 ·exact⟨g,rfl,e,a,fun i d=>⟨h.row.2 i (by rw[<-h.1];exact d),h.2.frozenAt i⟩⟩
theorem ne_block {g H n:Nat}(h:g≠H):0<n->some (⟨g,0,none⟩:Addr)≠some ⟨H,0,none⟩:=fun _ e=>h (congrArg Addr.block (Option.some.inj e))
theorem OwnT.len {w:World}{B:Nat}{p:Option Addr}{n c:Nat}{a:List Int}(h:OwnT w B p n c a):n=a.length:=h.1
theorem OwnT.bin {w:World}{B:Nat}{p:Option Addr}{n c:Nat}{a:List Int}(h:OwnT w B p n c a):BIn w p a:=fun b=>by
 obtain⟨rfl,h⟩:=h;obtain⟨g,rfl,_,_,e⟩:=h b;exact⟨g,0,rfl,fun i d=>by rw[Nat.zero_add];exact(e i d).1⟩
theorem OwnT.below {w w':World}{B:Nat}{p:Option Addr}{n c:Nat}{j:List Int}(h:OwnT w B p n c j)(b:Below w.heap.size w w'):OwnT w' B p n c j:=by
 refine⟨h.1,fun k=>?_⟩;obtain⟨g,e,l,a,f⟩:=h.2 k;exact⟨g,e,l,Nat.lt_of_lt_of_le a b.size,fun i d=>⟨(b.cell (p:=⟨g,i,none⟩) a).trans (f i d).1,(b.frozen (p:=⟨g,i,none⟩) a).trans (f i d).2⟩⟩
theorem OwnT.mono {w:World}{B b:Nat}{p:Option Addr}{n c:Nat}{ys:List Int}(h:OwnT w B p n c ys)(f:b<=B):OwnT w b p n c ys:=by
 refine⟨h.1,fun d=>?_⟩;obtain⟨g,e,a,r⟩:=h.2 d;exact⟨g,e,Nat.le_trans f a,r⟩
theorem OwnT.other {w b:World}{B:Nat}{p:Option Addr}{n c:Nat}{k:List Int}(h:OwnT w B p n c k)(o:w.heap.size<=b.heap.size)(q:∀ g,0<n->p=some ⟨g,0,none⟩->b.heap[g]?=w.heap[g]?):OwnT b B p n c k:=by
 refine⟨h.1,fun f=>?_⟩;obtain⟨g,e,m,a,l⟩:=h.2 f;have d:=q g f e;exact⟨g,e,m,Nat.lt_of_lt_of_le a o,fun i j=>⟨(World.cell?_of_block (w:=w) d).trans (l i j).1,(World.frozen?_of_block (w:=w) d).trans (l i j).2⟩⟩
theorem OwnT.setCell {w:World}{B:Nat}{p:Option Addr}{n c:Nat}{b:List Int}(h:OwnT w B p n c b){a:Addr}(ha:0<n->p≠some ⟨a.block,0,none⟩)(u:Value):OwnT (w.setCell a u) B p n c b:=
 h.other (by simp) (fun g d e=>Below.heap_setCell _ _ _ _ (fun f=>ha d (by rw[e,f])))
def Fits (w:World)(B:Nat)(r:RC)(c:Cel):Prop:=r.1=c.1/\r.2.1=c.2.1/\OwnT w B r.2.2.1 r.2.2.2.1 r.2.2.2.2 c.2.2
def ApartC (p:Option Addr)(rs:List RC):Prop:=
 (∀ i,i<rs.length->0<(rs.getD i RC.zero).2.2.2.1->(rs.getD i RC.zero).2.2.1≠p)/\
 (∀ i j,i<rs.length->j<rs.length->i≠j->0<(rs.getD i RC.zero).2.2.2.1->0<(rs.getD j RC.zero).2.2.2.1->(rs.getD i RC.zero).2.2.1≠(rs.getD j RC.zero).2.2.1)
theorem ownsRow_down {w:World}{B d:Nat}{e:TypeId}{a:Nat}{v:Value}{n:Nat}{f:List Value}(h:w.ownsRow B e a v n f)(k:d<=B):w.ownsRow d e a v n f:=by
 refine⟨h.1,?_⟩
 rcases h.2 with j | ⟨g,c,b,i,l,r⟩
 ·exact .inl j
 ·exact .inr ⟨g,c,b,i,Nat.le_trans k l,r⟩
theorem OwnS.mono {w:World}{B a:Nat}{p:Option Addr}{n c:Nat}{ys:List Int}(h:OwnS w B p n c ys)(b:a<=B):OwnS w a p n c ys:=⟨h.1,ownsRow_down h.2 b⟩
theorem OwnS.setCell {w:World}{B:Nat}{g n c:Nat}{b:List Int}(h:OwnS w B (some ⟨g,0,none⟩) n c b){a:Addr}(ha:a.block≠g)(u:Value):OwnS (w.setCell a u) B (some ⟨g,0,none⟩) n c b:=
 ⟨h.1,ownsRow_setCell_other h.2 (by simp[Value.ownBlock];exact fun e=>ha e.symm) u⟩
def Box3 (w:World)(b:Nat)(v0 v1 v2:Value):Prop:=w.cell? ⟨b,0,none⟩=some v0/\w.cell? ⟨b,1,none⟩=some v1/\w.cell? ⟨b,2,none⟩=some v2/\∀ j,w.frozen? ⟨b,j,none⟩=false
theorem Box3.of_block {w:World}{b:Nat}{c a d:Value}{t:TypeId}(h:w.heap[b]?=some (.cells #[c,a,d] t)):Box3 w b c a d:=
 ⟨by simp[World.cell?,h],by simp[World.cell?,h],by simp[World.cell?,h],fun j=>frozen_of_row w b j _ t h⟩
theorem box3_set {w:World}{b:Nat}{u0 u1 u2:Value}(i:w.cell? ⟨b,0,none⟩=some u0)(g:w.cell? ⟨b,1,none⟩=some u1)(k:w.cell? ⟨b,2,none⟩=some u2)(c a d:Value) :
  (((w.setCell ⟨b,0,none⟩ c).setCell ⟨b,1,none⟩ a).setCell ⟨b,2,none⟩ d).cell? ⟨b,0,none⟩=some c/\(((w.setCell ⟨b,0,none⟩ c).setCell ⟨b,1,none⟩ a).setCell ⟨b,2,none⟩ d).cell? ⟨b,1,none⟩=some a/\
  (((w.setCell ⟨b,0,none⟩ c).setCell ⟨b,1,none⟩ a).setCell ⟨b,2,none⟩ d).cell? ⟨b,2,none⟩=some d:=by
 have h:=World.cell?_setCells_in b [c,a,d] 0 w (fun j f=>by
  have e:j<3:=f
  rcases j with _ | _ | _ | j
  ·simp[i]
  ·simp[g]
  ·simp[k]
  ·omega)
 exact⟨h 0 (by simp),h 1 (by simp),h 2 (by simp)⟩
theorem heap_three (w:World)(a b c:Obj):(((w.alloc a).alloc b).alloc c).heap[w.heap.size+1]?=some b/\(((w.alloc a).alloc b).alloc c).heap[w.heap.size+1+1]?=some c:=by
 have e:=heap_alloc_new (w.alloc a) b;have d:=heap_alloc_new ((w.alloc a).alloc b) c;simp only[World.size_alloc] at e d;exact⟨(Below.heap_alloc _ _ _ (by simp)).trans e,d⟩
theorem rs_set_at (a:List RC)(i j:Nat)(r:RC)(h:i<a.length):(a.set i r).getD j RC.zero=if j=i then r else a.getD j RC.zero:=by
 simp only[List.getD,List.getElem?_set]
 by_cases e:j=i
 ·subst e;simp[h]
 ·have:¬ i=j:=fun x=>e x.symm
  simp[this,e]
theorem same_cells {a b:List Cel}(e:a.length=b.length)(h:∀ j,j<a.length->a.getD j Cel.none=b.getD j Cel.none):a=b:=by
 apply List.ext_getElem e
 intro i c d
 have:=h i c
 rwa[List.getD,List.getD,List.getElem?_eq_getElem c,List.getElem?_eq_getElem d] at this
theorem rs_append_at (a:List RC)(r:RC)(i:Nat)(h:i<=a.length):(a ++ [r]).getD i RC.zero=if i=a.length then r else a.getD i RC.zero:=by
 by_cases e:i=a.length
 ·subst e;simp[List.getD]
 ·rw[if_neg e,List.getD,List.getD,List.getElem?_append_left (by omega)]
theorem cs_append_at (a:List Cel)(c:Cel)(i:Nat)(h:i<=a.length):(a ++ [c]).getD i Cel.none=if i=a.length then c else a.getD i Cel.none:=by
 by_cases e:i=a.length
 ·subst e;simp[List.getD]
 ·rw[if_neg e,List.getD,List.getD,List.getElem?_append_left (by omega)]
theorem row_below {B:Nat}{t:TypeId}{a n:Nat}{v:Value}{w f:World}{e:List Value}(h:w.ownsRow B t a v n e)(l:Below w.heap.size w f):f.ownsRow B t a v n e:=by
 refine⟨h.1,?_⟩
 rcases h.2 with j | ⟨g,c,b,i,k,d,r⟩
 ·exact .inl j
 ·exact .inr ⟨g,c,b,i,k,(l.block g (Array.getElem?_eq_some_iff.1 d).1).trans d,r⟩
theorem Box3.below {w w':World}{b:Nat}{u0 u1 u2:Value}(h:Box3 w b u0 u1 u2)(c:Below w.heap.size w w')(a:b<w.heap.size):Box3 w' b u0 u1 u2:=
 ⟨(c.cell (p:=⟨b,0,none⟩) a).trans h.1,(c.cell (p:=⟨b,1,none⟩) a).trans h.2.1,(c.cell (p:=⟨b,2,none⟩) a).trans h.2.2.1,fun j=>(c.frozen (p:=⟨b,j,none⟩) a).trans (h.2.2.2 j)⟩
theorem Box3.setCell {w:World}{b:Nat}{u0 u1 u2:Value}(h:Box3 w b u0 u1 u2){a:Addr}(ha:a.block≠b)(u:Value):Box3 (w.setCell a u) b u0 u1 u2:=
 have o:∀ j,(w.setCell a u).cell? ⟨b,j,none⟩=w.cell? ⟨b,j,none⟩:=fun j=>World.cell?_setCell_other _ _ _ _ (fun e=>ha (by rw[e]))
 ⟨(o 0).trans h.1,(o 1).trans h.2.1,(o 2).trans h.2.2.1,fun j=>by rw[World.frozen?_setCell];exact h.2.2.2 j⟩
def OAt (w:World)(b o:Nat)(c:Cel):Prop:=
 ∃ p cap,w.cell? ⟨b,o+1,none⟩=some (.int .i64 c.1)/\w.cell? ⟨b,o+2,none⟩=some (.int .i64 c.2.1)/\w.cell? ⟨b,o,none⟩=some (.slice p c.2.2.length cap)/\BIn w p c.2.2
def OIn (w:World)(p:Option Addr)(cs:List Cel):Prop:=
 0<cs.length->∃ b o,p=some ⟨b,o,none⟩/\∀ i,i<cs.length->OAt w b (o+i * 3) (cs.getD i Cel.none)
theorem OAt.below {W g:World}{b o:Nat}{c:Cel}(h:OAt W b o c)(a:Below W.heap.size W g):OAt g b o c:=by
 obtain⟨p,d,f,i,e,j⟩:=h;exact⟨p,d,(a.cell (World.block_lt_of_cell? _ _ f)).trans f,(a.cell (World.block_lt_of_cell? _ _ i)).trans i,(a.cell (World.block_lt_of_cell? _ _ e)).trans e,j.below a⟩
theorem OIn.below {W a:World}{p:Option Addr}{c:List Cel}(h:OIn W p c)(g:Below W.heap.size W a):OIn a p c:=fun d=>by
 obtain⟨b,o,rfl,f⟩:=h d;exact⟨b,o,rfl,fun i e=>(f i e).below g⟩
theorem OIn.drewN {W:World}{p:Option Addr}{a:List Cel}(h:OIn W p a)(m:Nat):OIn (W.drewN m) p a:=h
theorem infoOp:(Tryz.prog.info? 60).map (fun i=>(i.zero,i.size,i.bytes))=some (some (.agg #[.slice none 0 0,.int .i64 0,.int .i64 0]),3,40):=by kernel_rfl
def roV (r:RC):List Value:=[.slice r.2.2.1 r.2.2.2.1 r.2.2.2.2,.int .i64 r.1,.int .i64 r.2.1]
def flatO (rs:List RC):List Value:=rs.flatMap roV
theorem flatO_cons (r:RC)(a:List RC):flatO (r :: a) = .slice r.2.2.1 r.2.2.2.1 r.2.2.2.2 :: .int .i64 r.1 :: .int .i64 r.2.1 :: flatO a:=rfl
theorem flatO_len:∀ a:List RC,(flatO a).length=a.length * 3
 | []=>rfl
 | r :: a=>by simp only[flatO_cons,List.length_cons,flatO_len a];omega
theorem flatO_at:∀ (a:List RC) (i:Nat),i<a.length->(flatO a)[i * 3+1]?=some (.int .i64 (a.getD i RC.zero).1)/\(flatO a)[i * 3+2]?=some (.int .i64 (a.getD i RC.zero).2.1)/\
  (flatO a)[i * 3]?=some (.slice (a.getD i RC.zero).2.2.1 (a.getD i RC.zero).2.2.2.1 (a.getD i RC.zero).2.2.2.2)
 | [],i,h=>by simp at h
 | r :: a,0,_=>by simp[flatO_cons]
 | r :: a,i+1,h=>by
   have:=flatO_at a i (by simpa using h);rw[flatO_cons,show(i+1) * 3=(i * 3)+1+1+1 by omega,show(i * 3)+1+1+1+1=(i * 3+1)+1+1+1 by omega,show(i * 3)+1+1+1+2=(i * 3+2)+1+1+1 by omega]
   simpa using this
theorem flatO_set:∀ (b:List RC) (i:Nat) (r:RC),i<b.length->(((flatO b).set (i * 3) (.slice r.2.2.1 r.2.2.2.1 r.2.2.2.2)).set (i * 3+1) (.int .i64 r.1)).set (i * 3+2) (.int .i64 r.2.1)=flatO (b.set i r)
 | [],i,r,h=>by simp at h
 | a :: b,0,r,_=>by simp[flatO_cons]
 | a :: b,i+1,r,h=>by
   have:=flatO_set b i r (by simpa using h);rw[flatO_cons,show(i+1) * 3=(i * 3)+1+1+1 by omega,show(i * 3)+1+1+1+1=(i * 3+1)+1+1+1 by omega,show(i * 3)+1+1+1+2=(i * 3+2)+1+1+1 by omega];simp only[List.set_cons_succ,this]
   rfl
theorem made_flatO (n:Nat):(madeCells #[.slice none 0 0,.int .i64 0,.int .i64 0] (n * 3)).toList=flatO (List.replicate n RC.zero):=by
 apply List.ext_getElem?
 intro j
 by_cases a:j<n * 3
 ·have h:=flatO_at (List.replicate n RC.zero) (j / 3) (by simp;omega)
  have e:(List.replicate n RC.zero).getD (j / 3) RC.zero=RC.zero:=by simp[List.getD,List.getElem?_replicate];split <;> rfl
  rw[e] at h;obtain⟨c,d,b⟩:=h
  have h3:j % 3=0∨j % 3=1∨j % 3=2:=by omega
  rcases h3 with h3 | h3 | h3
  ·rw[show j / 3 * 3=j by omega] at b
   rw[b];simp[madeCells,a,h3,RC.zero]
  ·rw[show j / 3 * 3+1=j by omega] at c
   rw[c];simp[madeCells,a,h3,RC.zero]
  ·rw[show j / 3 * 3+2=j by omega] at d
   rw[d];simp[madeCells,a,h3,RC.zero]
 ·rw[List.getElem?_eq_none (l:=flatO _) (by rw[flatO_len];simp;omega),List.getElem?_eq_none (by rw[Array.length_toList,size_madeCells];omega)]
def OwnO (w:World)(B:Nat)(p:Option Addr)(n c:Nat)(cs:List Cel):Prop:=
 n=cs.length/\∃ rs:List RC,rs.length=cs.length/\w.ownsRow B 60 3 (.slice p n c) n (flatO rs)/\(∀ i,i<cs.length->Fits w B (rs.getD i RC.zero) (cs.getD i Cel.none))/\ApartC p rs
theorem OwnO.nil (w:World)(B:Nat):OwnO w B none 0 0 []:=⟨rfl,[],rfl,World.ownsRow_nil _ _ _ _,fun i h=>by simp at h,fun i h=>by simp at h,fun i j h=>by simp at h⟩
theorem OwnO.oin {w:World}{B:Nat}{p:Option Addr}{n c:Nat}{f:List Cel}(h:OwnO w B p n c f):OIn w p f:=fun j=>by
 obtain⟨rfl,b,x,a,q,_⟩:=h;obtain⟨g,t,d,u,v⟩:=a.form j;simp only[Value.slice.injEq,true_and] at d;obtain⟨rfl,rfl⟩:=d;refine⟨g,0,rfl,fun i k=>?_⟩;obtain⟨o,r,e⟩:=q i k;obtain⟨s,m,l⟩:=flatO_at b i (by omega);rw[Nat.zero_add];refine⟨(b.getD i RC.zero).2.2.1,(b.getD i RC.zero).2.2.2.2,?_,?_,?_,e.bin⟩
 ·rw[a.cellAt _ (by omega),s,o]
 ·rw[a.cellAt _ (by omega),m,r]
 ·rw[a.cellAt _ (by omega),l,e.len]
theorem OwnO.below {w w':World}{B:Nat}{p:Option Addr}{n c:Nat}{k:List Cel}(h:OwnO w B p n c k)(f:Below w.heap.size w w'):OwnO w' B p n c k:=by
 obtain⟨rfl,t,s,l,d,ha⟩:=h;refine⟨rfl,t,s,⟨l.1,?_⟩,fun i b=>⟨(d i b).1,(d i b).2.1,(d i b).2.2.below f⟩,ha⟩
 rcases l.2 with q | ⟨g,e,a,o,m,j,r⟩
 ·exact .inl q
 ·exact .inr ⟨g,e,a,o,m,(f.block g (Array.getElem?_eq_some_iff.1 j).1).trans j,r⟩
theorem OwnO.mono {w:World}{B d:Nat}{p:Option Addr}{n c:Nat}{e:List Cel}(h:OwnO w B p n c e)(f:d<=B):OwnO w d p n c e:=by
 obtain⟨g,rs,k,j,a,ha⟩:=h;exact⟨g,rs,k,ownsRow_down j f,fun i b=>⟨(a i b).1,(a i b).2.1,(a i b).2.2.mono f⟩,ha⟩
end Go.Proofs.YtlkhmmoimplokaaGreatDoor
