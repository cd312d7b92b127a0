/- Texts of RgQ, ItS, Make3, LawValid, AppC, Dt1. Own work of the verifier. -/
import Derived.RangeFuncNested
import Derived.RangeFuncBound
import Derived.RangeFuncLeaves
import Derived.Shelf.RegionOpen
import Derived.LoopIn
import Derived.Sort.EveryDepth
import Derived.Test.YtnfnddnffoigfaaGreatDoorUqai
import Derived.Test.YtnfnddnffoigfaaGreatDoorUqaf
namespace Go.Proofs.YtnfnddnffoigfaaGreatDoor
set_option maxRecDepth 100000
set_option maxHeartbeats 2000000
set_option linter.unusedVariables false
section
open Go Go.RowKit Go.Shelf
attribute [local go_sem] Oper.semAt_some
section
variable {P:Program}{ops:Array Oper}{Q:Exit->Act->World->Prop}{n k:Nat}
theorem upon_more {o:Oper}{a:Act}{K f:Act->World->Prop}{r:Result Next}(c:∀ a w,K a w->f a w)(h:o.upon P a K Q r):o.upon P a f Q r:=by
 cases r with
 | ok x g=>
   cases x <;> simp only[Oper.upon] at h ⊢ <;>
    first
     | exact c _ _ h
     | exact Calls.mono h (fun e d b=>by cases e <;> first | exact c _ _ b | exact b)
     | exact Rows.mono h (fun v d b=>c _ _ b)
     | exact h
 | halt x g=>cases x <;> simp only[Oper.upon] at h ⊢ <;> exact h
theorem wpOpsIn_of (c:noDefer ops=true)(b:¬ LetsOut Q):∀ (l:List Nat) (a:Act) (w:World),wpOps P ops Q l a w->wpOpsIn (Fence.wide.inRound k) n P ops Q l a w
 | [],a,w,h=>h
 | i :: rest,a,w,h=>by
   unfold wpOps at h
   unfold wpOpsIn
   cases d:ops[i]? with
   | none=>
     simp only[d] at h ⊢;exact wpOpsIn_of c b rest a w h
   | some o=>
     simp only[d] at h ⊢
     split
     ·rename_i f
      simp only[f,if_true] at h
      rcases h with h | h
      ·refine⟨fun _ _=>trivial,?_⟩
       have e:o.semAt (Fence.wide.inRound k).round a.eval=execOp a.eval o:=Oper.semAt_some k _ _ (noDefer_spec c d);rw[e];exact upon_wide (upon_more (fun g m j=>wpOpsIn_of c b rest g m j) h)
      ·exact absurd h.2 b
     ·rename_i f
      refine⟨fun _ _=>trivial,wpOpsIn_of c b rest _ _ ?_⟩
      simpa [f] using h
theorem wpIn_region_round {id:Nat}{a:Act}{w:World}(d:noDefer ops=true)(h:wpList P ops (fun e a w=>e = .normal/\Q .normal a w) ops.toList a w):(Code.region id ops false).wpIn (Fence.wide.inRound k) n P Q a w:=by
 have b:wpOps P ops (fun e a w=>e = .normal/\Q .normal a w) (List.range ops.size) a w:=by rw[List.range_eq_range',<-Array.length_toList,wpOps_eq_wpList ops.toList 0 (by simp)];exact h
 have c:wpOpsIn (Fence.wide.inRound k) n P ops (fun e a w=>e = .normal/\Q .normal a w) (List.range ops.size) a w:=wpOpsIn_of d (fun h=>by simp[LetsOut] at h) _ _ _ b;exact wpIn_mono (wpIn_region c) (fun e a w h=>h.1▸h.2)
end
theorem wpIn_range_pan {P:Program}{n:Nat}{g:Operand}{y:Array Tmp}{assign body:Code}{Q:Exit->Act->World->Prop}{a:Act}{w:World}{gf:Nat}{first:Array Value}
  (N:a.eval g = .func (.func gf) first #[]) (G:∀ args w,(callFunc gf args).run P w = .ok (.enter gf args) w)
  (h:∀ (l D:Nat) (b j done:Obj) (q:World),D=w.heap.size->l=w.heap.size+1->q=(w.alloc (.deferred (some []))).alloc b->b.isCells=false->j.isCells=false->done.isCells=false->
    (∀ (args:Array Value) (W:World) (R:Ending->World->Prop),args.size=y.size->W.heap[l]?=some b->
      assign.wpIn (Fence.wide.inRound l) (n-1-1) P (Exit.then (fun s d=>d.heap[l]?=some b/\body.wpIn (Fence.wide.inRound l) (n-1-1) P (fun e _ f=>e = .normal/\f.heap[l]?=some j/\R (.returned (.bool true)) (f.putObj l b)) s (d.putObj l j)) (fun _ _ _=>False))
       { tmps:=(y.zip args).foldl (fun t (p,v)=>t.setIfInBounds p v) a.tmps,defers:=[] } W->YieldAt Fence.wide (n-1-1) P l args W R)->
    CallsIn Fence.wide (n-1) P gf (first ++ #[.func (.yield l) #[] #[]]) q (fun e x=>match e with
     | .returned _=>x.heap[l]?=some b/\Q .normal { a with defers:={ target:=.collected D,args:=#[] } :: a.defers } (x.putObj l done)
     | .panicked m=>Q (.panic m) { a with defers:={ target:=.collected D,args:=#[] } :: a.defers } x
     | .outgrown=>False)) :
  (Code.rangeFunc g y assign body).wpIn Fence.wide n P Q a w:=by
 refine wpIn_rangeFunc ?_
 intro fn z
 have F:Fence.wide.round=none:=rfl;rw[F]
 obtain⟨i,c⟩:∃ i:LoopState->Option Code->Loop,i=fun st T=>{ state:=st,pending:=T,fn,tmps:=a.tmps,params:=y,assign,body,defers:=w.heap.size }:=⟨_,rfl⟩
 obtain⟨q,u⟩:∃ q,q=(w.alloc (.deferred (some []))).alloc (.loop (i .ready none)):=⟨_,rfl⟩
 refine⟨w.heap.size+1,[{ target:=.collected w.heap.size,args:=#[] }],q,{ target:=.fn (.func gf) #[],args:=first ++ #[.func (.yield (w.heap.size+1)) #[] #[]] },q,gf,first ++ #[.func (.yield (w.heap.size+1)) #[] #[]],q,?_,?_,?_,?_,fun h=>(by cases h),?_⟩
 ·rw[u,c];exact run_enterLoop_outer _ _ _ _ _
 ·simp only[resolve,N]
  simp[go_sem]
 ·intro f' _;trivial
 ·simp[invoke,go_sem,G]
 ·refine(h _ _ (.loop (i .ready none)) (.loop (i .busy none)) (.loop (i .exhausted none)) q rfl rfl u rfl rfl rfl ?_).mono ?_
  ·intro args W R O A S
   have E:=run_yield (P:=P) (args:=args) A (by rw[c];exact O)
   have L:∀ d:World,d.heap[w.heap.size+1]?=some (.loop (i .ready none))->(Instr.beginRound (w.heap.size+1)).run P d = .ok () (d.putObj (w.heap.size+1) (.loop (i .busy none))):=fun d H=>by
    have:=run_beginRound (P:=P) H (by rw[c]);rw[this,c]
   have M:∀ f:World,f.heap[w.heap.size+1]?=some (.loop (i .busy none))->(Instr.endRound (w.heap.size+1) none).run P f = .ok (.bool true) (f.putObj (w.heap.size+1) (.loop (i .ready none))):=fun f I=>by
    have:=run_endRound (P:=P) none I;rw[this,c]
    rfl
   rw[c] at E;refine⟨fn,_,assign,body,E,roundIn_of_wpIn z (wpIn_mono S ?_)⟩;rintro e X U o
   cases e with
   | normal=>
     obtain⟨B,r⟩:=o;refine⟨_,L _ B,wpIn_mono r ?_⟩;rintro e2 Y V ⟨rfl,C,K⟩;exact⟨_,_,M _ C,K⟩
   | ret=>exact o.elim
   | exit id=>exact o.elim
   | goto t=>exact o.elim
   | panic Z=>exact o.elim
   | outgrown=>exact o.elim
  ·rintro e x o
   cases e with
   | returned v=>
     obtain⟨A,J⟩:=o;refine⟨none,_,?_,J⟩;have:=run_endLoop (P:=P) A (by rw[c];simp);rw[this,c]
   | panicked m=>exact o
   | outgrown=>exact o.elim
end
section
open Go Go.RowKit
end
section
open Go Go.RowKit Go.Shelf
attribute [local go_sem] Oper.semAt_some
def upto {α:Type}(f:Nat->α)(k:Nat):List α:=(List.range k).map f
theorem upto_succ {a:Type}(f:Nat->a)(k:Nat):upto f (k+1)=upto f k ++ [f k]:=by simp[upto,List.range_succ]
theorem upto_length {a:Type}(f:Nat->a)(k:Nat):(upto f k).length=k:=by simp[upto]
abbrev Itm:Type:=Nat×Nat×Value
def bkAt (zs:List (Nat×Value))(n j:Nat):Itm:=(n-1-j,(zs[n-1-j]?.getD (0,.nilIface)).1,(zs[n-1-j]?.getD (0,.nilIface)).2)
def BKeep (n₀ Bs:Nat)(A B:World):Prop:=Below n₀ A B/\∀ v,A.cell? ⟨Bs,0,none⟩=some v->B.cell? ⟨Bs,0,none⟩=some v
theorem BKeep.refl (a b:Nat)(A:World):BKeep a b A A:=⟨Below.refl _ _,fun _ h=>h⟩
theorem BKeep.trans {a b:Nat}{A B C:World}(h:BKeep a b A B)(k:BKeep a b B C):BKeep a b A C:=⟨h.1.trans k.1,fun v c=>k.2 v (h.2 v c)⟩
theorem back1_in (F:Fence)(n:Nat)(T:F.fn 168)(C:F.round=none)(hn:1<=n)(l t f b a u:Nat)(c:List (Nat×Value))(L:a<=2000)(X:b<f)(J D:List Itm->World->Prop)
  (V:∀ d x W,J d W->d.length<a->YieldAt F (n-1) Tryz.prog l #[.int .i64 (x.1:Int),.iface x.2.1 x.2.2] W fun e h=>
    (e = .returned (.bool true)/\J (d ++ [x]) h/\BKeep f t W h)∨(e = .returned (.bool false)/\D (d ++ [x]) h))
  (W:World) (w:W.cell? ⟨t,0,none⟩=some (.slice (some ⟨b,0,none⟩) a u)) (Y:∀ j,j<a->W.cell? ⟨b,j,none⟩=some (.iface (c[j]?.getD (0,.nilIface)).1 (c[j]?.getD (0,.nilIface)).2)) (S:J [] W) :
  CallsIn F n Tryz.prog 168 #[.func (.yield l) #[] #[],.pointer (some ⟨t,0,none⟩)] W fun e h=>(∃ v,e = .returned v)/\
   ((∃ R,R=upto (bkAt c a) a/\J R h)∨(∃ d,True/\D d h)):=by
 refine callsIn_of_wp Tryz.func168 rfl T ?_ C;simp only[Tryz.ntmps168,List.size_toArray,List.length_cons,List.length_nil,Nat.reduceAdd,Nat.reduceSub,Array.replicate_succ,Array.replicate_zero,List.push_toArray,List.append_toArray,List.nil_append,List.cons_append]
 gi_wp2
 gi_loopw [3] (fun i wr=>∃ m:Nat,m<=a/\i = .int .i64 ((m:Int)-1)/\J (upto (bkAt c a) (a-m)) wr/\BKeep f t W wr)
  (fun i _=>(intOf i+1).toNat)
 case atStart=>exact⟨a,Nat.le_refl _,by go_num,by rw[Nat.sub_self];exact S,BKeep.refl _ _ _⟩
 case round=>
  obtain⟨m,hm,rfl,r,g⟩:=hrel;have K:=g.2 _ w
  cases m with
  | zero=>
    gi_wp2
    go_end0
    exact⟨⟨_,rfl⟩,.inl ⟨_,rfl,r⟩⟩
  | succ m=>
    have A:=(g.1.cell (p:=⟨b,m,none⟩) X).trans (Y m (by omega))
    have E:((m+1:Nat):Int)-1=(m:Int):=by omega
    have G:a-1-(a-(m+1))=m:=by omega
    have H:bkAt c a (a-(m+1))=(m,(c[m]?.getD (0,.nilIface)).1,(c[m]?.getD (0,.nilIface)).2):=by simp only[bkAt,G]
    have I:upto (bkAt c a) (a-(m+1)) ++ [(m,(c[m]?.getD (0,.nilIface)).1,(c[m]?.getD (0,.nilIface)).2)]=upto (bkAt c a) (a-m):=by
     rw[<-H,<-upto_succ]
     congr 1;omega
    obtain⟨fn,tmps,assign,body,M,z⟩:=V _ (m,(c[m]?.getD (0,.nilIface)).1,(c[m]?.getD (0,.nilIface)).2) wr r (by rw[upto_length];omega)
    dsimp only at M
    rw[I] at z;rw[E]
    obtain⟨N,o⟩:∃ N,N=(c[m]?.getD (0,.nilIface)).1:=⟨_,rfl⟩
    obtain⟨O,q⟩:∃ O,O=(c[m]?.getD (0,.nilIface)).2:=⟨_,rfl⟩
    rw[<-o,<-q] at M A;have U:Hid _:=z;clear E G H I o q
    gi_wp2
    refine z.mono ?_;rintro e Z (⟨rfl,y,B⟩ | ⟨rfl,s⟩)
    ·gi_wp2
     go_roundw
     case rel=>exact⟨m,by omega,by go_num,y,g.trans B⟩
     case measure=>simp[intOf]
    ·gi_wp2
     refine bodyPost_ret (results_none rfl _ _ _) rfl ?_;exact⟨⟨_,rfl⟩,.inr ⟨_,trivial,s⟩⟩
theorem back_in (F:Fence)(n:Nat)(f:F.fn 111)(d:F.round=none)(a:Option Addr)(c b:Nat)(w:World) :
  CallsIn F n Tryz.prog 111 #[.slice a c b] w fun e g=>e = .returned (.func (.func 168) #[] #[.pointer (some ⟨w.heap.size,0,none⟩)])/\g=w.alloc (.cells #[.slice a c b] 52):=by
 refine callsIn_of_wp Tryz.func111 rfl f ?_ d;simp only[Tryz.ntmps111,List.size_toArray,List.length_cons,List.length_nil,Nat.reduceAdd,Nat.reduceSub,Array.replicate_succ,Array.replicate_zero,List.push_toArray,List.append_toArray,List.nil_append,List.cons_append]
 gi_wp2
 go_ret;exact⟨rfl,rfl⟩
theorem back_stops (F:Fence)(n:Nat)(t:F.fn 168)(o:F.round=none)(A:1<=n)(d c b a e:Nat)(g:List (Nat×Value))(f:a<=2000)(w:World)(h:d<w.heap.size)(m:c<=w.heap.size)(v:b<c)
  (i:w.cell? ⟨d,0,none⟩=some (.slice (some ⟨b,0,none⟩) a e)) (y:∀ j,j<a->w.cell? ⟨b,j,none⟩=some (.iface (g[j]?.getD (0,.nilIface)).1 (g[j]?.getD (0,.nilIface)).2)) :
  SeqStopsK F n Tryz.prog 168 #[.pointer (some ⟨d,0,none⟩)] (fun x:Itm=>#[Value.int .i64 (x.1:Int),Value.iface x.2.1 x.2.2]) (BKeep c d) (fun B=>B=upto (bkAt g a) a) (fun _=>True) a w:=fun l J r W q _ _ u s=>by
 exact back1_in F n t o A l d c b a e g f v J r u W ((q.cell (p:=⟨d,0,none⟩) h).trans i) (fun j z=>(q.cell (p:=⟨b,j,none⟩) (by show b<_;omega)).trans (y j z)) s
theorem bKeep_b {a d:Nat}{w:World}(g:a<=w.heap.size)(W:World)(l:Nat)(o b:Obj)(f:w.heap.size<=l)(h:W.heap[l]?=some o)(c:o.isCells=false)(j:o.isWalk=false):BKeep a d W (W.putObj l b):=
 ⟨belowK_b g W l o b f h c j,fun v i=>cell_kept i (grownBy_putObj' W l b) (fun r e=>by cases e;exact⟨_,h,c⟩)⟩
end
section
open Go Go.RowKit
theorem rs_cat_at (a b:List RC)(i:Nat):(a ++ b).getD i RC.zero=if i<a.length then a.getD i RC.zero else b.getD (i-a.length) RC.zero:=by
 by_cases h:i<a.length
 ·rw[if_pos h,List.getD,List.getD,List.getElem?_append_left h]
 ·rw[if_neg h,List.getD,List.getD,List.getElem?_append_right (by omega)]
theorem cs_cat_at (a b:List Cel)(i:Nat):(a ++ b).getD i Cel.none=if i<a.length then a.getD i Cel.none else b.getD (i-a.length) Cel.none:=by
 by_cases h:i<a.length
 ·rw[if_pos h,List.getD,List.getD,List.getElem?_append_left h]
 ·rw[if_neg h,List.getD,List.getD,List.getElem?_append_right (by omega)]
theorem flat_one' (c:List RC):∀ u ∈ flat c,u.oneCell'=true:=fun u b=>by
 obtain⟨r,_,a⟩:=List.mem_flatMap.1 b;exact rcV_one r u a
theorem ownC_grewL {s w W:World}{B g n F J:Nat}{p:Option Addr}{A u:List Cel}{q a:List RC}(hn:n=A.length)(hl:q.length=A.length)(V:s.ownsRow B 27 3 (.slice p n J) n (flat q))
  (K:∀ i,i<A.length->Fits s B (q.getD i RC.zero) (A.getD i Cel.none)) (ha:ApartC p q) (D:Below s.heap.size s w) (hB:B<=s.heap.size)
  (h4:a.length=u.length) (v:∀ i,i<u.length->Fits w s.heap.size (a.getD i RC.zero) (u.getD i Cel.none)) (N:∀ i j,i<a.length->j<a.length->i≠j->0<(a.getD i RC.zero).2.2.2.1->0<(a.getD j RC.zero).2.2.2.1->(a.getD i RC.zero).2.2.1≠(a.getD j RC.zero).2.2.1)
  (hr:W.ownsRow B 27 3 (.slice (some ⟨g,0,none⟩) (n+u.length) F) (n+u.length) (flat q ++ flat a)) (L:w.grownBy W (Value.ownBlock (.slice p n J))) (H:Value.ownBlock (.slice p n J)=some g∨g=w.heap.size) :
  OwnC W B (some ⟨g,0,none⟩) (n+u.length) F (A ++ u):=by
 have m:∀ k,Value.ownBlock (.slice p n J)=some k->p=some ⟨k,0,none⟩/\k<s.heap.size:=fun k y=>by
  rcases V.2 with ⟨I,_⟩ | ⟨g',X,Z,I,hb,O,_⟩
  ·simp only[Value.slice.injEq] at I;rw[I.1] at y;simp[Value.ownBlock] at y
  ·simp only[Value.slice.injEq] at I
   rw[I.1] at y ⊢
   simp[Value.ownBlock] at y
   subst y;exact⟨rfl,(Array.getElem?_eq_some_iff.1 O).1⟩
 have l:∀ i,i<A.length->0<(q.getD i RC.zero).2.2.2.1->∃ k,(q.getD i RC.zero).2.2.1=some ⟨k,0,none⟩/\k<s.heap.size:=fun i t o=>by
  obtain⟨k,e,_,T,_⟩:=(K i t).2.2.2 o;exact⟨k,e,T⟩
 have c:∀ i,i<u.length->0<(a.getD i RC.zero).2.2.2.1->∃ k,(a.getD i RC.zero).2.2.1=some ⟨k,0,none⟩/\s.heap.size<=k/\k<w.heap.size:=fun i t o=>by
  obtain⟨k,e,C,G,_⟩:=(v i t).2.2.2 o;exact⟨k,e,C,G⟩
 have U:g<s.heap.size∨g=w.heap.size:=by
  rcases H with h | h
  ·exact .inl (m g h).2
  ·exact .inr h
 refine⟨by simp;omega,q ++ a,by simp;omega,by rw[flat_append];exact hr,fun i t=>?_,fun i t o=>?_,fun i j t Y R d f=>?_⟩
 ·rw[rs_cat_at,cs_cat_at,hl]
  by_cases e:i<A.length
  ·rw[if_pos e,if_pos e]
   refine⟨(K i e).1,(K i e).2.1,((K i e).2.2.below D).other L.size (fun k z r=>?_)⟩;obtain⟨E,b,C⟩:=l i e z;have S:k=E:=congrArg Addr.block (Option.some.inj (r.symm.trans b));refine L.block k (by have:=D.size;omega) (fun y=>?_);exact ha.1 i (by omega) z (by rw[r,(m k y.symm).1])
  ·have x:i-A.length<u.length:=by simp at t;omega
   rw[if_neg e,if_neg e];refine⟨(v _ x).1,(v _ x).2.1,((v _ x).2.2.mono hB).other L.size (fun k z r=>?_)⟩;obtain⟨E,b,C,G⟩:=c _ x z;have S:k=E:=congrArg Addr.block (Option.some.inj (r.symm.trans b));refine L.block k (by omega) (fun y=>?_);have:=(m k y.symm).2
   omega
 ·rw[rs_cat_at] at o ⊢
  by_cases e:i<q.length
  ·rw[if_pos e] at o ⊢
   obtain⟨E,b,C⟩:=l i (by omega) o
   rcases H with h | h
   ·rw[<-(m g h).1]
    exact ha.1 i e o
   ·rw[b]
    exact ne_block (by have:=D.size;omega) o
  ·rw[if_neg e] at o ⊢
   obtain⟨E,b,C,G⟩:=c _ (by simp at t;omega) o;rw[b];exact ne_block (by omega) o
 ·rw[rs_cat_at] at d f ⊢
  rw[rs_cat_at]
  by_cases e:i<q.length
  ·rw[if_pos e] at d ⊢
   by_cases r:j<q.length
   ·rw[if_pos r] at f ⊢
    exact ha.2 i j e r R d f
   ·rw[if_neg r] at f ⊢
    obtain⟨E,b,C,G⟩:=c _ (by simp at Y;omega) f;obtain⟨k2,M,h3⟩:=l i (by omega) d;rw[b,M];exact ne_block (by omega) d
  ·rw[if_neg e] at d ⊢
   by_cases r:j<q.length
   ·rw[if_pos r] at f ⊢
    obtain⟨E,b,C,G⟩:=c _ (by simp at t;omega) d;obtain⟨k2,M,h3⟩:=l j (by omega) f;rw[b,M];exact ne_block (by omega) d
   ·rw[if_neg r] at f ⊢
    exact N _ _ (by simp at t;omega) (by simp at Y;omega) (by omega) d f
theorem app_cells (j w:World){ops:Array Oper}{f:List Oper}{o:Oper}{a:Act}{Q:Exit->Act->World->Prop}(D:o.guard=none)(s x:Operand)
  (ho:o.op = .call { callee:=.builtin .append,args:=#[s,x],argTypes:=#[23,23] }) (B:Nat) (p:Option Addr) (n c:Nat) (M:List Cel)
  (hs:a.eval s = .slice p n c) (l:OwnC j B p n c M) (e:Below j.heap.size j w) (y:B<=j.heap.size) (q:Option Addr) (m v:Nat) (N:List Cel) (hx:a.eval x = .slice q m v) (E:OwnC w j.heap.size q m v N) (R:0<m) (O:n+m<=1000000000)
  (h:∀ g L d u,OwnC u B (some ⟨g,0,none⟩) L d (M ++ N)->Below B w u->Hid (L=n+m)->wpList Tryz.prog ops Q f (a.put o.dst (.slice (some ⟨g,0,none⟩) L d)) u):wpList Tryz.prog ops Q (o :: f) a w:=by
 obtain⟨i0,Y,I,J,K⟩:=info_parts infoCell;obtain⟨hn,rs,hl,H,W,ha⟩:=l;obtain⟨G,t,F,r,C,z⟩:=E;obtain⟨U,T,S,V,X⟩:=r.form R;simp only[Value.slice.injEq,true_and] at S;obtain⟨rfl,rfl⟩:=S;refine wpList_append_lies w D s x 23 ho B 27 i0 (.agg #[.int .i64 0,.int .i64 0,.slice none 0 0]) 3 40 Tryz.underlying23 Y I J K rfl (by decide) (.slice p n c) n (flat rs) hs (row_below H e) ⟨U,0,none⟩ m v (flat t) hx (by rw[flat_len];omega) (r.cells rfl) (flat_one' t) R (by unfold maxLen;omega) (by omega) (Nat.le_trans y e.size) w.heap.size rfl ?_
 intro g d u i b A h1
 subst G;refine h g _ d u (ownC_grewL hn hl H W ha e y F C z.2 i b A) ((Below.refl _ _).grown b (Nat.le_trans y e.size) (fun k Z=>?_)) rfl;exact(H.lt k Z).1
def oddI:List Int:=[0,1,-1,42,1000000000000000,-1000000000000000,255,1000000]
def intD (x:Nat):Int:=if x<40 then oddI.getD (x % 8) 0 else((x % 12:Nat):Int)-2
def leafT (xs:List Int)(k i:Nat):List Cel×Nat:=
 if k % 5=0 then([(1,intD (rdI xs i).toNat,[])],rdN xs i)
 else if k % 5<3 then([(0,(((rdI xs i).toNat % 5:Nat):Int),[])],rdN xs i)
 else([(2,0,numsU (nameAt (rdI xs i).toNat))],rdN xs i)
def iterT (f:Nat->List Cel×Nat):Nat->Nat->List (List Cel)×Nat
 | 0,i=>([],i)
 | n+1,i=>let r:=f (iterT f n i).2;((iterT f n i).1 ++ [r.1],r.2)
def binU:List (List UInt8):=[[45],[43],[61],[44],[58,45],[59],[45,62],[105,115],[94],[42,42],[42],[64,64],[109,111,100],[102],[45,45,62],[114],[113]]
def unaU:List (List UInt8):=[[45],[92,43],[58,45],[43],[123,125],[100,121,110,97,109,105,99],[103],[92],[112],[64,64],[91,93],[33]]
def lsL (css:List (List Cel))(en:List Cel):List Cel:=css.flatMap (fun cs=>dot :: cs) ++ en
def nodeT (xs:List Int)(f g:Nat->List Cel×Nat)(i:Nat):List Cel×Nat:=
 let k:=(rdI xs i).toNat
 let i1:=rdN xs i
 if i1=xs.length∨k<50 then leafT xs k i1
 else if k<90 then
  let it:=iterT f (1+k % 3) i1
  if k % 4=0 then(lsL it.1 (g it.2).1,(g it.2).2) else(lsL it.1 [nilC],it.2)
 else if k<180 then
  let a:=f (rdN xs i1)
  let b:=f a.2
  ((3,2,numsU (binU.getD ((rdI xs i1).toNat % 17) [])) :: (a.1 ++ b.1),b.2)
 else if k<230 then
  let a:=f (rdN xs i1)
  ((3,1,numsU (unaU.getD ((rdI xs i1).toNat % 12) [])) :: a.1,a.2)
 else
  let it:=iterT f (1+k % 4) i1
  ((3,((1+k % 4:Nat):Int),numsU (nameAt (rdI xs it.2).toNat)) :: it.1.flatten,rdN xs it.2)
def drawT (xs:List Int):Nat->Nat->List Cel×Nat
 | 0=>fun i=>leafT xs (rdI xs i).toNat (rdN xs i)
 | 1=>nodeT xs (drawT xs 0) (drawT xs 0)
 | d+2=>nodeT xs (drawT xs (d+1)) (drawT xs d)
structure Sml (m:Nat)(cs:List Cel):Prop where
 pos:0<cs.length
 len:cs.length+1<=m
 txt:tl cs<=11 * cs.length
theorem tl_app:∀ (a b:List Cel),tl (a ++ b)=tl a+tl b
 | [],b=>by simp[tl]
 | c :: a,b=>by rw[List.cons_append,tl,tl,tl_app a b];omega
theorem nameU_len (x:Nat):(numsU (nameAt x)).length<=11:=by
 rw[numsU,List.length_map,nameAt]
 have h:∀ j,j<28->(nmU.getD j []).length<=11:=by decide
 split
 ·exact h _ (by omega)
 ·exact h _ (by omega)
theorem binU_len (x:Nat):(numsU (binU.getD (x % 17) [])).length<=11:=by
 rw[numsU,List.length_map]
 have h:∀ j,j<17->(binU.getD j []).length<=11:=by decide
 exact h _ (by omega)
theorem unaU_len (x:Nat):(numsU (unaU.getD (x % 12) [])).length<=11:=by
 rw[numsU,List.length_map]
 have h:∀ j,j<12->(unaU.getD j []).length<=11:=by decide
 exact h _ (by omega)
theorem leafT_sml (a:List Int)(k i:Nat):Sml 2 (leafT a k i).1:=by
 unfold leafT
 have:=nameU_len (rdI a i).toNat
 repeat' split
 all_goals exact⟨by simp,by simp,by simp[tl];try omega⟩
theorem iterT_len (f:Nat->List Cel×Nat):∀ (n i:Nat),(iterT f n i).1.length=n
 | 0,_=>rfl
 | n+1,i=>by simp[iterT,iterT_len f n i]
theorem iterT_at (f:Nat->List Cel×Nat){P:List Cel->Prop}(a:∀ i,P (f i).1):∀ (n i j:Nat),j<n->P ((iterT f n i).1.getD j [])
 | 0,_,_,h=>by omega
 | n+1,i,j,h=>by
   simp only[iterT]
   rcases Nat.lt_or_ge j n with h1 | h1
   ·rw[List.getD,List.getElem?_append_left (by rw[iterT_len];exact h1)]
    exact iterT_at f a n i j h1
   ·obtain rfl:j=n:=by omega
    rw[List.getD,List.getElem?_append_right (by rw[iterT_len];exact Nat.le_refl _),iterT_len,Nat.sub_self];exact a _
theorem iterT_sml (f:Nat->List Cel×Nat){m:Nat}(b:∀ i,Sml m (f i).1):∀ (n i:Nat),(iterT f n i).1.flatten.length+n<=n * m/\tl (iterT f n i).1.flatten<=11 * (iterT f n i).1.flatten.length
 | 0,_=>by simp[iterT,tl]
 | n+1,i=>by
   obtain⟨c,d⟩:=iterT_sml f b n i;have a:=b (iterT f n i).2;simp only[iterT,List.flatten_append,List.flatten_cons,List.flatten_nil,List.append_nil,List.length_append,tl_app];have:=a.len;have:=a.txt;rw[Nat.add_mul]
   omega
theorem lsL_len:∀ (a:List (List Cel)) (b:List Cel),(lsL a b).length=a.flatten.length+a.length+b.length/\tl (lsL a b)=tl a.flatten+a.length+tl b
 | [],b=>by simp[lsL,tl]
 | c :: r,b=>by
   obtain⟨d,e⟩:=lsL_len r b;simp only[lsL,List.flatMap_cons,List.append_assoc,List.cons_append,List.length_cons,List.length_append,List.flatten_cons,tl_app,tl] at d e ⊢;simp only[dot,List.length_cons,List.length_nil] at d e ⊢
   omega
theorem nodeT_sml (a:List Int)(f g:Nat->List Cel×Nat){m:Nat}(w:2<=m)(b:∀ i,Sml m (f i).1)(v:∀ i,Sml m (g i).1)(i:Nat):Sml (4 * m) (nodeT a f g i).1:=by
 unfold nodeT
 simp only
 split
 ·have:=leafT_sml a (rdI a i).toNat (rdN a i)
  exact⟨this.pos,by have:=this.len;omega,this.txt⟩
 split
 ·obtain⟨o,p⟩:=iterT_sml f b (1+(rdI a i).toNat % 3) (rdN a i)
  have j:1+(rdI a i).toNat % 3<=3:=by omega
  have u:(1+(rdI a i).toNat % 3) * m<=3 * m:=Nat.mul_le_mul_right m j
  have s:1<=1+(rdI a i).toNat % 3:=by omega
  generalize 1+(rdI a i).toNat % 3=n at *
  split
  ·obtain⟨c,d⟩:=lsL_len (iterT f n (rdN a i)).1 (g (iterT f n (rdN a i)).2).1
   have h:=v (iterT f n (rdN a i)).2;rw[iterT_len] at c d;have:=h.len;have:=h.pos;have:=h.txt
   show Sml (4 * m) (lsL (iterT f n (rdN a i)).1 (g (iterT f n (rdN a i)).2).1)
   exact⟨by omega,by omega,by omega⟩
  ·obtain⟨c,d⟩:=lsL_len (iterT f n (rdN a i)).1 [nilC]
   rw[iterT_len] at c d;have q:tl [nilC]=2:=rfl;have r : [nilC].length=1:=rfl;rw[r] at c;rw[q] at d
   show Sml (4 * m) (lsL (iterT f n (rdN a i)).1 [nilC])
   exact⟨by omega,by omega,by omega⟩
 split
 ·have ha:=b (rdN a (rdN a i));have l:=b (f (rdN a (rdN a i))).2
  have:=ha.len;have:=ha.pos;have:=ha.txt;have:=l.len;have:=l.txt;have:=binU_len (rdI a (rdN a i)).toNat;exact⟨by simp,by simp;omega,by simp only[tl,tl_app,List.length_cons,List.length_append];omega⟩
 split
 ·have ha:=b (rdN a (rdN a i))
  have:=ha.len;have:=ha.pos;have:=ha.txt;have:=unaU_len (rdI a (rdN a i)).toNat;exact⟨by simp,by simp;omega,by simp only[tl,List.length_cons];omega⟩
 ·obtain⟨o,p⟩:=iterT_sml f b (1+(rdI a i).toNat % 4) (rdN a i)
  have j:1+(rdI a i).toNat % 4<=4:=by omega
  have u:(1+(rdI a i).toNat % 4) * m<=4 * m:=Nat.mul_le_mul_right m j
  have s:1<=1+(rdI a i).toNat % 4:=by omega
  generalize 1+(rdI a i).toNat % 4=n at *
  have:=nameU_len (rdI a (iterT f n (rdN a i)).2).toNat
  have t:n=1->n * m=m:=fun e=>by rw[e,Nat.one_mul]
  refine⟨by simp,?_,by simp only[tl,List.length_cons];omega⟩;simp only[List.length_cons]
  rcases(by omega:n=1∨2<=n) with e | e
  ·have:=t e
   omega
  ·omega
theorem drawT_sml (a:List Int):∀ (d i:Nat),Sml (2 * 4 ^ d) (drawT a d i).1
 | 0,i=>leafT_sml a _ _
 | 1,i=>nodeT_sml a _ _ (m:=2) (by omega) (drawT_sml a 0) (drawT_sml a 0) i
 | d+2,i=>by
   have:=nodeT_sml a (drawT a (d+1)) (drawT a d) (m:=2 * 4 ^ (d+1)) (by have:=Nat.pow_pos (n:=d+1) (show 0<4 by decide);omega) (drawT_sml a (d+1)) (fun i=>by
    have h:=drawT_sml a d i
    exact⟨h.pos,Nat.le_trans h.len (by rw[Nat.pow_succ];omega),h.txt⟩) i
   rw[Nat.pow_succ 4 (d+1)];rw[show 2 * (4 ^ (d+1) * 4)=4 * (2 * 4 ^ (d+1)) by omega];exact this
end
end Go.Proofs.YtnfnddnffoigfaaGreatDoor
