/- Texts of LxG, ReF, RegR, RgP, LexJ, LexH, LexR, LexI, LexK. Own work of the verifier. -/
import Derived.Test.YtlkhmmoimplokaaGreatDoorUqbp
namespace Go.Proofs.YtlkhmmoimplokaaGreatDoor
set_option maxRecDepth 100000
set_option maxHeartbeats 2000000
set_option linter.unusedVariables false
section
open Go Go.RowKit
theorem next_text {i:List Int}{f:Bool}{c l:Nat}{k v:Int}{e:List Int}(m:c<i.length)(h:nextR i f c = .ok (k,l,e,v)):e.length<=100:=by
 have b:∀ g j,runR i c g j = .ok (k,l,e,v)->e.length<=100:=fun g j a=>by
  unfold runR at a
  split at a
  ·cases a
  ·cases a;simp;omega
 have d:∀ g,quoR i g c = .ok (k,l,e,v)->e.length<=100:=fun g a=>by
  unfold quoR at a
  split at a
  ·cases a
  ·split at a
   ·cases a
   ·cases a;omega
 unfold nextR nextF at h
 split at h
 ·exact b _ _ h
 split at h
 ·exact b _ _ h
 split at h
 ·unfold numR at h
  split at h
  ·cases h
  ·split at h
   ·cases h
   ·split at h
    ·cases h
    ·cases h;simp
 split at h
 ·cases h;simp
 split at h
 ·exact b _ _ h
 split at h
 ·cases h;simp
 split at h
 ·exact d _ h
 split at h
 ·exact d _ h
 split at h
 ·cases h;simp
 split at h
 ·cases h;simp
 ·cases h
theorem ttl_snoc:∀ (a:List Tok) (t:Tok),ttl (a ++ [t])=ttl a+t.2.length
 | [],t=>by simp[ttl]
 | x :: r,t=>by
   have:=ttl_snoc r t;simp only[List.cons_append,ttl]
   omega
theorem lexF_size {g:List Int}(j:Bytes g):∀ (f b:Nat) (a:Int) (d e:List Tok),lexF g f b a d = .ok e->d.length<=b->b<=g.length->ttl d<=100 * d.length->e.length<=g.length/\ttl e<=100 * e.length
 | 0,b,a,d,e,h,h1,h2,h3=>by
   unfold lexF at h
   cases h
   exact⟨by omega,h3⟩
 | f+1,b,a,d,e,h,h1,h2,h3=>by
   unfold lexF at h
   by_cases p:g.length<=b
   ·rw[if_pos p] at h
    cases h
    exact⟨by omega,h3⟩
   ·rw[if_neg p] at h
    cases m:layI g b with
    | none=>rw[m] at h;cases h
    | some n=>
      rw[m] at h;simp only at h
      by_cases o:0<n
      ·rw[if_pos o] at h
       exact lexF_size j f (b+n) a d e h (by omega) (lay_le (by omega) m) h3
      ·rw[if_neg o] at h
       cases i:nextR g (decide (a=b)) b with
       | error c=>rw[i] at h;cases h
       | ok r=>
         obtain⟨k,l,u,v⟩:=r;rw[i] at h;simp only at h;have s:=next_len j (by omega) i;have q:=next_fit j (by omega) i;have t:=next_text (by omega) i;refine lexF_size j f (b+l) _ _ e h ?_ q ?_
         ·simp only[List.length_append,List.length_singleton];omega
         ·rw[ttl_snoc];simp only[List.length_append,List.length_singleton];omega
def lexT (xs:List Int):List Tok×Int×Int:=match lexR xs with
 | .ok ts=>(ts,0,0)
 | .error (c,q)=>([],c,(q:Int))
def LexOut (w:World)(r:List Tok×Int×Int)(e:Ending)(w':World):Prop:=
 ∃ p n c,e = .returned (.tuple #[.slice p n c,.int .i64 r.2.1,.int .i64 r.2.2])/\OwnK w' w.heap.size p n c r.1/\Below w.heap.size w w'
theorem lexOut_of {w b:World}{d:List Int}{e:Ending}(h:LexSOut w (lexR d) e b):LexOut w (lexT d) e b:=by
 unfold lexT
 unfold LexSOut at h
 split at h
 ·rename_i f a
  rw[a];exact h
 ·rename_i c q a
  rw[a];exact⟨none,0,0,h.1,OwnK.nil _ _,h.2⟩
theorem byteI_up {a:List Int}(b:Bytes a)(i:Nat)(h:0<=byteI a i):byteI a i<256:=by have:=byteI_rng b i;omega
theorem byteI_pos {a:List Int}(b:Bytes a){i:Nat}(h:i<a.length):0<=byteI a i:=by
 rw[byteI_lt h,List.getD,List.getElem?_eq_getElem h];exact(b _ (List.getElem_mem h)).1
theorem byte_snoc {a:List Int}{x:Int}(h:Byte a)(b:0<=x)(c:x<256):Byte (a ++ [x]):=fun y d=>by
 rcases List.mem_append.1 d with h' | h'
 ·exact h y h'
 ·rw[List.mem_singleton.1 h'];exact⟨b,c⟩
theorem txtF_byte {e:List Int}(c:Bytes e){q:Int}(b:0<=q/\q<256):∀ (f i:Nat) (d a:List Int) (j:Nat),txtF e q f i d=some (a,j)->Byte d->Byte a
 | 0,i,d,a,j,h,_=>by cases h
 | f+1,i,d,a,j,h,hy=>by
   unfold txtF at h
   split at h
   ·split at h
    ·exact txtF_byte c b f _ _ a j h (byte_snoc hy b.1 b.2)
    ·cases h;exact hy
   ·split at h
    ·split at h
     ·exact txtF_byte c b f _ _ a j h hy
     ·split at h
      ·cases h
      ·exact txtF_byte c b f _ _ a j h (byte_snoc hy (Int.emod_nonneg _ (by decide)) (Int.emod_lt_of_pos _ (by decide)))
    ·split at h
     ·rename_i g
      exact txtF_byte c b f _ _ a j h (byte_snoc hy (by omega) (byteI_up c i (by omega)))
     ·cases h
theorem next_tok {g:List Int}{s:Bool}{a l:Nat}{k v:Int}{i:List Int}(r:Bytes g)(u:a<g.length)(I:g.length<=10000)(h:nextR g s a = .ok (k,l,i,v)):TokG ((k,(a:Int),(l:Int),v),i):=by
 have G:=next_len r u h;have H:=next_fit r u h;have B:=next_text u h
 have t:0<=byteI g a/\byteI g a<256:=by
  have z:0<=byteI g a:=byteI_pos r u;exact⟨z,byteI_up r a z⟩
 have o:(1<=k/\k<=7)/\(0<=v/\v<=1000000000000000)/\Byte i/\(k=2->i≠[]):=by
  have d:∀ f A,1<=f->f<=7->runR g a f A = .ok (k,l,i,v)->(1<=k/\k<=7)/\(0<=v/\v<=1000000000000000)/\Byte i/\(k=2->i≠[]):=fun f A w x c=>by
   unfold runR at c
   split at c
   ·cases c
   ·cases c
    refine⟨⟨w,x⟩,⟨by decide,by decide⟩,fun y m=>r y (List.mem_of_mem_drop (List.mem_of_mem_take m)),fun _ e=>?_⟩;have:=congrArg List.length e
    simp at this;omega
  have p:∀ f,1<=f->f<=7->f≠2->quoR g f a = .ok (k,l,i,v)->(1<=k/\k<=7)/\(0<=v/\v<=1000000000000000)/\Byte i/\(k=2->i≠[]):=fun f w x C c=>by
   unfold quoR at c
   split at c
   ·cases c
   ·rename_i J j F
    split at c
    ·cases c
    ·cases c
     exact⟨⟨w,x⟩,⟨by decide,by decide⟩,txtF_byte r t _ _ _ _ _ F (fun y m=>by cases m),fun e=>absurd e C⟩
  have b:Byte [byteI g a]:=fun y m=>by rw[List.mem_singleton.1 m];exact t
  unfold nextR nextF at h
  split at h
  ·exact d _ _ (by decide) (by decide) h
  split at h
  ·exact d _ _ (by decide) (by decide) h
  split at h
  ·unfold numR at h
   split at h
   ·cases h
   ·rename_i V q D
    have E:=numI_rng r D
    split at h
    ·cases h
    ·split at h
     ·cases h
     ·cases h
      exact⟨⟨by decide,by decide⟩,⟨E.2.2.1,by omega⟩,(fun y m=>by cases m),fun e=>absurd e (by decide)⟩
  split at h
  ·cases h
   exact⟨⟨by decide,by decide⟩,⟨by decide,by decide⟩,(fun y m=>by cases m),fun e=>absurd e (by decide)⟩
  split at h
  ·exact d _ _ (by decide) (by decide) h
  split at h
  ·cases h
   exact⟨⟨by decide,by decide⟩,⟨by decide,by decide⟩,b,fun e=>absurd e (by decide)⟩
  split at h
  ·exact p _ (by decide) (by decide) (by decide) h
  split at h
  ·exact p _ (by decide) (by decide) (by decide) h
  split at h
  ·cases h
   exact⟨⟨by decide,by decide⟩,⟨by decide,by decide⟩,b,fun e=>absurd e (by decide)⟩
  split at h
  ·cases h
   exact⟨⟨by decide,by decide⟩,⟨by decide,by decide⟩,b,fun e=>absurd e (by decide)⟩
  ·cases h
 exact⟨o.1,⟨by simp only;omega,by simp only;omega⟩,⟨by simp only;omega,by simp only;omega⟩,o.2.1,⟨o.2.2.1,B⟩,o.2.2.2⟩
theorem lexF_tok {g:List Int}(i:Bytes g)(m:g.length<=10000):∀ (f b:Nat) (a:Int) (d e:List Tok),lexF g f b a d = .ok e->(∀ t ∈ d,TokG t)->∀ t ∈ e,TokG t
 | 0,b,a,d,e,h,h1=>by
   unfold lexF at h
   cases h
   exact h1
 | f+1,b,a,d,e,h,h1=>by
   unfold lexF at h
   by_cases q:g.length<=b
   ·rw[if_pos q] at h
    cases h
    exact h1
   ·rw[if_neg q] at h
    cases p:layI g b with
    | none=>rw[p] at h;cases h
    | some n=>
      rw[p] at h;simp only at h
      by_cases o:0<n
      ·rw[if_pos o] at h
       exact lexF_tok i m f (b+n) a d e h h1
      ·rw[if_neg o] at h
       cases j:nextR g (decide (a=b)) b with
       | error c=>rw[j] at h;cases h
       | ok r=>
         obtain⟨k,l,u,v⟩:=r;rw[j] at h;simp only at h
         refine lexF_tok i m f (b+l) _ _ e h fun t s=>?_
         rcases List.mem_append.1 s with h' | h'
         ·exact h1 t h'
         ·rw[List.mem_singleton.1 h'];exact next_tok i (by omega) m j
theorem lexT_tok {a:List Int}(c:Bytes a):(∀ t ∈ (lexT a).1,TokG t)/\(lexT a).1.length<=10000:=by
 unfold lexT
 cases h:lexR a with
 | error r=>exact⟨fun t b=>by simp at b,by simp⟩
 | ok g=>
   unfold lexR at h
   split at h
   ·cases h
   ·rename_i f
    unfold lexI at h
    have d:=lexF_tok c (by omega) _ _ _ _ _ h (fun t b=>by cases b);have e:=(lexF_size c _ _ _ _ _ h (by simp) (by omega) (by simp[ttl])).1;exact⟨d,by simp only;omega⟩
theorem lexF_codeR {g:List Int} : ∀ (f d:Nat) (a:Int) (b:List Tok) (r:Int×Nat),lexF g f d a b = .error r->r.1≠0
 | 0,d,a,b,r,h=>by cases h
 | f+1,d,a,b,r,h=>by
   unfold lexF at h
   split at h
   ·cases h
   ·split at h
    ·cases h;show(2:Int)≠0;decide
    ·split at h
     ·exact lexF_codeR f _ _ _ _ h
     ·split at h
      ·rename_i c e
       cases h
       have:=next_code e
       show c≠0
       omega
      ·exact lexF_codeR f _ _ _ _ h
theorem lexR_code {a:List Int}{r:Int×Nat}(h:lexR a = .error r):r.1≠0:=by
 unfold lexR at h
 split at h
 ·cases h;show(3:Int)≠0;decide
 ·exact lexF_codeR _ _ _ _ _ h
section
variable {P:Program}{ops:Array Oper}{Q:Exit->Act->World->Prop}{n k:Nat}
theorem upon_more {o:Oper}{a:Act}{K f:Act->World->Prop}{r:Result Next}(c:∀ a w,K a w->f a w)(h:o.upon P a K Q r):o.upon P a f Q r:=by
 cases r with
 | ok x g=>
   cases x <;> simp only[Oper.upon] at h ⊢ <;>
    first
     | exact c _ _ h
     | exact Calls.mono h (fun e d b=>by cases e <;> first | exact c _ _ b | exact b)
     | exact Rows.mono h (fun v d b=>c _ _ b)
     | exact h
 | halt x g=>cases x <;> simp only[Oper.upon] at h ⊢ <;> exact h
theorem wpOpsIn_of (c:noDefer ops=true)(b:¬ LetsOut Q):∀ (l:List Nat) (a:Act) (w:World),wpOps P ops Q l a w->wpOpsIn (Fence.wide.inRound k) n P ops Q l a w
 | [],a,w,h=>h
 | i :: rest,a,w,h=>by
   unfold wpOps at h
   unfold wpOpsIn
   cases d:ops[i]? with
   | none=>
     simp only[d] at h ⊢;exact wpOpsIn_of c b rest a w h
   | some o=>
     simp only[d] at h ⊢
     split
     ·rename_i f
      simp only[f,if_true] at h
      rcases h with h | h
      ·refine⟨fun _ _=>trivial,?_⟩
       have e:o.semAt (Fence.wide.inRound k).round a.eval=execOp a.eval o:=Oper.semAt_some k _ _ (noDefer_spec c d);rw[e];exact upon_wide (upon_more (fun g m j=>wpOpsIn_of c b rest g m j) h)
      ·exact absurd h.2 b
     ·rename_i f
      refine⟨fun _ _=>trivial,wpOpsIn_of c b rest _ _ ?_⟩
      simpa [f] using h
theorem wpIn_region_round {id:Nat}{a:Act}{w:World}(d:noDefer ops=true)(h:wpList P ops (fun e a w=>e = .normal/\Q .normal a w) ops.toList a w):(Code.region id ops false).wpIn (Fence.wide.inRound k) n P Q a w:=by
 have b:wpOps P ops (fun e a w=>e = .normal/\Q .normal a w) (List.range ops.size) a w:=by rw[List.range_eq_range',<-Array.length_toList,wpOps_eq_wpList ops.toList 0 (by simp)];exact h
 have c:wpOpsIn (Fence.wide.inRound k) n P ops (fun e a w=>e = .normal/\Q .normal a w) (List.range ops.size) a w:=wpOpsIn_of d (fun h=>by simp[LetsOut] at h) _ _ _ b;exact wpIn_mono (wpIn_region c) (fun e a w h=>h.1▸h.2)
end
theorem OwnT.grownS {W c:World}{B S l j:Nat}{m:Option Addr}{t:List Int}(h:OwnT W B m l j t)(r:S<B)(G:W.grownBy c (some S)):OwnT c B m l j t:=by
 refine⟨h.1,fun p=>?_⟩;obtain⟨g,e,o,q,d⟩:=h.2 p;refine⟨g,e,o,Nat.lt_of_lt_of_le q G.size,fun i f=>?_⟩;have b:c.heap[g]?=W.heap[g]?:=G.block g (World.block_lt_of_cell? _ _ (d i f).1) (by simp;omega);exact⟨(World.cell?_of_block (a:=⟨g,i,none⟩) b).trans (d i f).1,by rw[<-(d i f).2];simp only[World.frozen?,b]⟩
theorem OwnK.grownS {W c:World}{B S k d:Nat}{p:Option Addr}{m:List Tok}(h:OwnK W B p k d m)(s:S<B)(G:W.grownBy c (some S)):OwnK c B p k d m:=by
 obtain⟨rfl,v,t,l,e,ha⟩:=h;refine⟨rfl,v,t,⟨l.1,?_⟩,fun i j=>⟨(e i j).1,(e i j).2.grownS s G⟩,ha⟩
 rcases l.2 with o | ⟨g,a,b,u,q,f,r⟩
 ·exact .inl o
 ·exact .inr ⟨g,a,b,u,q,(G.block g (Array.getElem?_eq_some_iff.1 f).1 (by simp;omega)).trans f,r⟩
end
section
open Go Go.RowKit Go.Shelf
theorem wpIn_range_pan {P:Program}{n:Nat}{g:Operand}{y:Array Tmp}{assign body:Code}{Q:Exit->Act->World->Prop}{a:Act}{w:World}{gf:Nat}{first:Array Value}
  (N:a.eval g = .func (.func gf) first #[]) (G:∀ args w,(callFunc gf args).run P w = .ok (.enter gf args) w)
  (h:∀ (l D:Nat) (b j done:Obj) (q:World),D=w.heap.size->l=w.heap.size+1->q=(w.alloc (.deferred (some []))).alloc b->b.isCells=false->j.isCells=false->done.isCells=false->
    (∀ (args:Array Value) (W:World) (R:Ending->World->Prop),args.size=y.size->W.heap[l]?=some b->
      assign.wpIn (Fence.wide.inRound l) (n-1-1) P (Exit.then (fun s d=>d.heap[l]?=some b/\body.wpIn (Fence.wide.inRound l) (n-1-1) P (fun e _ f=>e = .normal/\f.heap[l]?=some j/\R (.returned (.bool true)) (f.putObj l b)) s (d.putObj l j)) (fun _ _ _=>False))
       { tmps:=(y.zip args).foldl (fun t (p,v)=>t.setIfInBounds p v) a.tmps,defers:=[] } W->YieldAt Fence.wide (n-1-1) P l args W R)->
    CallsIn Fence.wide (n-1) P gf (first ++ #[.func (.yield l) #[] #[]]) q (fun e x=>match e with
     | .returned _=>x.heap[l]?=some b/\Q .normal { a with defers:={ target:=.collected D,args:=#[] } :: a.defers } (x.putObj l done)
     | .panicked m=>Q (.panic m) { a with defers:={ target:=.collected D,args:=#[] } :: a.defers } x
     | .outgrown=>False)) :
  (Code.rangeFunc g y assign body).wpIn Fence.wide n P Q a w:=by
 refine wpIn_rangeFunc ?_
 intro fn z
 have F:Fence.wide.round=none:=rfl;rw[F]
 obtain⟨i,c⟩:∃ i:LoopState->Option Code->Loop,i=fun st T=>{ state:=st,pending:=T,fn,tmps:=a.tmps,params:=y,assign,body,defers:=w.heap.size }:=⟨_,rfl⟩
 obtain⟨q,u⟩:∃ q,q=(w.alloc (.deferred (some []))).alloc (.loop (i .ready none)):=⟨_,rfl⟩
 refine⟨w.heap.size+1,[{ target:=.collected w.heap.size,args:=#[] }],q,{ target:=.fn (.func gf) #[],args:=first ++ #[.func (.yield (w.heap.size+1)) #[] #[]] },q,gf,first ++ #[.func (.yield (w.heap.size+1)) #[] #[]],q,?_,?_,?_,?_,fun h=>(by cases h),?_⟩
 ·rw[u,c];exact run_enterLoop_outer _ _ _ _ _
 ·simp only[resolve,N]
  simp[go_sem]
 ·intro f' _;trivial
 ·simp[invoke,go_sem,G]
 ·refine(h _ _ (.loop (i .ready none)) (.loop (i .busy none)) (.loop (i .exhausted none)) q rfl rfl u rfl rfl rfl ?_).mono ?_
  ·intro args W R O A S
   have E:=run_yield (P:=P) (args:=args) A (by rw[c];exact O)
   have L:∀ d:World,d.heap[w.heap.size+1]?=some (.loop (i .ready none))->(Instr.beginRound (w.heap.size+1)).run P d = .ok () (d.putObj (w.heap.size+1) (.loop (i .busy none))):=fun d H=>by
    have:=run_beginRound (P:=P) H (by rw[c]);rw[this,c]
   have M:∀ f:World,f.heap[w.heap.size+1]?=some (.loop (i .busy none))->(Instr.endRound (w.heap.size+1) none).run P f = .ok (.bool true) (f.putObj (w.heap.size+1) (.loop (i .ready none))):=fun f I=>by
    have:=run_endRound (P:=P) none I;rw[this,c]
    rfl
   rw[c] at E;refine⟨fn,_,assign,body,E,roundIn_of_wpIn z (wpIn_mono S ?_)⟩;rintro e X U o
   cases e with
   | normal=>
     obtain⟨B,r⟩:=o;refine⟨_,L _ B,wpIn_mono r ?_⟩;rintro e2 Y V ⟨rfl,C,K⟩;exact⟨_,_,M _ C,K⟩
   | ret=>exact o.elim
   | exit id=>exact o.elim
   | goto t=>exact o.elim
   | panic Z=>exact o.elim
   | outgrown=>exact o.elim
  ·rintro e x o
   cases e with
   | returned v=>
     obtain⟨A,J⟩:=o;refine⟨none,_,?_,J⟩;have:=run_endLoop (P:=P) A (by rw[c];simp);rw[this,c]
   | panicked m=>exact o
   | outgrown=>exact o.elim
structure JL (w:World)(T:Nat)(ready:Obj)(ts:List Tok)(W:World):Prop where
 low:Below T w W
 top:T+6<=W.heap.size
 box:∃ p n c,W.cell? ⟨T,0,none⟩=some (.slice p n c)/\OwnK W (T+6) p n c ts
 fz:W.frozen? ⟨T,0,none⟩=false
 code:W.cell? ⟨T+1,0,none⟩=some (.int .i64 0)/\W.frozen? ⟨T+1,0,none⟩=false
 place:W.cell? ⟨T+2,0,none⟩=some (.int .i64 0)/\W.frozen? ⟨T+2,0,none⟩=false
 mark:W.heap[T+4]?=some (.deferred (some []))
 record:W.heap[T+5]?=some ready
theorem frozen_of_block {W a:World}{b o:Nat}(h:a.heap[b]?=W.heap[b]?):a.frozen? ⟨b,o,none⟩=W.frozen? ⟨b,o,none⟩:=by simp only[World.frozen?,h]
theorem JL.grown {w W f:World}{T:Nat}{b:Obj}{j:List Tok}(h:JL w T b j W)(G:W.grownBy f (some (T+3))):JL w T b j f:=by
 have l:=h.top
 have d:∀ k,k<T+6->k≠T+3->f.heap[k]?=W.heap[k]?:=fun k g i=>G.block k (by omega) (by simp;omega)
 obtain⟨p,n,c,g,i⟩:=h.box
 refine⟨h.low.grown G (by omega) (fun k e=>by cases e;omega),Nat.le_trans l G.size,⟨p,n,c,(World.cell?_of_block (a:=⟨T,0,none⟩) (d T (by omega) (by omega))).trans g,i.grownS (by omega) G⟩,(frozen_of_block (d T (by omega) (by omega))).trans h.fz,
  ⟨(World.cell?_of_block (a:=⟨T+1,0,none⟩) (d (T+1) (by omega) (by omega))).trans h.code.1,(frozen_of_block (d (T+1) (by omega) (by omega))).trans h.code.2⟩,
  ⟨(World.cell?_of_block (a:=⟨T+2,0,none⟩) (d (T+2) (by omega) (by omega))).trans h.place.1,(frozen_of_block (d (T+2) (by omega) (by omega))).trans h.place.2⟩,
  (d (T+4) (by omega) (by omega)).trans h.mark,(d (T+5) (by omega) (by omega)).trans h.record⟩
theorem hybrid_own {b:World}{T k c:Nat}{e a:Obj}{p:Option Addr}{d:List Tok}(h:OwnK b (T+6) p k c d):OwnK ((b.putObj (T+3) e).putObj (T+5) a) (T+6) p k c d:=
 (h.grownS (S:=T+3) (by omega) (grownBy_putObj' _ _ _)).grownS (S:=T+5) (by omega) (grownBy_putObj' _ _ _)
theorem lay6 (w:World)(a b c d e f:Obj)(W:World)(h:W=(((((w.alloc a).alloc b).alloc c).alloc d).alloc e).alloc f) :
  Below w.heap.size w W/\W.heap.size=w.heap.size+6/\W.heap[w.heap.size]?=some a/\W.heap[w.heap.size+1]?=some b/\W.heap[w.heap.size+2]?=some c/\W.heap[w.heap.size+3]?=some d/\W.heap[w.heap.size+4]?=some e/\W.heap[w.heap.size+5]?=some f:=by
 subst h
 have g:∀ (V:World) (o:Obj),Below w.heap.size w V->Below w.heap.size w (V.alloc o):=fun V o h=>h.alloc h.size o
 refine⟨g _ _ (g _ _ (g _ _ (g _ _ (g _ _ (g _ _ (Below.refl _ _)))))),by simp,?_,?_,?_,?_,?_,?_⟩
 ·show((((((w.heap.push a).push b).push c).push d).push e).push f)[w.heap.size]?=some a
  simp only[Array.getElem?_push,Array.size_push]
  repeat' split
  all_goals first | rfl | omega | (exact absurd trivial ‹¬True›)
 ·show((((((w.heap.push a).push b).push c).push d).push e).push f)[w.heap.size+1]?=some b
  simp only[Array.getElem?_push,Array.size_push]
  repeat' split
  all_goals first | rfl | omega | (exact absurd trivial ‹¬True›)
 ·show((((((w.heap.push a).push b).push c).push d).push e).push f)[w.heap.size+2]?=some c
  simp only[Array.getElem?_push,Array.size_push]
  repeat' split
  all_goals first | rfl | omega | (exact absurd trivial ‹¬True›)
 ·show((((((w.heap.push a).push b).push c).push d).push e).push f)[w.heap.size+3]?=some d
  simp only[Array.getElem?_push,Array.size_push]
  repeat' split
  all_goals first | rfl | omega | (exact absurd trivial ‹¬True›)
 ·show((((((w.heap.push a).push b).push c).push d).push e).push f)[w.heap.size+4]?=some e
  simp only[Array.getElem?_push,Array.size_push]
  repeat' split
  all_goals first | rfl | omega | (exact absurd trivial ‹¬True›)
 ·show((((((w.heap.push a).push b).push c).push d).push e).push f)[w.heap.size+5]?=some f
  simp only[Array.getElem?_push,Array.size_push]
  repeat' split
  all_goals first | rfl | omega | (exact absurd trivial ‹¬True›)
theorem round_before {d W V:World}{T:Nat}{f a:Obj}(G:d.grownBy W (some (T+3)))(m:T+6<=d.heap.size)(i:W.heap[T+3]?=some f)(c:W.grownBy V (some (T+5)))(g:V.heap[T+5]?=some a) :
  Below d.heap.size ((d.putObj (T+3) f).putObj (T+5) a) V:=by
 have l:=G.size;refine⟨c.os.trans G.os,c.tape.trans G.tape,c.output.trans G.output,?_,fun k j=>?_⟩
 ·have h:=Nat.le_trans G.size c.size
  simpa using h
 ·by_cases b:k=T+5
  ·subst b
   rw[World.putObj_heap_same (by simp;omega)];exact g
  ·rw[World.putObj_heap_other b,c.block k (by omega) (by simp;omega)]
   by_cases e:k=T+3
   ·subst e
    rw[World.putObj_heap_same (by omega)];exact i
   ·rw[World.putObj_heap_other e]
    exact G.block k j (by simp;omega)
theorem round_after {w W V d:World}{T g o l:Nat}{b f:Obj}{N v:List Tok}(e:JL w T b N W)(s:W.grownBy V (some (T+5)))(I:V.heap[T+5]?=some f)(c:Below (T+6) V d)(u:OwnK d (T+6) (some ⟨g,0,none⟩) o l v) :
  (d.setCell ⟨T,0,none⟩ (.slice (some ⟨g,0,none⟩) o l)).heap[T+5]?=some f/\JL w T b v ((d.setCell ⟨T,0,none⟩ (.slice (some ⟨g,0,none⟩) o l)).putObj (T+5) b)/\RK (T+3) T W ((d.setCell ⟨T,0,none⟩ (.slice (some ⟨g,0,none⟩) o l)).putObj (T+5) b):=by
 have R:=e.top;have M:=Nat.le_trans s.size c.size
 obtain⟨X,q⟩:∃ X,X=d.setCell ⟨T,0,none⟩ (.slice (some ⟨g,0,none⟩) o l):=⟨_,rfl⟩
 have p:d.grownBy X (some T):=by rw[q];exact grown_setCell d ⟨T,0,none⟩ _
 have J:X.heap.size=d.heap.size:=by rw[q];simp
 have A:∀ k,k<T+6->k≠T+5->d.heap[k]?=W.heap[k]?:=fun k m r=>(c.block k m).trans (s.block k (by omega) (by simp;omega))
 have E:∀ k,k<T+6->k≠T->X.heap[k]?=d.heap[k]?:=fun k m r=>p.block k (by omega) (by simp;omega)
 have F:d.cell? ⟨T,0,none⟩=W.cell? ⟨T,0,none⟩:=World.cell?_of_block (a:=⟨T,0,none⟩) (A T (by omega) (by omega));obtain⟨Z,U,O,C,_⟩:=e.box
 have G:X.cell? ⟨T,0,none⟩=some (.slice (some ⟨g,0,none⟩) o l):=by rw[q];exact World.cell?_setCell_same' _ _ _ (by rw[F,C];rfl)
 have H:X.frozen? ⟨T,0,none⟩=false:=by rw[q,World.frozen?_setCell,frozen_of_block (A T (by omega) (by omega))];exact e.fz
 rw[<-q]
 obtain⟨Y,i⟩:∃ Y,Y=X.putObj (T+5) b:=⟨_,rfl⟩
 rw[<-i]
 have B:∀ k,k≠T+5->Y.heap[k]?=X.heap[k]?:=fun k h=>by rw[i];exact World.putObj_heap_other h
 have K:Y.heap.size=X.heap.size:=by rw[i];simp
 have j:∀ k,k<T+6->k≠T->k≠T+5->Y.heap[k]?=W.heap[k]?:=fun k m r D=>(B k D).trans ((E k m r).trans (A k m D))
 refine⟨(E (T+5) (by omega) (by omega)).trans ((c.block (T+5) (by omega)).trans I),?_,⟨by omega,fun k m r=>j k (by omega) r (by omega)⟩⟩
 have y:Y.os=W.os:=by rw[i];exact p.os.trans (c.os.trans s.os)
 have z:Y.tape=W.tape:=by rw[i];exact p.tape.trans (c.tape.trans s.tape)
 have x:Y.output=W.output:=by rw[i];exact p.output.trans (c.output.trans s.output)
 have t:=e.low
 refine⟨⟨y.trans t.os,z.trans t.tape,x.trans t.output,by have:=t.size;omega,fun k L=>(j k (by omega) (by omega) (by omega)).trans (t.block k L)⟩,by omega,⟨_,_,_,(World.cell?_of_block (a:=⟨T,0,none⟩) (B T (by omega))).trans G,?_⟩,(frozen_of_block (B T (by omega))).trans H,
  ⟨(World.cell?_of_block (a:=⟨T+1,0,none⟩) (j (T+1) (by omega) (by omega) (by omega))).trans e.code.1,(frozen_of_block (j (T+1) (by omega) (by omega) (by omega))).trans e.code.2⟩,
  ⟨(World.cell?_of_block (a:=⟨T+2,0,none⟩) (j (T+2) (by omega) (by omega) (by omega))).trans e.place.1,(frozen_of_block (j (T+2) (by omega) (by omega) (by omega))).trans e.place.2⟩,
  (j (T+4) (by omega) (by omega) (by omega)).trans e.mark,by rw[i];exact World.putObj_heap_same (by omega)⟩
 rw[i];exact(u.grownS (S:=T) (by omega) p).grownS (S:=T+5) (by omega) (grownBy_putObj' _ _ _)
theorem alloc_grown (w:World)(o:Obj)(a:Option Nat):w.grownBy (w.alloc o) a:=grown_of_below ((Below.refl _ _).alloc (Nat.le_refl _) _) _
theorem round_world (W:World)(T:Nat)(b d a:Obj)(g:T+6<=W.heap.size):W.grownBy (((W.alloc b).putObj (T+5) a).alloc d) (some (T+5))/\(((W.alloc b).putObj (T+5) a).alloc d).heap[T+5]?=some a/\
  (((W.alloc b).putObj (T+5) a).alloc d).heap[W.heap.size]?=some b/\(((W.alloc b).putObj (T+5) a).alloc d).heap[W.heap.size+1]?=some d:=by
 have e:((W.alloc b).putObj (T+5) a).heap.size=W.heap.size+1:=by simp
 have c:∀ k,k<W.heap.size+1->(((W.alloc b).putObj (T+5) a).alloc d).heap[k]?=((W.alloc b).putObj (T+5) a).heap[k]?:=fun k f=>Below.heap_alloc _ _ _ (by omega)
 refine⟨((alloc_grown W b _).trans (grownBy_putObj' _ _ _)).trans (alloc_grown _ d _),?_,?_,?_⟩
 ·rw[c _ (by omega)];exact World.putObj_heap_same (by simp;omega)
 ·rw[c _ (by omega),World.putObj_heap_other (by omega)];exact heap_alloc_new W b
 ·have:=heap_alloc_new ((W.alloc b).putObj (T+5) a) d
  rw[e] at this;exact this
attribute [local go_sem] Oper.semAt_some
theorem stored3 {T i c:Nat}{p:Option Addr}{j:List Tok}{done:Obj}{b V Z:World}(t:V.cell? ⟨T,0,none⟩=some (.slice p i c))(u:V.cell? ⟨T+1,0,none⟩=some (.int .i64 0))(w:V.cell? ⟨T+1+1,0,none⟩=some (.int .i64 0))
  (g:OwnK b (T+6) p i c j) (d:V=b.putObj (T+5) done) (s:Z=((V.setCell ⟨T,0,none⟩ (.slice p i c)).setCell ⟨T+1,0,none⟩ (.int .i64 0)).setCell ⟨T+1+1,0,none⟩ (.int .i64 0)) :
  Z.cell? ⟨T,0,none⟩=some (.slice p i c)/\Z.cell? ⟨T+1,0,none⟩=some (.int .i64 0)/\Z.cell? ⟨T+1+1,0,none⟩=some (.int .i64 0)/\
   (∀ k,k≠T->k≠T+1->k≠T+1+1->k≠T+5->Z.heap[k]?=b.heap[k]?)/\OwnK Z (T+6) p i c j/\Z.os=b.os/\Z.tape=b.tape/\Z.output=b.output/\Z.heap.size=b.heap.size:=by
 have a:∀ (W:World) (B f o:Nat) (v:Value),B≠f->(W.setCell ⟨B,0,none⟩ v).cell? ⟨f,o,none⟩=W.cell? ⟨f,o,none⟩:=fun W B f o v h=>World.cell?_setCell_far W ⟨B,0,none⟩ ⟨f,o,none⟩ v h
 subst s;refine⟨?_,?_,?_,fun k l m q r=>?_,?_,?_,?_,?_,?_⟩
 ·rw[a _ _ _ _ _ (by omega),a _ _ _ _ _ (by omega)]
  exact World.cell?_setCell_same' _ _ _ (by rw[t];rfl)
 ·rw[a _ _ _ _ _ (by omega)]
  exact World.cell?_setCell_same' _ _ _ (by rw[a _ _ _ _ _ (by omega),u];rfl)
 ·exact World.cell?_setCell_same' _ _ _ (by rw[a _ _ _ _ _ (by omega),a _ _ _ _ _ (by omega),w];rfl)
 ·rw[heap_setCell_other _ ⟨T+1+1,0,none⟩ k _ (fun e=>q (by simpa using e)),heap_setCell_other _ ⟨T+1,0,none⟩ k _ (fun e=>m (by simpa using e)),heap_setCell_other _ ⟨T,0,none⟩ k _ (fun e=>l (by simpa using e)),d]
  exact World.putObj_heap_other r
 ·rw[d]
  exact(((g.grownS (S:=T+5) (by omega) (grownBy_putObj' _ _ _)).grownS (S:=T) (by omega) (grown_setCell _ ⟨T,0,none⟩ _)).grownS (S:=T+1) (by omega) (grown_setCell _ ⟨T+1,0,none⟩ _)).grownS (S:=T+1+1) (by omega) (grown_setCell _ ⟨T+1+1,0,none⟩ _)
 ·rw[d];exact(grown_setCell _ ⟨T+1+1,0,none⟩ _).os.trans ((grown_setCell _ ⟨T+1,0,none⟩ _).os.trans (grown_setCell _ ⟨T,0,none⟩ _).os)
 ·rw[d];exact(grown_setCell _ ⟨T+1+1,0,none⟩ _).tape.trans ((grown_setCell _ ⟨T+1,0,none⟩ _).tape.trans (grown_setCell _ ⟨T,0,none⟩ _).tape)
 ·rw[d];exact(grown_setCell _ ⟨T+1+1,0,none⟩ _).output.trans ((grown_setCell _ ⟨T+1,0,none⟩ _).output.trans (grown_setCell _ ⟨T,0,none⟩ _).output)
 ·rw[d];simp
theorem lexImpl_any (b A n:Nat)(xs:List Int)(m:Int)(w:World)(hb:Bytes xs)(hn:n=xs.length)(hl:n<=10000)(k9:n<=A)(hc:∀ i,i<xs.length->w.cell? ⟨b,i,none⟩=some (.int .u8 (xs.getD i 0)))(w6:b<w.heap.size)(hT:Tab w)
  (hM:w.cell? ⟨2,0,none⟩=some (.int .i64 m)) (hE:w.cell? ⟨1,0,none⟩=some (.iface 257 (.agg #[.pointer (some ⟨4,197,none⟩)]))) :
  Calls Tryz.prog 60 #[.slice (some ⟨b,0,none⟩) n A] w (LexSOut w (lexI xs 0 (-1) [])):=by
 have c1:∀ (fn:Fn) (first A:Array Value) (w:World),(Instr.makeFunc fn first A).run Tryz.prog w = .ok (.func fn first A) w:=fun _ _ _ _=>rfl
 have b9:¬ (10000:Int)<(n:Int):=by omega
 obtain⟨R,eR⟩:∃ R,R=lexI xs 0 (-1) []:=⟨_,rfl⟩
 have x5:Hid (R=lexI xs 0 (-1) []):=eR;rw[<-eR];clear eR;refine(callsIn_wide (n:=6)).1 ?_;refine callsIn_of_wp_marks Tryz.func60 rfl trivial ?_ rfl;simp only[Tryz.ntmps60,List.size_toArray,List.length_cons,List.length_nil,Nat.reduceAdd,Nat.reduceSub,Array.replicate_succ,Array.replicate_zero,List.push_toArray,List.append_toArray,List.nil_append,List.cons_append]
 gi_wp2_with fail
 obtain⟨T,B⟩:∃ T,T=w.heap.size:=⟨_,rfl⟩
 refine wpIn_range_pan (gf:=101) (first:=#[.pointer (some ⟨w.heap.size+1+1+1,0,none⟩)]) rfl (enters_of Tryz.func101 (by kernel_rfl) rfl) ?_;rintro l D s K done W1 hD hL k8 c3 c4 c5 F
 have eD:D=T+4:=by rw[hD,B];simp
 have eL:l=T+5:=by rw[hL,B];simp
 clear hD hL;subst eD;subst eL;obtain⟨x,x2,k0,k1,k2,k3,k4,k5⟩:=lay6 w _ _ _ _ _ _ W1 k8;rw[<-B] at x2 k0 k1 k2 k3 k4 k5
 have h8:Hid (JL w T s [] W1):=by
  refine⟨by rw[B];exact x,by omega,⟨none,0,0,cell_of_row _ _ 0 _ _ _ k0,OwnK.nil _ _⟩,frozen_of_row _ _ _ _ _ k0,⟨cell_of_row _ _ 0 _ _ _ k1,frozen_of_row _ _ _ _ _ k1⟩,⟨cell_of_row _ _ 0 _ _ _ k2,frozen_of_row _ _ _ _ _ k2⟩,k4,k5⟩
 have HG:Geo (T+3) b T:=⟨by rw[B];exact w6,by rw[B];exact World.block_lt_of_cell? _ _ (hT 0 (by decide)),by rw[B];exact World.block_lt_of_cell? _ _ hM,by omega⟩
 have HS:SSt W1 (T+3) b n A xs m 0 (-1):=by
  refine⟨⟨hb,hn,k9,hl,by rw[hn];exact cell_of_row _ _ 0 _ _ _ k3,cell_of_row _ _ 1 _ _ _ k3,fun j=>frozen_of_row _ _ _ _ _ k3,by omega,fun i hi=>cell_later x (hc i hi),hT.below x⟩,cell_later x hM,0,0,0,_,_,cell_of_row _ _ 2 _ _ _ k3,cell_of_row _ _ 3 _ _ _ k3,cell_of_row _ _ 4 _ _ _ k3,cell_of_row _ _ 5 _ _ _ k3,cell_of_row _ _ 6 _ _ _ k3,by decide,by decide,by decide⟩
 rw[<-B]
 show CallsIn _ _ _ _ #[.pointer (some ⟨T+3,0,none⟩),.func (.yield (T+5)) #[] #[]] W1 _
 have I:Hid _:=F;have x9:Hid (Below w.heap.size w W1):=x;clear F k0 k1 k2 k3 k4 k5 x k8;refine(tokens_in (T+3) b n A T (T+5) 5 xs m HG (JL w T s) (fun ts W X h G=>h.grown G) ?round W1 HS h8.o).mono ?post
 case round=>
  intro ts W0 W kd u t p k L ys v f h7 G w5 ho
  have hg:=f.grown G;refine I.o _ W _ rfl hg.record ?_;rw[<-B];obtain⟨p0,n0,c0,h6,y⟩:=f.box;have z:=f.top;have U:=hg.top
  obtain⟨oS,x1⟩:∃ oS,W.heap[T+3]?=some oS:=⟨_,Array.getElem?_eq_getElem (by omega)⟩
  have cT:W.cell? ⟨T,0,none⟩=some (.slice p0 n0 c0):=(World.cell?_of_block (a:=⟨T,0,none⟩) (G.block T (by omega) (by simp))).trans h6
  have c2:n0<=10000:=by rw[y.1];exact h7
  obtain⟨GV,g5,gA,gB⟩:=round_world W T (.cells #[.int .i64 kd,.int .i64 u,.int .i64 t,.slice p k L,.int .i64 v] 86) (.cells #[.int .i64 kd,.int .i64 u,.int .i64 t,.slice p k L,.int .i64 v] 86) K U
  obtain⟨J,h1⟩:∃ J,J=(W.alloc (.cells #[.int .i64 kd,.int .i64 u,.int .i64 t,.slice p k L,.int .i64 v] 86)).putObj (T+5) K:=⟨_,rfl⟩
  have e6:J.heap.size=W.heap.size+1:=by rw[h1];simp
  rw[<-h1] at GV g5 gA gB
  have M:∀ j,j<W.heap.size+1->(J.alloc (.cells #[.int .i64 kd,.int .i64 u,.int .i64 t,.slice p k L,.int .i64 v] 86)).heap[j]?=J.heap[j]?:=fun j f=>Below.heap_alloc _ _ _ (by omega)
  obtain⟨⟨a0,a1,a2,a3,a4⟩,af⟩:=five_cells ((M _ (by omega)).symm.trans gA);have e5:(J.alloc (.cells #[.int .i64 kd,.int .i64 u,.int .i64 t,.slice p k L,.int .i64 v] 86)).heap[T]?=W.heap[T]?:=GV.block T (by omega) (by simp);have b0:J.cell? ⟨T,0,none⟩=some (.slice p0 n0 c0):=(World.cell?_of_block (a:=⟨T,0,none⟩) ((M T (by omega)).symm.trans e5)).trans cT
  obtain⟨X0,h2⟩:∃ X0,X0=(W0.putObj (T+3) oS).putObj (T+5) K:=⟨_,rfl⟩
  have h3:X0.heap.size=W0.heap.size:=by rw[h2];simp
  have x3:Hid (Below X0.heap.size X0 (J.alloc (.cells #[.int .i64 kd,.int .i64 u,.int .i64 t,.slice p k L,.int .i64 v] 86))):=by rw[h3,h2];exact round_before G z x1 GV g5
  have e8:Hid (JL w T s ts W):=hg
  have w2:Hid (OwnK X0 (T+6) p0 n0 c0 ts):=by rw[h2];exact hybrid_own y
  have w3:Hid (T+6<=X0.heap.size):=by rw[h3];exact z
  have w1:Hid (OwnT (J.alloc (.cells #[.int .i64 kd,.int .i64 u,.int .i64 t,.slice p k L,.int .i64 v] 86)) X0.heap.size p k L ys):=by rw[h3];exact ho.toT.grownS (S:=T+5) (by omega) GV
  have e9:Hid _:=news_rt (r:=((kd,(u:Int),(t:Int),v),p,k,L)) gB;rw[<-e6] at e9;have x8:Hid _:=GV;have x7:Hid _:=g5;have k7:Hid _:=e5;have x4:Hid (W.cell? ⟨T,0,none⟩=some (.slice p0 n0 c0)):=cT;have b8:Hid (J.heap.size=W.heap.size+1):=e6;have k6:Hid ((W.alloc (.cells #[.int .i64 kd,.int .i64 u,.int .i64 t,.slice p k L,.int .i64 v] 86)).heap[T+5]?=some s):=(Below.heap_alloc _ _ _ (by omega)).trans hg.record;have e7:Hid _:=h1;have h9:Hid (T=w.heap.size):=B;clear f hg y h6 ho GV g5 gA gB G I x9 HS h8 HG M e5 cT e6 h3 h2 h1 x1 z U B w5 h7 x2
  gi_wp2_with fail
  refine⟨k6.o,?_⟩;rw[<-e7.o];clear e7 k6;refine wpIn_block ?_;refine wpIn_region_round (by simp[noDefer]) ?_;go_wp2_with (refine app_tok X0 _ rfl _ _ rfl (T+6) p0 n0 c0 ts rfl w2.o x3.o w3.o ⟨J.heap.size,0,none⟩ 1 rfl (kd,(u:Int),(t:Int),v) p k L ys w1.o e9.o (by omega) ?_;intro g7 n7 b7 w7 O h4 w9 b2;have x6:Hid _:=round_after e8.o x8.o x7.o h4 O;have c7:w7.cell? ⟨T,0,none⟩=some (.slice p0 n0 c0):=(World.cell?_of_block (a:=⟨T,0,none⟩) ((h4.block T (by omega)).trans k7.o)).trans x4.o;have f7:w7.frozen? ⟨T,0,none⟩=false:=(frozen_of_block ((h4.block T (by omega)).trans k7.o)).trans e8.o.fz;clear O h4 w9 b2);exact x6.o
 case post=>
  rintro e X N;rw[<-x5.o] at N
  cases R with
  | ok ts=>
    obtain⟨⟨v,rfl⟩,f⟩:=N;obtain⟨p,nn,c,h5,y⟩:=f.box;refine⟨f.record,?_⟩
    have E:∀ k,k≠T+5->(X.putObj (T+5) done).heap[k]?=X.heap[k]?:=fun k h=>World.putObj_heap_other h
    obtain⟨V,eV⟩:∃ V,V=X.putObj (T+5) done:=⟨_,rfl⟩
    rw[<-eV] at E ⊢;have v0:V.cell? ⟨T,0,none⟩=some (.slice p nn c):=(World.cell?_of_block (a:=⟨T,0,none⟩) (E T (by omega))).trans h5;have v1:V.cell? ⟨T+1,0,none⟩=some (.int .i64 0):=(World.cell?_of_block (a:=⟨T+1,0,none⟩) (E (T+1) (by omega))).trans f.code.1;have v2:V.cell? ⟨T+1+1,0,none⟩=some (.int .i64 0):=(World.cell?_of_block (a:=⟨T+2,0,none⟩) (E (T+2) (by omega))).trans f.place.1;have f0:V.frozen? ⟨T,0,none⟩=false:=(frozen_of_block (E T (by omega))).trans f.fz;have f1:V.frozen? ⟨T+1,0,none⟩=false:=(frozen_of_block (E (T+1) (by omega))).trans f.code.2;have f2:V.frozen? ⟨T+1+1,0,none⟩=false:=(frozen_of_block (E (T+2) (by omega))).trans f.place.2;have HJ:Hid (JL w T s ts X):=f;have HV:Hid (V=X.putObj (T+5) done):=eV;have HO:Hid (OwnK X (T+6) p nn c ts):=y
    have h9:Hid (T=w.heap.size):=B;clear E eV f h5 y I h8 HS HG hT hM hE hc B
    gi_wp2_with fail
    obtain⟨Z,eZ⟩:∃ Z,Z=((V.setCell ⟨T,0,none⟩ (.slice p nn c)).setCell ⟨T+1,0,none⟩ (.int .i64 0)).setCell ⟨T+1+1,0,none⟩ (.int .i64 0):=⟨_,rfl⟩
    rw[<-eZ];obtain⟨z0,z1,z2,GZ,OZ,b5,b6,b4,c6⟩:=stored3 v0 v1 v2 HO.o HV.o eZ;have b1:Z.heap[T+4]?=some (.deferred (some [])):=(GZ (T+4) (by omega) (by omega) (by omega) (by omega)).trans HJ.o.mark;have d:=HJ.o.low;have z:=HJ.o.top
    obtain⟨Y,C⟩:∃ Y,Y=Z.putObj (T+4) (.deferred none):=⟨_,rfl⟩
    have H:∀ k,k≠T+4->Y.heap[k]?=Z.heap[k]?:=fun k h=>by rw[C];exact World.putObj_heap_other h
    have y0:Y.cell? ⟨T,0,none⟩=some (.slice p nn c):=(World.cell?_of_block (a:=⟨T,0,none⟩) (H T (by omega))).trans z0;have y1:Y.cell? ⟨T+1,0,none⟩=some (.int .i64 0):=(World.cell?_of_block (a:=⟨T+1,0,none⟩) (H (T+1) (by omega))).trans z1;have y2:Y.cell? ⟨T+1+1,0,none⟩=some (.int .i64 0):=(World.cell?_of_block (a:=⟨T+1+1,0,none⟩) (H (T+1+1) (by omega))).trans z2
    have oY:OwnK Y (T+6) p nn c ts:=by rw[C];exact OZ.grownS (S:=T+4) (by omega) (grownBy_putObj' _ _ _)
    have bY:Below w.heap.size w Y:=by
     have e1:Y.os=Z.os:=by rw[C];rfl
     have e2:Y.tape=Z.tape:=by rw[C];rfl
     have e3:Y.output=Z.output:=by rw[C];rfl
     have e4:Y.heap.size=Z.heap.size:=by rw[C];simp
     rw[<-h9.o];exact⟨e1.trans (b5.trans d.os),e2.trans (b6.trans d.tape),e3.trans (b4.trans d.output),by have:=d.size;omega,fun k E=>(H k (by omega)).trans ((GZ k (by omega) (by omega) (by omega) (by omega)).trans (d.block k E))⟩
    have b3:OwnK Y w.heap.size p nn c ts:=oY.mono (by have:=h9.o;omega);refine⟨by simp,.inl ⟨_,_,rfl,run_takeDeferred b1,?_⟩⟩;rw[<-C];refine⟨by simp,.inr ⟨fun _=>by decide,_,_,99,#[.pointer (some ⟨T,0,none⟩),.pointer (some ⟨T+1,0,none⟩),.pointer (some ⟨T+1+1,0,none⟩)],rfl,by simp[invoke,go_sem],fun g _=>trivial,(lexD_idle _ (.pointer (some ⟨T,0,none⟩)) (.pointer (some ⟨T+1,0,none⟩)) (.pointer (some ⟨T+1+1,0,none⟩)) _).mono ?_⟩⟩;rintro e u' w' ⟨rfl,rfl,rfl⟩;refine⟨.tuple #[.slice p nn c,.int .i64 0,.int .i64 0],by simp[results,Tryz.results60,go_sem,y0,y1,y2],p,nn,c,rfl,b3,bY⟩
  | error r=>
    obtain⟨cd,q⟩:=r;obtain⟨w8,ts,f⟩:=N
    cases w8
    have d:=f.low;have z:=f.top;obtain⟨p,nn,c,h5,_⟩:=f.box
    obtain⟨Y,C⟩:∃ Y,Y=X.putObj (T+4) (.deferred none):=⟨_,rfl⟩
    have H:∀ k,k≠T+4->Y.heap[k]?=X.heap[k]?:=fun k h=>by rw[C];exact World.putObj_heap_other h
    have e4:Y.heap.size=X.heap.size:=by rw[C];simp
    have y0:Y.cell? ⟨T,0,none⟩=some (.slice p nn c):=(World.cell?_of_block (a:=⟨T,0,none⟩) (H T (by omega))).trans h5;have y1:Y.cell? ⟨T+1,0,none⟩=some (.int .i64 0):=(World.cell?_of_block (a:=⟨T+1,0,none⟩) (H (T+1) (by omega))).trans f.code.1;have y2:Y.cell? ⟨T+1+1,0,none⟩=some (.int .i64 0):=(World.cell?_of_block (a:=⟨T+1+1,0,none⟩) (H (T+1+1) (by omega))).trans f.place.1;have f0:Y.frozen? ⟨T,0,none⟩=false:=(frozen_of_block (H T (by omega))).trans f.fz;have f1:Y.frozen? ⟨T+1,0,none⟩=false:=(frozen_of_block (H (T+1) (by omega))).trans f.code.2;have f2:Y.frozen? ⟨T+1+1,0,none⟩=false:=(frozen_of_block (H (T+1+1) (by omega))).trans f.place.2
    have bY:Below T w Y:=⟨by rw[C];exact d.os,by rw[C];exact d.tape,by rw[C];exact d.output,by have:=d.size;omega,fun k E=>(H k (by omega)).trans (d.block k E)⟩
    have w4:Y.cell? ⟨1,0,none⟩=some (.iface 257 (.agg #[.pointer (some ⟨4,197,none⟩)])):=(bY.cell (by rw[B];exact World.block_lt_of_cell? _ _ hE)).trans hE;refine⟨by simp,.inl ⟨_,_,rfl,run_takeDeferred f.mark,?_⟩⟩;rw[<-C];refine⟨by simp,.inr ⟨fun _=>by decide,_,_,99,#[.pointer (some ⟨T,0,none⟩),.pointer (some ⟨T+1,0,none⟩),.pointer (some ⟨T+1+1,0,none⟩)],rfl,by simp[invoke,go_sem],fun g _=>trivial,(lexD_panicking _ T (T+1) (T+1+1) _ _ _ cd q Y w4 y0 y1 y2 f0 f1 f2 rfl rfl).mono ?_⟩⟩;rintro e u' w' ⟨rfl,rfl,hs⟩;refine⟨.tuple #[.slice none 0 0,.int .i64 cd,.int .i64 q],by simp[results,Tryz.results60,go_sem,hs.toks,hs.code,hs.at_],rfl,?_⟩;rw[<-B];exact⟨hs.os.trans bY.os,hs.tape.trans bY.tape,hs.output.trans bY.output,Nat.le_trans bY.size hs.size,fun k E=>(hs.block k (by omega) (by omega) (by omega) (by omega)).trans (bY.block k E)⟩
end
section
open Go Go.RowKit
theorem lexP_any (b c:Nat)(a:List Int)(m:Int)(w:World)(p:Bytes a)(r:a.length<=9000000000)(d:a.length<=c)(q:∀ i,i<a.length->w.cell? ⟨b,i,none⟩=some (.int .u8 (a.getD i 0)))(f:b<w.heap.size)(o:Tab w)
  (l:w.cell? ⟨2,0,none⟩=some (.int .i64 m)) (j:w.cell? ⟨1,0,none⟩=some (.iface 257 (.agg #[.pointer (some ⟨4,197,none⟩)]))) :
  Calls Tryz.prog 60 #[.slice (some ⟨b,0,none⟩) a.length c] w (LexSOut w (lexR a)):=by
 unfold lexR
 by_cases g:10000<a.length
 ·rw[if_pos g]
  exact(lexLong_any _ c a.length w g r).mono fun e s h=>h
 ·rw[if_neg g]
  exact lexImpl_any b c a.length a m w p rfl (by omega) d q f o l j
end
end Go.Proofs.YtlkhmmoimplokaaGreatDoor
