/- The row and the card of FnExactReadTerm. Own work of the verifier. Made by wip/draft/prfrt.py. -/
import Derived.Test.YtlkhmmoimplokaaGreatDoorRows
import Derived.Test.YtlkhmmoimplokaaGreatDoorTie
import Derived.Test.YtlkhmmoimplokaaGreatDoorCards
import Derived.Test.YtlkhmmoimplokaaGreatDoorUqbz
import Derived.ProofKit
import Derived.OpenShut
import Derived.Carry
import Derived.WalkSmall
import Derived.Deep.Slices
import Derived.Deep.Strs
import Derived.Stop.Joined
import Derived.Lib.LaidTab
import Derived.SevenTiedAt
import Derived.LaidMore
import Derived.LaidHandle
import Derived.LaidSub
import Derived.Shelf.Vars
namespace Go.Proofs.YtlkhmmoimplokaaGreatDoor
set_option maxRecDepth 100000
set_option maxHeartbeats 2000000
open Go Go.ChangeShapes Go.WideShapes Go.ChangeAt Go.WideMaps Go.WideElems Go.RowKit Go.Deep
theorem own:ownKnob Tryz.prog.godebug=none:=by kernel_rfl
theorem laidOut:laidOutB Tryz.prog=true:=by kernel_rfl
theorem cellsByte:Tryz.prog.cellsOf 5=1:=by kernel_rfl
theorem cellsInt:Tryz.prog.cellsOf 3=1:=by kernel_rfl
theorem cellsText:Tryz.prog.cellsOf 23=1:=by kernel_rfl
theorem cellsOp:Tryz.prog.cellsOf 48=3:=by kernel_rfl
theorem openedText {H:Type}{enc:TypeId×Value->H}{W:World}{fuel:Nat}{v:Value}{x:DataW H×List MemPlace}
  (h:DataW.trod enc Tryz.prog W 0 (fun _=>true) true fuel 23 [v]=some x) :
  ∃ (p:Option Addr) (j:Nat) (g:List Int),v = .slice p g.length j/\g.length<=9223372036854775807/\BIn W p g/\∀ y ∈ g,0<=y/\y<256:=by
 rcases open_ints Tryz.underlying23 Tryz.underlying5 cellsByte h with ⟨f,n⟩ | ⟨a,d,e,r,f,_,C,u,z,n,c,m⟩
 ·obtain rfl:v = .slice none 0 0:=by simpa using f
  exact⟨none,0,[],rfl,by decide,fun h=>absurd h (Nat.lt_irrefl 0),fun x n=>by cases n⟩
 ·obtain rfl:v = .slice (some a) d e:=by simpa using f
  simp only[if_true] at z
  unfold maxLen at u
  refine⟨some a,e,r.take d,by congr 1;simp;omega,by simp;omega,fun w=>?_,fun x q=>?_⟩
  ·have l:0<r.length:=by simp at w;omega
   obtain⟨b,o,s⟩:=a
   obtain rfl:s=none:=by simpa [Addr.add] using World.cell?_spot (c 0 l)
   refine⟨b,o,rfl,fun i t=>?_⟩
   have k:i<d:=by simp at t;omega
   have:=c i (by omega);rw[add_plain] at this;rw[this]
   simp[List.getD,k]
  ·have h:=m x (List.mem_of_mem_take q)
   have A:IntKind.u8.min=0:=rfl;have B:IntKind.u8.max=255:=rfl;simp only[Lit.wf,Bool.and_eq_true,decide_eq_true_eq] at h
   omega
theorem wf_i64 {n:Int}(h:(Lit.int .i64 n).wf=true) : -9223372036854775808<=n/\n<=9223372036854775807:=by
 have a:IntKind.i64.min = -9223372036854775808:=rfl;have b:IntKind.i64.max=9223372036854775807:=rfl;simp only[Lit.wf,Bool.and_eq_true,decide_eq_true_eq] at h
 omega
theorem three_of {d:List Value}(h:d.length=3):∃ a b c,d = [a,b,c]:=by
 match d,h with
 | [a,b,c],_=>exact⟨a,b,c,rfl⟩
theorem openedOp {H:Type}{enc:TypeId×Value->H}{W:World}{fuel:Nat}{i:List Value}{x:DataW H×List MemPlace}
  (h:DataW.trod enc Tryz.prog W 0 (fun _=>true) true fuel 48 i=some x) :
  ∃ (k n:Int) (p:Option Addr) (d:Nat) (e:List Int),i = [.slice p e.length d,.int .i64 k,.int .i64 n]/\e.length<=9223372036854775807/\BIn W p e/\(∀ y ∈ e,0<=y/\y<256)/\
    (-9223372036854775808<=k/\k<=9223372036854775807/\-9223372036854775808<=n/\n<=9223372036854775807):=by
 obtain⟨z,A,B,n,w,q,j,l,o⟩:=trod_struct3 Tryz.underlying48 h;rw[cellsOp] at q;obtain⟨a,b,c,rfl⟩:=three_of q;simp only[cellsInt,cellsText,List.drop_zero,List.take_succ_cons,List.take_zero,List.drop_succ_cons] at j l o;obtain⟨k,t,_,r⟩:=DataW.trod_int Tryz.underlying3 l;obtain⟨m,u,_,s⟩:=DataW.trod_int Tryz.underlying3 o;obtain⟨p,d,e,rfl,f,g,v⟩:=openedText j
 obtain rfl:b = .int .i64 k:=by simpa using t
 obtain rfl:c = .int .i64 m:=by simpa using u
 exact⟨k,m,p,d,e,rfl,f,g,v,(wf_i64 r).1,(wf_i64 r).2,(wf_i64 s).1,(wf_i64 s).2⟩
theorem getD_map_range (f:Nat->Cel)(n i:Nat)(h:i<n):((List.range n).map f).getD i Cel.none=f i:=by
 simp[List.getD,h]
theorem openedOps {H:Type}{enc:TypeId×Value->H}{W:World}{J:Option Addr}{d A:Nat}{Y:DataW H}{p:List MemPlace}
  (Z:DataW.Trod enc Tryz.prog W 0 (fun _=>true) true 22 (.slice J d A) Y p):∃ L:List Cel,L.length=d/\OArg W J L:=by
 obtain⟨fuel,hf⟩:=Z
 rcases open_slice Tryz.underlying22 hf with ⟨j,hx⟩ | ⟨a,P,K,m,n,D,Pl,j,hb,hl,hm,x,hx,w⟩
 ·simp[Value.cells] at j
  obtain⟨rfl,rfl,rfl⟩:=j;exact⟨[],rfl,fun h=>absurd h (Nat.lt_irrefl 0),by decide,fun i h=>by simp at h,fun i h=>by simp at h,fun i h=>by simp at h⟩
 ·simp[Value.cells] at j
  obtain⟨rfl,rfl,rfl⟩:=j;simp only[if_true] at x;subst x
  unfold maxLen at hm
  obtain⟨b,o,s⟩:=a
  have G:∀ i,i=0->i<d->s=none:=fun i C O=>by
   obtain⟨B,v,I⟩:=w i (by omega);obtain⟨k,Q,q,R,X,rfl,S,T,U,V⟩:=openedOp I;rw[cellsOp] at v;have z:=(World.cells?_some v).2.2 0 (by decide);have g:=World.cell?_spot z;rw[C] at g
   simpa [Addr.add] using g
  have u:∀ i,i<d->∃ c:Cel,s=none/\OAt W b (o+i * 3) c/\c.2.2.length<=9223372036854775807/\(∀ y ∈ c.2.2,0<=y/\y<256)/\(-9223372036854775808<=c.1/\c.1<=9223372036854775807/\-9223372036854775808<=c.2.1/\c.2.1<=9223372036854775807):=fun i r=>by
   obtain⟨B,v,I⟩:=w i (by omega);obtain⟨k,Q,q,R,X,rfl,S,T,U,V⟩:=openedOp I;rw[cellsOp] at v;have F:=(World.cells?_some v).2.2;have z:=F 0 (by decide);have M:=F 1 (by decide);have N:=F 2 (by decide);obtain rfl:s=none:=G 0 rfl (by omega);simp only[add_plain] at z M N;exact⟨(k,Q,X),rfl,⟨q,R,M,N,z,T⟩,S,U,V⟩
  obtain⟨f,l⟩:=choose_lt u
  have t:∀ i,i<d->((List.range d).map f).getD i Cel.none=f i:=fun i r=>getD_map_range f d i r
  refine⟨(List.range d).map f,by simp,fun hn=>?_,by simp;omega,fun i r=>?_,fun i r=>?_,fun i r=>?_⟩
  ·have E:0<d:=by simpa using hn
   obtain rfl:s=none:=(l 0 E).1;refine⟨b,o,rfl,fun i r=>?_⟩
   have e:i<d:=by simpa using r
   rw[t i e];exact(l i e).2.1
  ·have e:i<d:=by simpa using r
   rw[t i e];exact(l i e).2.2.1
  ·have e:i<d:=by simpa using r
   rw[t i e];exact(l i e).2.2.2.1
  ·have e:i<d:=by simpa using r
   rw[t i e];exact(l i e).2.2.2.2
theorem gTab:Tryz.prog.globalNamed "loop.example/s00095/impl.charKinds"=some 3:=by kernel_rfl
theorem tTab:(Tryz.prog.globals[3]?).map (·.type)=some 270:=by kernel_rfl
theorem cellsKind:Tryz.prog.cellsOf 244=1:=by kernel_rfl
theorem cellsTab:Tryz.prog.cellsOf 270=128:=by kernel_rfl
theorem datumTab:(Rows.laid_loop_example_s00095_impl_charKinds:DataW Unit)=Lib.tabData .u8 tab:=by rfl
abbrev laid1:List (String×DataW Unit):=[("loop.example/s00095/impl.charKinds",Rows.laid_loop_example_s00095_impl_charKinds)]
theorem tab_of {W:World}(h:laidMetH Tryz.prog laid1 W):Tab W:=by
 rw[MakeChecks.laidMetH_plain _ _ _ (by kernel_rfl)] at h
 have a:laidMet Tryz.prog [("loop.example/s00095/impl.charKinds",Lib.tabData .u8 tab)] W:=by rw[<-datumTab];exact h
 have b:=Lib.tabIs_of_head (k:=.u8) (zs:=tab) gTab tTab Tryz.underlying270 Tryz.underlying244 cellsKind cellsTab a
 exact fun i c=>b.cell gTab i c
theorem door_met (b:Os)(a:Array Value):laidMetH Tryz.prog laid1 ((World.doorLaid Tryz.prog 400 b).forCall (fun _ _=>0) ⟨#[],a,[]⟩).memory:=
 laidMetH_of_parts3 (fuel:=8) (laidMet_of_run' 8 (by kernel_rfl) (by kernel_rfl)) (by kernel_rfl) (by kernel_rfl)
theorem vars_again {H:Type}{enc:TypeId×Value->H}{W i:World}{j:List (DataW H)}{q:List MemPlace}(r:Tab W)(k:Below W.heap.size W i)(f:∀ x ∈ q,x.block<W.heap.size)
  (s:DataW.TrodVars enc Tryz.prog W (fun _=>true) ["loop.example/s00095/impl.charKinds"] j q) :
  ∃ d y,j = [d]/\DataW.TrodVars enc Tryz.prog i (fun b=>decide (b<W.heap.size)) ["loop.example/s00095/impl.charKinds"] [d] y:=by
 obtain⟨g,t,m,fuel,d,p,rfl,c,l,v,u,rfl⟩:=trodVars_one s;obtain rfl:=Option.some.inj (gTab.symm.trans c);obtain rfl:=Option.some.inj (tTab.symm.trans l);have e:3<W.heap.size:=World.block_lt_of_cell? _ _ (r 0 (by decide));have h:=var?_below k c e v
 have n:DataW.Trod enc Tryz.prog W 0 (fun _=>true) true 270 (.agg m) d p:=⟨fuel,by simpa [Value.cells] using u⟩
 obtain⟨a,o⟩:=Below.trod laidOut (by kernel_rfl) (of_decide_eq_true (by kernel_rfl)) n k (fun x w=>f x (List.mem_append_right _ w));exact⟨d,_,rfl,trodVars_mk1 c l h (by simpa [Value.cells] using o)⟩
theorem openedBy {H:Type}{enc:TypeId×Value->H}{W:World}{q:Option Addr}{e f:Nat}{v:DataW H}{p:List MemPlace}
  (w:DataW.Trod enc Tryz.prog W 0 (fun _=>true) true 23 (.slice q e f) v p) :
  ∃ n:List Int,n.length=e/\e<=9223372036854775807/\BIn W q n/\Bytes n:=by
 obtain⟨fuel,y⟩:=w
 rcases open_ints Tryz.underlying23 Tryz.underlying5 cellsByte y with ⟨d,l⟩ | ⟨a,t,r,u,d,_,F,A,C,l,c,k⟩
 ·simp[Value.cells] at d
  obtain⟨rfl,rfl,rfl⟩:=d;exact⟨[],rfl,by decide,fun h=>absurd h (Nat.lt_irrefl 0),fun x l=>by cases l⟩
 ·simp[Value.cells] at d
  obtain⟨rfl,rfl,rfl⟩:=d;simp only[if_true] at C
  unfold maxLen at A
  refine⟨u.take e,by simp;omega,by omega,fun B=>?_,fun x m=>?_⟩
  ·have j:0<u.length:=by simp at B;omega
   obtain⟨b,o,s⟩:=a
   obtain rfl:s=none:=by simpa [Addr.add] using World.cell?_spot (c 0 j)
   refine⟨b,o,rfl,fun i z=>?_⟩
   have g:i<e:=by simp at z;omega
   have:=c i (by omega);rw[add_plain] at this;rw[this]
   simp[List.getD,g]
  ·have h:=k x (List.mem_of_mem_take m)
   have D:IntKind.u8.min=0:=rfl;have E:IntKind.u8.max=255:=rfl;simp only[Lit.wf,Bool.and_eq_true,decide_eq_true_eq] at h
   omega
abbrev laidL:List (String×DataW Unit):=[("errors.errorType",Rows.laid_errors_errorType),("loop.example/s00095/impl.charKinds",Rows.laid_loop_example_s00095_impl_charKinds)]
theorem gErr:Tryz.prog.globalNamed "errors.errorType"=some 1:=by kernel_rfl
theorem tRt:(Tryz.prog.cutTypes.find? (·.1 == "internal/reflectlite.rtype")).map (·.2)=some 257:=by kernel_rfl
theorem oneErr:((List.range Tryz.prog.types.size).filter fun t=>Tryz.prog.rowNamed t [101,114,114,111,114]) = [197]:=by kernel_rfl
theorem hdErr:typeHandle Tryz.prog 197 = .pointer (some ⟨4,197,none⟩):=by kernel_rfl
theorem plainL:(laidL.filter fun x=>x.2.handleName?.isNone)=laid1:=by rfl
theorem handL:(laidL.filter fun x=>x.2.handleName?.isSome) = [("errors.errorType",Rows.laid_errors_errorType)]:=by rfl
theorem tab_ofL {W:World}(h:laidMetH Tryz.prog laidL W):Tab W:=by
 have a:=(laidMetH_iff.1 h).1;rw[plainL] at a;exact tab_of (by rw[MakeChecks.laidMetH_plain _ _ _ (by kernel_rfl)];exact a)
theorem err_ofL {W:World}(h:laidMetH Tryz.prog laidL W):W.cell? ⟨1,0,none⟩=some (.iface 257 (.agg #[.pointer (some ⟨4,197,none⟩)])):=by
 have c:=(laidMetH_iff.1 h).2;rw[handL] at c;obtain⟨a,u,k,e,f,g,i,b⟩:=c _ (List.mem_singleton.2 rfl);have j:a = [101,114,114,111,114]:=(Option.some.inj e).symm;subst j;obtain rfl:=Option.some.inj (tRt.symm.trans f)
 have d:k ∈ (List.range Tryz.prog.types.size).filter fun t=>Tryz.prog.rowNamed t [101,114,114,111,114]:=List.mem_filter.2 ⟨List.mem_range.2 g,i⟩
 rw[oneErr] at d;obtain rfl:=List.mem_singleton.1 d;rw[hdErr] at b
 simpa using World.var?_cell gErr b 0
theorem max_of {W:World}(h:W.ShapedOpen Tryz.prog):∃ m,W.cell? ⟨2,0,none⟩=some (.int .i64 m):=
 cell_of_shapedOpen_int (zero:=#[.int .i64 0]) (t:=3) h (of_decide_eq_true (by kernel_rfl)) (by kernel_rfl) rfl (by kernel_rfl) (by kernel_rfl) Tryz.underlying3
theorem door_metL (b:Os)(a:Array Value):laidMetH Tryz.prog laidL ((World.doorLaid Tryz.prog 400 b).forCall (fun _ _=>0) ⟨#[],a,[]⟩).memory:=
 laidMetH_of_parts3 (fuel:=8) (laidMet_of_run' 8 (by kernel_rfl) (by kernel_rfl)) (by kernel_rfl) (by kernel_rfl)
section
variable {H:Type}{enc:TypeId×Value->H}
theorem returnsInHanded_laid_shaped {a:Assume}{C:Checked}{os:Os}{f:FuncId}{q:Func}{s:ChangeSpec}{m:List PathCond}{c n h l:Bool}{X:World->Array Value->Prop}
  (L:∀ (w K:World) (b:Array Value),w.heap=K.heap->X w b->X K b)
  (own:ownKnob C.prog.godebug=none) (o:os.Started) (r:C.prog.inits.idxOf? f=none) (F:C.prog.funcs[f]?=some q)
  (p:∃ (w:World) (d:Tape) (i:Input),w.os=os/\(w.forCall d i).Shaped C.prog/\i.vars = []/\Input.okWide C.prog (w.forCall d i) .any w.heap.size f i/\
    ((s.pre enc C.prog q m c (w.forCall d i).memory i.args/\X (w.forCall d i).memory i.args)/\sizedMet enc C.prog q (OpenSpec.ofChange s) c (w.forCall d i).memory i.args)/\a.holds C.prog (lone (Frame.enter C.prog f i.args .normal) [] (w.forCall d i)))
  (k:∀ (W:World) (u:Nat) (b:Array Value) (B E:List (DataW H)) (g:List MemPlace),
    (∀ (j:Nat) t v,q.params[j]?=some t->b[j]?=some v->Value.okWide C.prog W .any u t v)->
    DataW.Whole enc C.prog q.params.toList s.vars c W b.toList B E g->X W b->W.ShapedOpen C.prog->
    Calls C.prog f b W fun e J=>∃ v,e = .returned v/\s.post enc C.prog q c n h l W b v J) :
  ReturnsInHanded a C os f .any (fun w b=>(s.pre enc C.prog q m c w b/\X w b)/\sizedMet enc C.prog q (OpenSpec.ofChange s) c w b) (s.post enc C.prog q c n h l):=by
 refine returnsInHanded_of_calls own o r p ?_
 intro w d i _ I _ G y A
 obtain⟨_,_,_,D,x,_,_,_,_,z⟩:=G;have e:D=q:=Option.some.inj (x.symm.trans F);subst e;obtain⟨⟨⟨B,E,g,O,Q⟩,P⟩,R⟩:=y
 refine(k (w.forCall d i) w.heap.size i.args B E g z (DataW.Whole.of_heap (w':=w.forCall d i) (by rfl) O) (L _ _ _ (by rfl) P) I).mono fun e J ⟨v,M,N⟩=>?_
 subst M;exact ChangeSpec.post_blind N
end
theorem rt_lifted (os:Os)(g:os.Started)(H:Type)(enc:TypeId×Value->H) :
  ReturnsInHanded {} Tryz.checked os 3 .any (fun w a=>(Rows.fnExactReadTermSpec.pre enc Tryz.prog Tryz.f3 [] false w a/\laidMetH Tryz.prog laidL w)/\sizedMet enc Tryz.prog Tryz.f3 (OpenSpec.ofChange Rows.fnExactReadTermSpec) false w a)
   (Rows.fnExactReadTermSpec.post enc Tryz.prog Tryz.f3 false true false false):=by
 refine returnsInHanded_laid_shaped (C:=Tryz.checked) (X:=fun w _=>laidMetH Tryz.prog laidL w) (fun _ _ _ hh h=>h.of_heap hh) own g (by kernel_rfl) Tryz.func3
  (ChangeSpec.witness_shaped (enc:=enc) (C:=Tryz.checked) (os:=os) (X:=fun w _=>laidMetH Tryz.prog laidL w) false (World.doorLaid Tryz.prog 400 os) #[.slice none 0 0,.slice none 0 0] 8 rfl (World.shaped_of_RefB (by kernel_rfl) (by kernel_rfl)) (by kernel_rfl) (by kernel_rfl) (by kernel_rfl) (door_metL os _)) ?_
 intro W o a Z gs F c R P J
 have b:∀ (j:Nat) t v,Tryz.f3.params[j]?=some t->a[j]?=some v->Value.okWide Tryz.prog W .any o t v:=c;have y:=R;obtain⟨p,q,u,hV,rfl,h2,h3⟩:=R;have O:DataW.TrodAll enc Tryz.prog W 0 (fun _=>true) true Tryz.f3.params.toList a.toList Z p:=u;rw[Tryz.params3] at O b;obtain⟨v0,v1,d0,d1,K,L,rfl,rfl,rfl,M,N⟩:=trodAll_two O;obtain⟨V,S,r,rfl⟩:=okWide_slice Tryz.underlying22 (b 0 22 v0 rfl rfl);obtain⟨Y,U,s,rfl⟩:=okWide_slice Tryz.underlying23 (b 1 23 v1 rfl rfl);have Q:=tab_ofL P;have hE:=err_ofL P;obtain⟨m,hM⟩:=max_of J
 have l:∀ x ∈ K ++ L ++ q,x.block<W.heap.size:=fun x n=>by simpa using y.lt x (by simpa using n)
 have A:∀ x ∈ K,x.block<W.heap.size:=fun x n=>l x (by simp[n])
 have B:∀ x ∈ L,x.block<W.heap.size:=fun x n=>l x (by simp[n])
 have D:∀ x ∈ q,x.block<W.heap.size:=fun x n=>l x (by simp[n])
 obtain⟨T,rfl,I⟩:=openedOps M;obtain⟨xs,rfl,hm,z,hb⟩:=openedBy N;clear u c
 refine(lawRt_any V r T Y s xs m W I hb hm z ⟨Q,hM,hE⟩).mono fun e W' ⟨he,G⟩=>?_
 subst he;obtain⟨d,pv,rfl,E⟩:=vars_again Q G D hV;have i:=Below.trod laidOut (by kernel_rfl) (of_decide_eq_true (by kernel_rfl)) M G A;have k:=Below.trod laidOut (by kernel_rfl) (of_decide_eq_true (by kernel_rfl)) N G B;exact⟨_,rfl,_,_,_,[],K ++ L,pv,y,trodAll_mk1 (shut_bool Tryz.underlying4 _),trodAll_mk2 i k,E,G.frame _,fun h=>by cases h⟩
theorem fnExactReadTerm_row:Rows.FnExactReadTermSaid:=
 OpenClaim.holds_of_wide 3 Tryz.f3 rfl rfl rfl rfl rfl rfl rfl ⟨rfl,rfl,rfl,rfl,rfl⟩ rfl rfl rfl rfl rfl (by kernel_rfl) Tryz.func3 (by kernel_rfl)
  (of_decide_eq_true (by kernel_rfl)) (by unfold Func.isWrapper;first | (rw[if_pos (by decide +kernel)];kernel_rfl) | (rw[if_neg (by decide +kernel)];exact⟨rfl,rfl⟩))
  (fun b a H enc _=>rt_lifted b a H enc)
theorem fnExactReadTerm_holds:Rows.FnExactReadTermCardSaid:=
 Claim7.holds_tied_plain_at .later [] [.handle,.data] true Rows.fnExactReadTermCard.stood.harness Rows.fnExactReadTermCard.stood.looks
  fnExactReadTerm_row (fun _ h=>by cases h) (by kernel_rfl) (fun _ h=>by cases h) fnExactReadTerm_row_tie rfl ⟨rfl,rfl⟩ (by kernel_rfl) rfl
  (fun f d e b=>by
    obtain rfl:f=3:=Option.some.inj ((show Tryz.prog.funcNamed "loop.example/s00095/laws.FnExactReadTerm"=some 3 by kernel_rfl).symm.trans e) |>.symm
    obtain rfl:d=Tryz.f3:=(Option.some.inj (Tryz.func3.symm.trans b)).symm
    exact⟨by kernel_rfl,fun j t c=>by
     rw[Tryz.params3] at c
     have g:t ∈ [22,23]:=by simpa using Array.mem_of_getElem? c
     have a:([22,23].all fun u=>!Tryz.prog.wantsStandIn u)=true:=by kernel_rfl
     exact(show Tryz.prog.wantsStandIn t=false by simpa using List.all_eq_true.1 a t g)⟩)
  (by kernel_rfl)
#print axioms fnExactReadTerm_holds
end Go.Proofs.YtlkhmmoimplokaaGreatDoor
