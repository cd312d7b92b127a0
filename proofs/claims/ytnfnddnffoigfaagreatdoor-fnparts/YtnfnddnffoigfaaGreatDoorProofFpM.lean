/- The row and the card of FnParts. Own work of the verifier. -/
import Derived.Test.YtnfnddnffoigfaaGreatDoorCards
import Derived.Test.YtnfnddnffoigfaaGreatDoorUqaz
import Derived.Test.YtnfnddnffoigfaaGreatDoorFzTh
import Derived.Test.YtnfnddnffoigfaaGreatDoorFzD
import Derived.Test.YtnfnddnffoigfaaGreatDoorFzFa
import Derived.Test.YtnfnddnffoigfaaGreatDoorFzFb
import Derived.Test.YtnfnddnffoigfaaGreatDoorFzFc
import Derived.Test.YtnfnddnffoigfaaGreatDoorFzFd
import Derived.Test.YtnfnddnffoigfaaGreatDoorFzFe
import Derived.Test.YtnfnddnffoigfaaGreatDoorFzFf
import Derived.Test.YtnfnddnffoigfaaGreatDoorFzFg
import Derived.Test.YtnfnddnffoigfaaGreatDoorFzFi
import Derived.Test.YtnfnddnffoigfaaGreatDoorFzFk
import Derived.Lib.LaidTab
import Derived.Lib.LaidU8
import Derived.Carry
import Derived.LaidSub
import Derived.Stop.LaidTwo
import Derived.Stop.LaidErr
import Derived.Stop.Texts
import Derived.Shelf.Vars
import Derived.Deep.Slices
import Derived.Deep.Strs
namespace Go.Proofs.YtnfnddnffoigfaaGreatDoor
set_option maxHeartbeats 2000000
set_option maxRecDepth 100000
open Go Go.ChangeShapes Go.WideShapes Go.ChangeAt Go.WideMaps Go.WideElems Go.RowKit Go.Kit Go.Deep
set_option linter.unusedVariables false
theorem own:ownKnob Tryz.prog.godebug=none:=by kernel_rfl
theorem laidOut:laidOutB Tryz.prog=true:=by kernel_rfl
theorem cellsByteD:Tryz.prog.cellsOf 5=1:=by kernel_rfl
theorem openedCode {H:Type}{enc:TypeId×Value->H}{W:World}{q:Option Addr}{c f:Nat}{v:DataW H}{p:List MemPlace}
  (w:DataW.Trod enc Tryz.prog W 0 (fun _=>true) true 22 (.slice q c f) v p) :
  ∃ n:List Int,n.length=c/\c<=f/\c<=9223372036854775807/\BIn W q n/\Bytes n:=by
 obtain⟨fuel,y⟩:=w
 rcases open_ints Tryz.underlying22 Tryz.underlying5 cellsByteD y with ⟨e,l⟩ | ⟨a,t,r,u,e,_,A,B,D,l,d,k⟩
 ·simp[Value.cells] at e
  obtain⟨rfl,rfl,rfl⟩:=e;exact⟨[],rfl,Nat.le_refl _,by decide,fun h=>absurd h (Nat.lt_irrefl 0),fun x l=>by cases l⟩
 ·simp[Value.cells] at e
  obtain⟨rfl,rfl,rfl⟩:=e;simp only[if_true] at D
  unfold maxLen at B
  refine⟨u.take c,by simp;omega,A,by omega,fun C=>?_,fun x m=>?_⟩
  ·have j:0<u.length:=by simp at C;omega
   obtain⟨b,o,s⟩:=a
   obtain rfl:s=none:=by simpa [Addr.add] using World.cell?_spot (d 0 j)
   refine⟨b,o,rfl,fun i z=>?_⟩
   have g:i<c:=by simp at z;omega
   have:=d i (by omega);rw[add_plain] at this;rw[this]
   simp[List.getD,g]
  ·have h:=k x (List.mem_of_mem_take m)
   have E:IntKind.u8.min=0:=rfl;have F:IntKind.u8.max=255:=rfl;simp only[Lit.wf,Bool.and_eq_true,decide_eq_true_eq] at h
   omega
theorem gErr:Tryz.prog.globalNamed "errors.errorType"=some 3:=by kernel_rfl
theorem tRt:(Tryz.prog.cutTypes.find? (·.1 == "internal/reflectlite.rtype")).map (·.2)=some 260:=by kernel_rfl
theorem oneErr:((List.range Tryz.prog.types.size).filter fun t=>Tryz.prog.rowNamed t [101,114,114,111,114]) = [113]:=by kernel_rfl
theorem hdErr:typeHandle Tryz.prog 113 = .pointer (some ⟨11,113,none⟩):=by kernel_rfl
theorem handV:(laidV.filter fun x=>x.2.handleName?.isSome) = [("errors.errorType",Rows.laid_errors_errorType)]:=by rfl
theorem et_of {W:World}(h:laidMetH Tryz.prog laidV W):etG W:=by
 have c:=(laidMetH_iff.1 h).2;rw[handV] at c;obtain⟨a,u,k,e,f,g,i,b⟩:=c _ (List.mem_singleton.2 rfl);have j:a = [101,114,114,111,114]:=(Option.some.inj e).symm;subst j;obtain rfl:=Option.some.inj (tRt.symm.trans f)
 have d:k ∈ (List.range Tryz.prog.types.size).filter fun t=>Tryz.prog.rowNamed t [101,114,114,111,114]:=List.mem_filter.2 ⟨List.mem_range.2 g,i⟩
 rw[oneErr] at d;obtain rfl:=List.mem_singleton.1 d;rw[hdErr] at b
 simpa using World.var?_cell gErr b 0
theorem gFails:Tryz.prog.globalNamed "loop.example/s00095/impl.errFails"=some 0:=by kernel_rfl
theorem gBeyond:Tryz.prog.globalNamed "loop.example/s00095/impl.errBeyond"=some 1:=by kernel_rfl
theorem gFailsT:(Tryz.prog.globals[0]?).map (·.type)=some 113:=by kernel_rfl
theorem gBeyondT:(Tryz.prog.globals[1]?).map (·.type)=some 113:=by kernel_rfl
theorem cellsES:Tryz.prog.cellsOf 483=1:=by kernel_rfl
theorem cellsSt:Tryz.prog.cellsOf 9=1:=by kernel_rfl
theorem starES: "*" ++ "errors.errorString"= "*errors.errorString":=by decide
theorem rowES (u:TypeId)(h:Tryz.prog.typeName? 3 u=some "*errors.errorString"):u=459:=
 typeName_ptr_named (nm:= "errors.errorString") (by rw[starES];kernel_rfl) (by kernel_rfl) (by decide) u (by rw[starES];exact h)
theorem laidTwoV:((laidV.filter fun x=>x.2.handleName?.isNone).filter fun x=>x.1 == "loop.example/s00095/impl.errFails" || x.1 == "loop.example/s00095/impl.errBeyond") = [("loop.example/s00095/impl.errFails",Rows.laid_loop_example_s00095_impl_errFails),("loop.example/s00095/impl.errBeyond",Rows.laid_loop_example_s00095_impl_errBeyond)]:=by rfl
theorem two_at {W:World}(h:laidMetH Tryz.prog laidV W):∃ a g,W.cell? ⟨0,0,none⟩=some (erV a)/\W.cell? ⟨1,0,none⟩=some (erV g):=by
 have d:=((laidMetH_iff.1 h).1).filter fun x=>x.1 == "loop.example/s00095/impl.errFails" || x.1 == "loop.example/s00095/impl.errBeyond"
 rw[laidTwoV] at d;obtain⟨e,f,t,u,r,s,v,w,b,c,k,n,p,l,o,q,m,i,j⟩:=laid_sentinels2 d gFails gFailsT gBeyond gBeyondT Tryz.underlying113 rowES Tryz.underlying459 Tryz.underlying483 rfl rfl Tryz.underlying9 cellsES cellsSt;exact⟨e,f,by simpa using World.var?_cell gFails b 0,by simpa using World.var?_cell gBeyond c 0⟩
theorem gSp:Tryz.prog.globalNamed "strings.asciiSpace"=some 2:=by kernel_rfl
theorem tSp:(Tryz.prog.globals[2]?).map (·.type)=some 122:=by kernel_rfl
theorem cellsSp:Tryz.prog.cellsOf 122=256:=by kernel_rfl
theorem datumSp:(Rows.laid_strings_asciiSpace:DataW Unit)=Lib.tabData .u8 Lib.asciiSpaceTab:=by kernel_rfl
theorem spIn:("strings.asciiSpace",(Rows.laid_strings_asciiSpace:DataW Unit)) ∈ laidV.filter fun x=>x.2.handleName?.isNone:=List.mem_filter.2 ⟨List.mem_cons_self ..,by rfl⟩
theorem sp_of {W:World}(f:laidMetH Tryz.prog laidV W):SpIn W:=by
 have h:=(laidMetH_iff.1 f).1;obtain⟨g,t,l,fuel,p,j,k,a,e⟩:=Lib.laidMet.reads h (n:= "strings.asciiSpace") (d:=Rows.laid_strings_asciiSpace) spIn;obtain rfl:=Option.some.inj (gSp.symm.trans j);obtain rfl:=Option.some.inj (tSp.symm.trans k);rw[datumSp] at e
 have i:Lib.TabIs Tryz.prog W "strings.asciiSpace" .u8 Lib.asciiSpaceTab:=by
  unfold Lib.TabIs
  rw[a,<-Lib.cells_of_tab Tryz.underlying122 Tryz.underlying5 cellsByteD cellsSp e]
 intro c b
 rw[i.cell gSp c (by rw[Lib.asciiSpaceTab_length];exact b),Lib.asciiSpaceTab_at c b]
theorem max_of {W:World}(h:W.ShapedOpen Tryz.prog):∃ m,W.cell? ⟨5,0,none⟩=some (.int .i64 m):=
 cell_of_shapedOpen_int (zero:=#[.int .i64 0]) (t:=3) h (of_decide_eq_true (by kernel_rfl)) (by kernel_rfl) rfl (by kernel_rfl) (by kernel_rfl) Tryz.underlying3
theorem gTab:Tryz.prog.globalNamed "loop.example/s00095/impl.charKinds"=some 7:=by kernel_rfl
theorem tTab:(Tryz.prog.globals[7]?).map (·.type)=some 437:=by kernel_rfl
theorem cellsKind:Tryz.prog.cellsOf 414=1:=by kernel_rfl
theorem cellsTab:Tryz.prog.cellsOf 437=128:=by kernel_rfl
theorem datumTab:(Rows.laid_loop_example_s00095_impl_charKinds:DataW Unit)=Lib.tabData .u8 tab:=by rfl
theorem gPow:Tryz.prog.globalNamed "internal/strconv.uint64pow10"=some 6:=by kernel_rfl
theorem tPow:(Tryz.prog.globals[6]?).map (·.type)=some 411:=by kernel_rfl
theorem cellsU64:Tryz.prog.cellsOf 297=1:=by kernel_rfl
theorem cellsPow:Tryz.prog.cellsOf 411=20:=by kernel_rfl
theorem datumPow:(Rows.laid_internal_strconv_uint64pow10:DataW Unit)=Lib.tabData .u64 Lib.pow10Tab:=by rfl
theorem tabIn:("loop.example/s00095/impl.charKinds",(Rows.laid_loop_example_s00095_impl_charKinds:DataW Unit)) ∈ laidV.filter fun x=>x.2.handleName?.isNone:=List.mem_filter.2 ⟨by simp only[laidV,List.mem_cons,true_or,or_true],by rfl⟩
theorem powIn:("internal/strconv.uint64pow10",(Rows.laid_internal_strconv_uint64pow10:DataW Unit)) ∈ laidV.filter fun x=>x.2.handleName?.isNone:=List.mem_filter.2 ⟨by simp only[laidV,List.mem_cons,true_or,or_true],by rfl⟩
theorem tab_of {W:World}(c:laidMetH Tryz.prog laidV W):Tab W:=by
 have h:=(laidMetH_iff.1 c).1;obtain⟨g,t,l,fuel,p,f,k,a,b⟩:=Lib.laidMet.reads h (n:= "loop.example/s00095/impl.charKinds") (d:=Rows.laid_loop_example_s00095_impl_charKinds) tabIn;obtain rfl:=Option.some.inj (gTab.symm.trans f);obtain rfl:=Option.some.inj (tTab.symm.trans k);rw[datumTab] at b
 have e:Lib.TabIs Tryz.prog W "loop.example/s00095/impl.charKinds" .u8 tab:=by
  unfold Lib.TabIs
  rw[a,<-Lib.cells_of_tab Tryz.underlying437 Tryz.underlying414 cellsKind cellsTab b]
 exact fun i j=>e.cell gTab i j
theorem pow_of {W:World}(c:laidMetH Tryz.prog laidV W):TabP W:=by
 have h:=(laidMetH_iff.1 c).1;obtain⟨g,t,i,fuel,p,e,f,a,b⟩:=Lib.laidMet.reads h (n:= "internal/strconv.uint64pow10") (d:=Rows.laid_internal_strconv_uint64pow10) powIn;obtain rfl:=Option.some.inj (gPow.symm.trans e);obtain rfl:=Option.some.inj (tPow.symm.trans f);rw[datumPow] at b
 show Lib.TabIs Tryz.prog W "internal/strconv.uint64pow10" .u64 Lib.pow10Tab
 unfold Lib.TabIs
 rw[a,<-Lib.cells_of_tab Tryz.underlying411 Tryz.underlying297 cellsU64 cellsPow b]
section
variable {H:Type}{enc:TypeId×Value->H}
theorem returnsInHanded_laid_shaped {a:Assume}{C:Checked}{os:Os}{f:FuncId}{q:Func}{s:ChangeSpec}{m:List PathCond}{c n h l:Bool}{X:World->Array Value->Prop}
  (L:∀ (w K:World) (b:Array Value),w.heap=K.heap->X w b->X K b)
  (own:ownKnob C.prog.godebug=none) (o:os.Started) (r:C.prog.inits.idxOf? f=none) (F:C.prog.funcs[f]?=some q)
  (p:∃ (w:World) (d:Tape) (i:Input),w.os=os/\(w.forCall d i).Shaped C.prog/\i.vars = []/\Input.okWide C.prog (w.forCall d i) .any w.heap.size f i/\
    ((s.pre enc C.prog q m c (w.forCall d i).memory i.args/\X (w.forCall d i).memory i.args)/\sizedMet enc C.prog q (OpenSpec.ofChange s) c (w.forCall d i).memory i.args)/\a.holds C.prog (lone (Frame.enter C.prog f i.args .normal) [] (w.forCall d i)))
  (k:∀ (W:World) (u:Nat) (b:Array Value) (B E:List (DataW H)) (g:List MemPlace),
    (∀ (j:Nat) t v,q.params[j]?=some t->b[j]?=some v->Value.okWide C.prog W .any u t v)->
    DataW.Whole enc C.prog q.params.toList s.vars c W b.toList B E g->X W b->W.ShapedOpen C.prog->
    Calls C.prog f b W fun e J=>∃ v,e = .returned v/\s.post enc C.prog q c n h l W b v J) :
  ReturnsInHanded a C os f .any (fun w b=>(s.pre enc C.prog q m c w b/\X w b)/\sizedMet enc C.prog q (OpenSpec.ofChange s) c w b) (s.post enc C.prog q c n h l):=by
 refine returnsInHanded_of_calls own o r p ?_
 intro w d i _ I _ G y A
 obtain⟨_,_,_,D,x,_,_,_,_,z⟩:=G;have e:D=q:=Option.some.inj (x.symm.trans F);subst e;obtain⟨⟨⟨B,E,g,O,Q⟩,P⟩,R⟩:=y
 refine(k (w.forCall d i) w.heap.size i.args B E g z (DataW.Whole.of_heap (w':=w.forCall d i) (by rfl) O) (L _ _ _ (by rfl) P) I).mono fun e J ⟨v,M,N⟩=>?_
 subst M;exact ChangeSpec.post_blind N
end
theorem fp_lifted (os:Os)(i:os.Started)(H:Type)(enc:TypeId×Value->H) :
  ReturnsInHanded {} Tryz.checked os 3 .any (fun w d=>(Rows.fnPartsSpec.pre enc Tryz.prog Tryz.f3 [] false w d/\laidMetH Tryz.prog laidV w)/\sizedMet enc Tryz.prog Tryz.f3 (OpenSpec.ofChange Rows.fnPartsSpec) false w d)
   (Rows.fnPartsSpec.post enc Tryz.prog Tryz.f3 false true false false):=by
 refine returnsInHanded_laid_shaped (C:=Tryz.checked) (X:=fun w _=>laidMetH Tryz.prog laidV w) (fun _ _ _ hh h=>h.of_heap hh) own i (by kernel_rfl) Tryz.func3
  (ChangeSpec.witness_shaped (enc:=enc) (C:=Tryz.checked) (os:=os) (X:=fun w _=>laidMetH Tryz.prog laidV w) false (World.doorLaid Tryz.prog 400 os) #[.slice none 0 0] 8 rfl (World.shaped_of_RefB (by kernel_rfl) (by kernel_rfl)) (by kernel_rfl) (by kernel_rfl) (by kernel_rfl) (door_metV os _)) ?_
 intro W l d ds S y g Y o M
 have k:∀ (j:Nat) t v,Tryz.f3.params[j]?=some t->d[j]?=some v->Value.okWide Tryz.prog W .any l t v:=g;have r:=Y;obtain⟨p,q,m,V,rfl,h1,h2⟩:=Y;have U:DataW.TrodAll enc Tryz.prog W 0 (fun _=>true) true Tryz.f3.params.toList d.toList ds p:=m;rw[Tryz.params3] at U k;obtain⟨v0,d0,rfl,rfl,T⟩:=trodAll_one U;obtain⟨Z,O,z,rfl⟩:=okWide_slice Tryz.underlying22 (k 0 22 v0 rfl rfl);obtain⟨ea,A,D,E⟩:=two_at o
 have L:∀ x ∈ p,x.block<W.heap.size:=fun x hx=>by simpa using r.lt x (List.mem_append_left _ hx)
 obtain⟨xs,N,hc,hm,K,hb⟩:=openedCode T;have n:=et_of o;have I:=sp_of o;have G:=pow_of o;have J:=tab_of o;obtain⟨mx,F⟩:=max_of M;clear m g
 refine(lawFp_any Z z O xs ea A mx W N.symm hb hc hm K ⟨⟨D,E,n,I⟩,G,⟨J,F,n⟩⟩).mono fun e W' ⟨he,B⟩=>?_
 subst he;have u:=Below.trodVars laidOut B (by kernel_rfl) V;have s:=Below.trod laidOut (by kernel_rfl) (of_decide_eq_true (by kernel_rfl)) T B L
 obtain⟨P,Q,R,rfl⟩:∃ P Q R,S = [P,Q,R]:=by
  match S,V with
  | [],h=>exact h.elim
  | [_],⟨_,_,_,_,_,_,_,_,_,_,h,_⟩=>exact h.elim
  | [_,_],⟨_,_,_,_,_,_,_,_,_,_,⟨_,_,_,_,_,_,_,_,_,_,h,_⟩,_⟩=>exact h.elim
  | [a,b,c],_=>exact⟨a,b,c,rfl⟩
  | _ :: _ :: _ :: _ :: _,⟨_,_,_,_,_,_,_,_,_,_,⟨_,_,_,_,_,_,_,_,_,_,⟨_,_,_,_,_,_,_,_,_,_,h,_⟩,_⟩,_⟩=>exact h.elim
 exact⟨_,rfl,_,_,_,[],p,q,r,trodAll_mk1 (shut_bool Tryz.underlying4 _),trodAll_mk1 s,u,B.frame _,fun h=>by cases h⟩
theorem and2 {a b:Bool}(ha:a=true)(c:b=true):(a && b)=true:=by rw[ha,c];rfl
theorem jfAll:joinedFacts Tryz.prog 3 Tryz.f3 Rows.fnPartsSpec Rows.fnPartsRow=true:=by
 unfold joinedFacts
 exact(and2 (and2 (and2 (and2 (and2 (and2 (and2 (and2 (and2 (and2 (and2 (and2 (and2 (and2 (and2 (and2 (and2 (and2 (and2 (and2 (and2 (and2 (and2 (and2 (and2 (and2 (and2 (and2 (and2 (and2 (and2 jf0 jf1) jf2) jf3) jf4) jf5) jf6) jf7) jf8) jf9) jf10) jf11) jf12) jf13) jf14) jf15) jf16) jf17) jf18) jf19) jf20) jf21) jf22) jf23) jf24) jf25) jf26) jf27) jf28) jf29) jf30) jf31)
theorem fnParts_row:Rows.FnPartsSaid:=
 OpenClaim.holds_of_wide 3 Tryz.f3 rfl rfl rfl rfl rfl rfl rfl ⟨rfl,rfl,rfl,rfl,rfl⟩ rfl rfl rfl rfl rfl cf5 Tryz.func3 jfAll
  jfi jfw
  (fun b a H enc _=>fp_lifted b a H enc)
theorem cfHl:∀ f a,Tryz.pinned.checked.prog.funcNamed Rows.fnPartsRow.func=some f->Tryz.pinned.checked.prog.funcs[f]?=some a->Rows.fnPartsCard.stood.looks=Tryz.pinned.checked.prog.looks []/\∀ (j:Nat) t,a.params[j]?=some t->Tryz.pinned.checked.prog.wantsStandIn t=false:=fun f a d b=>by
 obtain rfl:f=3:=Option.some.inj (cf5.symm.trans d) |>.symm
 obtain rfl:a=Tryz.f3:=(Option.some.inj (Tryz.func3.symm.trans b)).symm
 exact⟨cf3,fun j t c=>by
  rw[Tryz.params3] at c
  have e:t ∈ [22]:=by simpa using Array.mem_of_getElem? c
  exact(show Tryz.prog.wantsStandIn t=false by simpa using List.all_eq_true.1 jfs t e)⟩
theorem fnParts_holds:Rows.FnPartsCardSaid:=
 Claim7.holds_tied_plain_at .later [] kindsV true Rows.fnPartsCard.stood.harness Rows.fnPartsCard.stood.looks
  fnParts_row (fun _ h=>by cases h) cf1 (fun _ h=>by cases h) fnParts_row_tieV rfl ⟨rfl,rfl⟩ (by kernel_rfl) rfl cfHl cf4
#print axioms fnParts_holds
end Go.Proofs.YtnfnddnffoigfaaGreatDoor
