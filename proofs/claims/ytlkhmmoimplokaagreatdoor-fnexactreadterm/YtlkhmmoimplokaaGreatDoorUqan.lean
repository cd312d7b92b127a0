/- Texts of OpsM2. Own work of the verifier. -/
import Derived.Test.YtlkhmmoimplokaaGreatDoorUqam
import Derived.Test.YtlkhmmoimplokaaGreatDoorUqak
namespace Go.Proofs.YtlkhmmoimplokaaGreatDoor
set_option maxRecDepth 100000
set_option maxHeartbeats 2000000
open Go Go.RowKit Go.Maps
set_option linter.unusedVariables false
def kO (c:Cel):OKey:=(strOfNums c.2.2,srt c.2.1)
theorem kO_key {x y:Cel} : kO x=kO y↔keyC x=keyC y:=by
 constructor
 ·intro h
  have b:=(Prod.mk.inj h).1;have a:=(Prod.mk.inj h).2;rw[keyC,keyC,b,a]
 ·intro h
  exact Prod.ext (ba_ext (Prod.mk.inj h).1) (Prod.mk.inj h).2
def opElem (v:Value):Option (DataW Unit×List MemPlace):=
 match v with
 | .agg ⟨[.string s,.int .i64 p,.int .i64 t]⟩=>some (.agg [.lit (.string s.data.toList),.lit (.int .i64 p),.lit (.int .i64 t)],[])
 | _=>none
def encV (c:Cel):Value:=.agg #[.string (strOfNums c.2.2),.int .i64 c.1,.int .i64 c.2.1]
def encD (c:Cel):DataW Unit:=.agg [.lit (.string (strOfNums c.2.2).data.toList),.lit (.int .i64 c.1),.lit (.int .i64 c.2.1)]
theorem opElem_enc (c:Cel):opElem (encV c)=some (encD c,[]):=rfl
theorem opElem_inv {v:Value}{y:DataW Unit×List MemPlace}(h:opElem v=some y):∃ x:ByteArray×Int×Int,v = .agg #[.string x.1,.int .i64 x.2.1,.int .i64 x.2.2]/\y=(.agg [.lit (.string x.1.data.toList),.lit (.int .i64 x.2.1),.lit (.int .i64 x.2.2)],[]):=by
 unfold opElem at h
 split at h
 ·rename_i s p t
  exact⟨(s,p,t),rfl,(Option.some.inj h).symm⟩
 ·cases h
theorem opElem_at {v:Value}{c:Cel}{b:List MemPlace}(h:opElem v=some (encD c,b)):v=encV c:=by
 obtain⟨x,rfl,d⟩:=opElem_inv h;have a:=congrArg Prod.fst d;simp only[encD,DataW.agg.injEq,List.cons.injEq,DataW.lit.injEq,Lit.string.injEq,Lit.int.injEq,and_true,true_and] at a;have e:x.1=strOfNums c.2.2:=ba_ext (by rw[ByteArray.toList_eq,ByteArray.toList_eq];exact a.1.symm);rw[encV,e,a.2.1,a.2.2]
def zD:DataW Unit:=.agg [.lit (.string []),.lit (.int .i64 0),.lit (.int .i64 0)]
def okT (c:Cel):Prop:=Byte c.2.2/\c.2.2.length<=1000000
def Apart (T:List Cel):Prop:=T.Pairwise (fun x y=>keyC x≠keyC y)
def OpMap (w:World)(b N:Nat)(T:List Cel):Prop:=∃ D:DataW Unit,w.ownsMap Tryz.prog 130 opElem b N D/\(∀ c ∈ T,okT c)/\Apart T/\Maps.size D=T.length/\
 (∀ (f:OKey) l,keyOf Tryz.prog 130 (.agg #[.string f.1,.int .i64 f.2])=some l->(Maps.has D l=true↔∃ c ∈ T,kO c=f))/\(∀ c ∈ T,D.atKey (okk (kO c)) zD=encD c)
theorem OpMap.lt {w:World}{b N:Nat}{T:List Cel}(h:OpMap w b N T):b<w.heap.size:=by obtain⟨D,h,_⟩:=h;exact h.lt
theorem OpMap.of_block {w c:World}{b N:Nat}{T:List Cel}(h:OpMap w b N T)(g:c.heap[b]?=w.heap[b]?):OpMap c b N T:=by
 obtain⟨D,⟨f,a,e,r⟩,d⟩:=h;exact⟨D,⟨f,a,g.trans e,r⟩,d⟩
theorem OpMap.below {w w':World}{b N:Nat}{T:List Cel}(h:OpMap w b N T)(a:Below w.heap.size w w'):OpMap w' b N T:=h.of_block (a.block _ h.lt)
theorem OpMap.made (w:World):OpMap (w.alloc (.map #[] 0)) w.heap.size 0 []:=⟨_,World.ownsMap_made _ _ _ _,fun _ h=>by simp at h,List.Pairwise.nil,rfl,fun f l _=>⟨fun h=>by simp[Maps.has] at h,fun ⟨c,h,_⟩=>by cases h⟩,fun x a=>by cases a⟩
theorem okk_lit (f:OKey):WideAt.IsKeyLit (okk f):=trivial
theorem srt_range (t:Int):0<=srt t/\srt t<=1000000:=by rcases srt_two t with h | h <;> omega
theorem kO_ok {c:Cel}(h:okT c):(kO c).1.size<=1000000/\0<=(kO c).2/\(kO c).2<=1000000:=⟨by rw[kO];show(strOfNums c.2.2).size<=_;rw[strOfNums_size];exact h.2,srt_range _⟩
theorem keyOf_kO {c:Cel}(h:okT c):keyOf Tryz.prog 130 (.agg #[.string (kO c).1,.int .i64 (kO c).2])=some (okk (kO c)):=keyOk (kO c) (kO_ok h).1 (kO_ok h).2.1 (kO_ok h).2.2
def dropK (T:List Cel)(k:List UInt8×Int):List Cel:=T.filter (fun x=>decide (keyC x≠k))
theorem mem_dropK {T:List Cel}{k:List UInt8×Int}{x:Cel} : x ∈ dropK T k↔x ∈ T/\keyC x≠k:=by simp[dropK]
theorem dropK_len:∀ (T:List Cel) (k:List UInt8×Int),Apart T->(dropK T k).length+(if hasK T k then 1 else 0)=T.length
 | [],k,_=>rfl
 | x :: r,k,h=>by
   have b:=List.pairwise_cons.1 h;have a:=dropK_len r k b.2
   by_cases e:keyC x=k
   ·have c:hasK r k=false:=by
     rw[hasK,List.any_eq_false]
     intro z g f
     exact b.1 z g (e.trans (of_decide_eq_true f).symm)
    have ha:hasK (x :: r) k=true:=by simp[hasK,e]
    rw[c] at a;rw[ha];simp only[dropK,List.filter_cons,e] at a ⊢
    simpa using a
   ·have ha:hasK (x :: r) k=hasK r k:=by simp[hasK,e]
    rw[ha]
    have d:dropK (x :: r) k=x :: dropK r k:=by simp[dropK,e]
    rw[d,List.length_cons,List.length_cons]
    omega
theorem hasK_iff {T:List Cel}{k:List UInt8×Int} : hasK T k=true↔∃ c ∈ T,keyC c=k:=by simp[hasK]
theorem has_iff {T:List Cel}{D:DataW Unit}(a:∀ (f:OKey) l,keyOf Tryz.prog 130 (.agg #[.string f.1,.int .i64 f.2])=some l->(Maps.has D l=true↔∃ c ∈ T,kO c=f)){o:Cel}(b:okT o):Maps.has D (okk (kO o))=hasK T (keyC o):=by
 rw[Bool.eq_iff_iff,a (kO o) _ (keyOf_kO b),hasK_iff];simp only[kO_key]
theorem OpMap.put {w w':World}{b N:Nat}{T:List Cel}{D:DataW Unit}{o:Cel}(k:okT o)
  (E:w.ownsMap Tryz.prog 130 opElem b N D/\(∀ c ∈ T,okT c)/\Apart T/\Maps.size D=T.length/\(∀ (f:OKey) l,keyOf Tryz.prog 130 (.agg #[.string f.1,.int .i64 f.2])=some l->(Maps.has D l=true↔∃ c ∈ T,kO c=f))/\(∀ c ∈ T,D.atKey (okk (kO c)) zD=encD c))
  (B:w'.ownsMap Tryz.prog 130 opElem b (N+1) (D.put (okk (kO o)) (encD o))):OpMap w' b (N+1) (dropK T (keyC o) ++ [o]):=by
 obtain⟨a,j,i,n,d,m⟩:=E;have z:=a.isMap;refine⟨_,B,fun c g=>?_,?_,?_,fun f l q=>?_,fun c g=>?_⟩
 ·rcases List.mem_append.1 g with h | h
  ·exact j c (mem_dropK.1 h).1
  ·simp at h;rw[h];exact k
 ·refine List.pairwise_append.2 ⟨i.filter _,by simp,fun x F y t=>?_⟩
  simp at t
  rw[t];exact(mem_dropK.1 F).2
 ·rw[size_put (a.tidy lawOk),has_iff d k,n,List.length_append]
  have:=dropK_len T (keyC o) i
  by_cases u:hasK T (keyC o)=true
  ·simp[u] at this ⊢;omega
  ·simp[u] at this ⊢;omega
 ·by_cases e:kO o=f
  ·subst e
   have C:l=okk (kO o):=by have:=keyOf_kO k;rw[q] at this;exact Option.some.inj this
   rw[C,has_put_same z (okk_lit _)];exact⟨fun _=>⟨o,by simp,rfl⟩,fun _=>rfl⟩
  ·have r:l≠okk (kO o):=fun h=>e (by
    have s:=keyOf_kO k;rw[<-h] at s;have:=lawOk.inj q s;obtain⟨G,A⟩:=f
    have v:(kO o).fst=G/\(kO o).snd=A:=by simpa using this.symm
    exact Prod.ext v.1 v.2)
   rw[has_put_other r,d f l q]
   constructor
   ·rintro⟨c,g,rfl⟩
    exact⟨c,List.mem_append_left _ (mem_dropK.2 ⟨g,fun h=>e (kO_key.2 h.symm)⟩),rfl⟩
   ·rintro⟨c,g,rfl⟩
    rcases List.mem_append.1 g with h | h
    ·exact⟨c,(mem_dropK.1 h).1,rfl⟩
    ·simp at h;exact absurd (by rw[h]) e
 ·rcases List.mem_append.1 g with h | h
  ·have p:=mem_dropK.1 h
   rw[atKey_put_other (fun h=>p.2 (kO_key.1 (ok_inj (kO_ok (j c p.1)) (kO_ok k) h)))];exact m c p.1
  ·simp at h
   rw[h,atKey_put_same z (okk_lit _)]
theorem key_any (s:ByteArray)(p t:Int)(w:World):Calls Tryz.prog 102 #[.agg #[.string s,.int .i64 p,.int .i64 t]] w fun e l=>e = .returned (.agg #[.string s,.int .i64 (srt t)])/\Below w.heap.size w l:=by
 have n:=fun W=>sortOf_any t W
 generalize srt t=q at n ⊢
 have k:Box3 ((w.alloc (.cells #[.string s,.int .i64 p,.int .i64 t] 126)).alloc (.cells #[.string ⟨#[]⟩,.int .i64 0] 130)) w.heap.size (.string s) (.int .i64 p) (.int .i64 t):=Box3.of_block (t:=126) ((Below.heap_alloc _ _ _ (by simp)).trans (heap_alloc_new _ _));have g:=pair_new (w.alloc (.cells #[.string s,.int .i64 p,.int .i64 t] 126)) (.string ⟨#[]⟩) (.int .i64 0) 130
 have m:∀ j,((w.alloc (.cells #[.string s,.int .i64 p,.int .i64 t] 126)).alloc (.cells #[.string ⟨#[]⟩,.int .i64 0] 130)).frozen? ⟨w.heap.size+1,j,none⟩=false:=fun j=>by
  have h:=heap_alloc_new (w.alloc (.cells #[.string s,.int .i64 p,.int .i64 t] 126)) (.cells #[.string ⟨#[]⟩,.int .i64 0] 130);rw[World.size_alloc] at h;exact frozen_of_row _ _ j _ _ h
 rw[World.size_alloc] at g;have r:Below w.heap.size w ((w.alloc (.cells #[.string s,.int .i64 p,.int .i64 t] 126)).alloc (.cells #[.string ⟨#[]⟩,.int .i64 0] 130)):=((Below.refl _ _).alloc (Nat.le_refl _) _).alloc (by simp) _;have d:Hid _:=k;have c:Hid _:=g;have f:Hid _:=m;have a:Hid _:=r;clear k g m r
 go_enter Tryz.func102,Tryz.ntmps102
 go_wp2_with fail;obtain⟨B,z,y,_⟩:=d.o;obtain⟨x,u⟩:=c.o;have A:=f.o;have b:=a.o;clear d c f a
 generalize (w.alloc (.cells #[.string s,.int .i64 p,.int .i64 t] 126)).alloc (.cells #[.string ⟨#[]⟩,.int .i64 0] 130)=W2 at *
 have i:Hid _:=b;clear b
 go_region_held3 (fun W=>W.cell? ⟨w.heap.size,0,none⟩=some (.string s)/\W.cell? ⟨w.heap.size,2,none⟩=some (.int .i64 t))
  (go_keep)
  ((go_at_call 134;refine(n _).mono ?_;rintro e l ⟨rfl,rfl⟩))
 all_goals go_wp2_with fail
 all_goals refine bodyPost_ret (v:=.agg #[.string s,.int .i64 q]) (by simp[results,Tryz.results102,go_sem,x,u]) rfl ⟨rfl,?_⟩
 all_goals exact(i.o.drew.setCell (p:=⟨_,_,none⟩) (by simp) _).setCell (p:=⟨_,_,none⟩) (by simp) _
def postB (t:Int):Bool:=t == 5 || t == 6
theorem isPost_any (s:ByteArray)(p t:Int)(w:World):Calls Tryz.prog 117 #[.agg #[.string s,.int .i64 p,.int .i64 t]] w fun e f=>e = .returned (.bool (postB t))/\Below w.heap.size w f:=by
 have a:Hid (postB t=(t == 5 || t == 6)):=rfl;have i:Hid (Below w.heap.size w (w.alloc (.cells #[.string s,.int .i64 p,.int .i64 t] 126))):=(Below.refl _ _).alloc (Nat.le_refl _) _
 cases d:(t == 5) <;> cases c:(t == 6)
 all_goals
  rw[d,c] at a
  have g:Hid (∀ b,b=postB t->Ending.returned (.bool b) = .returned (.bool (postB t))):=fun b h=>ret_bool h
  go_enter Tryz.func117,Tryz.ntmps117
  go_wp2_with fail;go_ret;exact⟨g.o _ a.o.symm,i.o⟩
end Go.Proofs.YtlkhmmoimplokaaGreatDoor
