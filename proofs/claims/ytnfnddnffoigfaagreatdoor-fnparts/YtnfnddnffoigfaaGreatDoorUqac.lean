/- Texts of PrP, EvP, StrI, IbM, StrU, DefW, IbP, IbN, RegB, MarkA, MarkT, MarkG, MarkC, SSG, Until, Mark, Strs, Plain, Plain2, Tab0, LawPlain, Scan1, Clone, Quote, Quote2, Quote3, LawQuote. Own work of the verifier. -/
import Derived.Test.YtnfnddnffoigfaaGreatDoorUqaa
import Derived.Test.YtnfnddnffoigfaaGreatDoorUqab
import Derived.LoopN
import Derived.OrdersHeld
import Derived.Lib.Strings
namespace Go.Proofs.YtnfnddnffoigfaaGreatDoor
set_option maxHeartbeats 4000000
set_option linter.unusedVariables false
set_option maxRecDepth 100000
section
open Go Go.RowKit
abbrev Tr:=Cel×Fo
abbrev TT:=Tr×Tr
def Tr.fo (t:Tr):Fo:=.node t.1 t.2 .nil
def trs:Fo->List Tr
 | .nil=>[]
 | .node c k r=>(c,k) :: trs r
theorem trs_len:∀ F:Fo,(trs F).length=F.count
 | .nil=>rfl
 | .node c k r=>by simp[trs,Fo.count,trs_len r]
def eqFo:Fo->Fo->Bool
 | .nil,.nil=>true
 | .node c k r,.node c' k' r'=>decide (c=c') && eqFo k k' && eqFo r r'
 | .nil,.node _ _ _=>false
 | .node _ _ _,.nil=>false
theorem eqFo_iff:∀ a b:Fo,eqFo a b=true↔a=b
 | .nil,.nil=>by simp[eqFo]
 | .node c k r,.node c' k' r'=>by simp[eqFo,eqFo_iff k k',eqFo_iff r r',and_assoc]
 | .nil,.node _ _ _=>by simp[eqFo]
 | .node _ _ _,.nil=>by simp[eqFo]
def eqT (x:TT):Bool:=decide (x.1.1=x.2.1) && eqFo x.1.2 x.2.2
theorem eqT_iff (x:TT):eqT x=true↔x.1=x.2:=by
 obtain⟨⟨c,k⟩,⟨a,b⟩⟩:=x
 simp[eqT,eqFo_iff]
def sames (st:List TT):Bool:=st.all eqT
theorem eqFo_zip:∀ a b:Fo,a.count=b.count->eqFo a b=((trs a).zip (trs b)).all eqT
 | .nil,.nil,_=>rfl
 | .node c k r,.node c' k' r',h=>by
   have:=eqFo_zip r r' (by simpa [Fo.count] using h)
   simp[eqFo,trs,eqT,this]
 | .nil,.node _ _ _,h=>by simp[Fo.count] at h
 | .node _ _ _,.nil,h=>by simp[Fo.count] at h
def argPairs (x:TT):List TT:=((trs x.1.2).zip (trs x.2.2)).reverse
def opened (x:TT):List TT:=if x.1.1=x.2.1 then argPairs x else []
theorem sames_open (st:List TT)(x:TT)(h:x.1.1=x.2.1)(a:x.1.2.count=x.2.2.count):sames (st ++ opened x)=sames (st ++ [x]):=by
 simp[sames,opened,argPairs,h,eqT,eqFo_zip _ _ a]
theorem sames_no (st:List TT)(x:TT)(h:x.1.1≠x.2.1):sames (st ++ [x])=false:=by
 simp[sames,eqT,h]
def load:List TT->Nat
 | []=>0
 | x :: r=>x.1.2.cells.length+1+load r
theorem load_append:∀ a b:List TT,load (a ++ b)=load a+load b
 | [],b=>by simp[load]
 | x :: r,b=>by simp[load,load_append r b];omega
theorem load_reverse:∀ a:List TT,load a.reverse=load a
 | []=>rfl
 | x :: r=>by simp[load_append,load,load_reverse r];omega
theorem load_zip:∀ a b:Fo,load ((trs a).zip (trs b))<=a.cells.length
 | .nil,b=>by simp[trs,load]
 | .node c k r,.nil=>by simp[trs,load]
 | .node c k r,.node c' k' r'=>by
   have:=load_zip r r'
   simp[trs,load,Fo.cells];omega
theorem load_opened (x:TT):load (opened x)<=x.1.2.cells.length:=by
 unfold opened argPairs
 split
 ·rw[load_reverse];exact load_zip _ _
 ·simp[load]
theorem len_load:∀ st:List TT,st.length<=load st
 | []=>Nat.le_refl _
 | x :: r=>by have:=len_load r;simp[load];omega
def Tr.ok (t:Tr):Prop:=t.fo.ok
theorem trs_ok:∀ F:Fo,F.ok->∀ t ∈ trs F,Tr.ok t
 | .nil,_,t,h=>by simp[trs] at h
 | .node c k r,⟨h1,h2,h3,h4,h5,h6⟩,t,h=>by
   rcases List.mem_cons.1 (show t ∈ (c,k) :: trs r from h) with rfl | h'
   ·exact⟨h1,h2,h3,h4,h5,trivial⟩
   ·exact trs_ok r h6 t h'
theorem opened_ok {x:TT}(d:x.1.ok)(e:x.2.ok):∀ y ∈ opened x,y.1.ok/\y.2.ok:=fun y a=>by
 unfold opened argPairs at a
 split at a
 ·have b:=List.of_mem_zip (List.mem_reverse.1 a)
  exact⟨trs_ok _ d.2.2.2.2.1 _ b.1,trs_ok _ e.2.2.2.2.1 _ b.2⟩
 ·cases a
theorem ok_count {x:TT}(e:x.1.ok)(f:x.2.ok)(h:x.1.1=x.2.1):x.1.2.count=x.2.2.count:=by
 obtain⟨⟨c,k⟩,⟨i,g⟩⟩:=x;simp only at h;subst h
 by_cases a:c.1=3
 ·have b:=e.2.2.1 a
  have d:=f.2.2.1 a;simp only at b d ⊢
  omega
 ·have b:k = .nil:=e.2.2.2.1 a
  have d:g = .nil:=f.2.2.2.1 a;rw[b,d]
theorem Fo.cells_inj:∀ (a b:Fo) (x y:List Cel),a.ok->b.ok->a.count=b.count->a.cells ++ x=b.cells ++ y->a=b/\x=y
 | .nil,.nil,x,y,_,_,_,h=>⟨rfl,by simpa [Fo.cells] using h⟩
 | .nil,.node _ _ _,_,_,_,_,h,_=>by simp[Fo.count] at h
 | .node _ _ _,.nil,_,_,_,_,h,_=>by simp[Fo.count] at h
 | .node c k r,.node c' k' r',x,y,h1,h2,hc,h=>by
   simp only[Fo.cells,List.cons_append,List.cons.injEq,List.append_assoc] at h;obtain⟨rfl,h⟩:=h;have e:k.count=k'.count:=ok_count (x:=((c,k),(c,k'))) ⟨h1.1,h1.2.1,h1.2.2.1,h1.2.2.2.1,h1.2.2.2.2.1,trivial⟩ ⟨h2.1,h2.2.1,h2.2.2.1,h2.2.2.2.1,h2.2.2.2.2.1,trivial⟩ rfl;obtain⟨rfl,d⟩:=Fo.cells_inj k k' _ _ h1.2.2.2.2.1 h2.2.2.2.2.1 e h;obtain⟨rfl,rfl⟩:=Fo.cells_inj r r' x y h1.2.2.2.2.2 h2.2.2.2.2.2 (by simpa [Fo.count] using hc) d;exact⟨rfl,rfl⟩
theorem eqT_cells {x:TT}(e:x.1.ok)(f:x.2.ok):eqT x=decide (x.1.1 :: x.1.2.cells=x.2.1 :: x.2.2.cells):=by
 rw[Bool.eq_iff_iff,eqT_iff,decide_eq_true_eq];obtain⟨⟨c,k⟩,⟨a,i⟩⟩:=x
 constructor
 ·intro h
  obtain⟨rfl,rfl⟩:=Prod.mk.inj h
  rfl
 ·intro h
  have:=Fo.cells_inj (.node c k .nil) (.node a i .nil) [] [] e f rfl (by simpa [Fo.cells] using h);have g:=this.1
  injection g with b d
  rw[b,d]
def numT (n:Int):Tr:=((1,n,[]),.nil)
def ones:List (List Int):=[[45],[43],[97,98,115],[115,105,103,110],[92]]
theorem str_inj {b a:List Int}(f:Byte b)(g:Byte a):(strOfNums b == strOfNums a)=decide (b=a):=by
 have d:=str_beq f (strOfNums a).toList;have e:=(str_eq g (strOfNums a).toList).1 rfl;rw[<-e] at d;rw[<-d]
 congr 1
 rw[ByteArray.toList_eq]
end
section
open Go Go.RowKit Go.Maps
def okN (f:Fun):Prop:=f.1.size<=2000000/\(Lit.int .i64 f.2).wf=true
theorem keyFunN (f:Fun)(h:okN f):keyOf Tryz.prog 61 (.agg #[.string f.1,.int .i64 f.2])=some (fk f):=by
 obtain⟨n,a⟩:=nTypes
 have b:f.1.size<=maxLen:=by have:=h.1;unfold maxLen;omega
 exact keyPair Tryz.prog 61 9 3 _ _ _ rfl Tryz.underlying61 rfl rfl rfl rfl (by decide) (by decide) Tryz.underlying9 Tryz.underlying3 cellsFun cellsStr cellsIn typFun n a f.1 f.2 b h.2
theorem fk_injN {f g:Fun}(d:okN f)(e:okN g)(h:fk f=fk g):f=g:=by
 have b:=keyFunN f d;have a:=keyFunN g e;rw[<-h] at a;have:=lawFun.inj b a;obtain⟨i,j⟩:=f;obtain⟨k,l⟩:=g
 simpa using this
def heldN (v:Value):Option (DataW Value×List MemPlace):=some (.held v,[])
def BuIn (w:World)(b N:Nat)(T:Fun->Option Nat):Prop:=∃ D:DataW Value,w.ownsMap Tryz.prog 61 heldN b N D/\
 ∀ f,okN f->match T f with
   | none=>has D (fk f)=false/\∀ z,D.atKey (fk f) z=z
   | some K=>has D (fk f)=true/\∀ z,D.atKey (fk f) z = .held (.func (.func K) #[] #[])
theorem BuIn.lt {w:World}{b N:Nat}{T:Fun->Option Nat}(h:BuIn w b N T):b<w.heap.size:=by obtain⟨D,h,_⟩:=h;exact h.lt
theorem BuIn.of {w d:World}{b N:Nat}{T:Fun->Option Nat}(h:BuIn w b N T)(i:d.heap[b]?=w.heap[b]?):BuIn d b N T:=by
 obtain⟨D,⟨e,a,f,r⟩,g⟩:=h;exact⟨D,⟨e,a,i.trans f,r⟩,g⟩
theorem BuIn.below {w w':World}{b N:Nat}{T:Fun->Option Nat}(h:BuIn w b N T)(a:Below w.heap.size w w'):BuIn w' b N T:=h.of (a.block _ h.lt)
theorem BuIn.made (w:World):BuIn (w.alloc (.map #[] 0)) w.heap.size 0 (fun _=>none):=⟨_,World.ownsMap_made _ _ _ _,fun f _=>⟨rfl,fun z=>rfl⟩⟩
theorem zeroBu (w:World):(zeroValue 63).run Tryz.prog w = .ok .nilFunc w:=by kernel_rfl
theorem BuIn.look {w:World}{b N:Nat}{T:Fun->Option Nat}(h:BuIn w b N T)(f:Fun)(j:okN f) :
  (Instr.lookup 58 (.map (some b)) (.agg #[.string f.1,.int .i64 f.2]) true).run Tryz.prog w = .ok (.tuple #[(match T f with | none=>.nilFunc | some K=>.func (.func K) #[] #[]),.bool (T f).isSome]) w:=by
 obtain⟨D,i,k⟩:=h;obtain⟨v,l,a,d⟩:=i.look_ok lawFun Tryz.underlying58 (zeroBu w) (zd:=.held .nilFunc) (zp:=[]) rfl (keyFunN f j);have g:=k f j;simp only[heldN,Option.some.injEq,Prod.mk.injEq] at d;have d:=d.1
 cases e:T f with
 | none=>
   rw[e] at g;rw[g.2] at d;rw[a,g.1]
   cases d
   rfl
 | some c=>
   rw[e] at g;rw[g.2] at d;rw[a,g.1]
   cases d
   rfl
theorem BuIn.put {w:World}{b N:Nat}{T:Fun->Option Nat}(h:BuIn w b N T)(y:N<=1000000)(f:Fun)(q:okN f)(K:Nat) :
  ∃ w',(Instr.mapUpdate 58 (.map (some b)) (.agg #[.string f.1,.int .i64 f.2]) (.func (.func K) #[] #[])).run Tryz.prog w = .ok () w'/\BuIn w' b (N+1) (fun g=>if g=f then some K else T g)/\w.grownBy w' (some b):=by
 obtain⟨D,i,t⟩:=h;have a:=i;obtain⟨x,p,A,_⟩:=i;obtain⟨w',o,j,u⟩:=a.update lawFun Tryz.underlying58 (by unfold maxLen;omega) (keyFunN f q) (show heldN (.func (.func K) #[] #[])=some (.held _,[]) from rfl);have r:=a.isMap;have n:WideAt.IsKeyLit (fk f):=trivial;refine⟨w',o,⟨_,j,fun g m=>?_⟩,u⟩
 by_cases e:g=f
 ·subst e
  simp only[if_true];exact⟨has_put_same r n _,fun z=>atKey_put_same r n _ z⟩
 ·simp only[if_neg e]
  have d:fk g≠fk f:=fun s=>e (fk_injN m q s)
  have k:=t g m
  cases l:T g with
  | none=>
    rw[l] at k;exact⟨by rw[has_put_other d];exact k.1,fun z=>by rw[atKey_put_other d];exact k.2 z⟩
  | some v=>
    rw[l] at k;exact⟨by rw[has_put_other d];exact k.1,fun z=>by rw[atKey_put_other d];exact k.2 z⟩
end
section
open Go Go.RowKit
def bOf (l:List UInt8):ByteArray:=⟨l.toArray⟩
theorem bOf_size (l:List UInt8):(bOf l).size=l.length:=by simp[bOf,ByteArray.size]
theorem bOf_list (l:List UInt8):(bOf l).toList=l:=by rw[ByteArray.toList_eq];rfl
def strV (x:List UInt8):Value:=.string (bOf x)
def numsU (l:List UInt8):List Int:=l.map (fun u=>(u.toNat:Int))
theorem strOf_numsU (l:List UInt8):strOfNums (numsU l)=bOf l:=by
 apply ba_ext
 rw[str_list,numsU,map_forth,ByteArray.toList_eq];rfl
theorem byte_numsU (l:List UInt8):Byte (numsU l):=fun x a=>by
 simp only[numsU,List.mem_map] at a;obtain⟨u,_,rfl⟩:=a;have:=u.toNat_lt
 omega
theorem cell_lit (w:World)(a:List Value)(t:TypeId)(i:Nat)(h:i<a.length):(w.alloc (.cells a.toArray t)).cell? ⟨w.heap.size,i,none⟩=some a[i]:=by
 rw[World.cell?_alloc_new]
 simp[h]
def wd (word:List UInt8):List UInt8->List (List UInt8)
 | []=>if word = [] then [] else [word]
 | b :: r=>if b=32 then(if word = [] then wd [] r else word :: wd [] r) else wd (word ++ [b]) r
theorem infoStr:(Tryz.prog.info? 9).map (fun i=>(i.zero,i.size,i.bytes))=some (some (.string ⟨#[]⟩),1,16):=by kernel_rfl
def bEnts:List (List UInt8×Int):=[
 ([116,114,117,101],0),
 ([102,97,105,108],0),
 ([102,97,108,115,101],0),
 ([61],2),
 ([92,61],2),
 ([61,61],2),
 ([92,61,61],2),
 ([64,60],2),
 ([64,61,60],2),
 ([64,62],2),
 ([64,62,61],2),
 ([99,111,109,112,97,114,101],3),
 ([118,97,114],1),
 ([110,111,110,118,97,114],1),
 ([97,116,111,109],1),
 ([105,110,116,101,103,101,114],1),
 ([97,116,111,109,105,99],1),
 ([99,111,109,112,111,117,110,100],1),
 ([99,97,108,108,97,98,108,101],1),
 ([105,115,95,108,105,115,116],1),
 ([103,114,111,117,110,100],1),
 ([105,115],2),
 ([61,58,61],2),
 ([61,92,61],2),
 ([60],2),
 ([61,60],2),
 ([62],2),
 ([62,61],2),
 ([102,117,110,99,116,111,114],3),
 ([97,114,103],3),
 ([61,46,46],2),
 ([99,111,112,121,95,116,101,114,109],2),
 ([108,101,110,103,116,104],2),
 ([97,116,111,109,95,108,101,110,103,116,104],2),
 ([97,116,111,109,95,99,111,100,101,115],2),
 ([97,116,111,109,95,99,104,97,114,115],2),
 ([99,104,97,114,95,99,111,100,101],2),
 ([110,117,109,98,101,114,95,99,111,100,101,115],2),
 ([109,115,111,114,116],2),
 ([115,111,114,116],2),
 ([119,114,105,116,101],1),
 ([119,114,105,116,101,113],1),
 ([112,114,105,110,116],1),
 ([110,108],0),
 ([116,97,98],1)]
end
section
open Go Go.RowKit Go.Maps Go.Shelf
set_option linter.unusedSimpArgs false
noncomputable def bOps:Array Oper:=match Tryz.f25.body with
 | some (.seq _ (.seq (.region _ ops _) _))=>ops
 | _=>#[]
def bEnt (j:Nat):List UInt8×Int:=bEnts.getD j ([],0)
def bFns:List Nat:=[45,46,46,47,48,49,50,51,52,53,54,55,56,57,58,59,60,61,62,63,64,65,66,67,68,69,70,71,72,73,74,75,76,77,78,79,80,81,82,83,84,85,85,86,87]
def bFn (j:Nat):Nat:=bFns.getD j 0
def bKey (j:Nat):Fun:=(bOf (bEnt j).1,(bEnt j).2)
def bKeyV (j:Nat):Value:=.agg #[.string (bKey j).1,.int .i64 (bKey j).2]
def insB (L:Array Bool)(f:Fun):Option Nat:=((List.range 45).find? fun j=>decide (bKey j=f) && L.getD (2 * j+2) false).map bFn
def buTab (f:Fun):Option Nat:=((List.range 45).find? fun j=>decide (bKey j=f)).map bFn
theorem bEnt_inj:((List.range 45).all fun i=>(List.range 45).all fun j=>decide (bEnt i=bEnt j->i=j))=true:=by decide
theorem bOf_inj {a b:List UInt8}(h:bOf a=bOf b):a=b:=by
 have:=congrArg ByteArray.toList h
 rwa[bOf_list,bOf_list] at this
theorem bKey_inj:∀ i,i<45->∀ j,j<45->bKey i=bKey j->i=j:=by
 intro i b j d e
 have a:=List.all_eq_true.1 (List.all_eq_true.1 bEnt_inj i (List.mem_range.2 b)) j (List.mem_range.2 d);simp only[decide_eq_true_eq] at a;exact a (Prod.ext (bOf_inj (Prod.mk.inj e).1) (Prod.mk.inj e).2)
theorem insB_none {L:Array Bool}(h:∀ j,j<45->L.getD (2 * j+2) false=false):insB L=fun _=>none:=by
 funext f
 unfold insB
 rw[List.find?_eq_none.2 (fun j a=>by simp[h j (List.mem_range.1 a)])]
 rfl
theorem insB_all {L:Array Bool}(h:∀ j,j<45->L.getD (2 * j+2) false=true):insB L=buTab:=by
 funext f
 unfold insB buTab
 congr 1
 have:∀ l:List Nat,(∀ j ∈ l,j<45)->(l.find? fun j=>decide (bKey j=f) && L.getD (2 * j+2) false)=l.find? fun j=>decide (bKey j=f):=by
  intro l
  induction l with
  | nil=>intro _;rfl
  | cons a r e=>
    intro d
    simp only[List.find?_cons,h a (d a (by simp)),Bool.and_true,e (fun j b=>d j (by simp[b]))]
 exact this _ fun j b=>List.mem_range.1 b
theorem insB_same {L:Array Bool}{i:Nat}(e:∀ j,j<45->i≠2 * j+2):insB (L.setIfInBounds i true)=insB L:=by
 funext f
 unfold insB
 congr 1
 have:∀ l:List Nat,(∀ j ∈ l,j<45)->(l.find? fun j=>decide (bKey j=f) && (L.setIfInBounds i true).getD (2 * j+2) false)=l.find? fun j=>decide (bKey j=f) && L.getD (2 * j+2) false:=by
  intro l
  induction l with
  | nil=>intro _;rfl
  | cons a r g=>
    intro d
    simp only[List.find?_cons,getD_set_ne false (e a (d a (by simp))),g (fun j b=>d j (by simp[b]))]
 exact this _ fun j b=>List.mem_range.1 b
theorem insB_put {L:Array Bool}{j:Nat}(d:j<45)(g:2 * j+2<L.size):insB (L.setIfInBounds (2 * j+2) true)=fun f=>if f=bKey j then some (bFn j) else insB L f:=by
 funext f
 by_cases e:f=bKey j
 ·subst e
  rw[if_pos rfl]
  have:((List.range 45).find? fun i=>decide (bKey i=bKey j) && (L.setIfInBounds (2 * j+2) true).getD (2 * i+2) false)=some j:=by
   rw[List.find?_eq_some_iff_getElem];refine⟨?_,j,by simpa using d,by simp,fun i m=>?_⟩
   ·simp[g]
   ·have b:bKey i≠bKey j:=fun e=>by have:=bKey_inj i (by omega) j d e;omega
    simp[b]
  unfold insB
  rw[this]
  rfl
 ·rw[if_neg e]
  unfold insB
  congr 1
  have:∀ l:List Nat,(l.find? fun i=>decide (bKey i=f) && (L.setIfInBounds (2 * j+2) true).getD (2 * i+2) false)=l.find? fun i=>decide (bKey i=f) && L.getD (2 * i+2) false:=by
   intro l
   induction l with
   | nil=>rfl
   | cons a r k=>
     simp only[List.find?_cons,k]
     by_cases ha:a=j
     ·subst ha
      have:decide (bKey a=f)=false:=by simpa using fun h=>e h.symm
      simp[this]
     ·rw[getD_set_ne false (by omega)]
  exact this _
structure BInv (w0:World)(L:Array Bool)(a:Act)(w:World):Prop where
 lsz:L.size=93
 tsz:a.tmps.size=48
 dfs:a.defers = []
 bel:Below w0.heap.size w0 w
 key:∀ j,j<45->L.getD (2 * j+1) false=true->a.tmps[j+2]?=some (bKeyV j)
 tab:if L.getD 0 false=true then ∃ b N,w0.heap.size<=b/\a.tmps[1]?=some (.map (some b))/\N<=92/\N+unl L<=92/\BuIn w b N (insB L) else ∀ j,j<45->L.getD (2 * j+2) false=false
 mov:L.getD 91 false=true->a.tmps[47]?=a.tmps[1]?/\L.getD 0 false=true/\∀ j,j<45->L.getD (2 * j+2) false=true
 fin:L.getD 92 false=true->a.tmps[0]?=a.tmps[47]?/\L.getD 91 false=true
theorem bop_build:∀ j,j<45->∃ o,bOps[2 * j+1]?=some o/\o.guard=none/\o.dst=some (j+2)/\o.op = .build 61 #[(0,.const (.string (bKey j).1)),(1,.const (.int .i64 (bKey j).2))]
 | 0,_=>⟨_,rfl,rfl,rfl,rfl⟩
 | 1,_=>⟨_,rfl,rfl,rfl,rfl⟩
 | 2,_=>⟨_,rfl,rfl,rfl,rfl⟩
 | 3,_=>⟨_,rfl,rfl,rfl,rfl⟩
 | 4,_=>⟨_,rfl,rfl,rfl,rfl⟩
 | 5,_=>⟨_,rfl,rfl,rfl,rfl⟩
 | 6,_=>⟨_,rfl,rfl,rfl,rfl⟩
 | 7,_=>⟨_,rfl,rfl,rfl,rfl⟩
 | 8,_=>⟨_,rfl,rfl,rfl,rfl⟩
 | 9,_=>⟨_,rfl,rfl,rfl,rfl⟩
 | 10,_=>⟨_,rfl,rfl,rfl,rfl⟩
 | 11,_=>⟨_,rfl,rfl,rfl,rfl⟩
 | 12,_=>⟨_,rfl,rfl,rfl,rfl⟩
 | 13,_=>⟨_,rfl,rfl,rfl,rfl⟩
 | 14,_=>⟨_,rfl,rfl,rfl,rfl⟩
 | 15,_=>⟨_,rfl,rfl,rfl,rfl⟩
 | 16,_=>⟨_,rfl,rfl,rfl,rfl⟩
 | 17,_=>⟨_,rfl,rfl,rfl,rfl⟩
 | 18,_=>⟨_,rfl,rfl,rfl,rfl⟩
 | 19,_=>⟨_,rfl,rfl,rfl,rfl⟩
 | 20,_=>⟨_,rfl,rfl,rfl,rfl⟩
 | 21,_=>⟨_,rfl,rfl,rfl,rfl⟩
 | 22,_=>⟨_,rfl,rfl,rfl,rfl⟩
 | 23,_=>⟨_,rfl,rfl,rfl,rfl⟩
 | 24,_=>⟨_,rfl,rfl,rfl,rfl⟩
 | 25,_=>⟨_,rfl,rfl,rfl,rfl⟩
 | 26,_=>⟨_,rfl,rfl,rfl,rfl⟩
 | 27,_=>⟨_,rfl,rfl,rfl,rfl⟩
 | 28,_=>⟨_,rfl,rfl,rfl,rfl⟩
 | 29,_=>⟨_,rfl,rfl,rfl,rfl⟩
 | 30,_=>⟨_,rfl,rfl,rfl,rfl⟩
 | 31,_=>⟨_,rfl,rfl,rfl,rfl⟩
 | 32,_=>⟨_,rfl,rfl,rfl,rfl⟩
 | 33,_=>⟨_,rfl,rfl,rfl,rfl⟩
 | 34,_=>⟨_,rfl,rfl,rfl,rfl⟩
 | 35,_=>⟨_,rfl,rfl,rfl,rfl⟩
 | 36,_=>⟨_,rfl,rfl,rfl,rfl⟩
 | 37,_=>⟨_,rfl,rfl,rfl,rfl⟩
 | 38,_=>⟨_,rfl,rfl,rfl,rfl⟩
 | 39,_=>⟨_,rfl,rfl,rfl,rfl⟩
 | 40,_=>⟨_,rfl,rfl,rfl,rfl⟩
 | 41,_=>⟨_,rfl,rfl,rfl,rfl⟩
 | 42,_=>⟨_,rfl,rfl,rfl,rfl⟩
 | 43,_=>⟨_,rfl,rfl,rfl,rfl⟩
 | 44,_=>⟨_,rfl,rfl,rfl,rfl⟩
 | j+45,h=>by omega
theorem bop_put:∀ j,j<45->∃ o,bOps[2 * j+2]?=some o/\o.guard=none/\o.dst=none/\o.op = .insert 58 (.tmp 1) (.tmp (j+2)) (.func (bFn j))/\([0,2 * j+1].all fun i=>o.after.toList.any fun e=>(e.on == i) && Region.binds .any e)=true
 | 0,_=>⟨_,rfl,rfl,rfl,rfl,by kernel_rfl⟩
 | 1,_=>⟨_,rfl,rfl,rfl,rfl,by kernel_rfl⟩
 | 2,_=>⟨_,rfl,rfl,rfl,rfl,by kernel_rfl⟩
 | 3,_=>⟨_,rfl,rfl,rfl,rfl,by kernel_rfl⟩
 | 4,_=>⟨_,rfl,rfl,rfl,rfl,by kernel_rfl⟩
 | 5,_=>⟨_,rfl,rfl,rfl,rfl,by kernel_rfl⟩
 | 6,_=>⟨_,rfl,rfl,rfl,rfl,by kernel_rfl⟩
 | 7,_=>⟨_,rfl,rfl,rfl,rfl,by kernel_rfl⟩
 | 8,_=>⟨_,rfl,rfl,rfl,rfl,by kernel_rfl⟩
 | 9,_=>⟨_,rfl,rfl,rfl,rfl,by kernel_rfl⟩
 | 10,_=>⟨_,rfl,rfl,rfl,rfl,by kernel_rfl⟩
 | 11,_=>⟨_,rfl,rfl,rfl,rfl,by kernel_rfl⟩
 | 12,_=>⟨_,rfl,rfl,rfl,rfl,by kernel_rfl⟩
 | 13,_=>⟨_,rfl,rfl,rfl,rfl,by kernel_rfl⟩
 | 14,_=>⟨_,rfl,rfl,rfl,rfl,by kernel_rfl⟩
 | 15,_=>⟨_,rfl,rfl,rfl,rfl,by kernel_rfl⟩
 | 16,_=>⟨_,rfl,rfl,rfl,rfl,by kernel_rfl⟩
 | 17,_=>⟨_,rfl,rfl,rfl,rfl,by kernel_rfl⟩
 | 18,_=>⟨_,rfl,rfl,rfl,rfl,by kernel_rfl⟩
 | 19,_=>⟨_,rfl,rfl,rfl,rfl,by kernel_rfl⟩
 | 20,_=>⟨_,rfl,rfl,rfl,rfl,by kernel_rfl⟩
 | 21,_=>⟨_,rfl,rfl,rfl,rfl,by kernel_rfl⟩
 | 22,_=>⟨_,rfl,rfl,rfl,rfl,by kernel_rfl⟩
 | 23,_=>⟨_,rfl,rfl,rfl,rfl,by kernel_rfl⟩
 | 24,_=>⟨_,rfl,rfl,rfl,rfl,by kernel_rfl⟩
 | 25,_=>⟨_,rfl,rfl,rfl,rfl,by kernel_rfl⟩
 | 26,_=>⟨_,rfl,rfl,rfl,rfl,by kernel_rfl⟩
 | 27,_=>⟨_,rfl,rfl,rfl,rfl,by kernel_rfl⟩
 | 28,_=>⟨_,rfl,rfl,rfl,rfl,by kernel_rfl⟩
 | 29,_=>⟨_,rfl,rfl,rfl,rfl,by kernel_rfl⟩
 | 30,_=>⟨_,rfl,rfl,rfl,rfl,by kernel_rfl⟩
 | 31,_=>⟨_,rfl,rfl,rfl,rfl,by kernel_rfl⟩
 | 32,_=>⟨_,rfl,rfl,rfl,rfl,by kernel_rfl⟩
 | 33,_=>⟨_,rfl,rfl,rfl,rfl,by kernel_rfl⟩
 | 34,_=>⟨_,rfl,rfl,rfl,rfl,by kernel_rfl⟩
 | 35,_=>⟨_,rfl,rfl,rfl,rfl,by kernel_rfl⟩
 | 36,_=>⟨_,rfl,rfl,rfl,rfl,by kernel_rfl⟩
 | 37,_=>⟨_,rfl,rfl,rfl,rfl,by kernel_rfl⟩
 | 38,_=>⟨_,rfl,rfl,rfl,rfl,by kernel_rfl⟩
 | 39,_=>⟨_,rfl,rfl,rfl,rfl,by kernel_rfl⟩
 | 40,_=>⟨_,rfl,rfl,rfl,rfl,by kernel_rfl⟩
 | 41,_=>⟨_,rfl,rfl,rfl,rfl,by kernel_rfl⟩
 | 42,_=>⟨_,rfl,rfl,rfl,rfl,by kernel_rfl⟩
 | 43,_=>⟨_,rfl,rfl,rfl,rfl,by kernel_rfl⟩
 | 44,_=>⟨_,rfl,rfl,rfl,rfl,by kernel_rfl⟩
 | j+45,h=>by omega
theorem bop_last:∃ o,bOps[92]?=some o/\o.guard=none/\o.dst=some 0/\o.op = .assign (.tmp 47)/\((List.range 92).all fun i=>o.after.toList.any fun e=>(e.on == i) && Region.binds .any e)=true:=⟨_,rfl,rfl,rfl,rfl,by kernel_rfl⟩
theorem bop_move:∃ o,bOps[91]?=some o/\o.guard=none/\o.dst=some 47/\o.op = .move (.tmp 1)/\((List.range 91).all fun i=>o.after.toList.any fun e=>(e.on == i) && Region.binds .any e)=true:=⟨_,rfl,rfl,rfl,rfl,by kernel_rfl⟩
theorem bop_map:∃ o,bOps[0]?=some o/\o.guard=none/\o.dst=some 1/\o.op = .makeMap 58 none:=⟨_,rfl,rfl,rfl,rfl⟩
theorem bsize_ops:bOps.size=93:=rfl
theorem bback_only:((List.range 93).all fun i=>(bOps[i]?).all fun o=>o.after.toList.all fun e=>decide (e.on<i))=true:=by kernel_rfl
theorem bEnt_small:((List.range 45).all fun j=>decide ((bEnt j).1.length<=100/\0<=(bEnt j).2/\(bEnt j).2<=3))=true:=by decide
theorem bKey_ok (j:Nat)(b:j<45):okN (bKey j):=by
 have a:=List.all_eq_true.1 bEnt_small j (List.mem_range.2 b);simp only[decide_eq_true_eq] at a;refine⟨?_,WalkArith.wf_i64 ?_⟩
 ·show(bOf (bEnt j).1).size<=_
  rw[bOf_size];omega
 ·show _<=(bEnt j).2/\(bEnt j).2<=_
  omega
theorem bnew_step {Q:Exit->Act->World->Prop}(O:World)(L:Array Bool)(a:Act)(w:World)(I:BInv O L a w)(i:Nat)(hi:i ∈ Region.ready .any bOps L):wpOp Tryz.prog bOps Q i (fun Y w'=>BInv O (L.setIfInBounds i true) Y w') a w:=by
 obtain⟨X,o,y,u⟩:=mem_ready.1 hi
 have W:i<93:=by
  rw[<-bsize_ops];exact(Array.getElem?_eq_some_iff.1 y).1
 have t:L.size=93:=I.lsz;have s:L.getD i false=false:=getD_false X;have hu:=unl_set X
 have E:i=0∨i=91∨i=92∨(i % 2=1/\i / 2<45)∨(i % 2=0/\2<=i/\i<=90):=by omega
 rcases E with h | h | h | ⟨h,r⟩ | ⟨h,r⟩
 ·subst h
  obtain⟨M,f,A,z,g⟩:=bop_map;obtain rfl:=Option.some.inj (y.symm.trans f);have n:=I.tab;rw[if_neg (by rw[s];decide)] at n;refine op_value (v:=.map (some w.heap.size)) (w':=w.alloc (.map #[] 0)) y A (by simp[execOp,g,go_sem,run_makeMap,Result.andThen]) ?_;rw[z];refine⟨by simpa using t,by rw[put_size];exact I.tsz,by rw[put_defs];exact I.dfs,I.bel.alloc I.bel.size _,fun j m h=>?_,?_,fun h=>?_,fun h=>?_⟩
  ·rw[put_other (by omega)];exact I.key j m (set_at h (by omega))
  ·rw[if_pos (set_self (by omega))]
   refine⟨w.heap.size,0,I.bel.size,put_same (by rw[I.tsz];decide),by omega,?_,?_⟩
   ·have:=unl_le L;omega
   ·rw[insB_same (fun j _=>by omega),insB_none n];exact BuIn.made w
  ·have:=(I.mov (set_at h (by decide))).2.1
   rw[s] at this;cases this
  ·have:=(I.mov (I.fin (set_at h (by decide))).2).2.1
   rw[s] at this;cases this
 ·subst h
  obtain⟨M,f,A,z,g,l⟩:=bop_move;obtain rfl:=Option.some.inj (y.symm.trans f)
  have d:∀ p,p<91->L.getD p false=true:=fun p H=>dep_of (List.all_eq_true.1 l p (List.mem_range.2 H)) u
  have n:=I.tab;rw[if_pos (d 0 (by decide))] at n;obtain⟨b,N,B,r,F,R,D⟩:=n;refine op_value (v:=.map (some b)) (w':=w) y A (by simp[execOp,g,go_sem,Act.eval,r]) ?_;rw[z];refine⟨by simpa using t,by rw[put_size];exact I.tsz,by rw[put_defs];exact I.dfs,I.bel,fun j m h=>?_,?_,fun h=>?_,fun h=>?_⟩
  ·rw[put_other (by omega)];exact I.key j m (set_at h (by omega))
  ·rw[if_pos (by rw[getD_set_ne false (by decide)];exact d 0 (by decide))]
   exact⟨b,N,B,by rw[put_other (by decide)];exact r,F,by omega,by rw[insB_same (fun j _=>by omega)];exact D⟩
  ·refine⟨by rw[put_same (by rw[I.tsz];decide),put_other (by decide),r],by rw[getD_set_ne false (by decide)];exact d 0 (by decide),fun j m=>?_⟩
   rw[getD_set_ne false (by omega)];exact d _ (by omega)
  ·have:=(I.fin (set_at h (by decide))).2
   rw[s] at this
   cases this
 ·subst h
  obtain⟨M,f,A,z,g,l⟩:=bop_last;obtain rfl:=Option.some.inj (y.symm.trans f)
  have d:∀ p,p<92->L.getD p false=true:=fun p H=>dep_of (List.all_eq_true.1 l p (List.mem_range.2 H)) u
  have n:=I.tab;rw[if_pos (d 0 (by decide))] at n;obtain⟨b,N,B,r,F,R,D⟩:=n;have x:=I.mov (d 91 (by decide));have G:a.tmps[47]?=some (.map (some b)):=x.1.trans r;refine op_value (v:=.map (some b)) (w':=w) y A (by simp[execOp,g,go_sem,Act.eval,G]) ?_;rw[z];refine⟨by simpa using t,by rw[put_size];exact I.tsz,by rw[put_defs];exact I.dfs,I.bel,fun j m h=>?_,?_,fun h=>?_,fun h=>?_⟩
  ·rw[put_other (by omega)];exact I.key j m (set_at h (by omega))
  ·rw[if_pos (by rw[getD_set_ne false (by decide)];exact d 0 (by decide))]
   exact⟨b,N,B,by rw[put_other (by decide)];exact r,F,by omega,by rw[insB_same (fun j _=>by omega)];exact D⟩
  ·exact⟨by rw[put_other (by decide),put_other (by decide)];exact x.1,by rw[getD_set_ne false (by decide)];exact x.2.1,fun j m=>by rw[getD_set_ne false (by omega)];exact x.2.2 j m⟩
  ·exact⟨by rw[put_same (by rw[I.tsz];decide),put_other (by decide),G],by rw[getD_set_ne false (by decide)];exact d 91 (by decide)⟩
 ·obtain⟨j,m,rfl⟩:∃ j,j<45/\i=2 * j+1:=⟨i / 2,r,by omega⟩
  obtain⟨M,f,A,z,g⟩:=bop_build j m;obtain rfl:=Option.some.inj (y.symm.trans f);refine op_value (v:=bKeyV j) (w':=w) y A (by simp[execOp,g,go_sem,Act.eval,bKeyV]) ?_;rw[z];refine⟨by simpa using t,by rw[put_size];exact I.tsz,by rw[put_defs];exact I.dfs,I.bel,fun C q h=>?_,?_,fun h=>?_,fun h=>?_⟩
  ·by_cases e:C=j
   ·subst e;exact put_same (by rw[I.tsz];omega)
   ·rw[put_other (by omega)];exact I.key C q (set_at h (by omega))
  ·have n:=I.tab
   by_cases K:L.getD 0 false=true
   ·rw[if_pos K] at n
    obtain⟨b,N,B,r,F,R,D⟩:=n;rw[if_pos (by rw[getD_set_ne false (by omega)];exact K)];exact⟨b,N,B,by rw[put_other (by omega)];exact r,F,by omega,by rw[insB_same (fun j _=>by omega)];exact D⟩
   ·rw[if_neg K] at n
    rw[if_neg (by rw[getD_set_ne false (by omega)];exact K)]
    exact fun C q=>by rw[getD_set_ne false (by omega)];exact n C q
  ·have x:=I.mov (set_at h (by omega))
   exact⟨by rw[put_other (by omega),put_other (by omega)];exact x.1,by rw[getD_set_ne false (by omega)];exact x.2.1,fun C q=>by rw[getD_set_ne false (by omega)];exact x.2.2 C q⟩
  ·have x:=I.fin (set_at h (by omega))
   exact⟨by rw[put_other (by omega),put_other (by omega)];exact x.1,by rw[getD_set_ne false (by omega)];exact x.2⟩
 ·obtain⟨j,m,rfl⟩:∃ j,j<45/\i=2 * j+2:=⟨i / 2-1,by omega,by omega⟩
  obtain⟨M,f,A,z,g,l⟩:=bop_put j m;obtain rfl:=Option.some.inj (y.symm.trans f)
  have d:∀ p,p ∈ [0,2 * j+1]->L.getD p false=true:=fun p H=>dep_of (List.all_eq_true.1 l p H) u
  have n:=I.tab;rw[if_pos (d 0 (by simp))] at n;obtain⟨b,N,B,r,F,R,D⟩:=n;have hk:=I.key j m (d _ (by simp));obtain⟨w',J,T,V⟩:=D.put (by omega) (bKey j) (bKey_ok j m) (bFn j);have Z:Below O.heap.size O w':=I.bel.trans ((Below.refl _ _).grown V I.bel.size (fun k e=>by cases e;exact B))
  unfold wpOp
  simp only[y,Region.wanted,A,if_true]
  left
  unfold Oper.wp
  have U:a.eval (.func (bFn j)) = .func (.func (bFn j)) #[] #[]:=rfl
  simp[execOp,g,eval_tmp r,eval_tmp hk,U,bKeyV,J,Result.andThen,Oper.upon]
  rw[z];refine⟨by simpa using t,by rw[put_size];exact I.tsz,by rw[put_defs];exact I.dfs,Z,fun C q h=>?_,?_,fun h=>?_,fun h=>?_⟩
  ·exact I.key C q (set_at h (by omega))
  ·rw[if_pos (by rw[getD_set_ne false (by omega)];exact d 0 (by simp))]
   exact⟨b,N+1,B,r,by omega,by omega,by rw[insB_put m (by omega)];exact T⟩
  ·have:=(I.mov (set_at h (by omega))).2.2 j m
   rw[s] at this
   cases this
  ·have:=(I.mov (I.fin (set_at h (by omega))).2).2.2 j m
   rw[s] at this
   cases this
theorem bnew_end {m:World}{L:Array Bool}{a:Act}{w:World}(I:BInv m L a w)(F:Region.ready .any bOps L = []):∃ b,a.tmps[0]?=some (.map (some b))/\a.tmps.size=48/\a.defers = []/\BuIn w b 92 buTab/\Below m.heap.size m w:=by
 have g:∀ n,n<=93->∀ i,i<n->L.getD i true=true:=by
  intro n
  induction n with
  | zero=>intro _ i C;omega
  | succ n t=>
    intro H i C
    by_cases e:i=n
    ·subst e
     cases E:L.getD i true with
     | true=>rfl
     | false=>
       exfalso
       obtain⟨o,r⟩:∃ o,bOps[i]?=some o:=⟨_,Array.getElem?_eq_getElem (by rw[bsize_ops];omega)⟩
       have j:=List.all_eq_true.1 bback_only i (List.mem_range.2 (by omega));rw[r] at j;simp only[Option.all_some,List.all_eq_true,decide_eq_true_eq] at j
       have:i ∈ Region.ready .any bOps L:=mem_ready.2 ⟨E,o,r,fun e q _=>by
        have f:=t (by omega) e.on (j e (by simpa using q))
        have d:e.on<L.size:=by have:=j e (by simpa using q);rw[I.lsz];omega
        simp only[Array.getD_eq_getD_getElem?,Array.getElem?_eq_getElem d,Option.getD_some] at f ⊢
        exact f⟩
       rw[F] at this
       cases this
    ·exact t (by omega) i (by omega)
 have l:L.getD 92 false=true:=by
  have f:=g 93 (Nat.le_refl _) 92 (by decide)
  have d:92<L.size:=by rw[I.lsz];decide
  simp only[Array.getD_eq_getD_getElem?,Array.getElem?_eq_getElem d,Option.getD_some] at f ⊢;exact f
 obtain⟨u,k⟩:=I.fin l;obtain⟨v,x,y⟩:=I.mov k;have s:=I.tab;rw[if_pos x] at s;obtain⟨b,N,f,z,A,G,p⟩:=s;rw[insB_all y] at p;obtain⟨D,h,B⟩:=p;exact⟨b,by rw[u,v,z],I.tsz,I.dfs,⟨D,h.mono A,B⟩,I.bel⟩
theorem newBuiltins_any (w:World):Calls Tryz.prog 25 #[] w fun e f=>∃ b,e = .returned (.map (some b))/\BuIn f b 92 buTab/\Below w.heap.size w f:=by
 go_enter Tryz.func25,Tryz.ntmps25
 go_wp2_with fail;refine wp_region_any (ops:=bOps) (by kernel_rfl) ?_;refine wpAny_inv (BInv w) (fun L a f I i o=>bnew_step w L a f I i o) (fun L a f I p=>?_) _ _ _ _ ?_ (by have:=unl_le (Array.replicate bOps.size false);simpa using this)
 ·obtain⟨b,g,r,n,m,l⟩:=bnew_end I p
  refine ‹∀ (a:Act) (w:World),Code.wp _ Code.ret _ a w->_› _ _ ?_;refine wp_ret ?_;exact bodyPost_ret (v:=.map (some b)) (by simp[results,Tryz.results25,g]) n ⟨b,rfl,m,l⟩
 ·have d:∀ k,(Array.replicate bOps.size false).getD k false=false:=fun k=>by
   simp only[Array.getD_eq_getD_getElem?,Array.getElem?_replicate]
   split <;> rfl
  refine⟨by simp[bsize_ops],rfl,rfl,⟨rfl,rfl,rfl,Nat.le_refl _,fun _ _=>rfl⟩,fun j q h=>?_,?_,fun h=>?_,fun h=>?_⟩
  ·rw[d] at h;cases h
  ·rw[if_neg (by rw[d];decide)]
   exact fun j _=>d _
  ·rw[d] at h;cases h
  ·rw[d] at h;cases h
end
section
open Go
section
variable {P:Program}{ops:Array Oper}{Q:Exit->Act->World->Prop}{md:Region.Mode}{S:World->Prop}
theorem hBoth {i j:Nat}{fuel:Nat}{b:Array Bool}{a:Act}{w:World}(h:Region.ready md ops b = [i,j])
  (f:wpOp P ops Q i (fun d w'=>S w'/\wpAnyH P md ops Q S fuel (b.setIfInBounds i true) d w') a w)
  (g:wpOp P ops Q j (fun d w'=>S w'/\wpAnyH P md ops Q S fuel (b.setIfInBounds j true) d w') a w):wpAnyH P md ops Q S (fuel+1) b a w:=by
 refine wpAnyH_all h (by simp) ?_
 intro k e
 simp only[List.mem_cons,List.not_mem_nil,or_false] at e
 rcases e with rfl | rfl
 ·exact f
 ·exact g
theorem opStep {i:Nat}{v:Value}{K:Act->World->Prop}{a:Act}{w w':World}(d:Option Tmp)(j:(ops[i]?).map (·.dst)=some d)(k:(ops[i]?).map (fun o=>Region.wanted o (yielded ops a.tmps))=some true)
  (e:∀ o,ops[i]?=some o->(execOp a.eval o).run P w = .ok (.value v) w') (h:K (a.put d v) w'):wpOp P ops Q i K a w:=by
 cases b:ops[i]? with
 | none=>simp[b] at j
 | some o=>
   have f:o.dst=d:=by simpa [b] using j
   have g:Region.wanted o (yielded ops a.tmps)=true:=by simpa [b] using k
   subst f
   unfold wpOp
   simp only[b,g,if_true,Oper.wp,e o b,Oper.upon];exact .inl h
theorem opCall {i:Nat}{f:FuncId}{args:Array Value}{R:Ending->World->Prop}{K:Act->World->Prop}{a:Act}{w:World}(d:Option Tmp)(n:(ops[i]?).map (·.dst)=some d)(t:(ops[i]?).map (fun o=>Region.wanted o (yielded ops a.tmps))=some true)
  (h:∀ o,ops[i]?=some o->(execOp a.eval o).run P w = .ok (.enter f args) w) (p:Calls P f args w R) (q:∀ u w',R (.returned u) w'->K (a.put d u) w')
  (s:∀ j w',¬ R (.panicked j) w') (r:∀ w',¬ R .outgrown w'):wpOp P ops Q i K a w:=by
 cases g:ops[i]? with
 | none=>simp[g] at n
 | some o=>
   have k:o.dst=d:=by simpa [g] using n
   have m:Region.wanted o (yielded ops a.tmps)=true:=by simpa [g] using t
   subst k
   unfold wpOp
   simp only[g,m,if_true,Oper.wp,h o g,Oper.upon];refine .inl (p.mono fun e b l=>?_)
   cases e with
   | returned u=>exact q u b l
   | panicked j=>exact absurd l (s j b)
   | outgrown=>exact absurd l (r b)
end
end
section
open Go Go.RowKit
def marks (k:Int):Nat->List Int
 | 0=>[]
 | n+1=>(k % 256) :: marks (k+1) n
theorem wrap_byte (k:Int)(h:0<=k):IntKind.u8.wrap k=k % 256:=by
 simp[IntKind.wrap,IntKind.signed,IntKind.bits]
theorem OwnS.kept {w k:World}{B:Nat}{p:Option Addr}{n c:Nat}{l:List Int}{row:Option Nat}(h:OwnS w B p n c l)(q:w.grownBy k row)(f:∀ g,p=some ⟨g,0,none⟩->row≠some g):OwnS k B p n c l:=by
 obtain⟨rfl,j⟩:=h;refine⟨rfl,j.1,?_⟩
 rcases j.2 with m | ⟨g,b,d,i,o,a,r⟩
 ·exact .inl m
 ·have s:p=some ⟨g,0,none⟩:=by simp only[Value.slice.injEq] at i;exact i.1
  exact .inr ⟨g,b,d,i,o,(q.block g (Array.getElem?_eq_some_iff.1 a).1 (fun e=>f g s e.symm)).trans a,r⟩
theorem OwnS.drewN {w:World}{B:Nat}{p:Option Addr}{n c:Nat}{a:List Int}(h:OwnS w B p n c a)(m:Nat):OwnS (w.drewN m) B p n c a:=⟨h.1,h.2⟩
def tb (p:Option Addr)(n:Nat):Option Nat:=if n=0 then none else p.map Addr.block
structure Keep (B U:Nat)(w w':World):Prop where
 os:w'.os=w.os
 tape:w'.tape=w.tape
 output:w'.output=w.output
 size:w.heap.size<=w'.heap.size
 block:∀ k,k<w.heap.size->(k<B∨U<=k)->w'.heap[k]?=w.heap[k]?
theorem Keep.refl (B U:Nat)(w:World):Keep B U w w:=⟨rfl,rfl,rfl,Nat.le_refl _,fun _ _ _=>rfl⟩
theorem Keep.trans {B U:Nat}{a b c:World}(h:Keep B U a b)(k:Keep B U b c):Keep B U a c:=
 ⟨k.os.trans h.os,k.tape.trans h.tape,k.output.trans h.output,Nat.le_trans h.size k.size,fun i d e=>(k.block i (Nat.lt_of_lt_of_le d h.size) e).trans (h.block i d e)⟩
theorem Keep.below {B U:Nat}{w w':World}(h:Keep B U w w'){A:Nat}(a:A<=B)(d:A<=w.heap.size):Below A w w':=⟨h.os,h.tape,h.output,h.size,fun k b=>h.block k (by omega) (.inl (by omega))⟩
theorem Keep.of_grown {B U:Nat}{w a:World}{row:Option Nat}(h:w.grownBy a row)(d:∀ k,row=some k->B<=k/\k<U):Keep B U w a:=
 ⟨h.os,h.tape,h.output,h.size,fun k b f=>h.block k b (fun e=>by have:=d k e.symm;omega)⟩
theorem tb_of {g n:Nat}(h:0<n):tb (some ⟨g,0,none⟩) n=some g:=by unfold tb;rw[if_neg (by omega)];rfl
theorem tb_some {p:Option Addr}{n k:Nat}(h:tb p n=some k):0<n/\∃ a,p=some a/\a.block=k:=by
 unfold tb at h
 split at h
 ·cases h
 ·cases p with
  | none=>cases h
  | some a=>exact⟨by omega,a,rfl,Option.some.inj h⟩
theorem OwnT.tb {w:World}{B:Nat}{p:Option Addr}{n c:Nat}{j:List Int}(h:OwnT w B p n c j){k:Nat}(e:tb p n=some k):p=some ⟨k,0,none⟩/\B<=k/\k<w.heap.size:=by
 obtain⟨i,a,rfl,rfl⟩:=tb_some e;obtain⟨g,b,d,f,_⟩:=h.2 i;obtain rfl:=Option.some.inj b;exact⟨rfl,d,f⟩
def kAt (k:Int)(cs:List Cel)(j:Nat):Int:=k+2 * j+tl (cs.take j)
theorem cs_set_at (a:List Cel)(i j:Nat)(r:Cel)(h:i<a.length):(a.set i r).getD j Cel.none=if j=i then r else a.getD j Cel.none:=by
 simp only[List.getD,List.getElem?_set]
 by_cases e:j=i
 ·subst e;simp[h]
 ·have:¬ i=j:=fun x=>e x.symm
  simp[this,e]
def OwnCU (w:World)(B U:Nat)(p:Option Addr)(n c:Nat)(cs:List Cel):Prop:=
 n=cs.length/\∃ rs:List RC,rs.length=cs.length/\w.ownsRow B 27 3 (.slice p n c) n (flat rs)/\(∀ i,i<cs.length->Fits w B (rs.getD i RC.zero) (cs.getD i Cel.none))/\ApartC p rs/\
   (∀ k,Value.ownBlock (.slice p n c)=some k->k<U)/\(∀ i,i<cs.length->∀ k,tb (rs.getD i RC.zero).2.2.1 (rs.getD i RC.zero).2.2.2.1=some k->k<U)
theorem OwnCU.toC {w:World}{B U:Nat}{p:Option Addr}{n c:Nat}{a:List Cel}(h:OwnCU w B U p n c a):OwnC w B p n c a:=by
 obtain⟨e,g,d,f,b,ha,_⟩:=h;exact⟨e,g,d,f,b,ha⟩
theorem OwnC.up {w:World}{B:Nat}{p:Option Addr}{n c:Nat}{b:List Cel}(h:OwnC w B p n c b):OwnCU w B w.heap.size p n c b:=by
 obtain⟨j,l,g,e,d,ha⟩:=h;exact⟨j,l,g,e,d,ha,fun k a=>(e.lt k a).2,fun i f k a=>((d i f).2.2.tb a).2.2⟩
theorem OwnCU.other {w o:World}{B U:Nat}{p:Option Addr}{n c:Nat}{q:List Cel}(h:OwnCU w B U p n c q)(E:w.heap.size<=o.heap.size)(u:∀ k,k<w.heap.size->B<=k->k<U->o.heap[k]?=w.heap[k]?):OwnCU o B U p n c q:=by
 obtain⟨D,m,C,x,b,ha,z,y⟩:=h;refine⟨D,m,C,⟨x.1,?_⟩,fun i a=>⟨(b i a).1,(b i a).2.1,(b i a).2.2.other E (fun g j e=>?_)⟩,ha,z,y⟩
 ·rcases x.2 with A | ⟨g,d,f,l,t,v,r⟩
  ·exact .inl A
  ·refine .inr ⟨g,d,f,l,t,(u g (Array.getElem?_eq_some_iff.1 v).1 t (z g ?_)).trans v,r⟩
   simp only[Value.slice.injEq] at l;rw[l.1];rfl
 ·have s:Go.Proofs.YtnfnddnffoigfaaGreatDoor.tb (m.getD i RC.zero).2.2.1 (m.getD i RC.zero).2.2.2.1=some g:=by rw[e];exact tb_of j
  have:=(b i a).2.2.tb s;exact u g this.2.2 this.2.1 (y i a g s)
theorem OwnCU.below {w w':World}{B U:Nat}{p:Option Addr}{n c:Nat}{a:List Cel}(h:OwnCU w B U p n c a)(b:Below w.heap.size w w'):OwnCU w' B U p n c a:=h.other b.size (fun k d _ _=>b.block k d)
theorem OwnCU.keep {w f:World}{B U a b:Nat}{p:Option Addr}{n c:Nat}{d:List Cel}(h:OwnCU w B U p n c d)(e:Keep a b w f)(l:U<=a∨b<=B):OwnCU f B U p n c d:=h.other e.size (fun k g i j=>e.block k g (by omega))
def endC (k:Int)(cs:List Cel):Int:=kAt k cs cs.length
theorem infoCells:(Tryz.prog.info? 23).map (fun i=>(i.zero,i.size,i.bytes))=some (some (.slice none 0 0),1,24):=by kernel_rfl
abbrev It:=Option Addr×Nat×Nat×Nat
def It.zero:It:=(none,0,0,0)
theorem ds_append_at (a:List It)(r:It)(i:Nat)(h:i<=a.length):(a ++ [r]).getD i It.zero=if i=a.length then r else a.getD i It.zero:=by
 by_cases e:i=a.length
 ·subst e;simp[List.getD]
 ·rw[if_neg e,List.getD,List.getD,List.getElem?_append_left (by omega)]
def tll:List (List Cel)->Nat
 | []=>0
 | c :: r=>c.length+tl c+tll r
theorem tll_at:∀ (a:List (List Cel)) (i:Nat),i<a.length->(a.getD i []).length+tl (a.getD i [])<=tll a
 | [],i,h=>by simp at h
 | c :: r,0,_=>by simp[tll]
 | c :: r,i+1,h=>by have:=tll_at r i (by simpa using h);simp only[tll,List.getD_cons_succ];omega
end
section
open Go
section
variable {P:Program}{ops:Array Oper}{Q:Exit->Act->World->Prop}{md:Region.Mode}{S:World->Prop}{c:Nat}
def wpAnyU (P:Program)(md:Region.Mode)(ops:Array Oper)(Q:Exit->Act->World->Prop)(S:World->Prop)(c:Nat):Nat->Array Bool->Act->World->Prop
 | 0,listed,a,w=>Region.ready md ops listed = []/\Q .normal a w
 | fuel+1,listed,a,w=>
   (Region.ready md ops listed = []->Q .normal a w)/\
   ∀ i ∈ Region.ready md ops listed,wpOp P ops Q i (fun a' w'=>((listed.setIfInBounds i true).getD c true=false->S w')/\wpAnyU P md ops Q S c fuel (listed.setIfInBounds i true) a' w') a w
theorem wpAny_of_until:∀ (fuel:Nat) (b:Array Bool) (a:Act) (w:World),wpAnyU P md ops Q S c fuel b a w->wpAny P md ops Q fuel b a w
 | 0,_,_,_,h=>h
 | fuel+1,_,_,_,h=>⟨h.1,fun i f=>wpOp_mono (fun d g e=>wpAny_of_until fuel _ d g e.2) (h.2 i f)⟩
def waitsB (md:Region.Mode)(ops:Array Oper)(D:List Nat)(i:Nat):Bool:=
 !D.contains i && D.all fun d=>match ops[d]? with
  | some o=>o.after.any fun e=>Region.binds md e && (e.on == i || D.contains e.on)
  | none=>false
theorem waits_spec {D:List Nat}{i:Nat}(h:waitsB md ops D i=true):i ∉ D/\∀ d ∈ D,∃ o,ops[d]?=some o/\∃ e ∈ o.after,Region.binds md e=true/\(e.on=i∨e.on ∈ D):=by
 simp only[waitsB,Bool.and_eq_true,Bool.not_eq_true',List.all_eq_true] at h;refine⟨by simpa using h.1,fun d g=>?_⟩;have a:=h.2 d g
 cases b:ops[d]? with
 | none=>simp[b] at a
 | some o=>
   simp only[b,Array.any_eq_true',Bool.and_eq_true,Bool.or_eq_true,beq_iff_eq,List.contains_iff_mem] at a;obtain⟨e,j,f,k⟩:=a;exact⟨o,rfl,e,j,f,k⟩
theorem wpAnyU_first {i:Nat}{B:Oper}{v:Value}{D:List Nat}(V:ops[i]?=some B)(u:∀ (j:Nat) (o:Oper) E b,ops[j]?=some o->o.op≠.select E b)
  (hQ:∀ c a w,Q (.panic c) (a.put B.dst v) w->Q (.panic c) a w) (hw:waitsB md ops D i=true) (x:c ∈ D) :
  ∀ (fuel:Nat) (f:Array Bool) (a:Act) (w:World),
    (∀ j C,ops[j]?=some C->j≠i->f.getD j true=false->(∀ e ∈ C.after,Region.binds md e=true->e.on≠i)->B.apart ops C=true)->
    (∀ d ∈ D,f.getD d true=false)->
    i ∈ Region.ready md ops f->YieldsIf P ops S B v a->S w->
    wpAnyU P md ops Q S c fuel (f.setIfInBounds i true) (a.put B.dst v) w->wpAnyU P md ops Q S c (fuel+1) f a w:=by
 obtain⟨W,A⟩:=waits_spec hw
 intro fuel
 induction fuel with
 | zero=>
   intro f a w _ _ z R G H
   refine⟨fun h=>(by rw[h] at z;cases z),fun j O=>?_⟩
   by_cases g:j=i
   ·subst g;exact R.wpOp V G ⟨fun _=>G,H⟩
   ·have:=ready_mono O g
    rw[H.1] at this
    cases this
 | succ fuel ih=>
   intro f a w m T z R G H
   refine⟨fun h=>(by rw[h] at z;cases z),fun j O=>?_⟩
   by_cases g:j=i
   ·subst g;exact R.wpOp V G ⟨fun _=>G,H⟩
   ·have l:=H.2 j (ready_mono O g)
    obtain⟨s,C,q,r⟩:=mem_ready.1 O
    have t:∀ e ∈ C.after,Region.binds md e=true->e.on≠i:=fun e N M U=>by
     have l:=r e N M;have F:=(mem_ready.1 z).1;rw[U] at l
     rcases Nat.lt_or_ge i f.size with h' | h'
     ·simp[h'] at F l;rw[F] at l;cases l
     ·simp[Array.getElem?_eq_none h'] at l
    have p:j ∉ D:=fun p=>by
     obtain⟨o,ho,e,N,M,hx⟩:=A j p;rw[q] at ho
     cases ho
     rcases hx with hx | hx
     ·exact t e N M hx
     ·have l:=r e N M
      have F:=T _ hx
      rcases Nat.lt_or_ge e.on f.size with h' | h'
      ·simp[h'] at F l;rw[F] at l;cases l
      ·simp[Array.getElem?_eq_none h'] at l
    have y:∀ d ∈ D,(f.setIfInBounds j true).getD d true=false:=fun d Z=>by
     rw[getD_set_ne true (show j≠d from fun e=>p (e▸Z))];exact T d Z
    have I:((f.setIfInBounds i true).setIfInBounds j true).getD c true=false:=by
     rw[getD_set_ne true (show j≠c from fun e=>p (e▸x)),getD_set_ne true (show i≠c from fun e=>W (e▸x))];exact T c x
    have h2:=wpOp_putIf q (m j C q g s t) (fun E b=>u i B E b V) (fun E b=>u j C E b q) hQ R l;have n:∀ k ok,ops[k]?=some ok->k≠i->(f.setIfInBounds j true).getD k true=false->
      (∀ e ∈ ok.after,Region.binds md e=true->e.on≠i)->B.apart ops ok=true:=fun k ok hk X K Y=>by
     refine m k ok hk X ?_ Y
     by_cases J:j=k
     ·subst J;exact s
     ·rw[getD_set_ne true J] at K;exact K
    refine wpOp_mono (fun a' w' L=>⟨fun _=>L.2.1 I,ih (f.setIfInBounds j true) a' w' n y (ready_mono z (Ne.symm g)) L.1 (L.2.1 I) ?_⟩) h2;rw[Array.setIfInBounds_comm _ _ g];exact L.2.2
theorem wpAnyU_take {i:Nat}{v:Value}{D:List Nat}{fuel:Nat}{b:Array Bool}{a:Act}{w:World}(d:Option Tmp)(g:(ops[i]?).map (·.dst)=some d)
  (q:Region.noSelect ops=true) (o:Region.free md ops b i=true) (p:(Region.ready md ops b).contains i=true) (r:waitsB md ops D i=true) (j:D.contains c=true) (l:(D.all fun d=>!b.getD d true)=true)
  (m:∀ c a w,Q (.panic c) (a.put d v) w->Q (.panic c) a w) (s:∀ f,ops[i]?=some f->YieldsIf P ops S f v a) (n:S w)
  (h:wpAnyU P md ops Q S c fuel (b.setIfInBounds i true) (a.put d v) w):wpAnyU P md ops Q S c (fuel+1) b a w:=by
 cases e:ops[i]? with
 | none=>simp[e] at g
 | some f=>
   have k:f.dst=d:=by simpa [e] using g
   subst k;exact wpAnyU_first e (Region.noSelect_spec q) m r (by simpa using j) fuel b a w (Region.free_spec e o) (fun d g=>by have:=List.all_eq_true.1 l d g;simpa using this) (by simpa using p) (s f e) n h
theorem wpAnyU_all {rs:List Nat}{fuel:Nat}{b:Array Bool}{a:Act}{w:World}(e:Region.ready md ops b=rs)(d:rs≠[])
  (h:∀ i ∈ rs,wpOp P ops Q i (fun f w'=>((b.setIfInBounds i true).getD c true=false->S w')/\wpAnyU P md ops Q S c fuel (b.setIfInBounds i true) f w') a w):wpAnyU P md ops Q S c (fuel+1) b a w:=
 ⟨fun g=>absurd (e▸g) d,e▸h⟩
theorem wpAnyU_done {b:Array Bool}{a:Act}{w:World}(d:Region.ready md ops b = [])(h:Q .normal a w) :
  ∀ fuel,wpAnyU P md ops Q S c fuel b a w
 | 0=>⟨d,h⟩
 | _+1=>⟨fun _=>h,by rw[d];simp⟩
theorem wp_region_until {id:Nat}{a:Act}{w:World}(b:P.follows .mixedOrders=true)
  (h:wpAnyU P .any ops Q S c ops.size (Array.replicate ops.size false) a { w with drawn:=w.drawn+1 }):(Code.region id ops true).wp P Q a w:=
 wp_region_any b (wpAny_of_until _ _ _ _ h)
theorem wpOp_value {i:Nat}{v:Value}{a:Act}{w w':World}{K:Act->World->Prop}(d:Option Tmp)(h:(ops[i]?).map (·.dst)=some d)(k:(ops[i]?).map (fun o=>Region.wanted o (yielded ops a.tmps))=some true)
  (e:∀ o,ops[i]?=some o->(execOp a.eval o).run P w = .ok (.value v) w') (j:K (a.put d v) w'):wpOp P ops Q i K a w:=by
 cases b:ops[i]? with
 | none=>simp[b] at h
 | some o=>
   have f:o.dst=d:=by simpa [b] using h
   have g:Region.wanted o (yielded ops a.tmps)=true:=by simpa [b] using k
   subst f
   unfold wpOp
   simp only[b,g,if_true,Oper.wp,e o b,Oper.upon];exact .inl j
theorem wpOp_skip {i:Nat}{a:Act}{w w':World}{K:Act->World->Prop}(d:Option Tmp)(h:(ops[i]?).map (·.dst)=some d)(k:(ops[i]?).map (fun o=>Region.wanted o (yielded ops a.tmps))=some true)
  (e:∀ o,ops[i]?=some o->(execOp a.eval o).run P w = .ok .skip w') (j:K (a.put d undef) w'):wpOp P ops Q i K a w:=by
 cases b:ops[i]? with
 | none=>simp[b] at h
 | some o=>
   have f:o.dst=d:=by simpa [b] using h
   have g:Region.wanted o (yielded ops a.tmps)=true:=by simpa [b] using k
   subst f
   unfold wpOp
   simp only[b,g,if_true,Oper.wp,e o b,Oper.upon];exact .inl j
theorem wpOp_enter {i:Nat}{f:FuncId}{args:Array Value}{R:Ending->World->Prop}{a:Act}{w w':World}{K:Act->World->Prop}(d:Option Tmp)(n:(ops[i]?).map (·.dst)=some d)(t:(ops[i]?).map (fun o=>Region.wanted o (yielded ops a.tmps))=some true)
  (h:∀ o,ops[i]?=some o->(execOp a.eval o).run P w = .ok (.enter f args) w') (p:Calls P f args w' R) (q:∀ u b,R (.returned u) b->K (a.put d u) b) (s:∀ j b,R (.panicked j) b->Q (.panic j) a b) (r:∀ b,¬ R .outgrown b):wpOp P ops Q i K a w:=by
 cases g:ops[i]? with
 | none=>simp[g] at n
 | some o=>
   have k:o.dst=d:=by simpa [g] using n
   have m:Region.wanted o (yielded ops a.tmps)=true:=by simpa [g] using t
   subst k
   unfold wpOp
   simp only[g,m,if_true,Oper.wp,h o g,Oper.upon];refine .inl (p.mono fun e b l=>?_)
   cases e with
   | returned u=>exact q u b l
   | panicked j=>exact s j b l
   | outgrown=>exact absurd l (r b)
end
end
section
open Go Go.RowKit
end
section
open Go Go.RowKit
end
section
open Go Go.RowKit
def Tab (W:World):Prop:=∀ i,i<128->W.cell? ⟨7,i,none⟩=some (.int .u8 (tab.getD i 0))
theorem Tab.below {W a:World}(h:Tab W)(d:Below W.heap.size W a):Tab a:=fun i b=>(d.cell (World.block_lt_of_cell? _ _ (h i b))).trans (h i b)
def byteI (xs:List Int)(i:Nat):Int:=if i<xs.length then xs.getD i 0 else -1
theorem byteI_lt {xs:List Int}{i:Nat}(h:i<xs.length):byteI xs i=xs.getD i 0:=by unfold byteI;rw[if_pos h]
theorem byteI_ge {a:List Int}{i:Nat}(h:a.length<=i):byteI a i = -1:=by unfold byteI;rw[if_neg (by omega)]
theorem byteI_rng {xs:List Int}(a:Bytes xs)(i:Nat) : -1<=byteI xs i/\byteI xs i<256:=by
 unfold byteI;split
 ·have:=a.at i;omega
 ·omega
theorem byteAt_any (S b n c:Nat)(d:List Int)(a:Nat)(w:World)(k:Bytes d)(j:n=d.length)(s:n<=1000000)(ha:a<=10000000)
  (r:w.cell? ⟨S,0,none⟩=some (.slice (some ⟨b,0,none⟩) n c)) (f:∀ i,i<d.length->w.cell? ⟨b,i,none⟩=some (.int .u8 (d.getD i 0))) :
  Calls Tryz.prog 324 #[.pointer (some ⟨S,0,none⟩),.int .i64 a] w fun e q=>e = .returned (.int .i64 (byteI d a))/\q=w:=by
 by_cases h:a<d.length
 ·rw[byteI_lt h]
  have p:=f a h;have o:=k.at a
  have m:a<n:=by omega
  obtain⟨x,g⟩:∃ x,x=d.getD a 0:=⟨_,rfl⟩
  rw[<-g] at p o ⊢;clear g f j
  go_enter Tryz.func324,Tryz.ntmps324
  go_wp2
  go_ret;exact⟨rfl,rfl⟩
 ·rw[byteI_ge (by omega)]
  have l:n<=a:=by omega
  clear f j
  go_enter Tryz.func324,Tryz.ntmps324
  go_wp2
  go_ret;exact⟨rfl,rfl⟩
def digI (b:Int):Int:=if 48<=b/\b<=57 then b-48 else if 97<=b/\b<=102 then b-87 else if 65<=b/\b<=70 then b-55 else 16
theorem digitValue_any (b:Int)(w:World)(n : -1<=b)(o:b<256):Calls Tryz.prog 396 #[.int .i64 b] w fun e k=>e = .returned (.int .i64 (digI b))/\k=w:=by
 by_cases a:48<=b/\b<=57
 ·rw[show digI b=b-48 by unfold digI;rw[if_pos a]]
  obtain⟨l,d⟩:=a
  go_enter Tryz.func396,Tryz.ntmps396
  go_wp2
  go_ret;exact⟨rfl,rfl⟩
 by_cases d:97<=b/\b<=102
 ·rw[show digI b=b-87 by unfold digI;rw[if_neg a,if_pos d]]
  obtain⟨f,i⟩:=d
  have g:decide (48<=b)=true:=by rw[decide_eq_true_iff];omega
  have h:decide (b<=57)=false:=by rw[decide_eq_false_iff_not];omega
  clear a
  go_enter Tryz.func396,Tryz.ntmps396
  go_wp2
  go_ret;exact⟨ret_int (by omega),rfl⟩
 by_cases f:65<=b/\b<=70
 ·rw[show digI b=b-55 by unfold digI;rw[if_neg a,if_neg d,if_pos f]]
  obtain⟨i,m⟩:=f
  have g:decide (48<=b)=true:=by rw[decide_eq_true_iff];omega
  have h:decide (b<=57)=false:=by rw[decide_eq_false_iff_not];omega
  have j:decide (97<=b)=false:=by rw[decide_eq_false_iff_not];omega
  clear a d
  go_enter Tryz.func396,Tryz.ntmps396
  go_wp2
  go_ret;exact⟨ret_int (by omega),rfl⟩
 ·rw[show digI b=16 by unfold digI;rw[if_neg a,if_neg d,if_neg f]]
  have g:(decide (48<=b) && decide (b<=57))=false:=by simp;omega
  have h:(decide (97<=b) && decide (b<=102))=false:=by simp;omega
  have j:(decide (65<=b) && decide (b<=70))=false:=by simp;omega
  go_enter Tryz.func396,Tryz.ntmps396
  go_wp2
  all_goals go_ret
  all_goals exact⟨rfl,rfl⟩
theorem standsFor_any (b:Int)(w:World)(f : -1<=b)(g:b<256):Calls Tryz.prog 373 #[.int .i64 b] w fun e d=>e = .returned (.bool (decide (32<=b/\b≠127)))/\d=w:=by
 by_cases a:32<=b
 ·go_enter Tryz.func373,Tryz.ntmps373
  go_wp2
  go_ret;exact⟨ret_bool (by rw[Bool.eq_iff_iff];simp[a]),rfl⟩
 ·have h:decide (32<=b)=false:=by rw[decide_eq_false_iff_not];omega
  go_enter Tryz.func373,Tryz.ntmps373
  go_wp2
  go_ret;exact⟨ret_bool (by first | rfl | (rw[eq_comm,decide_eq_false_iff_not];omega)),rfl⟩
def baseI (b:Int):Int:=if b=120 then 16 else if b=111 then 8 else if b=98 then 2 else 0
theorem baseOf_any (b:Int)(w:World)(h : -1<=b)(i:b<256):Calls Tryz.prog 395 #[.int .i64 b] w fun e g=>e = .returned (.int .i64 (baseI b))/\g=w:=by
 by_cases a:b=120
 ·subst a
  go_enter Tryz.func395,Tryz.ntmps395
  go_wp2
  go_ret;exact⟨rfl,rfl⟩
 by_cases d:b=111
 ·subst d
  clear a
  go_enter Tryz.func395,Tryz.ntmps395
  go_wp2
  go_ret;exact⟨rfl,rfl⟩
 by_cases f:b=98
 ·subst f
  clear a d
  go_enter Tryz.func395,Tryz.ntmps395
  go_wp2
  go_ret;exact⟨rfl,rfl⟩
 ·rw[show baseI b=0 by unfold baseI;rw[if_neg a,if_neg d,if_neg f]]
  have j:(b == 120)=false:=by simpa using a
  have k:(b == 111)=false:=by simpa using d
  have l:(b == 98)=false:=by simpa using f
  clear a d f
  go_enter Tryz.func395,Tryz.ntmps395
  go_wp2
  go_ret;exact⟨rfl,rfl⟩
def endsI (b:Int):Bool:=decide (b = -1∨b=37∨b=32∨b=9∨b=10∨b=13)
theorem isOf16_all:(List.range 257).all (fun c=>isOfB ((c:Int)-1) 16 == decide (((c:Int)-1)=32∨((c:Int)-1)=9∨((c:Int)-1)=10∨((c:Int)-1)=13))=true:=by decide +kernel
theorem isOf16 {b:Int}(a : -1<=b)(d:b<256):isOfB b 16=decide (b=32∨b=9∨b=10∨b=13):=by
 have h:=List.all_eq_true.1 isOf16_all (b+1).toNat (by simp;omega);rw[show(((b+1).toNat:Nat):Int)-1=b by omega] at h
 simpa using h
theorem endsBehind_any (S b n c:Nat)(f:List Int)(d:Nat)(w:World)(m:Bytes f)(B:n=f.length)(A:n<=1000000)(ha:d<=10000000)
  (v:w.cell? ⟨S,0,none⟩=some (.slice (some ⟨b,0,none⟩) n c)) (z:∀ i,i<f.length->w.cell? ⟨b,i,none⟩=some (.int .u8 (f.getD i 0))) (y:Tab w) :
  Calls Tryz.prog 330 #[.pointer (some ⟨S,0,none⟩),.int .i64 d] w fun e k=>e = .returned (.bool (endsI (byteI f d)))/\k=w:=by
 have s:=hid z;have C:=hid y;have t:=hid B;have q:=byteI_rng m d;have p:=isOf16 q.1 q.2;clear z y B
 obtain⟨x,l⟩:∃ x,x=byteI f d:=⟨_,rfl⟩
 rw[<-l] at q p ⊢;have u:=hid l.symm;clear l
 have g:∀ r:Bool,endsI x=r->Hid (endsI x=r):=fun _ h=>h
 by_cases a:x = -1
 rotate_right
 case' _=>
  by_cases j:x=37
  rotate_left
  ·have E:=g (isOfB x 16) (by rw[p];simp[endsI,a,j])
   have D:(x == -1)=false:=by simpa using a
   have F:(x == 37)=false:=by simpa using j
   clear a j p
   go_enter Tryz.func330,Tryz.ntmps330
   go_wp2_with (first | (go_at_call 324;refine(byteAt_any S b n c f d _ m t.o A ha v s.o).mono ?_;rintro e k ⟨rfl,rfl⟩;rw[u.o]) | (go_at_call 325;refine(isOf_any _ _ _ (by omega) (by omega) C.o).mono ?_;rintro e k ⟨rfl,rfl⟩));go_ret;exact⟨ret_bool E.o.symm,rfl⟩
  have E:=g true (by simp[endsI,j]);subst j;clear a
 rotate_right
 case' _=>
  have E:=g true (by simp[endsI,a]);subst a
 all_goals
  go_enter Tryz.func330,Tryz.ntmps330
  go_wp2_with (go_at_call 324;refine(byteAt_any S b n c f d _ m t.o A ha v s.o).mono ?_;rintro e k ⟨rfl,rfl⟩;rw[u.o]);go_ret;exact⟨ret_bool E.o.symm,rfl⟩
def digsB (xs:List Int)(base:Int):Nat->Nat->Int->Int×Nat
 | 0,i,v=>(v,i)
 | f+1,i,v=>if digI (byteI xs i)<base then digsB xs base f (i+1) (min (v * base+digI (byteI xs i)) 1000000000000001) else(v,i)
theorem digs_end (b:List Int)(a:Int)(d:a<=16):∀ (f i:Nat) (v:Int),b.length<=i+f->∀ g,digsB b a (f+g) i v=digsB b a f i v
 | 0,i,v,h,0=>rfl
 | 0,i,v,h,g+1=>by
   have:digI (byteI b i)=16:=by rw[byteI_ge (by omega)];rfl
   have e:(0:Nat)+(g+1)=g+1:=by omega
   rw[e]
   unfold digsB
   rw[if_neg (by omega)]
 | f+1,i,v,h,g=>by
   have e:f+1+g=(f+g)+1:=by omega
   rw[e]
   unfold digsB
   split
   ·exact digs_end b a d f (i+1) _ (by omega) g
   ·rfl
theorem digs_step (b:List Int)(a:Int)(d:a<=16)(k:Nat)(v:Int)(h:digI (byteI b k)<a):digsB b a b.length k v=digsB b a b.length (k+1) (min (v * a+digI (byteI b k)) 1000000000000001):=by
 have g:k<b.length:=by
  rcases Nat.lt_or_ge k b.length with h' | h'
  ·exact h'
  ·rw[byteI_ge h'] at h;have:digI (-1)=16:=rfl;omega
 obtain⟨m,f⟩:∃ m,b.length=m+1:=⟨b.length-1,by omega⟩
 have e:digsB b a (m+1) k v=digsB b a m (k+1) (min (v * a+digI (byteI b k)) 1000000000000001):=by
  show(if digI (byteI b k)<a then _ else _)=_
  rw[if_pos h]
 rw[f,e,digs_end b a d m (k+1) _ (by omega) 1]
theorem digs_stop (b:List Int)(a:Int)(k:Nat)(v:Int)(h:¬ digI (byteI b k)<a):digsB b a b.length k v=(v,k):=by
 cases e:b.length with
 | zero=>rfl
 | succ m=>unfold digsB;rw[if_neg h]
theorem digI_rng (b:Int):0<=digI b/\digI b<=16:=by
 unfold digI
 repeat' split
 all_goals omega
theorem digits_any (S b n c:Nat)(f:List Int)(g:Nat)(a:Int)(w:World)(E:Bytes f)(O:n=f.length)(N:n<=1000000)(ha:g<=1000010)(m:0<=a)(p:a<=16)
  (K:w.cell? ⟨S,0,none⟩=some (.slice (some ⟨b,0,none⟩) n c)) (L:∀ i,i<f.length->w.cell? ⟨b,i,none⟩=some (.int .u8 (f.getD i 0))) :
  Calls Tryz.prog 393 #[.pointer (some ⟨S,0,none⟩),.int .i64 g,.int .i64 a] w fun e u=>e = .returned (.tuple #[.int .i64 (digsB f a f.length g 0).1,.int .i64 (digsB f a f.length g 0).2])/\u=w:=by
 have I:=hid L;have B:=hid O;clear L O
 go_enter Tryz.func393,Tryz.ntmps393
 go_wp2
 go_loop [1,8] (fun i q=>∃ (k:Nat) (v:Int),i = .int .i64 k/\q = .int .i64 v/\0<=v/\v<=1000000000000001/\k<=2000010/\Hid (k<=f.length+g)/\Hid (digsB f a f.length g 0=digsB f a f.length k v)) (fun i _=>3000000-(intOf i).toNat)
 case atStart=>exact⟨g,0,rfl,rfl,by decide,by decide,by omega,Nat.le_add_left _ _,rfl⟩
 case round=>
  obtain⟨k,v,rfl,rfl,G,H,W,V,A⟩:=hrel;have t:=byteI_rng E k;have M:=digI_rng (byteI f k)
  obtain⟨x,D⟩:∃ x,x=byteI f k:=⟨_,rfl⟩
  rw[<-D] at t M;have l:=hid D.symm
  obtain⟨d,C⟩:∃ d,d=digI x:=⟨_,rfl⟩
  rw[<-C] at M;have j:=hid C.symm;clear D C
  by_cases F:d<a
  ·have s:v * a<=1000000000000001 * 16:=by
    have:=Int.mul_le_mul H p m (by decide)
    omega
   have h:0<=v * a:=Int.mul_nonneg G m
   obtain⟨z,y⟩:∃ z,z=v * a:=⟨_,rfl⟩
   have J:Hid (k<f.length):=by
    rcases Nat.lt_or_ge k f.length with h' | h'
    ·exact h'
    ·have:=l.o;rw[byteI_ge h'] at this;have T:=j.o;rw[<-this] at T;have:digI (-1)=16:=rfl;omega
   have R:Hid (digsB f a f.length g 0=digsB f a f.length (k+1) (min (z+d) 1000000000000001)):=by
    show _=_
    rw[A.o,digs_step f a p k v (by rw[l.o,j.o];exact F),l.o,j.o,y]
   rw[<-y] at s h;have X:v * a=z:=y.symm;clear y A
   have U:k<n:=by rw[B.o];exact J.o
   go_wp2_with (first | (go_at_call 324;refine(byteAt_any S b n c f k _ E B.o N (by omega) K I.o).mono ?_;rintro e u ⟨rfl,rfl⟩;rw[l.o]) | (go_at_call 396;refine(digitValue_any x _ t.1 t.2).mono ?_;rintro e u ⟨rfl,rfl⟩;rw[j.o]))
   go_round
   case rel=>
    have r:min (z+d) 1000000000000001=if 1000000000000001<z+d then 1000000000000001 else z+d:=by split <;> omega
    exact⟨k+1,_,by go_num,rfl,by split <;> omega,by split <;> omega,by omega,by have:=J.o;show _<=_;omega,by rw[<-r];exact R⟩
   case measure=>simp[intOf];omega
  ·go_wp2_with (first | (go_at_call 324;refine(byteAt_any S b n c f k _ E B.o N (by omega) K I.o).mono ?_;rintro e u ⟨rfl,rfl⟩;rw[l.o]) | (go_at_call 396;refine(digitValue_any x _ t.1 t.2).mono ?_;rintro e u ⟨rfl,rfl⟩;rw[j.o]))
   go_ret2
   refine⟨?_,rfl⟩;rw[A.o,digs_stop f a k v (by rw[l.o,j.o];omega)]
   rfl
theorem news_ofS {w:World}{b o:Nat}{a:List Int}(g:∀ i,i<a.length->w.cell? ⟨b,o+i,none⟩=some (.int .u8 (a.getD i 0))):∀ j u,(a.map (Value.int .u8))[j]?=some u->w.cell? ((⟨b,o,none⟩:Addr).add j)=some u:=fun j u f=>by
 have d:j<a.length:=by
  rcases Nat.lt_or_ge j a.length with h | h
  ·exact h
  ·simp[List.getElem?_eq_none h] at f
 have e:(⟨b,o,none⟩:Addr).add j=⟨b,o+j,none⟩:=by unfold Addr.add;split <;> simp_all
 rw[e,g j d,<-f]
 simp[List.getD,d]
theorem clone_any (b o n c:Nat)(h:List Int)(w:World)(hn:n=h.length)(v:0<n)(z:n<=1000000)(m:∀ i,i<h.length->w.cell? ⟨b,o+i,none⟩=some (.int .u8 (h.getD i 0))) :
  Calls Tryz.prog 370 #[.slice (some ⟨b,o,none⟩) n c] w fun e r=>∃ q f j,e = .returned (.slice q f j)/\OwnS r w.heap.size q f j h/\Below w.heap.size w r:=by
 have s:Hid (∀ l i,i<h.length->(w.alloc l).cell? ⟨b,o+i,none⟩=some (.int .u8 (h.getD i 0))):=fun l i x=>Lib.cell?_alloc_marked l (m i x)
 have t:=hid hn;clear m hn
 have p:∀ (w:World) (a:Option Addr) (n c f j:Nat),(binOp .eql 22 (.slice a n c) (.slice none f j)).run Tryz.prog w = .ok (.bool a.isNone) w:=fun w a n c f j=>Lib.run_eql_slice_nil w _ _ a n c f j Tryz.underlying22
 go_enter Tryz.func370,Tryz.ntmps370
 go_wp2_with (at_builtin;refine app_bytes _ rfl _ _ rfl w.heap.size _ 0 _ [] h n t.o rfl ⟨rfl,World.ownsRow_lit w #[] 0 (Nat.le_refl _) (Nat.zero_le _) rfl⟩ _ c rfl (news_ofS (s.o _)) v (by omega) (by simp) ?_;intro g f u A d k y);go_ret;exact⟨_,_,_,rfl,d,((Below.refl _ _).alloc (Nat.le_refl _) _).trans k⟩
def hexL:List Int:=[48,49,50,51,52,53,54,55,56,57,97,98,99,100,101,102]
def hexD (k:Int):Int:=hexL.getD k.toNat 0
def q1 (c:Int):List Int:=
 if c=39∨c=92 then [92,c] else if c=10 then [92,110] else if c=9 then [92,116]
 else if c<32∨126<c then [92,120,hexD (c / 16),hexD (c % 16),92] else [c]
theorem news1 (w:World)(a:Int):∀ j u,(([a]:List Int).map (Value.int .u8))[j]?=some u->(w.alloc (.cells #[.int .u8 a] 5)).cell? ((⟨w.heap.size,0,none⟩:Addr).add j)=some u:=
 World.news_of_block (cs:=#[.int .u8 a]) (heap_alloc_new w _)
theorem own1 (w:World)(a:Int):OwnS (w.alloc (.cells #[.int .u8 a] 5)) w.heap.size (some ⟨w.heap.size,0,none⟩) 1 1 [a]:=⟨rfl,World.ownsRow_lit w #[.int .u8 a] 1 (Nat.le_refl _) (by unfold maxLen;omega) rfl⟩
theorem wrap_u8_in {x:Int}(a:0<=x)(b:x<256):IntKind.u8.wrap x=x:=by
 simp[IntKind.wrap,IntKind.signed,IntKind.bits]
 omega
theorem Below.of_grown {B:Nat}{w a:World}{row:Option Nat}(d:w.grownBy a row)(b:B<=w.heap.size)(e:∀ k,row=some k->B<=k):Below B w a:=(Below.refl _ _).grown d b e
end
end Go.Proofs.YtnfnddnffoigfaaGreatDoor
