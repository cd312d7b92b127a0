/- Texts of OkB, EvS1, EvS0, EvS2, EvS3, EvS4, EvS5, EvS6, EvS7, EvS8, LwC, DefP, OpsSort, OpsSort2, OpsM5, DefI, VisM, Cmp0, VtP, Vt1, SubP, VMp, VMap, Sub1, Sub2, Sub3, Sub4. Own work of the verifier. -/
import Derived.Test.YtnfnddnffoigfaaGreatDoorUqam
import Derived.Lib.Fields
import Derived.Sort.OwnSortedInts
import Derived.Test.YtnfnddnffoigfaaGreatDoorOpsL
import Derived.Test.YtnfnddnffoigfaaGreatDoorFieldsL
import Derived.Test.YtnfnddnffoigfaaGreatDoorUqan
import Derived.Test.YtnfnddnffoigfaaGreatDoorUqaq
namespace Go.Proofs.YtnfnddnffoigfaaGreatDoor
set_option maxHeartbeats 4000000
set_option linter.unusedVariables false
set_option linter.unusedSimpArgs false
set_option maxRecDepth 100000
section
open Go Go.RowKit
theorem okB_cells:∀ F:Fo,F.ok->∀ x ∈ F.cells,Byte x.2.2
 | .nil,_,x,h=>by simp[Fo.cells] at h
 | .node c k r,⟨_,h2,_,_,h5,h6⟩,x,h=>by
   simp only[Fo.cells,List.mem_cons,List.mem_append] at h
   rcases h with rfl | h | h
   ·exact h2
   ·exact okB_cells k h5 x h
   ·exact okB_cells r h6 x h
theorem valid_cellsO:∀ (F:Fo) (m:Nat) (a:List Cel),F.ok->validFrom ((m+F.count:Nat):Int) (F.cells ++ a)=validFrom (m:Int) a
 | .nil,m,a,_=>by simp[Fo.cells,Fo.count]
 | .node c k r,m,a,ho=>by
   have d:=ho.1
   have e:grows c.1 c.2.1=(k.count:Int):=by
    unfold grows
    by_cases b:c.1=3
    ·rw[if_pos b,ho.2.2.1 b]
    ·rw[if_neg b,ho.2.2.2.1 b];rfl
   have f:=valid_cellsO k (m+r.count) (r.cells ++ a) ho.2.2.2.2.1;have g:=valid_cellsO r m a ho.2.2.2.2.2;simp only[Fo.cells,Fo.count,List.cons_append,List.append_assoc,validFrom,e];rw[if_neg (by rw[d];simp;omega),<-g,<-f]
   congr 1
   push_cast
   omega
theorem okV_cells {c:Cel}{k:Fo}(h:(Fo.node c k .nil).ok):validFrom 1 (c :: k.cells)=true:=by
 have:=valid_cellsO (.node c k .nil) 0 [] h
 simpa [Fo.count,Fo.cells,validFrom] using this
end
section
open Go Go.RowKit
def Near (v:Int):Prop:=-1000000000000001<=v/\v<=1000000000000001
instance (v:Int):Decidable (Near v):=inferInstanceAs (Decidable (_/\_))
end
section
open Go Go.RowKit
def TmIn (w:World)(q:Option Addr)(m c:Nat)(cs:List Cel):Prop:=m=cs.length/\CIn w q cs/\0<m/\m+tl cs<=100000/\m<=c/\c<=9223372036854775807
theorem TmIn.below {w w':World}{q:Option Addr}{m c:Nat}{a:List Cel}(h:TmIn w q m c a)(b:Below w.heap.size w w'):TmIn w' q m c a:=⟨h.1,h.2.1.below b,h.2.2⟩
def TmO (w:World)(cs:List Cel)(e:Ending)(w':World):Prop:=∃ q m c,e = .returned (.slice q m c)/\TmIn w' q m c cs/\Below w.heap.size w w'
theorem one_lies {w:World}{g:Nat}{k n:Int}(a:w.heap[g]?=some (.cells #[.int .i64 k,.int .i64 n,.slice none 0 0] 27)):CIn w (some ⟨g,0,none⟩) [(k,n,[])]:=fun _=>⟨g,0,rfl,fun i b=>by
 obtain rfl:i=0:=by simp at b;omega
 exact⟨none,0,cell_of_row _ _ 0 _ _ _ a,cell_of_row _ _ 1 _ _ _ a,cell_of_row _ _ 2 _ _ _ a,fun h=>by simp at h⟩⟩
theorem number_any (n:Int)(w:World):Calls Tryz.prog 11 #[.int .i64 n] w (TmO w [(1,n,[])]):=by
 go_enter Tryz.func11,Tryz.ntmps11
 go_wp2_with fail;have a:=heap_alloc_new w (Obj.cells #[Value.int IntKind.i64 1,Value.int IntKind.i64 n,Value.slice none 0 0] 27)
 have b:Hid (TmIn (w.alloc (Obj.cells #[Value.int IntKind.i64 1,Value.int IntKind.i64 n,Value.slice none 0 0] 27)) (some ⟨w.heap.size,0,none⟩) 1 1 [(1,n,[])]):=⟨rfl,one_lies a,by decide,by simp[tl],by decide,by decide⟩
 clear a;go_ret;exact⟨_,_,_,rfl,b.o,(Below.refl _ _).alloc (Nat.le_refl _) _⟩
theorem variable_any (n:Int)(w:World):Calls Tryz.prog 7 #[.int .i64 n] w (TmO w [(0,n,[])]):=by
 go_enter Tryz.func7,Tryz.ntmps7
 go_wp2_with fail;have a:=heap_alloc_new w (Obj.cells #[Value.int IntKind.i64 0,Value.int IntKind.i64 n,Value.slice none 0 0] 27)
 have b:Hid (TmIn (w.alloc (Obj.cells #[Value.int IntKind.i64 0,Value.int IntKind.i64 n,Value.slice none 0 0] 27)) (some ⟨w.heap.size,0,none⟩) 1 1 [(0,n,[])]):=⟨rfl,one_lies a,by decide,by simp[tl],by decide,by decide⟩
 clear a;go_ret;exact⟨_,_,_,rfl,b.o,(Below.refl _ _).alloc (Nat.le_refl _) _⟩
theorem rowcap {w:World}{B s n c:Nat}{e:TypeId}{p:Option Addr}{i:List Value}(h:w.ownsRow B e s (.slice p n c) n i):n<=c/\c<=9223372036854775807:=by
 rcases h.2 with ⟨a,j⟩ | ⟨g,b,d,a,_,_,k,f,_⟩
 ·simp at a
  omega
 ·simp at a
  unfold maxLen at f
  omega
end
section
open Go Go.RowKit
def dRows:List (Int×Int×List UInt8):=[
 (1200,0,[58,45,32,45,45,62]),(1200,4,[58,45,32,63,45]),(1150,4,[100,121,110,97,109,105,99]),(1100,1,[59]),(1050,1,[45,62]),(1000,1,[44]),(900,3,[92,43]),
 (700,0,[61,32,92,61,32,61,61,32,92,61,61,32,64,60,32,64,61,60,32,64,62,32,64,62,61,32,61,46,46,32,105,115,32,61,58,61,32,61,92,61,32,60,32,61,60,32,62,32,62,61]),
 (500,2,[43,32,45,32,47,92,32,92,47,32,120,111,114]),(400,2,[42,32,47,32,47,47,32,109,111,100,32,114,101,109,32,60,60,32,62,62]),(200,0,[42,42]),(200,1,[94]),(200,3,[45,32,43,32,92])]
def opsRow (r:Int×Int×List UInt8):List Cel:=(wd [] r.2.2).map (fun x=>(r.1,r.2.1,numsU x))
def dOps:List Cel:=dRows.flatMap opsRow
theorem dRows_len:dRows.length=13:=rfl
theorem dOps_len:dOps.length<=60:=by decide
theorem row_good:dRows.all (fun r=>decide (0<r.1/\r.1<=1200/\0<=r.2.1/\r.2.1<=4) && (wd [] r.2.2).all (fun x=>decide (1<=x.length/\x.length<=100)))=true:=by decide
theorem fields_rows:dRows.all (fun r=>decide (Lib.fields r.2.2=wd [] r.2.2))=true:=by decide
theorem ascii_rows:dRows.all (fun r=>r.2.2.all (fun b=>decide (b.toNat<128)) && decide (r.2.2.length<100))=true:=by decide
structure Rel (T cs:List Cel):Prop where
 asc:Asc cs
 apart:Apart T
 same:∀ x,x ∈ T↔x ∈ cs
 post:∀ x ∈ T,postB x.2.1=false
theorem Rel.nil:Rel [] []:=⟨List.Pairwise.nil,List.Pairwise.nil,fun _=>Iff.rfl,fun x h=>by cases h⟩
theorem putO_asc' {a:List Cel}{o:Cel}(b:Asc a):Asc (putO a o):=by
 rw[putO]
 cases h:(o.1 == 0) with
 | true=>rw[putL_done];exact b.filter _
 | false=>exact putL_asc o a b
theorem Rel.code {T a:List Cel}(h:Rel T a){o:Cel}(c:postB o.2.1=false)(d:T.length<200):addCode T o=0:=by
 rw[addCode]
 cases b:findK T (keyC o) with
 | some x=>
   have:=h.post x (findK_some b).1
   simp[this,c]
 | none=>
   have:¬ T.length=200:=by omega
   simp[this]
theorem Rel.step {T a:List Cel}(h:Rel T a){o:Cel}(b:o.1≠0)(c:postB o.2.1=false)(g:T.length<200):Rel (addT T o) (putO a o):=by
 have f:=h.code c g
 have e:addT T o=dropK T (keyC o) ++ [o]:=by rw[addT,if_neg (by rw[f];simp),if_neg b]
 refine⟨putO_asc' h.asc,?_,fun x=>?_,fun x hx=>?_⟩
 ·rw[e]
  refine List.pairwise_append.2 ⟨List.Pairwise.filter _ h.apart,by simp,fun x hx y d=>?_⟩
  simp at d
  rw[d];exact(mem_dropK.1 hx).2
 ·have i:(o.1 == 0)=false:=by simpa using b
  rw[e,putO,i,putL_mem];simp only[List.mem_append,mem_dropK,List.mem_singleton,h.same]
  constructor
  ·rintro(h | h)
   ·exact .inr h
   ·exact .inl h
  ·rintro(h | h)
   ·exact .inr h
   ·exact .inl h
 ·rw[e] at hx
  rcases List.mem_append.1 hx with hx | hx
  ·exact h.post x (mem_dropK.1 hx).1
  ·simp at hx;rw[hx];exact c
theorem addT_len {T:List Cel}{o:Cel} : (addT T o).length<=T.length+1:=by
 rw[addT]
 split
 ·omega
 ·have a:(dropK T (keyC o)).length<=T.length:=List.length_filter_le _ _
  split
  ·omega
  ·simp;omega
def goodO (o:Cel):Prop:=o.1≠0/\postB o.2.1=false/\okT o
theorem dOps_good:∀ o ∈ dOps,goodO o:=fun o a=>by
 simp only[dOps,List.mem_flatMap,opsRow,List.mem_map] at a;obtain⟨r,b,x,c,rfl⟩:=a;have h:=List.all_eq_true.1 row_good r b;simp only[Bool.and_eq_true,decide_eq_true_eq,List.all_eq_true] at h;have d:=h.2 x c;refine⟨by show r.1≠0;omega,?_,byte_numsU x,by simp[numsU];omega⟩;simp only[postB,Bool.or_eq_false_iff,beq_eq_false_iff_ne]
 omega
theorem rel_fold:∀ (a T b:List Cel),Rel T b->(∀ o ∈ a,goodO o)->T.length+a.length<=200->Rel (a.foldl addT T) (a.foldl putO b)/\(a.foldl addT T).length<=T.length+a.length
 | [],T,b,h,_,_=>⟨h,by simp⟩
 | o :: r,T,b,h,hg,hl=>by
   have c:=hg o (List.mem_cons_self ..);simp only[List.length_cons] at hl;have d:=rel_fold r (addT T o) (putO b o) (h.step c.1 c.2.1 (by omega)) (fun x e=>hg x (List.mem_cons_of_mem _ e)) (by have:=addT_len (T:=T) (o:=o);omega);refine⟨d.1,?_⟩;have f:=d.2;have g:=addT_len (T:=T) (o:=o);simp only[List.foldl_cons,List.length_cons]
   omega
def rowAt (i:Nat):Int×Int×List UInt8:=dRows.getD i (0,0,[])
theorem rowAt_mem {i:Nat}(h:i<13):rowAt i ∈ dRows:=by
 rw[rowAt,List.getD,List.getElem?_eq_getElem (by rw[dRows_len];exact h)];exact List.getElem_mem _
def restO (i:Nat):List Cel:=(dRows.drop i).flatMap opsRow
theorem restO_at {i:Nat}(h:i<13):restO i=opsRow (rowAt i) ++ restO (i+1):=by
 have a:i<dRows.length:=by rw[dRows_len];exact h
 rw[restO,List.drop_eq_getElem_cons a,List.flatMap_cons,rowAt,List.getD,List.getElem?_eq_getElem a];rfl
theorem restO_end:restO 13 = []:=rfl
theorem wordsLen {i:Nat}(h:i<13):(rowAt i).2.2.length<100/\(∀ b ∈ (rowAt i).2.2,b.toNat<128)/\Lib.fields (rowAt i).2.2=wd [] (rowAt i).2.2:=by
 have a:=List.all_eq_true.1 ascii_rows _ (rowAt_mem h);have c:=List.all_eq_true.1 fields_rows _ (rowAt_mem h);simp only[Bool.and_eq_true,decide_eq_true_eq,List.all_eq_true] at a c;exact⟨a.2,a.1,c⟩
def dTab:List Cel:=dOps.foldl putO []
end
section
open Go Go.RowKit Go.Sort Go.Shelf
theorem ltO_same {x a y:Cel}(h:keyC x=keyC a):ltO x y=ltO a y:=by rw[Bool.eq_iff_iff,ltO_iff_key,ltO_iff_key,h]
theorem op_ntrans (x y z:Cel)(b:ltO x y=false)(a:ltO y z=false):ltO x z=false:=by
 by_cases e:keyC x=keyC y
 ·rw[ltO_same e];exact a
 ·have c:=ltO_tri e b
  cases h:ltO x z with
  | false=>rfl
  | true=>rw[ltO_trans c h] at a;cases a
abbrev RowE (w:World)(B blk:Nat):={ x:RC×Cel // Fits w B x.1 x.2/\(0<x.1.2.2.2.1->x.1.2.2.1≠some ⟨blk,0,none⟩) }
def encE {w:World}{B blk:Nat}(x:RowE w B blk):List Value:=roV x.1.1
def cfE {w:World}{B blk:Nat}(x y:RowE w B blk):Int:=opCmp x.1.2 y.1.2
theorem e_swo {w:World}{B blk:Nat} : SWO (ltOf (cfE (w:=w) (B:=B) (blk:=blk))) where
 irrefl x:=ltO_irrefl x.1.2
 trans x y z h1 h2:=ltO_trans (x:=x.1.2) (y:=y.1.2) (z:=z.1.2) h1 h2
 ntrans x y z h1 h2:=op_ntrans x.1.2 y.1.2 z.1.2 h1 h2
theorem grownBy_sortE {w W:World}{B a g n:Nat}{f:Array Obj}(d:Array (RowE w B a)) [Inhabited (RowE w B a)]:W.grownBy (sortWorldK encE 3 W g 0 n d f) (some g):=by
 refine⟨rfl,rfl,rfl,by simp[sortWorldK,putRowK],fun k c b=>?_⟩;rw[sortWorldK,heap_grow_old _ _ (by simpa [putRowK] using c)]
 have:g≠k:=fun e=>b (by rw[e])
 simp[putRowK,putRow,mapBlock,Sort.ahead,Array.getElem?_modify,this]
theorem ownT_grown {w k:World}{B a:Nat}{p:Option Addr}{n c:Nat}{l:List Int}(h:OwnT w B p n c l)(i:w.grownBy k (some a))(d:0<n->p≠some ⟨a,0,none⟩):OwnT k B p n c l:=by
 refine h.other i.size (fun g j e=>?_);obtain⟨o,f,_,b,_⟩:=h.2 j
 have m:g=o:=by rw[e] at f;exact congrArg Addr.block (Option.some.inj f)
 subst m;exact i.block g b (fun q=>d j (by rw[e,Option.some.inj q]))
theorem isAggOp (w:World):(isAgg 109).run Tryz.prog w = .ok true w:=by kernel_rfl
theorem sizeOfOp (w:World):(Go.sizeOf 109).run Tryz.prog w = .ok 3 w:=by kernel_rfl
theorem cmpLaysOp {w:World}{B g:Nat} [Inhabited (RowE w B g)] (c:Nat):CmpLays Tryz.prog 89 #[] (encE (w:=w) (B:=B) (blk:=g)) 3 cfE g 0 c w:=fun m l j _ x y=>by
 obtain⟨⟨a,f⟩,d,r⟩:=x;obtain⟨⟨b,i⟩,e,s⟩:=y;have k:w.grownBy (sortWorldK encE 3 w g 0 m j l) (some g):=grownBy_sortE j
 have o:=(ownT_grown d.2.2 k r)
 have n:=(ownT_grown e.2.2 k s)
 have h:=compareOps_any a.1 a.2.1 b.1 b.2.1 a.2.2.1 b.2.2.1 a.2.2.2.1 b.2.2.2.1 a.2.2.2.2 b.2.2.2.2 f.2.2 i.2.2 (sortWorldK encE 3 w g 0 m j l) d.2.2.len e.2.2.len o.bin n.bin
 have p:((a.1,a.2.1,f.2.2):Cel)=f:=by rw[d.1,d.2.1]
 have q:((b.1,b.2.1,i.2.2):Cel)=i:=by rw[e.1,e.2.1]
 rw[p,q] at h;exact h
theorem heap_sortedK {w:World}{g n:Nat}{f:Array Obj}{a:Array Value}{e:TypeId}{b:Nat×Nat}(F:Array Value)(c:w.heap[g]?=some (.cells a e b)) :
  (grow (putRow id (Sort.ahead w n) g 0 F) f).heap[g]?=some (.cells (putCells id 0 F a) e b):=by
 have d:g<w.heap.size:=(Array.getElem?_eq_some_iff.1 c).1;rw[heap_grow_old _ _ (by simpa using d)]
 simp[putRow,mapBlock,Sort.ahead,Array.getElem?_modify,c,onCells]
theorem take_putCellsK (a F:Array Value)(h:F.size<=a.size):(putCells id 0 F a).toList.take F.size=F.toList:=by
 apply List.ext_getElem?
 intro j
 by_cases b:j<F.size
 ·rw[List.getElem?_take_of_lt b,Array.getElem?_toList]
  simp[putCells,b,show j<a.size by omega]
 ·rw[List.getElem?_take_eq_none (by omega),List.getElem?_eq_none (by simp;omega)]
theorem flat_list {w:World}{B g:Nat} [Inhabited (RowE w B g)] (d:Array (RowE w B g)):(flatK encE 3 d).toList=flatO (d.toList.map (fun x=>x.1.1)):=by
 apply List.ext_getElem?
 intro j
 by_cases i:j<d.size * 3
 ·have f:j / 3<d.size:=by omega
  have h:=flatO_at (d.toList.map (fun x=>x.1.1)) (j / 3) (by simpa using f)
  have l:(d.toList.map (fun x=>x.1.1)).getD (j / 3) RC.zero=(d[j / 3]!).1.1:=by simp[List.getD,f]
  rw[l] at h;have e:=get_flatK encE 3 d j i
  have k:j<(flatK (encE (w:=w) (B:=B) (blk:=g)) 3 d).size:=by simpa using i
  rw[Array.getElem?_toList,Array.getElem?_eq_getElem k];rw[getElem!_pos _ j k] at e;rw[e];obtain⟨a,b,c⟩:=h
  have h3:j % 3=0∨j % 3=1∨j % 3=2:=by omega
  rcases h3 with h3 | h3 | h3
  ·rw[show j / 3 * 3=j by omega] at c
   rw[c,h3];simp[encE,roV]
  ·rw[show j / 3 * 3+1=j by omega] at a
   rw[a,h3];simp[encE,roV]
  ·rw[show j / 3 * 3+2=j by omega] at b
   rw[b,h3];simp[encE,roV]
 ·rw[List.getElem?_eq_none (by simp;omega),List.getElem?_eq_none (by rw[flatO_len];simp;omega)]
theorem sortOps_any (w:World)(B g n k:Nat)(F:List Cel)(h:OwnO w B (some ⟨g,0,none⟩) n k F)(hn:0<n)(hl:n<=100000) :
  Calls Tryz.prog 98 #[.slice (some ⟨g,0,none⟩) n k,.func (.func 89) #[] #[]] w fun e w'=>e = .returned (.tuple #[])/\
   ∃ U:List Cel,U.Perm F/\U.Pairwise (fun x y=>ltO y x=false)/\OwnO w' B (some ⟨g,0,none⟩) n k U/\w.grownBy w' (some g):=by
 obtain⟨h9,u,e3,hr,hf,ha⟩:=h
 have mk:∀ i,i<n->Fits w B (u.getD i RC.zero) (F.getD i Cel.none)/\(0<(u.getD i RC.zero).2.2.2.1->(u.getD i RC.zero).2.2.1≠some ⟨g,0,none⟩):=fun i Q=>⟨hf i (by omega),fun R=>ha.1 i (by omega) R⟩
 obtain⟨L,hL⟩:∃ L:List (RowE w B g),L=(List.range n).attach.map (fun i=>⟨(u.getD i.1 RC.zero,F.getD i.1 Cel.none),mk i.1 (List.mem_range.1 i.2)⟩):=⟨_,rfl⟩
 have I:L.map (fun x=>x.1.1)=u:=by
  rw[hL,List.map_map]
  apply List.ext_getElem (by simp;omega)
  intro i d f
  simp[List.getD,f]
 have H:L.map (fun x=>x.1.2)=F:=by
  rw[hL,List.map_map]
  apply List.ext_getElem (by simp;omega)
  intro i d f
  simp[List.getD,f]
 have W:L.length=n:=by have:=congrArg List.length H;simp at this;omega
 haveI:Inhabited (RowE w B g):=⟨L[0]'(by omega)⟩
 obtain⟨l,h7,Y,C,z,A,J,h8⟩:∃ l:Array Value,True/\B<=g/\w.heap[g]?=some (.cells l 109 (0,0))/\n<=k/\k<=maxLen/\l.size=k * 3/\l.toList.take (n * 3)=flatO u:=by
  rcases hr.2 with ⟨h',_⟩ | ⟨g',h6,l,O,hB,X,d,f,D,E⟩
  ·simp at h'
  ·simp only[Value.slice.injEq,Option.some.injEq,Addr.mk.injEq,and_true,true_and] at O
   obtain⟨rfl,rfl⟩:=O;exact⟨l,trivial,hB,X,d,f,D,E⟩
 have hH:HoldsK encE 3 w g 0 L.toArray:=fun j hj=>by
  simp only[size_flatK,List.size_toArray] at hj;have K:=flat_list (w:=w) (B:=B) (g:=g) L.toArray;simp only[I] at K;refine⟨?_,by simp[World.frozen?,C]⟩
  have S:j<(flatK (encE (w:=w) (B:=B) (blk:=g)) 3 L.toArray).size:=by simpa using hj
  rw[Nat.zero_add,getElem!_pos _ j S];have d:=hr.cellAt j (by omega);rw[d,<-K,Array.getElem?_toList,Array.getElem?_eq_getElem S]
  rfl
 have eg:∀ s w,(callFunc 89 s).run Tryz.prog w = .ok (.enter 89 s) w:=enters_of Tryz.func89 (by kernel_rfl) rfl;have t:=AnyQ.slices_SortFunc Tryz.sortOpL 3 isAggOp sizeOfOp (encE (w:=w) (B:=B) (blk:=g)) (fun _=>rfl) (fun x v O=>by simp[encE,roV] at O;rcases O with rfl | rfl | rfl <;> rfl) cfE e_swo 89 #[] g 0 k L.toArray w eg (cmpLaysOp _) hH (Array.getElem?_eq_some_iff.1 C).1 (by simp;omega);simp only[List.size_toArray,W] at t;refine t.mono ?_;rintro e w' ⟨rfl,c,m,os,R,S,rfl⟩
 have r:c.size=n:=by have:=R.1;simp at this;omega
 have p:c.toList.Perm L:=by
  have:=R.2.2;rw[Array.extract_eq_self_of_le (by omega),Array.extract_eq_self_of_le (by simp;omega)] at this
  simpa using this
 have hg:w.grownBy (sortWorldK encE 3 w g 0 m c os) (some g):=grownBy_sortE c;refine⟨rfl,c.toList.map (fun x=>x.1.2),?_,?_,⟨by simp[r],c.toList.map (fun x=>x.1.1),by simp,⟨?_,.inr ⟨g,k,_,rfl,Y,heap_sortedK _ C,z,A,?_,?_⟩⟩,fun i Q=>?_,fun i Q M=>?_,?_⟩,hg⟩
 ·rw[<-H];exact p.map _
 ·rw[List.pairwise_map,List.pairwise_iff_getElem]
  intro i j d f o
  have h:=S i j (Nat.zero_le _) o (by simpa [r] using f)
  have G:c[i]! = c.toList[i]:=by simp[show i<c.size by simpa using d]
  have V:c[j]! = c.toList[j]:=by simp[show j<c.size by simpa using f]
  rw[G,V] at h;exact h
 ·rw[flatO_len];simp[r]
 ·simp[putCells,J]
 ·have d:=take_putCellsK l (flatK encE 3 c) (by simp;omega)
  rw[flat_list] at d;simp only[size_flatK,r] at d;exact d
 ·have q:i<c.toList.length:=by simpa using Q
  have G:(c.toList.map (fun x=>x.1.1)).getD i RC.zero=(c.toList[i]).1.1:=by simp[List.getD,show i<c.size by simpa using q]
  have V:(c.toList.map (fun x=>x.1.2)).getD i Cel.none=(c.toList[i]).1.2:=by simp[List.getD,show i<c.size by simpa using q]
  rw[G,V];have T:=(c.toList[i]).2;exact⟨T.1.1,T.1.2.1,ownT_grown T.1.2.2 hg T.2⟩
 ·have q:i<c.toList.length:=by simpa using Q
  have G:(c.toList.map (fun x=>x.1.1)).getD i RC.zero=(c.toList[i]).1.1:=by simp[List.getD,show i<c.size by simpa using q]
  rw[G] at M ⊢;exact(c.toList[i]).2.2 M
 ·have h5:u.Pairwise (fun a b:RC=>0<a.2.2.2.1->0<b.2.2.2.1->a.2.2.1≠b.2.2.1):=by
   rw[List.pairwise_iff_getElem]
   intro i j d f o D E
   have:=ha.2 i j d f (by omega);simp only[List.getD,List.getElem?_eq_getElem d,List.getElem?_eq_getElem f,Option.getD_some] at this;exact this D E
  have Z:(c.toList.map (fun x=>x.1.1)).Perm u:=by rw[<-I];exact p.map _
  have N:=Z.symm.pairwise h5 (fun h a b=>(h b a).symm)
  intro i j d f o D E
  have P:∀ i j (d:i<(c.toList.map (fun x=>x.1.1)).length) (f:j<(c.toList.map (fun x=>x.1.1)).length),i<j->0<((c.toList.map (fun x=>x.1.1)).getD i RC.zero).2.2.2.1->0<((c.toList.map (fun x=>x.1.1)).getD j RC.zero).2.2.2.1->((c.toList.map (fun x=>x.1.1)).getD i RC.zero).2.2.1≠((c.toList.map (fun x=>x.1.1)).getD j RC.zero).2.2.1:=fun i j d f o=>by
   have:=List.pairwise_iff_getElem.1 N i j d f o;simp only[List.getD,List.getElem?_eq_getElem d,List.getElem?_eq_getElem f,Option.getD_some];exact this
  rcases Nat.lt_or_ge i j with h | h
  ·exact P i j d f h D E
  ·exact(P j i f d (by omega) E D).symm
end
section
open Go Go.RowKit Go.Maps
structure CollO (D:DataW Unit)(T fs:List Cel)(left:Lit->Bool)(cnt:Nat):Prop where
 sub:∀ l,left l=true->Maps.has D l=true
 cov:∀ c ∈ T,left (okk (kO c))=true∨c ∈ fs
 don:∀ c ∈ fs,c ∈ T/\left (okk (kO c))=false
 nd:fs.Pairwise (fun x y=>keyC x≠keyC y)
 len:fs.length+cnt<=T.length
def HasO (D:DataW Unit)(T:List Cel):Prop:=∀ (f:OKey) l,keyOf Tryz.prog 128 (.agg #[.string f.1,.int .i64 f.2])=some l->(Maps.has D l=true↔∃ c ∈ T,kO c=f)
theorem okk_same (f:OKey):(okk f).sameKey (okk f)=true:=by simp[okk,Lit.sameKey]
theorem CollO.start {D:DataW Unit}{T:List Cel}(b:∀ c ∈ T,okT c)(d:Maps.size D=T.length)(a:HasO D T):CollO D T [] (Maps.has D) (Maps.size D):=
 ⟨fun l h=>h,fun c e=>.inl ((a (kO c) _ (keyOf_kO (b c e))).2 ⟨c,e,rfl⟩),fun f h=>by simp at h,by simp,by simp[d]⟩
theorem coll_which {D:DataW Unit}{T j:List Cel}{left:Lit->Bool}{d:Nat}(h:CollO D T j left d)(f:∀ c ∈ T,okT c)(a:HasO D T)(x:OKey)(b:Lit)(i:keyOf Tryz.prog 128 (.agg #[.string x.1,.int .i64 x.2])=some b)(k:left b=true):∃ c ∈ T,kO c=x/\b=okk (kO c):=by
 obtain⟨c,g,e⟩:=(a x b i).1 (h.sub b k);refine⟨c,g,e,?_⟩;have:=keyOf_kO (f c g);rw[e] at this ⊢;rw[i] at this;exact Option.some.inj this
theorem CollO.step {D:DataW Unit}{T s:List Cel}{left:Lit->Bool}{n k:Nat}(h:CollO D T s left n)(q:∀ c ∈ T,okT c)(o:Apart T)(c:Cel)(r:c ∈ T)(v:left (okk (kO c))=true)(y:k<n) :
  CollO D T (s ++ [c]) (fun z=>left z && !z.sameKey (okk (kO c))) k:=by
 have d:∀ f ∈ T,okk (kO f)=okk (kO c)->keyC f=keyC c:=fun f g e=>kO_key.1 (ok_inj (kO_ok (q f g)) (kO_ok (q c r)) e)
 have m:∀ f ∈ T,keyC f=keyC c->f=c:=fun f g e=>by
  rcases List.mem_iff_getElem.1 g with ⟨i,t,rfl⟩
  rcases List.mem_iff_getElem.1 r with ⟨j,u,rfl⟩
  rcases Nat.lt_trichotomy i j with h1 | h1 | h1
  ·exact absurd e (List.pairwise_iff_getElem.1 o i j t u h1)
  ·subst h1;rfl
  ·exact absurd e.symm (List.pairwise_iff_getElem.1 o j i u t h1)
 refine⟨fun l p=>h.sub l (by simp only[Bool.and_eq_true] at p;exact p.1),fun f g=>?_,fun f g=>?_,?_,?_⟩
 ·rcases h.cov f g with h1 | h1
  ·by_cases e:okk (kO f)=okk (kO c)
   ·right;rw[m f g (d f g e)];simp
   ·left
    simp only[h1,Bool.true_and,Bool.not_eq_true'];exact sameKey_ne e
  ·right;simp[h1]
 ·rcases List.mem_append.1 g with h1 | h1
  ·exact⟨(h.don f h1).1,by simp[(h.don f h1).2]⟩
  ·have e:f=c:=by simpa using h1
   rw[e];exact⟨r,by simp[okk_same]⟩
 ·rw[List.pairwise_append]
  refine⟨h.nd,by simp,fun a ha b x=>?_⟩
  have e:b=c:=by simpa using x
  rw[e]
  intro w
  have h1:=h.don a ha;rw[m a h1.1 w] at h1
  rw[h1.2] at v;cases v
 ·have:=h.len
  simp;omega
theorem asc_of {a:List Cel}(h:a.Pairwise (fun x y=>ltO y x=false))(d:a.Pairwise (fun x y=>keyC x≠keyC y)):Asc a:=
 (List.Pairwise.and h d).imp (fun ⟨b,c⟩=>ltO_tri (fun e=>c e.symm) b)
def OpsOut (w:World)(T:List Cel)(e:Ending)(w':World):Prop:=∃ p n c ds,e = .returned (.slice p n c)/\OwnO w' w.heap.size p n c ds/\Asc ds/\(∀ x,x ∈ ds↔x ∈ T)/\Below w.heap.size w w'
theorem ops_any (b N:Nat)(T:List Cel)(w:World)(hm:OpMap w b N T)(hl:T.length<=100000)(h0:0<T.length) :
  Calls Tryz.prog 31 #[.map (some b)] w (OpsOut w T):=by
 obtain⟨D,S,h8,k5,e3,I,k6⟩:=hm
 have HD:Hid ((∀ c ∈ T,okT c)/\Apart T/\HasO D T/\(∀ c ∈ T,D.atKey (okk (kO c)) zD=encD c)):=⟨h8,k5,I,k6⟩
 have e5:=hid (CollO.start h8 e3 I);have c9:=S.lt
 obtain⟨q,eq⟩:∃ q,q=T.length:=⟨_,rfl⟩
 have Y:Maps.size D=q:=by rw[e3,eq]
 have hq:q<=100000:=by omega
 have HQ:=hid eq;clear h8 I k6 k5 eq hl e3
 go_enter Tryz.func31,Tryz.ntmps31
 go_wp2_with (at_range;refine wpList_range_own _ rfl _ 77 rfl 128 82 lawOk Tryz.underlying77 _ b N D rfl S ?_;intro w2 z x3 b8)
 go_frame
 have w9:Hid (Below w.heap.size w w2):=(Below.refl _ _).grown x3 (Nat.le_refl _) (fun j hj=>by cases hj)
 have c1:w.heap.size<w2.heap.size:=by omega
 obtain⟨r,er⟩:∃ r,r=w.heap.size:=⟨_,rfl⟩
 rw[<-er] at z ⊢;rw[Y] at z
 have e6:Hid (CollO D T [] (Maps.has D) q):=by rw[<-Y];exact e5.o
 have d:=hid er;clear x3 b8 e5 er
 go_loopw [3] (fun s wr=>∃ (left:Lit->Bool) (F m:Nat) (Q:List Cel) (p:Option Addr) (c:Nat),m+F<=q/\s = .slice p m c/\wr.ranges Tryz.prog 128 opElem b r N D left F/\Hid (CollO D T Q left F)/\
  Hid (OwnO wr (r+1) p m c Q)/\Hid (Below w.heap.size w wr)/\w.heap.size<wr.heap.size) (fun _ wr=>wr.rangeLeft b r)
 case atStart=>exact⟨Maps.has D,q,0,[],none,0,by omega,rfl,z,e6,OwnO.nil _ _,w9,c1⟩
 case round=>
  obtain⟨left,F,m,Q,p,c,a2,rfl,h9,B,HO,HB,w8⟩:=hrel;go_wp2_with (at_next;refine wpList_next_ranges _ rfl _ rfl 128 lawOk opElem (fun x:OKey=>.agg #[.string x.1,.int .i64 x.2]) (fun c:ByteArray×Int×Int=>.agg #[.string c.1,.int .i64 c.2.1,.int .i64 c.2.2]) keyOk_inv (fun v y h=>by obtain⟨c,hc,_⟩:=opElem_inv h;exact⟨c,hc⟩) b r N D left F rfl h9 ?_ ?_)
  ·intro b6 h6
   have P:Hid (∀ f,f ∈ Q↔f ∈ T):=fun f=>⟨fun h=>(B.o.don f h).1,fun h=>(B.o.cov f h).resolve_left (by rw[h6];simp)⟩
   have x7:0<m:=by
    have h1:=HO.o.1
    rcases Nat.eq_zero_or_pos m with h2 | h2
    ·have x9:Q = []:=List.length_eq_zero_iff.1 (by omega)
     cases hT:T with
     | nil=>rw[hT] at h0;simp at h0
     | cons x xs=>have:=(P.o x).2 (by rw[hT];simp);rw[x9] at this;cases this
    ·exact h2
   obtain⟨g,rfl⟩:∃ g,p=some ⟨g,0,none⟩:=by
    obtain⟨hn,rs,hl,hr,_⟩:=HO.o;obtain⟨g,c8,hv,_⟩:=hr.form x7;simp only[Value.slice.injEq] at hv;exact⟨g,hv.1⟩
   have E:=sortOps_any wr (r+1) g m c Q HO.o x7 (by omega);have b4:=hid B.o.nd
   have b3:Hid (w.heap.size<=g):=by have:=(HO.o.row (k:=g) rfl).1;have:=d.o;show _<=_;omega
   clear h9 b6 h6 z B;go_wp2_with fail;refine E.mono ?_;rintro e w4 ⟨rfl,ds,n,X,K,x4⟩
   have HF:Hid (OpsOut w T (.returned (.slice (some ⟨g,0,none⟩) m c)) w4):=⟨_,_,_,ds,rfl,K.mono (by have:=d.o;omega),asc_of X (n.symm.pairwise b4.o (fun h e=>h e.symm)),fun x=>(n.mem_iff).trans (P.o x),HB.o.grown x4 (Nat.le_of_lt w8) (fun j hj=>by cases hj;exact b3.o)⟩
   clear n X K x4 E;go_wp2_with fail;go_ret;exact HF.o
  ·intro x1 x2 s0 Z t0 kl y1 y2 A e9 x5 h7 w7 R U x6 h5 b9 a1
   obtain⟨c0,u,k9,b7⟩:=coll_which B.o HD.o.1 HD.o.2.2.1 (x1,x2) kl x5 h7;subst b7
   have e4:(.agg #[.string s0,.int .i64 Z,.int .i64 t0]:Value)=encV c0:=by
    have h1:=R zD;rw[HD.o.2.2.2 c0 u] at h1;have h2:=w7;rw[<-h1] at h2;exact opElem_at h2
   have e7:=hid (B.o.step HD.o.1 HD.o.2.1 c0 u h7 x6);have J:=HD.o.1 c0 u;obtain⟨c6,c7,C⟩:=c0;simp only[encV,Value.agg.injEq] at e4;have w5:=congrArg Array.toList e4;simp only[List.cons.injEq,Value.int.injEq,Value.string.injEq,true_and,and_true] at w5;obtain⟨e0,e1,e2⟩:=w5;subst e1 e2;have k8:Below w.heap.size w A:=HB.o.grown h5 (Nat.le_of_lt w8) (fun j hj=>by cases hj;exact Nat.le_of_eq d.o.symm);have k3:OwnO A (r+1) p m c Q:=HO.o.kept h5 (Nat.lt_succ_self r)
   have c2:r+1<=A.heap.size:=by have:=d.o;omega
   have k4:Below A.heap.size A (A.alloc (.cells #[.string s0,.int .i64 Z,.int .i64 t0] 82)):=(Below.refl _ _).alloc (Nat.le_refl _) _;obtain⟨w4,cp,M,h4,w1⟩:=conv_bytes (A.alloc (.cells #[.string s0,.int .i64 Z,.int .i64 t0] 82)) C J.1 9 Tryz.underlying9;rw[<-e0] at M;have G:Box3 w4 A.heap.size (.string s0) (.int .i64 Z) (.int .i64 t0):=Box3.of_block (t:=82) ((h4.block _ (by simp)).trans (heap_alloc_new _ _));obtain⟨g0,g1,g2,_⟩:=G;have H:Below A.heap.size A w4:=Below.on k4 h4;have V:=U.kept (below_grownBy H) (by simp) (by simp);have h3:Hid (OwnT w4 A.heap.size (some ⟨(A.alloc (.cells #[.string s0,.int .i64 Z,.int .i64 t0] 82)).heap.size,0,none⟩) C.length cp C):=w1.mono (by simp);have h6:C.length<=1000000:=J.2
   obtain⟨l0,k2⟩:∃ l,l=C.length:=⟨_,rfl⟩
   rw[<-k2] at M h3
   obtain⟨gt,k1⟩:∃ x,x=(A.alloc (.cells #[.string s0,.int .i64 Z,.int .i64 t0] 82)).heap.size:=⟨_,rfl⟩
   rw[<-k1] at M h3;have i:=hid H;have e8:=hid k3;have b1:=hid k8;clear e4 w7 R x5 h7 h5 w1 J h4 k4 k3 k8 k9 u U H k2 k1 e0 b9;go_wp2_with (at_builtin;refine app_op2 A _ rfl _ _ rfl (r+1) p m c Q rfl e8.o (i.o.alloc i.o.size _) c2 ⟨w4.heap.size,0,none⟩ 1 rfl Z t0 (some ⟨gt,0,none⟩) l0 cp C (h3.o.below ((Below.refl _ _).alloc (Nat.le_refl _) _)) (news_ro (Box3.of_block (t:=109) (heap_alloc_new _ _))) (by omega) ?_;intro g6 n6 c4 w6 L a k7 x8)
   have O:∀ k,Value.ownBlock (.slice p m c)=some k->r<k:=fun k hk=>(e8.o.row hk).1
   have W:=(V.alloc (Obj.cells #[.slice (some ⟨gt,0,none⟩) l0 cp,.int .i64 Z,.int .i64 t0] 109)).kept a (fun e=>by have:=O b e.symm;have:=d.o;omega) (fun e=>by have:=O r e.symm;omega);have b5:=hid L;have b2:Hid (Below w.heap.size w w6):=((b1.o.trans (i.o.mono (by have:=d.o;omega))).alloc (by have:=i.o.size;have:=d.o;omega) _).grown a (by have:=i.o.size;have:=d.o;simp;omega) (fun k hk=>by have:=O k hk;have:=d.o;omega)
   have c3:w.heap.size<w6.heap.size:=by have h1:=a.size;simp at h1;have:=i.o.size;have:=d.o;omega
   have c5:n6=m+1:=x8.o;clear L a k7 V M g0 g1 g2 O x8;go_wp2_with fail;go_roundw
   case rel=>exact⟨_,e9,n6,_,_,_,by omega,rfl,W,e7,b5,b2,c3⟩
   case measure=>rw[W.left_eq,h9.left_eq];exact x6
theorem three_at {f:Type}(a b c:f->Value):∀ (d:List f) (i:Nat) (h:i<d.length),(d.flatMap (fun r=>[a r,b r,c r]))[i * 3]?=some (a d[i])/\(d.flatMap (fun r=>[a r,b r,c r]))[i * 3+1]?=some (b d[i])/\(d.flatMap (fun r=>[a r,b r,c r]))[i * 3+2]?=some (c d[i])
 | [],i,h=>by simp at h
 | r :: d,0,_=>by simp
 | r :: d,i+1,h=>by
   have:=three_at a b c d i (by simpa using h)
   have e:(r :: d).flatMap (fun r=>[a r,b r,c r])=a r :: b r :: c r :: d.flatMap (fun r=>[a r,b r,c r]):=by simp
   rw[e,show(i+1) * 3=(i * 3)+1+1+1 by omega,show(i * 3)+1+1+1+1=(i * 3+1)+1+1+1 by omega,show(i * 3)+1+1+1+2=(i * 3+2)+1+1+1 by omega]
   simpa using this
def rowsV:List Value:=dRows.flatMap (fun r=>[.int .i64 r.1,.int .i64 r.2.1,strV r.2.2])
structure RowsInD (w:World)(A:Nat):Prop where
 at_:∀ i,i<13->w.cell? ⟨A,i * 3,none⟩=some (.int .i64 (rowAt i).1)/\w.cell? ⟨A,i * 3+1,none⟩=some (.int .i64 (rowAt i).2.1)/\w.cell? ⟨A,i * 3+2,none⟩=some (strV (rowAt i).2.2)
theorem rows_made (w:World)(t:TypeId):RowsInD (w.alloc (.cells rowsV.toArray t)) w.heap.size:=⟨fun i b=>by
 have a:i<dRows.length:=by rw[dRows_len];exact b
 have h:=three_at (fun r:Int×Int×List UInt8=>Value.int .i64 r.1) (fun r=>Value.int .i64 r.2.1) (fun r=>strV r.2.2) dRows i a
 have e:dRows[i]=rowAt i:=by rw[rowAt,List.getD,List.getElem?_eq_getElem a];rfl
 rw[e] at h;rw[World.cell?_alloc_new,World.cell?_alloc_new,World.cell?_alloc_new]
 simpa [rowsV] using h⟩
def SpIn (w:World):Prop:=∀ c:Nat,c<256->w.cell? ⟨2,c,none⟩=some (.int .u8 (if Lib.isSp (UInt8.ofNat c) then 1 else 0))
theorem SpIn.below {w w':World}(h:SpIn w)(b:Below w.heap.size w w'):SpIn w':=fun c a=>(b.cell (World.block_lt_of_cell? _ _ (h c a))).trans (h c a)
theorem fields_any (l:List UInt8)(w:World)(g:l.length<100)(ha:∀ b ∈ l,b.toNat<128)(d:Lib.fields l=wd [] l)(a:SpIn w) :
  Calls Tryz.prog 29 #[.string (bOf l)] w fun e f=>e = .returned (.slice (some ⟨w.heap.size,0,none⟩) (wd [] l).length (wd [] l).length)/\f=w.alloc (.cells ((wd [] l).map strV).toArray 9):=by
 have h:=Any.strings_Fields_core Tryz.fieldsL infoStr (bOf l) w (by rw[bOf_size];omega) (fun j b c=>ha b (List.mem_of_getElem? c)) a;have e:(bOf l).data.toList=l:=rfl;rw[e,d] at h;exact h
def DefE (w:World)(e:Ending)(w':World):Prop:=∃ p n c,e = .returned (.slice p n c)/\OwnO w' w.heap.size p n c dTab/\Below w.heap.size w w'
theorem implDef_any (w:World)(hT:SpIn w):Calls Tryz.prog 13 #[] w (DefE w):=by
 have HT:=hid hT;have b7:=@run_makeMap Tryz.prog
 obtain⟨L,eR⟩:∃ L,L=w.alloc (.cells rowsV.toArray 74):=⟨_,rfl⟩
 have e1:L.heap.size=w.heap.size+1:=by rw[eR];simp
 have b:RowsInD L w.heap.size:=by rw[eR];exact rows_made w _
 have k4:Below w.heap.size w L:=by rw[eR];exact(Below.refl _ _).alloc (Nat.le_refl _) _
 obtain⟨I,eA⟩:∃ I,I=L.alloc (.map #[] 0):=⟨_,rfl⟩
 have k9:OpMap I (w.heap.size+1) 0 []:=by rw[eA,<-e1];exact OpMap.made L
 have F:Below L.heap.size L I:=by rw[eA];exact(Below.refl _ _).alloc (Nat.le_refl _) _
 have k2:I.heap.size=w.heap.size+1+1:=by rw[eA];simp[e1]
 have w9:Hid (RowsInD I w.heap.size):=⟨fun i hi=>⟨(F.cell (World.block_lt_of_cell? _ _ (b.at_ i hi).1)).trans (b.at_ i hi).1,(F.cell (World.block_lt_of_cell? _ _ (b.at_ i hi).2.1)).trans (b.at_ i hi).2.1,(F.cell (World.block_lt_of_cell? _ _ (b.at_ i hi).2.2)).trans (b.at_ i hi).2.2⟩⟩
 have e3:=hid (Below.on k4 F);have w1:=hid k9;have x4:=hid k2;clear hT k9 b k4 F k2
 go_enter Tryz.func13,Tryz.ntmps13
 go_wp2_with fail
 have e8:I=(w.alloc (Obj.cells #[.int .i64 1200,.int .i64 0,.string ⟨#[58,45,32,45,45,62]⟩,.int .i64 1200,.int .i64 4,.string ⟨#[58,45,32,63,45]⟩,.int .i64 1150,.int .i64 4,.string ⟨#[100,121,110,97,109,105,99]⟩,.int .i64 1100,.int .i64 1,.string ⟨#[59]⟩,.int .i64 1050,.int .i64 1,.string ⟨#[45,62]⟩,.int .i64 1000,.int .i64 1,.string ⟨#[44]⟩,.int .i64 900,.int .i64 3,.string ⟨#[92,43]⟩,.int .i64 700,.int .i64 0,.string ⟨#[61,32,92,61,32,61,61,32,92,61,61,32,64,60,32,64,61,60,32,64,62,32,64,62,61,32,61,46,46,32,105,115,32,61,58,61,32,61,92,61,32,60,32,61,60,32,62,32,62,61]⟩,.int .i64 500,.int .i64 2,.string ⟨#[43,32,45,32,47,92,32,92,47,32,120,111,114]⟩,.int .i64 400,.int .i64 2,.string ⟨#[42,32,47,32,47,47,32,109,111,100,32,114,101,109,32,60,60,32,62,62]⟩,.int .i64 200,.int .i64 0,.string ⟨#[42,42]⟩,.int .i64 200,.int .i64 1,.string ⟨#[94]⟩,.int .i64 200,.int .i64 3,.string ⟨#[45,32,43,32,92]⟩] 74)).alloc (.map #[] 0):=by rw[eA,eR];rfl
 rw[<-e8];clear eA e8 eR b7 e1 L
 go_loopw [24] (fun i wr=>∃ (k N:Nat) (D:List Cel),k<=13/\N<=60/\i = .int .i64 k/\Hid (D ++ restO k=dOps)/\Hid (N<=D.length)/\Hid (OpMap wr (w.heap.size+1) N (D.foldl addT []))/\Hid (Below (w.heap.size+1) I wr)/\w.heap.size+1+1<=wr.heap.size) (fun i _=>13-(intOf i).toNat)
 case atStart=>exact⟨0,0,[],by omega,by omega,rfl,rfl,Nat.le_refl _,w1,Below.refl _ _,by have:=x4.o;omega⟩
 case round=>
  obtain⟨k,N,D,hk,hN,rfl,HQ,w5,HM,HB,c8⟩:=hrel
  by_cases e2:k<13
  ·obtain⟨S,c,T⟩:=wordsLen e2
   have c6:decide ((k:Int)<13)=true:=by simp;omega
   obtain⟨d0,d1,d2⟩:=w9.o.at_ k e2;have R:w.heap.size<w.heap.size+1:=Nat.lt_succ_self _
   replace d0:wr.cell? ⟨w.heap.size,k * 3,none⟩=_:=(HB.o.cell (p:=⟨w.heap.size,k * 3,none⟩) R).trans d0
   replace d1:wr.cell? ⟨w.heap.size,k * 3+1,none⟩=_:=(HB.o.cell (p:=⟨w.heap.size,k * 3+1,none⟩) R).trans d1
   replace d2:wr.cell? ⟨w.heap.size,k * 3+2,none⟩=_:=(HB.o.cell (p:=⟨w.heap.size,k * 3+2,none⟩) R).trans d2
   clear R;have h5:Hid _:=restO_at e2;have O:Hid (opsRow (rowAt k)=(wd [] (rowAt k).2.2).map (fun x=>((rowAt k).1,(rowAt k).2.1,numsU x))):=rfl
   obtain⟨r,er⟩:∃ r,r=rowAt k:=⟨_,rfl⟩
   rw[<-er] at d0 d1 d2 S c T h5 O;obtain⟨d,f,l⟩:=r;simp only[strV] at d0 d1 d2 S c T O;have P:Below wr.heap.size wr (wr.alloc (.cells #[.int .i64 d,.int .i64 f,.string (bOf l)] 74)):=(Below.refl _ _).alloc (Nat.le_refl _) _;have u:Hid (Below w.heap.size w (wr.alloc (.cells #[.int .i64 d,.int .i64 f,.string (bOf l)] 74))):=(e3.o.trans (HB.o.mono (by omega))).trans (P.mono (by omega));have HF:=fields_any l (wr.alloc (.cells #[.int .i64 d,.int .i64 f,.string (bOf l)] 74)) S c T (HT.o.below u.o);obtain⟨c0,c1,c2⟩:=three_new wr (.int .i64 d) (.int .i64 f) (.string (bOf l)) 74
   have b9:(wd [] l).length<=60:=by
    have A:=congrArg List.length HQ.o;rw[h5.o,O.o] at A;simp only[List.length_append,List.length_map] at A;have:=dOps_len
    omega
   have h4:=hid (HM.o.below P);have Y:Hid (Below (w.heap.size+1) I (wr.alloc (.cells #[.int .i64 d,.int .i64 f,.string (bOf l)] 74))):=HB.o.trans (P.mono (by omega))
   obtain⟨sr,e9⟩:∃ s,s=bOf l:=⟨_,rfl⟩
   rw[<-e9] at d2 HF c0 c1 c2 h4 Y u
   obtain⟨nw,h8⟩:∃ n,n=(wd [] l).length:=⟨_,rfl⟩
   rw[<-h8] at HF b9;have e6:=hid h8;clear er S c T e9 P h8;go_wp2_with fail;refine HF.mono ?_;rintro e K ⟨rfl,c⟩
   have E:Below (wr.heap.size+1) (wr.alloc (.cells #[.int .i64 d,.int .i64 f,.string sr] 74)) K:=by rw[c];exact(Below.refl _ _).alloc (by simp) _
   have x3:K.heap.size=wr.heap.size+1+1:=by rw[c];simp
   have Z:Hid (K.cell? ⟨wr.heap.size,0,none⟩=some (.int .i64 d)/\K.cell? ⟨wr.heap.size,1,none⟩=some (.int .i64 f)):=⟨(E.cell (p:=⟨wr.heap.size,0,none⟩) (Nat.lt_succ_self _)).trans c0,(E.cell (p:=⟨wr.heap.size,1,none⟩) (Nat.lt_succ_self _)).trans c1⟩
   have e7:Hid (∀ j,j<nw->∃ x,(wd [] l)[j]?=some x/\K.cell? ⟨wr.heap.size+1,j,none⟩=some (.string (bOf x))):=fun j hj=>by
    have k7:j<(wd [] l).length:=by rw[<-e6.o];exact hj
    refine⟨(wd [] l)[j],List.getElem?_eq_getElem k7,?_⟩;have W:=World.cell?_alloc_new (wr.alloc (.cells #[.int .i64 d,.int .i64 f,.string sr] 74)) ((wd [] l).map strV).toArray 9 j;rw[World.size_alloc] at W;rw[c,W]
    simp[k7,strV]
   have w3:Hid (OpMap K (w.heap.size+1) N (D.foldl addT [])):=h4.o.below (by simpa using E);have x5:Hid (Below (w.heap.size+1) I K):=Y.o.trans (E.mono (by omega));have h6:=hid x3
   have w8:Hid (D ++ ((wd [] l).map (fun x=>(d,f,numsU x)) ++ restO (k+1))=dOps):=by show _=_;rw[<-O.o,<-h5.o];exact HQ.o
   obtain⟨A4,h7⟩:∃ a,a=wr.heap.size:=⟨_,rfl⟩
   have c4:w.heap.size+1<A4:=by omega
   simp only[World.size_alloc,<-h7];rw[<-h7] at Z e7 h6;clear c E x3 HF c0 c1 c2 h4 Y h7 d0 d1 d2;go_wp2_with fail
   go_loopw [32] (fun j wv=>∃ (i N:Nat) (D:List Cel),i<=nw/\N<=60/\j = .int .i64 i/\Hid (D ++ (((wd [] l).drop i).map (fun x=>(d,f,numsU x)) ++ restO (k+1))=dOps)/\Hid (N<=D.length)/\Hid (OpMap wv (w.heap.size+1) N (D.foldl addT []))/\Hid (K.grownBy wv (some (w.heap.size+1)))) (fun j _=>nw-(intOf j).toNat)
   case atStart=>exact⟨0,N,D,by omega,hN,rfl,w8,w5,w3,⟨rfl,rfl,rfl,Nat.le_refl _,fun _ _ _=>rfl⟩⟩
   case round=>
    obtain⟨i,N5,J,c5,b4,rfl,y,U,e4,M⟩:=hrel
    by_cases k8:i<nw
    ·obtain⟨x,hx,k5⟩:=e7.o i k8
     have Q:∀ (g o:Nat) (v:Value),A4<=g->K.cell? ⟨g,o,none⟩=some v->wr.cell? ⟨g,o,none⟩=some v:=fun g o v hg h=>(World.cell?_of_block (M.o.block g (World.block_lt_of_cell? _ _ h) (by simp;omega))).trans h
     have f0:=Q _ _ _ (by omega) k5;have f1:=Q _ _ _ (Nat.le_refl _) Z.o.1;have f2:=Q _ _ _ (Nat.le_refl _) Z.o.2
     have z:Hid ((J ++ [(d,f,numsU x)]) ++ (((wd [] l).drop (i+1)).map (fun x=>(d,f,numsU x)) ++ restO (k+1))=dOps):=by
      show _=_
      have b5:i<(wd [] l).length:=(List.getElem?_eq_some_iff.1 hx).1;have c3:(wd [] l)[i]=x:=(List.getElem?_eq_some_iff.1 hx).2;rw[<-y.o,List.drop_eq_getElem_cons b5,c3]
      simp
     have G:goodO (d,f,numsU x):=dOps_good _ (by rw[<-z.o];simp)
     have b6:(J.foldl addT []).length+1<=61:=by
      have A:=(rel_fold J [] [] Rel.nil (fun o ho=>dOps_good o (by rw[<-y.o];exact List.mem_append_left _ ho)) (by
       have q:=congrArg List.length y.o;simp only[List.length_append,List.length_nil] at q ⊢;have:=dOps_len
       omega)).2
      have q:=congrArg List.length y.o;simp only[List.length_append,List.length_nil] at A q;have:=dOps_len
      omega
     have x7:Hid ((J ++ [(d,f,numsU x)]).foldl addT []=addT (J.foldl addT []) (d,f,numsU x)):=by show _=_;rw[List.foldl_append];rfl
     have B:N5+1<=60/\N5+1<=(J ++ [(d,f,numsU x)]).length:=by
      have q:=congrArg List.length z.o;have h3:=U.o;simp only[List.length_append,List.length_cons,List.length_nil] at q ⊢;have:=dOps_len
      omega
     have t:=add_any (w.heap.size+1) N5 (w.heap.size+1) (J.foldl addT []) d f (numsU x) (bOf x) wr (strOf_numsU x).symm e4.o G.2.2 (by omega) (Nat.le_refl _) (by omega);have e5:=hid B
     obtain⟨sx,k1⟩:∃ s,s=bOf x:=⟨_,rfl⟩
     rw[<-k1] at t f0;clear Q k5 hx G b6 B k1;go_wp2_with fail;refine t.mono ?_;rintro e w6 ⟨rfl,⟨N6,B,x1⟩,_,k6⟩
     have w4:Hid (OpMap w6 (w.heap.size+1) N6 ((J ++ [(d,f,numsU x)]).foldl addT [])):=by rw[x7.o];exact x1
     have x8:Hid (K.grownBy w6 (some (w.heap.size+1))):=M.o.andThen k6 (fun j hj=>.inr hj)
     have b2:N6<=60:=by have:=e5.o.1;omega
     have x9:=hid (Nat.le_trans B e5.o.2);clear x1 k6 t B f0 f1 f2;go_wp2_with fail;go_roundw
     case rel=>exact⟨i+1,N6,_,by omega,b2,by go_num,z,x9,w4,x8⟩
     case measure=>simp[intOf];omega
    ·obtain rfl:i=nw:=by omega
     have z:Hid (J ++ restO (k+1)=dOps):=by
      show _=_
      have W:=y.o;rw[e6.o,List.drop_length] at W
      simpa using W
     have x6:Hid (Below (w.heap.size+1) I wr):=x5.o.grown M.o (by have:=h6.o;omega) (fun j hj=>by cases hj;exact Nat.le_refl _)
     have b8:w.heap.size+1+1<=wr.heap.size:=by have:=M.o.size;have:=h6.o;omega
     go_wp2_with fail;go_roundw
     case rel=>exact⟨k+1,N5,J,by omega,b4,by go_num,z,U,e4,x6,b8⟩
     case measure=>simp[intOf];omega
  ·obtain rfl:k=13:=by omega
   have b3:D=dOps:=by have W:=HQ.o;rw[restO_end] at W;simpa using W
   subst b3;have hrel:=rel_fold dOps [] [] Rel.nil dOps_good (by have:=dOps_len;simp;omega)
   have X:0<(dOps.foldl addT []).length:=by
    have A:dOps≠[]:=by decide
    obtain⟨o,r,hr⟩:∃ o r,dOps=r ++ [o]:=⟨dOps.getLast A,dOps.dropLast,(List.dropLast_concat_getLast A).symm⟩
    have G:=dOps_good o (by rw[hr];simp)
    have x2:=rel_fold r [] [] Rel.nil (fun x hx=>dOps_good x (by rw[hr];exact List.mem_append_left _ hx)) (by
     have q:=congrArg List.length hr;have:=dOps_len
     simp at q ⊢;omega)
    have hc:=x2.1.code G.2.1 (by
     have q:=congrArg List.length hr;have h3:=x2.2;have:=dOps_len
     simp at q h3;omega)
    rw[hr,List.foldl_append]
    show 0<(addT _ o).length
    rw[addT,if_neg (by rw[hc];simp),if_neg G.1]
    simp
   have V:=ops_any (w.heap.size+1) N (dOps.foldl addT []) wr HM.o (by have A:=hrel.2;have q:=dOps_len;simp only[List.length_nil] at A;omega) X
   have b1:Hid (∀ ds,Asc ds->(∀ x,x ∈ ds↔x ∈ dOps.foldl addT [])->ds=dTab):=fun ds A q=>asc_unique _ _ A hrel.1.asc (fun x=>(q x).trans (hrel.1.same x))
   have u:Hid (Below w.heap.size w wr):=e3.o.trans (HB.o.mono (by omega));clear hrel X;go_wp2_with fail;refine V.mono ?_;rintro e w7 ⟨p7,n7,c7,ds,rfl,m,C,H,k3⟩
   have HF:Hid (DefE w (.returned (.slice p7 n7 c7)) w7):=⟨p7,n7,c7,rfl,by rw[b1.o ds C H] at m;exact m.mono u.o.size,Below.on u.o k3⟩
   clear m C H k3 V;go_wp2_with fail;go_ret;exact HF.o
end
section
open Go Go.RowKit
theorem visits_memW:∀ (b:List Cel) (a:List Int),∀ c ∈ b,c.1=0->c.2.1 ∈ visits a b
 | [],_,c,h,_=>by simp at h
 | x :: r,a,c,h,h0=>by
   rw[visits_cons]
   rcases List.mem_cons.1 h with rfl | h
   ·have d:c.2.1 ∈ visitL a c:=by rw[visitL,if_pos h0];exact putV_mem _ _
    exact(visits_prefix r _).subset d
   ·exact visits_memW r _ c h h0
end
section
open Go Go.RowKit
def variantB (xs ys:List Cel):Bool:=validB xs && validB ys && decide (renCells xs=renCells ys)
theorem implVariantC_any (b a:List Cel)(p q:Option Addr)(Q z:Nat)(F:b.length<=Q/\Q<=9223372036854775807)(G:a.length<=z/\z<=9223372036854775807)(w:World)(hx:∀ i,i<b.length->Byte (b.getD i Cel.none).2.2)(hy:∀ i,i<a.length->Byte (a.getD i Cel.none).2.2)(hn:b.length<=1000000000)(hm:a.length<=1000000000)(hp:CIn w p b)(hq:CIn w q a) :
  Calls Tryz.prog 8 #[.slice p b.length Q,.slice q a.length z] w fun e y=>e = .returned (.bool (variantB b a))/\Below w.heap.size w y:=by
 have d:=implValid_any p Q b w hn hp
 by_cases A:validB b=true
 ·have r:Hid (∀ W,Below w.heap.size w W->Calls Tryz.prog 18 #[.slice q a.length z] W fun e y=>e = .returned (.bool (validB a))/\Below W.heap.size W y):=fun W Z=>implValid_any q z a W hm (hq.below Z)
  rw[A] at d
  by_cases S:validB a=true
  ·rw[S] at r
   obtain⟨c,k,ex,M,e6⟩:=tree_of hx A;obtain⟨g,f,ey,u,e7⟩:=tree_of hy S
   have HR:Hid (variantB b a=decide (renCells b=renCells a)):=by show _=_;rw[variantB,A,S];rfl
   obtain⟨n,en⟩:∃ n,n=b.length:=⟨_,rfl⟩
   obtain⟨m,em⟩:∃ m,m=a.length:=⟨_,rfl⟩
   rw[<-en] at F d hn e6 ⊢;rw[<-em] at G r hm e7 ⊢
   have P:Hid (b=c :: k.cells/\n=b.length/\(Fo.node c k .nil).ok):=⟨ex,en,M⟩
   have Y:Hid (a=g :: f.cells/\m=a.length/\(Fo.node g f .nil).ok):=⟨ey,em,u⟩
   have e4:Hid (∀ W,Below w.heap.size w W->Calls Tryz.prog 21 #[.slice p n Q] W fun e y=>∃ v,e = .returned v/\FoIn y W.heap.size (.node c k .nil) [v]/\Below W.heap.size W y):=fun W Z=>termOf_any c k p n Q W M (by rw[en,ex];simp) F.1 F.2 (by have:=hp.below Z;rwa[ex] at this)
   have e5:Hid (∀ W,Below w.heap.size w W->Calls Tryz.prog 21 #[.slice q m z] W fun e y=>∃ v,e = .returned v/\FoIn y W.heap.size (.node g f .nil) [v]/\Below W.heap.size W y):=fun W Z=>termOf_any g f q m z W u (by rw[em,ey];simp) G.1 G.2 (by have:=hq.below Z;rwa[ey] at this)
   clear A S hx hy hp hq ex ey en em M u
   go_enter Tryz.func8,Tryz.ntmps8
   go_wp2_with fail;refine d.mono ?_;rintro e w1 ⟨rfl,j⟩;have l:=hid j;clear j d;go_wp2_with fail;refine(r.o w1 l.o).mono ?_;rintro e w2 ⟨rfl,s⟩;have x:=hid (Below.on l.o s);clear s;go_wp2_with fail;refine(e4.o w2 x.o).mono ?_;rintro e w3 ⟨v3,rfl,H,h3⟩;have h7:=hid (Below.on x.o h3)
   have L:k.cells.length<=10000:=by have:=P.o.1;have:=P.o.2.1;rw[P.o.1] at this;simp at this;omega
   have h6:f.cells.length<=10000:=by have:=Y.o.2.1;rw[Y.o.1] at this;simp at this;omega
   have V:=renumber_any c k v3 w2.heap.size w3 P.o.2.2 H L;obtain⟨t3,y3,rfl⟩:=H.iface;clear h3 H;go_wp2_with fail;refine V.mono ?_;rintro e w4 ⟨v4,rfl,I,h4⟩;have T:=hid (Below.on h7.o h4);have e3:Hid _:=I;obtain⟨t4,y4,rfl⟩:=I.iface;clear h4 I V;go_wp2_with fail;refine(e5.o w4 T.o).mono ?_;rintro e w5 ⟨v5,rfl,J,D⟩;have h8:=hid (Below.on T.o D);have U:=hid D;have X:=renumber_any g f v5 w4.heap.size w5 Y.o.2.2 J h6;obtain⟨t5,y5,rfl⟩:=J.iface;clear D J;go_wp2_with fail;refine X.mono ?_;rintro e w6 ⟨v6,rfl,K,E⟩;have h9:=hid (Below.on h8.o E)
   have t:∀ (c:Cel) (k:Fo),k.cells.length<=10000->(visits [] (c :: k.cells)).length<=1000000:=fun c k h=>by have:=visits_len (c :: k.cells) [];simp at this;omega
   have N:Tr.ok (renI (visits [] (c :: k.cells)) c,k.map (renI (visits [] (c :: k.cells)))):=Fo.ok_ren (t c k L) (.node c k .nil) P.o.2.2;have O:Tr.ok (renI (visits [] (g :: f.cells)) g,f.map (renI (visits [] (g :: f.cells)))):=Fo.ok_ren (t g f h6) (.node g f .nil) Y.o.2.2;have HS:=isSame_any w6 0 w6 ((renI (visits [] (c :: k.cells)) c,k.map (renI (visits [] (c :: k.cells)))),(renI (visits [] (g :: f.cells)) g,f.map (renI (visits [] (g :: f.cells))))) (.iface t4 y4) v6 (Below.refl _ _) (FoIn.mono (FoIn.below e3.o (Below.on U.o E)) (Nat.zero_le _)) (FoIn.mono K (Nat.zero_le _)) N O (by simp only[Fo.cells_map,List.length_map];exact L)
   have he:eqT ((renI (visits [] (c :: k.cells)) c,k.map (renI (visits [] (c :: k.cells)))),(renI (visits [] (g :: f.cells)) g,f.map (renI (visits [] (g :: f.cells)))))=variantB b a:=by
    rw[eqT_cells N O,HR.o,P.o.1,Y.o.1];simp only[Fo.cells_map,renCells,List.map_cons]
   rw[he] at HS;obtain⟨t6,y6,rfl⟩:=K.iface
   obtain⟨R,eR⟩:∃ R,R=variantB b a:=⟨_,rfl⟩
   rw[<-eR] at HS;have e2:=hid eR;clear E K X he eR t N O;go_wp2_with fail;refine HS.mono ?_;rintro e w7 ⟨rfl,h5⟩;have e1:=hid (Below.on h9.o h5);clear h5 HS;go_wp2_with fail;go_ret;exact⟨ret_bool e2.o,e1.o⟩
  ·have C:validB a=false:=by simpa using S
   have hr:variantB b a=false:=by rw[variantB,C];simp
   rw[C] at r;rw[hr];clear A S C hx hy hp hq hr
   go_enter Tryz.func8,Tryz.ntmps8
   go_wp2_with fail;refine d.mono ?_;rintro e w1 ⟨rfl,j⟩;have l:=hid j;clear j d;go_wp2_with fail;refine(r.o w1 l.o).mono ?_;rintro e w2 ⟨rfl,s⟩;have x:=hid (Below.on l.o s);clear s;go_wp2_with fail;go_ret;exact⟨rfl,x.o⟩
 ·have B:validB b=false:=by simpa using A
  have hr:variantB b a=false:=by rw[variantB,B];simp
  rw[B] at d;rw[hr];clear A B hx hy hp hq hr
  go_enter Tryz.func8,Tryz.ntmps8
  go_wp2_with fail;refine d.mono ?_;rintro e w1 ⟨rfl,j⟩;go_wp2_with fail;go_ret;exact⟨rfl,j⟩
def look {α:Type} : List (Int×α)->Int->Option α
 | [],_=>none
 | y :: r,x=>if y.1=x then some y.2 else look r x
theorem look_append {a:Type} : ∀ (E F:List (Int×a)) (x:Int),look (E ++ F) x=match look E x with | some t=>some t | none=>look F x
 | [],F,x=>by simp[look]
 | y :: r,F,x=>by
   by_cases h:y.1=x
   ·simp[look,h]
   ·simp[look,h,look_append r F x]
theorem look_none {b:Type} : ∀ (E:List (Int×b)) (x:Int),look E x=none↔x ∉ E.map Prod.fst
 | [],x=>by simp[look]
 | y :: r,x=>by
   have:=look_none r x
   by_cases h:y.1=x
   ·simp[look,h]
   ·have a:¬ x=y.1:=fun e=>h e.symm
    simp only[look,if_neg h,this,List.map_cons,List.mem_cons,a,false_or]
theorem look_mem {a:Type}{E:List (Int×a)}{x:Int}{t:a}(h:look E x=some t):(x,t) ∈ E:=by
 induction E with
 | nil=>simp[look] at h
 | cons y r b=>
   by_cases e:y.1=x
   ·simp only[look,if_pos e,Option.some.injEq] at h
    subst e h
    simp
   ·simp only[look,if_neg e] at h
    simp[b h]
abbrev SubE:=List (Int×Tr)
def subF:SubE->Fo->Fo->Option SubE
 | env,.nil,.nil=>some env
 | env,.node c k r,.node c' k' r'=>
   if c.1=0 then
    match look env c.2.1 with
    | some t=>if eqT (t,(c',k'))=true then subF env r r' else none
    | none=>subF (env ++ [(c.2.1,(c',k'))]) r r'
   else if c=c' then(match subF env k k' with | some e=>subF e r r' | none=>none) else none
 | _,.nil,.node _ _ _=>none
 | _,.node _ _ _,.nil=>none
def subL:SubE->List TT->Option SubE
 | env,[]=>some env
 | env,x :: l=>match subF env x.1.fo x.2.fo with | some e=>subL e l | none=>none
theorem subF_cat:∀ (k d r b:Fo) (a:SubE),k.count=d.count->subF a (k.cat r) (d.cat b)=match subF a k d with | some e=>subF e r b | none=>none
 | .nil,.nil,r,b,a,_=>by simp[Fo.cat,subF]
 | .nil,.node _ _ _,_,_,_,h=>by simp[Fo.count] at h
 | .node _ _ _,.nil,_,_,_,h=>by simp[Fo.count] at h
 | .node c k s,.node c' d s',r,b,a,h=>by
   have f:s.count=s'.count:=by simpa [Fo.count] using h
   simp only[Fo.cat,subF]
   by_cases g:c.1=0
   ·simp only[if_pos g]
    cases m:look a c.2.1 with
    | none=>simp only[subF_cat s s' r b _ f]
    | some t=>
      by_cases j:eqT (t,(c',d))=true
      ·simp only[if_pos j,subF_cat s s' r b _ f]
      ·simp only[if_neg j]
   ·simp only[if_neg g]
    by_cases i:c=c'
    ·simp only[if_pos i]
     cases l:subF a k d with
     | none=>rfl
     | some e=>simp only[subF_cat s s' r b e f]
    ·simp only[if_neg i]
theorem subF_node (c b:Cel)(k d r f:Fo)(a:SubE):subF a (.node c k r) (.node b d f)=match subF a (.node c k .nil) (.node b d .nil) with | some e=>subF e r f | none=>none:=
 subF_cat (.node c k .nil) (.node b d .nil) r f a rfl
theorem subL_zip:∀ (a b:Fo) (l:List TT) (d:SubE),a.count=b.count->subL d ((trs a).zip (trs b) ++ l)=match subF d a b with | some e=>subL e l | none=>none
 | .nil,.nil,l,d,_=>by simp[trs,subF]
 | .nil,.node _ _ _,_,_,h=>by simp[Fo.count] at h
 | .node _ _ _,.nil,_,_,h=>by simp[Fo.count] at h
 | .node c k r,.node c' k' r',l,d,h=>by
   rw[subF_node c c' k k' r r' d];simp only[trs,List.zip_cons_cons,List.cons_append,subL,Tr.fo]
   cases subF d (.node c k .nil) (.node c' k' .nil) with
   | none=>rfl
   | some e=>exact subL_zip r r' l e (by simpa [Fo.count] using h)
theorem subL_old {a:SubE}{x:TT}(l:List TT)(b:x.1.1.1=0){t:Tr}(d:look a x.1.1.2.1=some t):subL a (x :: l)=if eqT (t,x.2)=true then subL a l else none:=by
 obtain⟨⟨c,k⟩,⟨f,g⟩⟩:=x;simp only at b d;simp only[subL,Tr.fo,subF,if_pos b,d]
 by_cases e:eqT (t,(f,g))=true
 ·simp only[if_pos e]
 ·simp only[if_neg e]
theorem subL_new {a:SubE}{x:TT}(l:List TT)(b:x.1.1.1=0)(d:look a x.1.1.2.1=none):subL a (x :: l)=subL (a ++ [(x.1.1.2.1,x.2)]) l:=by
 obtain⟨⟨c,k⟩,⟨e,f⟩⟩:=x;simp only at b d;simp only[subL,Tr.fo,subF,if_pos b,d]
theorem subL_open {a:SubE}{x:TT}(l:List TT)(d:x.1.1.1≠0)(b:x.1.1=x.2.1)(e:x.1.2.count=x.2.2.count):subL a ((opened x).reverse ++ l)=subL a (x :: l):=by
 obtain⟨⟨c,k⟩,⟨g,f⟩⟩:=x;simp only at d b e;rw[opened,if_pos b,argPairs,List.reverse_reverse,subL_zip _ _ _ _ e];simp only[subL,Tr.fo,subF,if_neg d,if_pos b]
 cases subF a k f <;> rfl
theorem subL_no {a:SubE}{x:TT}(l:List TT)(b:x.1.1.1≠0)(d:x.1.1≠x.2.1):subL a (x :: l)=none:=by
 obtain⟨⟨c,k⟩,⟨e,f⟩⟩:=x;simp only at b d;simp only[subL,Tr.fo,subF,if_neg b,if_neg d]
end
section
open Go Go.RowKit Go.Maps
def anyE (v:Value):Option (DataW Value×List MemPlace):=some (.held v,[])
def putE {α:Type}(E:List (Int×α))(x:Int)(v:α):List (Int×α):=if x ∈ E.map Prod.fst then E.map (fun y=>if y.1=x then(x,v) else y) else E ++ [(x,v)]
theorem look_map {d:Type}(x:Int)(v:d):∀ (E:List (Int×d)) (y:Int),look (E.map (fun z=>if z.1=x then(x,v) else z)) y=if y=x then(if x ∈ E.map Prod.fst then some v else none) else look E y
 | [],y=>by simp[look]
 | z :: r,y=>by
   have b:=look_map x v r y
   by_cases c:z.1=x
   ·by_cases a:y=x
    ·subst a;simp[look,c]
    ·have f:¬ x=y:=fun e=>a e.symm
     simp[look,c,a,f] at b ⊢
     exact b
   ·have g:¬ x=z.1:=fun e=>c e.symm
    by_cases a:y=x
    ·subst a
     simp only[if_true] at b;simp only[List.map_cons,if_neg c,look,b,if_true,List.mem_cons,g,false_or]
    ·simp[look,c,a] at b ⊢
     rw[b]
theorem look_putE {a:Type}(E:List (Int×a))(x:Int)(v:a)(y:Int):look (putE E x v) y=if y=x then some v else look E y:=by
 unfold putE
 split
 ·rename_i h
  rw[look_map]
  simp[h]
 ·rename_i h
  rw[look_append]
  by_cases e:y=x
  ·subst e
   rw[(look_none E y).2 h];simp[look]
  ·have c:¬ x=y:=fun b=>e b.symm
   cases look E y <;> simp[look,e,c]
theorem putE_len {a:Type}(E:List (Int×a))(x:Int)(v:a):(putE E x v).length=if (look E x).isSome then E.length else E.length+1:=by
 unfold putE
 by_cases h:x ∈ E.map Prod.fst
 ·have:(look E x).isSome=true:=by
   cases b:look E x with
   | none=>exact absurd h ((look_none E x).1 b)
   | some t=>rfl
  rw[if_pos h,this];simp
 ·rw[if_neg h,(look_none E x).2 h];simp
theorem putE_new {a:Type}{E:List (Int×a)}{x:Int}(v:a)(h:look E x=none):putE E x v=E ++ [(x,v)]:=by
 unfold putE
 rw[if_neg ((look_none E x).1 h)]
def VMap (w:World)(b N:Nat)(E:List (Int×Value)):Prop:=∃ D:DataW Value,w.ownsMap Tryz.prog 65 anyE b N D/\Maps.size D=E.length/\(∀ x:Int,Maps.has D (.int .i64 x)=(look E x).isSome)/\
 (∀ (x:Int) z,D.atKey (.int .i64 x) z=match look E x with | some v=>.held v | none=>z)
theorem VMap.lt {w:World}{b N:Nat}{E:List (Int×Value)}(h:VMap w b N E):b<w.heap.size:=by obtain⟨D,h,_⟩:=h;exact h.lt
theorem VMap.of_block {w w':World}{b N:Nat}{E:List (Int×Value)}(h:VMap w b N E)(f:w'.heap[b]?=w.heap[b]?):VMap w' b N E:=by
 obtain⟨D,⟨c,a,d,r⟩,e⟩:=h;exact⟨D,⟨c,a,f.trans d,r⟩,e⟩
theorem VMap.below {w w':World}{b N:Nat}{E:List (Int×Value)}(h:VMap w b N E)(a:Below w.heap.size w w'):VMap w' b N E:=h.of_block (a.block _ h.lt)
theorem VMap.mono {w:World}{b N a:Nat}{E:List (Int×Value)}(h:VMap w b N E)(e:N<=a):VMap w b a E:=by
 obtain⟨D,c,d⟩:=h;exact⟨D,c.mono e,d⟩
theorem VMap.made (w:World):VMap (w.alloc (.map #[] 0)) w.heap.size 0 []:=⟨_,World.ownsMap_made _ _ _ _,rfl,fun x=>rfl,fun x z=>rfl⟩
theorem key_of (x:Int)(b:0<=x)(c:x<=1000000):keyOf Tryz.prog 65 (.int .i64 x)=some (.int .i64 x):=keyOf_int_mk (P:=Tryz.prog) Tryz.underlying65 (q:=.i64) (a:=x) (WalkArith.wf_i64 (by omega))
theorem VMap.look {w:World}{b N:Nat}{E:List (Int×Value)}(h:VMap w b N E){t e:TypeId}(m:Tryz.prog.underlying t=some (.map 65 e)){z:Value}(n:(zeroValue e).run Tryz.prog w = .ok z w)(x:Int)(j:0<=x)(k:x<=1000000) :
  (Instr.lookup t (.map (some b)) (.int .i64 x) true).run Tryz.prog w = .ok (.tuple #[(match Go.Proofs.YtnfnddnffoigfaaGreatDoor.look E x with | some v=>v | none=>z),.bool (Go.Proofs.YtnfnddnffoigfaaGreatDoor.look E x).isSome]) w:=by
 obtain⟨D,d,l,c,g⟩:=h;obtain⟨v,o,f,a⟩:=d.look_ok lawVar m n (zd:=.held z) (zp:=[]) rfl (key_of x j k);rw[f,c];rw[g] at a;simp only[anyE,Option.some.injEq,Prod.mk.injEq] at a;have a:=a.1
 cases i:Go.Proofs.YtnfnddnffoigfaaGreatDoor.look E x with
 | none=>rw[i] at a;cases a;rfl
 | some u=>rw[i] at a;cases a;rfl
theorem VMap.put {w:World}{b N:Nat}{E:List (Int×Value)}(h:VMap w b N E){t e:TypeId}(o:Tryz.prog.underlying t=some (.map 65 e))(p:N<=1000000)(x:Int)(l:0<=x)(m:x<=1000000)(v:Value) :
  ∃ w',(Instr.mapUpdate t (.map (some b)) (.int .i64 x) v).run Tryz.prog w = .ok () w'/\VMap w' b (N+1) (putE E x v)/\w.grownBy w' (some b):=by
 obtain⟨D,a,j,c,i⟩:=h;obtain⟨w',g,d,n⟩:=a.update lawVar o (by unfold maxLen;omega) (key_of x l m) (show anyE v=some (.held v,[]) from rfl);have k:=a.isMap;have f:WideAt.IsKeyLit (.int .i64 x):=trivial;refine⟨w',g,⟨_,d,?_,fun y=>?_,fun y z=>?_⟩,n⟩
 ·rw[size_put (a.tidy lawVar),c,j,putE_len]
 ·rw[look_putE]
  by_cases e:y=x
  ·subst e;rw[has_put_same k f];simp
  ·rw[has_put_other (by simpa using e),c];simp[e]
 ·rw[look_putE]
  by_cases e:y=x
  ·subst e
   rw[atKey_put_same k f];simp
  ·rw[atKey_put_other (by simpa using e),i];simp[e]
theorem zeroTerm (w:World):(zeroValue 48).run Tryz.prog w = .ok .nilIface w:=by kernel_rfl
def KeepOut (w:World)(b N:Nat)(E:List (Int×Value))(x:Int)(v:Value)(e:Ending)(w':World):Prop:=
 e = .returned (match look E x with | some u=>u | none=>v)/\VMap w' b (N+1) (match look E x with | some _=>E | none=>E ++ [(x,v)])/\w.grownBy w' (some b)
theorem keep_any (b N:Nat)(E:List (Int×Value))(x:Int)(t:TypeId)(y:Value)(w:World)(j:0<=x)(k:x<=1000000)(n:N<=1000000)(g:∀ u,look E x=some u->∃ h i,u = .iface h i)(e:VMap w b N E) :
  Calls Tryz.prog 99 #[.map (some b),.int .i64 x,.iface t y] w (KeepOut w b N E x (.iface t y)):=by
 have a:=e.look (t:=132) Tryz.underlying132 (zeroTerm w) x j k
 cases c:look E x with
 | none=>
   obtain⟨p,m,d,l⟩:=e.put (t:=132) Tryz.underlying132 n x j k (.iface t y);rw[putE_new _ c] at d;rw[c] at a;simp only[Option.isSome_none] at a
   have f:Hid (KeepOut w b N E x (.iface t y) (.returned (.iface t y)) p):=by
    unfold KeepOut Hid
    rw[c];exact⟨rfl,d,l⟩
   clear c e d l g
   go_enter Tryz.func99,Tryz.ntmps99
   go_wp2
   go_ret;exact f.o
 | some u=>
   obtain⟨h,i,rfl⟩:=g u c;rw[c] at a;simp only[Option.isSome_some] at a
   have f:Hid (KeepOut w b N E x (.iface t y) (.returned (.iface h i)) w):=by
    unfold KeepOut Hid
    rw[c];exact⟨rfl,e.mono (by omega),⟨rfl,rfl,rfl,Nat.le_refl _,fun _ _ _=>rfl⟩⟩
   clear c e g
   go_enter Tryz.func99,Tryz.ntmps99
   go_wp2
   go_ret;exact f.o
end
section
open Go Go.RowKit
def EnvIn (W0:World)(Bt:Nat):SubE->List (Int×Value)->Prop
 | [],E=>E = []
 | y :: r,E=>∃ v s,E=(y.1,v) :: s/\FoIn W0 Bt y.2.fo [v]/\EnvIn W0 Bt r s
theorem EnvIn.look {c:World}{b:Nat} : ∀ (a:SubE) (E:List (Int×Value)),EnvIn c b a E->∀ x:Int,(∀ t,Go.Proofs.YtnfnddnffoigfaaGreatDoor.look a x=some t->∃ v,Go.Proofs.YtnfnddnffoigfaaGreatDoor.look E x=some v/\FoIn c b t.fo [v])/\(Go.Proofs.YtnfnddnffoigfaaGreatDoor.look a x=none->Go.Proofs.YtnfnddnffoigfaaGreatDoor.look E x=none)
 | [],E,h,x=>by rw[show E = [] from h];exact⟨fun t e=>(by cases e),fun _=>rfl⟩
 | y :: r,E,⟨v,s,e,hf,hr⟩,x=>by
   subst e;have d:=EnvIn.look r s hr x;simp only[Go.Proofs.YtnfnddnffoigfaaGreatDoor.look]
   by_cases h:y.1=x
   ·simp only[if_pos h]
    exact⟨fun t e=>⟨v,rfl,by cases e;exact hf⟩,fun e=>by cases e⟩
   ·simp only[if_neg h]
    exact d
theorem EnvIn.snoc {c:World}{b:Nat}{x:Int}{t:Tr}{v:Value}(d:FoIn c b t.fo [v]):∀ (a:SubE) (E:List (Int×Value)),EnvIn c b a E->EnvIn c b (a ++ [(x,t)]) (E ++ [(x,v)])
 | [],E,h=>by rw[show E = [] from h];exact⟨v,[],rfl,d,rfl⟩
 | y :: r,E,⟨u,s,e,h1,h2⟩=>by subst e;exact⟨u,s ++ [(x,v)],rfl,h1,EnvIn.snoc d r s h2⟩
def envOk (env:SubE):Prop:=∀ y ∈ env,y.2.ok/\y.2.2.cells.length<=10000
def stOk (st:List TT):Prop:=∀ y ∈ st,y.1.ok/\y.2.ok/\y.2.2.cells.length<=10000
theorem opened_small {x:TT}(b:x.1.ok)(d:x.2.ok)(e:x.2.2.cells.length<=10000):stOk (opened x):=fun y a=>by
 have h:=opened_ok b d y a;refine⟨h.1,h.2,?_⟩
 unfold opened argPairs at a
 split at a
 ·have f:=(List.of_mem_zip (List.mem_reverse.1 a)).2
  have:∀ (F:Fo) (t:Tr),t ∈ trs F->t.2.cells.length<=F.cells.length:=fun F=>by
   induction F with
   | nil=>intro t ht;simp[trs] at ht
   | node c k r _ g=>
     intro t ht
     rcases List.mem_cons.1 (show t ∈ (c,k) :: trs r from ht) with rfl | ht
     ·simp[Fo.cells];omega
     ·have:=g t ht
      simp[Fo.cells];omega
  exact Nat.le_trans (this _ _ f) e
 ·cases a
structure SubSt (w:World)(wr:World)(R:Bool)(k:Nat)(p:Option Addr)(n c:Nat)(st:List TT)(env:SubE)(E:List (Int×Value))(N:Nat):Prop where
 stk:Stk w 0 wr (w.heap.size+1) (w.heap.size+1+1) 0 p n c st
 map:VMap wr w.heap.size N E
 envin:EnvIn w 0 env E
 eok:envOk env
 sok:stOk st
 loadk:Go.Proofs.YtnfnddnffoigfaaGreatDoor.load st=k
 room:N+k<=20000
 res:(subL env st.reverse).isSome=R
 low:Below w.heap.size w wr
theorem VMap.kept2 {w c:World}{b N a i:Nat}{E:List (Int×Value)}{g:Option Nat}(h:VMap w b N E)(f:Kept2 w c a i g)(d:b≠a)(e:some b≠g):VMap c b N E:=h.of_block (f.block b h.lt d e)
theorem Stk.grown {i:World}{g:Nat}{w w':World}{B b f d:Nat}{p:Option Addr}{n c:Nat}{st:List TT}(h:Stk i g w B b f p n c st)(k:w.grownBy w' (some d))(s:d<B)(m:d≠b):Stk i g w' B b f p n c st:=by
 have q:b<w.heap.size:=World.block_lt_of_cell? _ _ h.cell;have j:w'.heap[b]?=w.heap[b]?:=k.block b q (fun e=>m (Option.some.inj e).symm);obtain⟨r,l,o⟩:=h.row;refine⟨(World.cell?_of_block (a:=⟨b,f,none⟩) j).trans h.cell,(World.frozen?_of_block (a:=⟨b,f,none⟩) j).trans h.free,h.len,⟨r,l.kept k ?_,o⟩,h.away⟩
 right
 intro e
 have:=(l.lt d e).1
 omega
theorem subsumes_any (w:World)(x:TT)(v1 v2:Value)(e8:FoIn w 0 x.1.fo [v1])(e9:FoIn w 0 x.2.fo [v2])(x9:x.1.ok)(w5:x.2.ok)(hl:x.1.2.cells.length<=10000)(b8:x.2.2.cells.length<=10000) :
  Calls Tryz.prog 32 #[v1,v2] w fun e w'=>e = .returned (.bool (subF [] x.1.fo x.2.fo).isSome)/\Below w.heap.size w w':=by
 obtain⟨t1,y1,rfl⟩:=FoIn.iface (show FoIn w 0 (.node x.1.1 x.1.2 .nil) [v1] from e8);obtain⟨t2,y2,rfl⟩:=FoIn.iface (show FoIn w 0 (.node x.2.1 x.2.2 .nil) [v2] from e9);have e5:=Stk.made (w.alloc (.map #[] 0)) x (.iface t1 y1) (.iface t2 y2) 90 e8 e9;simp only[World.size_alloc] at e5
 have HB:Hid (∀ a b d,Below w.heap.size w (((w.alloc a).alloc b).alloc d)):=fun a b d=>(((Below.refl _ _).alloc (Nat.le_refl _) _).alloc (by simp) _).alloc (by simp;omega) _
 obtain⟨R,eR⟩:∃ R,R=(subF [] x.1.fo x.2.fo).isSome:=⟨_,rfl⟩
 have k9:Hid (SubSt w (((w.alloc (.map #[] 0)).alloc (.cells #[.iface t1 y1,.iface t2 y2] 89)).alloc (.cells #[.slice (some ⟨w.heap.size+1,0,none⟩) 1 1] 90)) R (load [x]) (some ⟨w.heap.size+1,0,none⟩) 1 1 [x] [] [] 0):=⟨e5,((VMap.made w).below (((Below.refl _ _).alloc (Nat.le_refl _) _).alloc (by simp) _)).mono (Nat.zero_le _),rfl,fun y h=>(by cases h),fun y Q=>by rw[List.mem_singleton.1 Q];exact⟨x9,w5,b8⟩,rfl,by simp[load];omega,by rw[eR];simp only[List.reverse_singleton,subL];cases subF [] x.1.fo x.2.fo <;> rfl,HB.o _ _ _⟩
 rw[<-eR];clear e8 e9 x9 w5 eR e5;have c7:=@run_makeMap Tryz.prog
 go_enter Tryz.func32,Tryz.ntmps32
 go_wp2
 go_loopg [] (load [x]) (fun k wr=>∃ (p:Option Addr) (n c:Nat) (st:List TT) (s:SubE) (E:List (Int×Value)) (N:Nat),wr.cell? ⟨w.heap.size+1+1,0,none⟩=some (.slice p n c)/\n<=100000/\Hid (SubSt w wr R k p n c st s E N))
 case atStart=>exact⟨_,_,_,[x],[],[],0,k9.o.stk.cell,by decide,k9.o⟩
 case round=>
  obtain⟨p,n,c,st,s,E,N,J,hn,r⟩:=hrel
  rcases List.eq_nil_or_concat st with rfl | ⟨l,y,rfl⟩
  ·have b9:n=0:=r.o.stk.len
   subst b9;have HF:=hid r.o.res.symm
   go_wp2
   go_ret;exact⟨ret_bool HF.o.symm,r.o.low⟩
  ·rw[List.concat_eq_append] at r
   have e7:=r.o.stk
   have x8:n=l.length+1:=by rw[e7.len];simp
   have c4:(0:Int)<(n:Int):=by omega
   have HT:=take_any w 0 wr (w.heap.size+1) (w.heap.size+1+1) 0 p n c l y (by omega) e7;have m:Hid (y.1.ok/\y.2.ok/\y.2.2.cells.length<=10000):=r.o.sok y (by simp);have k7:=hid x8;have T:Hid (w.heap.size+1+1<wr.heap.size):=World.block_lt_of_cell? _ _ J;have b6:Hid (subL s (y :: l.reverse)).isSome=Hid (subL s (y :: l.reverse)).isSome:=rfl
   have H:Hid ((subL s (y :: l.reverse)).isSome=R):=by have:=r.o.res;simpa [Hid] using this
   clear e7 x8 b6;go_wp2_with fail;refine HT.mono ?_;rintro e A ⟨v1,v2,rfl,f1,f2,⟨p',n',c',w6,e6⟩,hk⟩;obtain⟨u1,z1,rfl⟩:=FoIn.iface (show FoIn w 0 (.node y.1.1 y.1.2 .nil) [v1] from f1);obtain⟨u2,F,rfl⟩:=FoIn.iface (show FoIn w 0 (.node y.2.1 y.2.2 .nil) [v2] from f2);have P:=hid w6;have k5:Hid (VMap A w.heap.size N E):=r.o.map.kept2 hk (by omega) (fun e=>by cases e);have k2:Hid (Below w.heap.size w A):=r.o.low.trans (hk.below (by omega) (fun k e=>by cases e) (by have:=T.o;omega))
   have HF:Hid (FoIn w 0 y.1.fo [.iface u1 z1]/\FoIn w 0 y.2.fo [.iface u2 F]):=⟨f1,f2⟩
   have c3:=hid hk.size;have c5:w.heap.size+1+1<A.heap.size:=Nat.lt_of_lt_of_le T.o hk.size;clear w6 e6 hk HT f2 J;obtain⟨v',vr,e',D,_⟩:=f1;obtain⟨rfl,rfl⟩:=List.cons.inj e'
   by_cases h0:y.1.1.1=0
   ·have hu:u1=65/\z1 = .int .i64 y.1.1.2.1:=by
     rcases D with ⟨_,e⟩ | ⟨e,_⟩ | ⟨e,_⟩ | ⟨e,_⟩
     ·cases e;exact⟨rfl,rfl⟩
     ·omega
     ·omega
     ·omega
    obtain⟨rfl,rfl⟩:=hu;have hv:=m.o.1.1;rw[h0] at hv
    have M:0<=y.1.1.2.1/\y.1.1.2.1<=1000000:=by simp[cellB] at hv;exact⟨hv.1,hv.2.1⟩
    have a1:=isVar;have C:Below A.heap.size A (A.alloc (.cells #[.iface 65 (.int .i64 y.1.1.2.1),.iface u2 F] 89)).drew:=((Below.refl A.heap.size A).alloc (Nat.le_refl _) _).drew;have k8:Hid _:=P.o.below C;have B:Hid _:=Below.on k2.o C;have k6:Hid _:=k5.o.below C
    have c6:load l+1<=gk:=by have:=r.o.loadk;rw[load_append] at this;simp[load] at this;omega
    have c1:=r.o.room;have h7:=(r.o.envin).look _ _ y.1.1.2.1;have H0:=hid h0
    have b7:∃ (f:TypeId×Value) (t:Tr) (q:SubE) (E':List (Int×Value)),KeepOut=KeepOut/\(∀ W,VMap W w.heap.size N E->Calls Tryz.prog 99 #[.map (some w.heap.size),.int .i64 y.1.1.2.1,.iface u2 F] W fun e w'=>e = .returned (.iface f.1 f.2)/\VMap w' w.heap.size (N+1) E'/\W.grownBy w' (some w.heap.size))/\FoIn w 0 t.fo [.iface f.1 f.2]/\t.ok/\t.2.cells.length<=10000/\EnvIn w 0 q E'/\envOk q/\(subL s (y :: l.reverse)).isSome=(eqT (t,y.2) && (subL q l.reverse).isSome):=by
     cases hl:look s y.1.1.2.1 with
     | some t=>
       obtain⟨v,L,b2⟩:=h7.1 t hl;obtain⟨tt,yy,rfl⟩:=FoIn.iface (show FoIn w 0 (.node t.1 t.2 .nil) [v] from b2);have w9:=r.o.eok _ (look_mem hl);refine⟨(tt,yy),t,s,E,rfl,fun W hW=>?_,b2,w9.1,w9.2,r.o.envin,r.o.eok,?_⟩
       ·have:=keep_any w.heap.size N E y.1.1.2.1 u2 F W M.1 M.2 (by omega) (fun u hu=>by rw[L] at hu;cases hu;exact⟨_,_,rfl⟩) hW
        unfold KeepOut at this
        rw[L] at this;exact this
       ·rw[subL_old _ H0.o hl]
        cases eqT (t,y.2) <;> simp
     | none=>
       have L:=h7.2 hl;refine⟨(u2,F),y.2,s ++ [(y.1.1.2.1,y.2)],E ++ [(y.1.1.2.1,.iface u2 F)],rfl,fun W hW=>?_,HF.o.2,m.o.2.1,m.o.2.2,EnvIn.snoc HF.o.2 _ _ r.o.envin,?_,?_⟩
       ·have:=keep_any w.heap.size N E y.1.1.2.1 u2 F W M.1 M.2 (by omega) (fun u hu=>by rw[L] at hu;cases hu) hW
        unfold KeepOut at this
        rw[L] at this;exact this
       ·intro z hz
        rcases List.mem_append.1 hz with hz | hz
        ·exact r.o.eok z hz
        ·rw[List.mem_singleton.1 hz];exact⟨m.o.2.1,m.o.2.2⟩
       ·rw[subL_new _ H0.o hl,(eqT_iff (y.2,y.2)).2 rfl];simp
    obtain⟨f,t,q,E',_,K,x4,h2,b1,V,X,Y⟩:=b7;have h6:=hid K
    have e3:Hid (∀ W,Below w.heap.size w W->Calls Tryz.prog 19 #[.iface f.1 f.2,.iface u2 F] W fun e w'=>e = .returned (.bool (eqT (t,y.2)))/\Below W.heap.size W w'):=fun W hW=>isSame_any w 0 W (t,y.2) _ _ hW x4 HF.o.2 h2 m.o.2.1 b1
    have k4:Hid (EnvIn w 0 q E'/\envOk q):=⟨V,X⟩
    have h9:Hid (R=(eqT (t,y.2) && (subL q l.reverse).isSome)):=by show _=_;rw[<-Y];exact H.o.symm
    obtain⟨f1,f2⟩:=f;simp only at h6 e3
    obtain⟨vv,x2⟩:∃ vv,vv=y.1.1.2.1:=⟨_,rfl⟩
    rw[<-x2] at h6 k8 B k6 ⊢
    have k1:Hid (∀ w3,(A.alloc (.cells #[.iface 65 (.int .i64 vv),.iface u2 F] 89)).drew.grownBy w3 (some w.heap.size)->w3.cell? ⟨A.heap.size,1,none⟩=some (.iface u2 F)/\Below w.heap.size w w3/\Stk w 0 w3 (w.heap.size+1) (w.heap.size+1+1) 0 p' n' c' l):=fun w3 hg=>by
     refine⟨?_,B.o.grown hg B.o.size (fun k e=>by cases e;exact Nat.le_refl _),k8.o.grown hg (by omega) (by omega)⟩;rw[World.cell?_of_block (a:=⟨A.heap.size,1,none⟩) (hg.block A.heap.size (by show _<(A.alloc _).heap.size;simp) (fun e=>by have:=Option.some.inj e;omega))];exact cell_of_row _ _ 1 _ _ _ (heap_alloc_new A _)
    obtain⟨R2,x1⟩:∃ R2,R2=eqT (t,y.2):=⟨_,rfl⟩
    rw[<-x1] at e3 h9;clear D h0 C e' K x4 h2 b1 V X Y x1 x2 h7 M hv;go_wp2_with fail
    go_region_held3 (fun W=>W.cell? ⟨A.heap.size,1,none⟩=some (.iface u2 F)) (first | exact kc | go_keep)
     (first
       | (go_at_call 99;refine(h6.o _ k6.o).mono ?_;rintro e w3 ⟨rfl,x7,x5⟩;obtain⟨kc,e4,w8⟩:=k1.o w3 x5)
       | (go_at_call 19;refine(e3.o _ e4).mono ?_;rintro e w4 ⟨rfl,I⟩;have kc:=(I.cell (p:=⟨A.heap.size,1,none⟩) (World.block_lt_of_cell? _ _ kc)).trans kc))
    have b5:Hid _:=x7.below I;have e2:Hid _:=w8.below I;have k3:Hid _:=Below.on e4 I;clear x7 x5 w8 e4 I kc
    cases R2 with
    | false=>
      have h5:Hid (R=false):=by show _=_;rw[h9.o];rfl
      go_wp2_with fail;go_ret;exact⟨ret_bool h5.o.symm,k3.o⟩
    | true=>
      go_wp2_with fail
      go_roundg (load l)
      case measure=>omega
      case rel=>
       exact⟨p',n',c',l,q,E',N+1,e2.o.cell,by have:=e2.o.len;have:=k7.o;omega,e2.o,b5.o,k4.o.1,k4.o.2,fun z hz=>r.o.sok z (by simp[hz]),rfl,by omega,by have:=h9.o;simpa using this.symm,k3.o⟩
   ·have c8:∀ W,(Instr.typeAssert (.iface u1 z1) 48 65 true).run Tryz.prog W = .ok (.tuple #[.int .i64 0,.bool false]) W:=fun W=>by
     rcases D with ⟨e,_⟩ | ⟨_,e⟩ | ⟨_,e⟩ | ⟨_,b,g,vs,e,_⟩
     ·exact absurd e h0
     ·cases e;exact noVar_num W _
     ·cases e;exact noVar_atom W _
     ·cases e;exact noVar_comp W _
    have H0:=hid h0;have C:Below A.heap.size A (A.alloc (.cells #[.iface u1 z1,.iface u2 F] 89)).drew:=((Below.refl A.heap.size A).alloc (Nat.le_refl _) _).drew;have b3:Hid _:=C;have Z:=P.o.below C;have B:=hid (Below.on k2.o C);have U:=open_any w 0 (A.alloc (.cells #[.iface u1 z1,.iface u2 F] 89)).drew (w.heap.size+1) (w.heap.size+1+1) 0 p' n' c' l y _ _ Z B.o (by omega) (by omega) (by have:=P.o.len;have:=k7.o;omega) HF.o.1 HF.o.2 m.o.1 m.o.2.1
    have h8:Hid (∀ j,Value.ownBlock (.slice p' n' c')=some j->w.heap.size+1<=j):=fun j e=>by
     obtain⟨_,hr,_⟩:=P.o.row;exact(hr.lt j e).1
    clear D h0 Z e' C;go_wp2_with fail;refine wp_region_held (S:=fun _=>True) (by kernel_rfl) ?_;refine hTk (i:=0) (v:=.bool false) (some 25) (fun o ho W x3=>?y0) trivial ?_
    case y0=>cases ho;simp[execOp,go_sem,Act.eval]
    simp only[Act.put,zzA,zzB,zzC];refine hTk (i:=1) (v:=.bool false) (some 26) (fun o ho W x3=>?y1) trivial ?_
    case y1=>cases ho;simp[execOp,go_sem,Act.eval]
    simp only[Act.put,zzA,zzB,zzC];refine hSk (i:=2) (some 27) trivial ?_;refine hSk (i:=3) (some 28) trivial ?_;refine hSk (i:=4) (some 29) trivial ?_;refine hSk (i:=5) (some 30) trivial ?_;simp only[Act.put,zzA,zzB,zzC];refine hSk (i:=6) (some 31) trivial ?_;refine hSk (i:=7) (some 32) trivial ?_;refine hSk (i:=8) (some 33) trivial ?_;refine hSk (i:=9) (some 34) trivial ?_;simp only[Act.put,zzA,zzB,zzC];refine hSk (i:=10) (some 35) trivial ?_;simp only[Act.put,zzA,zzB,zzC];refine hTk (i:=11) (v:=.bool false) (some 36) (fun o ho W x3=>?y11) trivial ?_
    case y11=>cases ho;simp[execOp,go_sem,Act.eval]
    simp only[Act.put,zzA,zzB,zzC];refine wpAnyH_done (by kernel_rfl) ?_ _
    change Exit.then _ _ _ _ (A.alloc (.cells #[.iface u1 z1,.iface u2 F] 89)).drew
    by_cases Q:y.1.1=y.2.1
    ·have hd:decide (y.1.1=y.2.1)=true:=by simpa using Q
     unfold OpenOut at U
     rw[hd] at U
     have O:Hid (load (l ++ opened y)<gk/\(subL s (l ++ opened y).reverse).isSome=R/\stOk (l ++ opened y)/\N+load (l ++ opened y)<=20000):=by
      have x6:=r.o.loadk;have c1:=r.o.room;rw[load_append] at x6;have:=load_opened y
      have h1:load (l ++ opened y)<gk:=by rw[load_append,<-x6];simp[load];omega
      refine⟨h1,?_,?_,by omega⟩
      ·rw[List.reverse_append,subL_open _ H0.o Q (ok_count m.o.1 m.o.2.1 Q)];exact H.o
      ·intro z hz
       rcases List.mem_append.1 hz with hz | hz
       ·exact r.o.sok z (by simp[hz])
       ·exact opened_small m.o.1 m.o.2.1 m.o.2.2 z hz
     clear hd Q;go_wp2_with fail;refine U.mono ?_;rintro e w2 ⟨rfl,⟨p2,n2,c2,w7,_⟩,G⟩;have e1:Hid _:=w7;have h3:Hid (Below w.heap.size w w2):=B.o.trans (G.below (by omega) (fun k e=>by have:=h8.o k e;omega) B.o.size);have b4:Hid (VMap w2 w.heap.size N E):=(k5.o.below b3.o).kept2 G (by omega) (fun e=>by have:=h8.o _ e.symm;omega);clear G U w7;go_wp2_with fail
     go_roundg (load (l ++ opened y))
     case measure=>exact O.o.1
     case rel=>
      have h4:=O.o.2.2.2;exact⟨p2,n2,c2,l ++ opened y,s,E,N,e1.o.cell,by have:=e1.o.len;have:=len_load (l ++ opened y);omega,e1.o,b4.o,r.o.envin,r.o.eok,O.o.2.2.1,rfl,h4,O.o.2.1,h3.o⟩
    ·have hd:decide (y.1.1=y.2.1)=false:=by simpa using Q
     unfold OpenOut at U
     rw[hd] at U
     have h5:Hid (R=false):=by show _=_;rw[<-H.o,subL_no _ H0.o Q];rfl
     clear hd Q;go_wp2_with fail;refine U.mono ?_;rintro e w2 ⟨rfl,_,G⟩;have h3:Hid (Below w.heap.size w w2):=B.o.trans (G.below (by omega) (fun k e=>by have:=h8.o k e;omega) B.o.size);clear G U;go_wp2_with fail;go_ret;exact⟨ret_bool h5.o.symm,h3.o⟩
def SubsIs (xs ys:List Cel)(R:Bool):Prop:=
 (validB xs=true/\validB ys=true/\∃ c k c' k',xs=c :: k.cells/\ys=c' :: k'.cells/\(Fo.node c k .nil).ok/\(Fo.node c' k' .nil).ok/\xs.length<=2000/\ys.length<=2000/\R=(subF [] (.node c k .nil) (.node c' k' .nil)).isSome)∨
 (¬ (validB xs=true/\validB ys=true)/\R=false)
theorem Fo.byte:∀ F:Fo,F.ok->∀ x ∈ F.cells,Byte x.2.2
 | .nil,_,x,h=>by simp[Fo.cells] at h
 | .node c k r,h,x,hx=>by
   simp only[Fo.cells,List.mem_cons,List.mem_append] at hx
   rcases hx with rfl | hx | hx
   ·exact h.2.1
   ·exact Fo.byte k h.2.2.2.2.1 x hx
   ·exact Fo.byte r h.2.2.2.2.2 x hx
theorem implSubsC_bad (d b:List Cel)(p q:Option Addr)(n i:Nat)(z:d.length<=n/\n<=9223372036854775807)(A:b.length<=i/\i<=9223372036854775807)(w:World)(C:d.length<=1000000000)(B:b.length<=1000000000)(t:CIn w p d)(u:CIn w q b)(s:¬ (validB d=true/\validB b=true)) :
  Calls Tryz.prog 14 #[.slice p d.length n,.slice q b.length i] w fun e v=>e = .returned (.bool false)/\Below w.heap.size w v:=by
 have a:=implValid_any p n d w C t
 by_cases j:validB d=true
 ·have g:Hid (∀ W,Below w.heap.size w W->Calls Tryz.prog 18 #[.slice q b.length i] W fun e v=>e = .returned (.bool (validB b))/\Below W.heap.size W v):=fun W y=>implValid_any q i b W B (u.below y)
  rw[j] at a
  have l:validB b=false:=by
   cases h:validB b with
   | false=>rfl
   | true=>exact(s ⟨j,h⟩).elim
  rw[l] at g;clear j l t u s
  go_enter Tryz.func14,Tryz.ntmps14
  go_wp2_with fail;refine a.mono ?_;rintro e x ⟨rfl,c⟩;have f:=hid c;clear c a;go_wp2_with fail;refine(g.o x f.o).mono ?_;rintro e D ⟨rfl,m⟩;have r:=hid (Below.on f.o m);clear m;go_wp2_with fail;go_ret;exact⟨rfl,r.o⟩
 ·have k:validB d=false:=by simpa using j
  rw[k] at a;clear j k t u s
  go_enter Tryz.func14,Tryz.ntmps14
  go_wp2_with fail;refine a.mono ?_;rintro e x ⟨rfl,c⟩;go_wp2_with fail;go_ret;exact⟨rfl,c⟩
theorem implSubsC_any (j b:List Cel)(R:Bool)(p q:Option Addr)(r i:Nat)(f:j.length<=r/\r<=9223372036854775807)(g:b.length<=i/\i<=9223372036854775807)(w:World)(O:SubsIs j b R)(hn:j.length<=1000000000)(hm:b.length<=1000000000)(P:CIn w p j)(Q:CIn w q b) :
  Calls Tryz.prog 14 #[.slice p j.length r,.slice q b.length i] w fun e h=>e = .returned (.bool R)/\Below w.heap.size w h:=by
 rcases O with ⟨h1,h2,c,k,B,A,M,N,z,a,x,y,O⟩ | ⟨hb,rfl⟩
 ·have d:=implValid_any p r j w hn P
  have l:Hid (∀ W,Below w.heap.size w W->Calls Tryz.prog 18 #[.slice q b.length i] W fun e h=>e = .returned (.bool (validB b))/\Below W.heap.size W h):=fun W F=>implValid_any q i b W hm (Q.below F)
  rw[h1] at d;rw[h2] at l
  obtain⟨n,L⟩:∃ n,n=j.length:=⟨_,rfl⟩
  obtain⟨m,K⟩:∃ m,m=b.length:=⟨_,rfl⟩
  rw[<-L] at f d hn x ⊢;rw[<-K] at g l hm y ⊢
  have h3:k.cells.length<=10000:=by rw[L,M] at x;simp at x;omega
  have h4:A.cells.length<=10000:=by rw[K,N] at y;simp at y;omega
  have Z:Hid ((Fo.node c k .nil).ok/\(Fo.node B A .nil).ok/\R=(subF [] (.node c k .nil) (.node B A .nil)).isSome):=⟨z,a,O⟩
  have X:Hid (∀ W,Below w.heap.size w W->Calls Tryz.prog 21 #[.slice p n r] W fun e h=>∃ v,e = .returned v/\FoIn h W.heap.size (.node c k .nil) [v]/\Below W.heap.size W h):=fun W F=>termOf_any c k p n r W z (by rw[L,M];simp) f.1 f.2 (by have:=P.below F;rwa[M] at this)
  have Y:Hid (∀ W,Below w.heap.size w W->Calls Tryz.prog 21 #[.slice q m i] W fun e h=>∃ v,e = .returned v/\FoIn h W.heap.size (.node B A .nil) [v]/\Below W.heap.size W h):=fun W F=>termOf_any B A q m i W a (by rw[K,N];simp) g.1 g.2 (by have:=Q.below F;rwa[N] at this)
  clear h1 h2 P Q M N L K z a O
  go_enter Tryz.func14,Tryz.ntmps14
  go_wp2_with fail;refine d.mono ?_;rintro e w1 ⟨rfl,G⟩;have C:=hid G;clear G d;go_wp2_with fail;refine(l.o w1 C.o).mono ?_;rintro e w2 ⟨rfl,H⟩;have D:=hid (Below.on C.o H);clear H;go_wp2_with fail;refine(X.o w2 D.o).mono ?_;rintro e w3 ⟨v3,rfl,t,I⟩;have E:=hid (Below.on D.o I);have U:=hid t;obtain⟨t3,y3,rfl⟩:=t.iface;clear I t;go_wp2_with fail;refine(Y.o w3 E.o).mono ?_;rintro e w5 ⟨v5,rfl,u,s⟩;have S:=hid (Below.on E.o s);have V:=subsumes_any w5 ((c,k),(B,A)) (.iface t3 y3) v5 (FoIn.mono (FoIn.below U.o s) (Nat.zero_le _)) (FoIn.mono u (Nat.zero_le _)) Z.o.1 Z.o.2.1 h3 h4;have he:(subF [] (Tr.fo (c,k)) (Tr.fo (B,A))).isSome=R:=Z.o.2.2.symm
  rw[he] at V;obtain⟨t5,y5,rfl⟩:=u.iface;clear s u he;go_wp2_with fail;refine V.mono ?_;rintro e w7 ⟨rfl,J⟩;have T:=hid (Below.on S.o J);clear J V;go_wp2_with fail;go_ret;exact⟨rfl,T.o⟩
 ·exact implSubsC_bad j b p q r i f g w hn hm P Q hb
end
end Go.Proofs.YtnfnddnffoigfaaGreatDoor
