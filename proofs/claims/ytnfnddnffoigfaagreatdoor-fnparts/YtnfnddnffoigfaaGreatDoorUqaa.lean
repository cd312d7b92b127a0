/- Texts of Copy, RowT, Own, CelA, CelB, Str0, CopyT, Sz, Cell1, Cell2, Cell3, IsC, Valid1, Valid2, Tree1. Own work of the verifier. -/
import Derived.Test.YtnfnddnffoigfaaGreatDoorPre
import Derived.Deep.AppendLies
import Derived.Deep.RegionHeld3
import Derived.Deep.Light
import Derived.Laws.BytesArg
import Derived.Lib.SlBytesConst
import Derived.Lib.ConvBytes
import Derived.WideShapes
import Derived.Deep.RegionWith
namespace Go.Proofs.YtnfnddnffoigfaaGreatDoor
set_option maxHeartbeats 2000000
open Go Go.RowKit
set_option linter.unusedVariables false
theorem infoByte:(Tryz.prog.info? 5).map (fun i=>(i.zero,i.size,i.bytes))=some (some (.int .u8 0),1,1):=by kernel_rfl
def BIn (w:World)(p:Option Addr)(xs:List Int):Prop:=
 0<xs.length->∃ b o,p=some ⟨b,o,none⟩/\∀ i,i<xs.length->w.cell? ⟨b,o+i,none⟩=some (.int .u8 (xs.getD i 0))
theorem same_every {a b:List Int}(e:a.length=b.length)(h:∀ j,j<a.length->a.getD j 0=b.getD j 0):a=b:=by
 apply List.ext_getElem e
 intro i c d
 have:=h i c
 rwa[List.getD,List.getD,List.getElem?_eq_getElem c,List.getElem?_eq_getElem d] at this
def Row (W:World)(b:Nat)(xs:List Int):Prop:=b<W.heap.size/\∀ i,i<xs.length->W.cell? ⟨b,i,none⟩=some (.int .u8 (xs.getD i 0))
theorem Row.below {W a:World}{b:Nat}{d:List Int}(h:Row W b d)(c:Below W.heap.size W a):Row a b d:=
 ⟨Nat.lt_of_lt_of_le h.1 c.size,fun i e=>(c.cell (p:=⟨b,i,none⟩) h.1).trans (h.2 i e)⟩
theorem Row.bin {W:World}{b:Nat}{a:List Int}(h:Row W b a):BIn W (some ⟨b,0,none⟩) a:=fun _=>⟨b,0,rfl,fun i c=>by rw[Nat.zero_add];exact h.2 i c⟩
theorem row_of_owns {W:World}{B b c:Nat}{d:List Int}(h:W.ownsRow B 5 1 (.slice (some ⟨b,0,none⟩) d.length c) d.length (d.map (Value.int .u8))):Row W b d:=by
 refine⟨?_,fun i j=>?_⟩
 ·rcases h.2 with ⟨a,_⟩ | ⟨k,e,f,a,_,g,_⟩
  ·simp at a
  ·simp only[Value.slice.injEq,Option.some.injEq,Addr.mk.injEq,and_true,true_and] at a
   obtain⟨rfl,_⟩:=a;exact(Array.getElem?_eq_some_iff.1 g).1
 ·rw[h.cellAt i (by omega)]
  simp[List.getD,j]
theorem BIn.below {W a:World}{p:Option Addr}{e:List Int}(h:BIn W p e)(f:Below W.heap.size W a):BIn a p e:=fun g=>by
 obtain⟨b,o,rfl,c⟩:=h g;exact⟨b,o,rfl,fun i d=>(f.cell (World.block_lt_of_cell? _ _ (c i d))).trans (c i d)⟩
theorem below_drewN {B:Nat}{a w:World}(h:Below B a w)(n:Nat):Below B a (w.drewN n):=h.trans ⟨rfl,rfl,rfl,Nat.le_refl _,fun _ _=>rfl⟩
theorem Below.on {w W a:World}(h:Below w.heap.size w W)(k:Below W.heap.size W a):Below w.heap.size w a:=h.trans (k.mono h.size)
def OwnS (w:World)(B:Nat)(p:Option Addr)(n c:Nat)(ys:List Int):Prop:=n=ys.length/\w.ownsRow B 5 1 (.slice p n c) n (ys.map (Value.int .u8))
theorem OwnS.len {w:World}{B:Nat}{p:Option Addr}{n c:Nat}{a:List Int}(h:OwnS w B p n c a):n=a.length:=h.1
theorem OwnS.nil (w:World)(B:Nat):OwnS w B none 0 0 []:=⟨rfl,World.ownsRow_nil _ _ _ _⟩
theorem OwnS.bin {w:World}{B:Nat}{p:Option Addr}{n c:Nat}{d:List Int}(h:OwnS w B p n c d):BIn w p d:=fun j=>by
 obtain⟨rfl,a⟩:=h;obtain⟨g,e,b,k,l⟩:=a.form j;simp only[Value.slice.injEq,true_and] at b;obtain⟨rfl,rfl⟩:=b;exact⟨g,0,rfl,fun i f=>by rw[Nat.zero_add,a.cellAt i (by omega)];simp[List.getD,f]⟩
theorem OwnS.form {w:World}{B:Nat}{p:Option Addr}{n c:Nat}{ys:List Int}(h:OwnS w B p n c ys):(p=none/\n=0/\c=0)∨∃ g,p=some ⟨g,0,none⟩/\B<=g/\g<w.heap.size:=by
 obtain⟨rfl,i⟩:=h
 rcases i.2 with ⟨a,j⟩ | ⟨g,b,d,a,e,f,_⟩
 ·simp only[Value.slice.injEq] at a
  exact .inl a
 ·simp only[Value.slice.injEq,true_and] at a
  exact .inr ⟨g,a.1,e,(Array.getElem?_eq_some_iff.1 f).1⟩
theorem OwnS.below {w w':World}{B:Nat}{p:Option Addr}{n c:Nat}{f:List Int}(h:OwnS w B p n c f)(k:Below w.heap.size w w'):OwnS w' B p n c f:=by
 obtain⟨rfl,e⟩:=h;refine⟨rfl,e.1,?_⟩
 rcases e.2 with i | ⟨g,a,b,l,j,d,r⟩
 ·exact .inl i
 ·exact .inr ⟨g,a,b,l,j,(k.block g (Array.getElem?_eq_some_iff.1 d).1).trans d,r⟩
theorem OwnS.alloc {w:World}{B:Nat}{p:Option Addr}{n c:Nat}{a:List Int}(h:OwnS w B p n c a)(o:Obj):OwnS (w.alloc o) B p n c a:=⟨h.1,h.2.alloc o⟩
theorem OwnS.row {w:World}{B g n c:Nat}{a:List Int}(h:OwnS w B (some ⟨g,0,none⟩) n c a):Row w g a:=by obtain⟨rfl,b⟩:=h;exact row_of_owns b
theorem oneCells (b:List Int):∀ u ∈ b.map (Value.int .u8),u.oneCell'=true:=fun u a=>by
 obtain⟨z,_,rfl⟩:=List.mem_map.1 a;rfl
theorem app_bytes (w:World){v:Array Oper}{e:List Oper}{o:Oper}{a:Act}{Q:Exit->Act->World->Prop}(A:o.guard=none)(s x:Operand)
  (P:o.op = .call { callee:=.builtin .append,args:=#[s,x],argTypes:=#[22,22] }) (B:Nat) (p:Option Addr) (n c:Nat) (q r:List Int) (m:Nat) (C:m=r.length)
  (R:a.eval s = .slice p n c) (t:OwnS w B p n c q) (z:Addr) (H:Nat) (S:a.eval x = .slice (some z) m H) (i:∀ j u,(r.map (Value.int .u8))[j]?=some u->w.cell? (z.add j)=some u)
  (O:0<m) (J:n+m<=1000000000000) (b:B<=w.heap.size)
  (h:∀ g G d y,OwnS y B (some ⟨g,0,none⟩) G d (q ++ r)->Below B w y->Hid (G=n+m)->wpList Tryz.prog v Q e (a.put o.dst (.slice (some ⟨g,0,none⟩) G d)) y):wpList Tryz.prog v Q (o :: e) a w:=by
 obtain⟨T,M,D,E,F⟩:=info_parts infoByte;subst C;obtain⟨rfl,K⟩:=t;refine wpList_append_lies w A s x 22 P B 5 T (.int .u8 0) 1 1 Tryz.underlying22 M D E F rfl (by decide) (.slice p q.length c) q.length (q.map (Value.int .u8)) R K z r.length H (r.map (Value.int .u8)) S (by simp) i (oneCells r) O (by unfold maxLen;omega) (by omega) b w.heap.size rfl ?_
 intro g d y l f L N
 refine h g _ d y ⟨by simp,by rw[List.map_append];exact l⟩ ((Below.refl _ _).grown f b (fun k I=>?_)) rfl
 rcases OwnS.form (ys:=q) ⟨rfl,K⟩ with ⟨rfl,_⟩ | ⟨U,rfl,V,_⟩
 ·simp[Value.ownBlock] at I
 ·simp[Value.ownBlock] at I;omega
abbrev Cel:=Int×Int×List Int
def Cel.none:Cel:=(0,0,[])
theorem BIn.drewN {W:World}{p:Option Addr}{a:List Int}(h:BIn W p a)(m:Nat):BIn (W.drewN m) p a:=h
def tl:List Cel->Nat
 | []=>0
 | c :: r=>c.2.2.length+tl r
theorem tl_take:∀ (a:List Cel) (k:Nat),k<a.length->tl (a.take (k+1))=tl (a.take k)+(a.getD k Cel.none).2.2.length
 | [],k,h=>by simp at h
 | c :: r,0,_=>by simp[tl]
 | c :: r,k+1,h=>by
   have:=tl_take r k (by simpa using h);simp only[List.take_succ_cons,tl,this]
   simp;omega
theorem tl_take_le:∀ (a:List Cel) (k:Nat),tl (a.take k)<=tl a
 | [],k=>by simp[tl]
 | c :: r,0=>by simp[tl]
 | c :: r,k+1=>by have:=tl_take_le r k;simp only[List.take_succ_cons,tl];omega
theorem tl_at (a:List Cel)(k:Nat)(h:k<a.length):(a.getD k Cel.none).2.2.length<=tl a:=by
 have:=tl_take a k h;have:=tl_take_le a (k+1)
 omega
abbrev RC:=Int×Int×Option Addr×Nat×Nat
def RC.zero:RC:=(0,0,none,0,0)
def OwnT (w:World)(B:Nat)(p:Option Addr)(n c:Nat)(ys:List Int):Prop:=
 n=ys.length/\(0<n->∃ g,p=some ⟨g,0,none⟩/\B<=g/\g<w.heap.size/\∀ i,i<n->w.cell? ⟨g,i,none⟩=some (.int .u8 (ys.getD i 0))/\w.frozen? ⟨g,i,none⟩=false)
theorem OwnS.toT {w:World}{B:Nat}{p:Option Addr}{n c:Nat}{b:List Int}(h:OwnS w B p n c b):OwnT w B p n c b:=by
 refine⟨h.1,fun j=>?_⟩
 rcases h.form with ⟨_,f,_⟩ | ⟨g,rfl,d,a⟩
 ·omega
 ·exact⟨g,rfl,d,a,fun i e=>⟨h.row.2 i (by rw[<-h.1];exact e),h.2.frozenAt i⟩⟩
theorem ne_block {g H n:Nat}(h:g≠H):0<n->some (⟨g,0,none⟩:Addr)≠some ⟨H,0,none⟩:=fun _ e=>h (congrArg Addr.block (Option.some.inj e))
theorem OwnT.len {w:World}{B:Nat}{p:Option Addr}{n c:Nat}{a:List Int}(h:OwnT w B p n c a):n=a.length:=h.1
theorem OwnT.bin {w:World}{B:Nat}{p:Option Addr}{n c:Nat}{a:List Int}(h:OwnT w B p n c a):BIn w p a:=fun e=>by
 obtain⟨rfl,h⟩:=h;obtain⟨g,rfl,_,_,b⟩:=h e;exact⟨g,0,rfl,fun i d=>by rw[Nat.zero_add];exact(b i d).1⟩
theorem OwnT.below {w w':World}{B:Nat}{p:Option Addr}{n c:Nat}{j:List Int}(h:OwnT w B p n c j)(b:Below w.heap.size w w'):OwnT w' B p n c j:=by
 refine⟨h.1,fun l=>?_⟩;obtain⟨g,e,k,a,d⟩:=h.2 l;exact⟨g,e,k,Nat.lt_of_lt_of_le a b.size,fun i f=>⟨(b.cell (p:=⟨g,i,none⟩) a).trans (d i f).1,(b.frozen (p:=⟨g,i,none⟩) a).trans (d i f).2⟩⟩
theorem OwnT.mono {w:World}{B B':Nat}{p:Option Addr}{n c:Nat}{b:List Int}(h:OwnT w B p n c b)(d:B'<=B):OwnT w B' p n c b:=by
 refine⟨h.1,fun f=>?_⟩;obtain⟨g,e,a,r⟩:=h.2 f;exact⟨g,e,Nat.le_trans d a,r⟩
theorem OwnT.other {w b:World}{B:Nat}{p:Option Addr}{n c:Nat}{l:List Int}(h:OwnT w B p n c l)(q:w.heap.size<=b.heap.size)(o:∀ g,0<n->p=some ⟨g,0,none⟩->b.heap[g]?=w.heap[g]?):OwnT b B p n c l:=by
 refine⟨h.1,fun k=>?_⟩;obtain⟨g,e,m,a,f⟩:=h.2 k;have d:=o g k e;exact⟨g,e,m,Nat.lt_of_lt_of_le a q,fun i j=>⟨(World.cell?_of_block (w:=w) d).trans (f i j).1,(World.frozen?_of_block (w:=w) d).trans (f i j).2⟩⟩
theorem OwnT.setCell {w:World}{B:Nat}{p:Option Addr}{n c:Nat}{b:List Int}(h:OwnT w B p n c b){a:Addr}(ha:0<n->p≠some ⟨a.block,0,none⟩)(u:Value):OwnT (w.setCell a u) B p n c b:=
 h.other (by simp) (fun g f e=>Below.heap_setCell _ _ _ _ (fun d=>ha f (by rw[e,d])))
def Fits (w:World)(B:Nat)(r:RC)(c:Cel):Prop:=r.1=c.1/\r.2.1=c.2.1/\OwnT w B r.2.2.1 r.2.2.2.1 r.2.2.2.2 c.2.2
def ApartC (p:Option Addr)(rs:List RC):Prop:=
 (∀ i,i<rs.length->0<(rs.getD i RC.zero).2.2.2.1->(rs.getD i RC.zero).2.2.1≠p)/\
 (∀ i j,i<rs.length->j<rs.length->i≠j->0<(rs.getD i RC.zero).2.2.2.1->0<(rs.getD j RC.zero).2.2.2.1->(rs.getD i RC.zero).2.2.1≠(rs.getD j RC.zero).2.2.1)
theorem ownsRow_down {w:World}{B d:Nat}{e:TypeId}{a:Nat}{v:Value}{n:Nat}{f:List Value}(h:w.ownsRow B e a v n f)(j:d<=B):w.ownsRow d e a v n f:=by
 refine⟨h.1,?_⟩
 rcases h.2 with i | ⟨g,b,c,l,k,r⟩
 ·exact .inl i
 ·exact .inr ⟨g,b,c,l,Nat.le_trans j k,r⟩
theorem OwnS.mono {w:World}{B B':Nat}{p:Option Addr}{n c:Nat}{a:List Int}(h:OwnS w B p n c a)(b:B'<=B):OwnS w B' p n c a:=⟨h.1,ownsRow_down h.2 b⟩
theorem OwnS.setCell {w:World}{B:Nat}{g n c:Nat}{b:List Int}(h:OwnS w B (some ⟨g,0,none⟩) n c b){a:Addr}(ha:a.block≠g)(u:Value):OwnS (w.setCell a u) B (some ⟨g,0,none⟩) n c b:=
 ⟨h.1,ownsRow_setCell_other h.2 (by simp[Value.ownBlock];exact fun e=>ha e.symm) u⟩
def Box3 (w:World)(b:Nat)(v0 v1 v2:Value):Prop:=w.cell? ⟨b,0,none⟩=some v0/\w.cell? ⟨b,1,none⟩=some v1/\w.cell? ⟨b,2,none⟩=some v2/\∀ j,w.frozen? ⟨b,j,none⟩=false
theorem Box3.of_block {w:World}{b:Nat}{a c d:Value}{t:TypeId}(h:w.heap[b]?=some (.cells #[a,c,d] t)):Box3 w b a c d:=
 ⟨by simp[World.cell?,h],by simp[World.cell?,h],by simp[World.cell?,h],fun j=>frozen_of_row w b j _ t h⟩
theorem heap_three (w:World)(a b c:Obj):(((w.alloc a).alloc b).alloc c).heap[w.heap.size+1]?=some b/\(((w.alloc a).alloc b).alloc c).heap[w.heap.size+1+1]?=some c:=by
 have d:=heap_alloc_new (w.alloc a) b;have e:=heap_alloc_new ((w.alloc a).alloc b) c;simp only[World.size_alloc] at d e;exact⟨(Below.heap_alloc _ _ _ (by simp)).trans d,e⟩
theorem rs_set_at (a:List RC)(i j:Nat)(r:RC)(h:i<a.length):(a.set i r).getD j RC.zero=if j=i then r else a.getD j RC.zero:=by
 simp only[List.getD,List.getElem?_set]
 by_cases e:j=i
 ·subst e;simp[h]
 ·have:¬ i=j:=fun x=>e x.symm
  simp[this,e]
theorem same_cells {a b:List Cel}(e:a.length=b.length)(h:∀ j,j<a.length->a.getD j Cel.none=b.getD j Cel.none):a=b:=by
 apply List.ext_getElem e
 intro i c d
 have:=h i c
 rwa[List.getD,List.getD,List.getElem?_eq_getElem c,List.getElem?_eq_getElem d] at this
theorem rs_append_at (a:List RC)(r:RC)(i:Nat)(h:i<=a.length):(a ++ [r]).getD i RC.zero=if i=a.length then r else a.getD i RC.zero:=by
 by_cases e:i=a.length
 ·subst e;simp[List.getD]
 ·rw[if_neg e,List.getD,List.getD,List.getElem?_append_left (by omega)]
theorem cs_append_at (a:List Cel)(c:Cel)(i:Nat)(h:i<=a.length):(a ++ [c]).getD i Cel.none=if i=a.length then c else a.getD i Cel.none:=by
 by_cases e:i=a.length
 ·subst e;simp[List.getD]
 ·rw[if_neg e,List.getD,List.getD,List.getElem?_append_left (by omega)]
theorem row_below {B:Nat}{t:TypeId}{a n:Nat}{v:Value}{w e:World}{f:List Value}(h:w.ownsRow B t a v n f)(k:Below w.heap.size w e):e.ownsRow B t a v n f:=by
 refine⟨h.1,?_⟩
 rcases h.2 with i | ⟨g,b,c,l,j,d,r⟩
 ·exact .inl i
 ·exact .inr ⟨g,b,c,l,j,(k.block g (Array.getElem?_eq_some_iff.1 d).1).trans d,r⟩
theorem Box3.below {w w':World}{b:Nat}{u0 u1 u2:Value}(h:Box3 w b u0 u1 u2)(c:Below w.heap.size w w')(a:b<w.heap.size):Box3 w' b u0 u1 u2:=
 ⟨(c.cell (p:=⟨b,0,none⟩) a).trans h.1,(c.cell (p:=⟨b,1,none⟩) a).trans h.2.1,(c.cell (p:=⟨b,2,none⟩) a).trans h.2.2.1,fun j=>(c.frozen (p:=⟨b,j,none⟩) a).trans (h.2.2.2 j)⟩
theorem Box3.setCell {w:World}{b:Nat}{u0 u1 u2:Value}(h:Box3 w b u0 u1 u2){a:Addr}(ha:a.block≠b)(u:Value):Box3 (w.setCell a u) b u0 u1 u2:=
 have o:∀ j,(w.setCell a u).cell? ⟨b,j,none⟩=w.cell? ⟨b,j,none⟩:=fun j=>World.cell?_setCell_other _ _ _ _ (fun e=>ha (by rw[e]))
 ⟨(o 0).trans h.1,(o 1).trans h.2.1,(o 2).trans h.2.2.1,fun j=>by rw[World.frozen?_setCell];exact h.2.2.2 j⟩
def Byte (xs:List Int):Prop:=∀ x ∈ xs,0<=x/\x<256
theorem u8_of {x:Int}(a:0<=x)(b:x<256):((UInt8.ofNat x.toNat).toNat:Int)=x:=by
 simp only[UInt8.toNat_ofNat'];omega
theorem str_list {a:List Int} : (strOfNums a).toList=a.map fun n=>UInt8.ofNat n.toNat:=by
 rw[ByteArray.toList_eq];rfl
theorem map_back:∀ {a:List Int},Byte a->(a.map fun n=>UInt8.ofNat n.toNat).map (fun u=>(u.toNat:Int))=a
 | [],_=>rfl
 | x :: r,h=>by
   have b:=h x (List.mem_cons_self ..);simp only[List.map_cons];rw[u8_of b.1 b.2,map_back (fun y c=>h y (List.mem_cons_of_mem _ c))]
theorem map_forth (l:List UInt8):((l.map (fun u=>(u.toNat:Int))).map fun n=>UInt8.ofNat n.toNat)=l:=by
 induction l with
 | nil=>rfl
 | cons a r b=>simp only[List.map_cons,b];simp
theorem str_eq {a:List Int}(b:Byte a)(l:List UInt8):(strOfNums a).toList=l↔a=l.map (fun u=>(u.toNat:Int)):=by
 rw[str_list]
 constructor
 ·intro h;rw[<-h,map_back b]
 ·intro h;rw[h,map_forth]
theorem str_beq {a:List Int}(b:Byte a)(l:List UInt8):(strOfNums a == (⟨l.toArray⟩:ByteArray))=decide (a=l.map (fun u=>(u.toNat:Int))):=by
 have e:(strOfNums a == (⟨l.toArray⟩:ByteArray))=((strOfNums a).data == l.toArray):=rfl;rw[e,Bool.eq_iff_iff,beq_iff_eq,decide_eq_true_iff,<-str_eq b,ByteArray.toList_eq]
 constructor
 ·intro h;rw[h]
 ·intro h;rw[<-h]
theorem conv_str {w:World}{p:Option Addr}{d:List Int}(h:BIn w p d)(m e:Nat)(j:m=d.length)(c:TypeId)(f:Tryz.prog.underlying c=some .string) :
  (convert 22 c (.slice p m e)).run Tryz.prog w = .ok (.string (strOfNums d)) w:=by
 subst j
 by_cases g:0<d.length
 ·obtain⟨b,o,rfl,i⟩:=h g
  exact run_convert_bytes_arg w 22 5 Tryz.underlying22 Tryz.underlying5 b o d.length e d rfl i c f
 ·obtain rfl:d = []:=by cases d with | nil=>rfl | cons a r=>simp at g
  rw[run_convert_bytes_string w 22 c 5 _ _ e Tryz.underlying22 Tryz.underlying5 f]
  cases p with
  | none=>simp[Conv.bytesToString,strOfNums];rfl
  | some a=>simp[Conv.bytesToString,strOfNums];rfl
theorem conv_bytes (w:World)(a:List Int)(l:Byte a)(b:TypeId)(d:Tryz.prog.underlying b=some .string) :
  ∃ g c,(convert b 22 (.string (strOfNums a))).run Tryz.prog w = .ok (.slice (some ⟨w.heap.size,0,none⟩) a.length c) g/\Below w.heap.size w g/\OwnT g w.heap.size (some ⟨w.heap.size,0,none⟩) a.length c a:=by
 refine⟨Lib.bytesWorld w 5 (strOfNums a),grownCap w (strOfNums a).size 0 5,?_,?_,rfl,fun o=>⟨w.heap.size,rfl,Nat.le_refl _,?_,fun i f=>⟨?_,?_⟩⟩⟩
 ·rw[Lib.run_convert_string_bytes w b 22 5 (strOfNums a) d Tryz.underlying22 Tryz.underlying5,strOfNums_size]
 ·exact⟨rfl,rfl,rfl,by rw[Lib.bytesWorld_size];omega,fun k j=>Lib.bytesWorld_at_old w 5 _ k j⟩
 ·rw[Lib.bytesWorld_size];omega
 ·rw[Lib.bytesWorld_cell w 5 _ i (by rw[strOfNums_size];exact f),strOfNums_data]
  have h:=l (a.getD i 0) (by simp[List.getD,f])
  have e:(((a.map fun n=>UInt8.ofNat n.toNat).getD i 0).toNat:Int)=a.getD i 0:=by
   simp only[List.getD,List.getElem?_map,List.getElem?_eq_getElem f,Option.map_some,Option.getD_some] at h ⊢;simp only[UInt8.toNat_ofNat'];omega
  rw[e]
 ·have m:i<(Lib.bytesCells w 5 (strOfNums a)).size:=by
   have:(strOfNums a).data.size=a.length:=strOfNums_size a;simp only[Lib.bytesCells,Array.size_append,Array.size_map,this];omega
  simp only[World.frozen?,Lib.bytesWorld_at_new]
  simp;omega
theorem drop_at (a:List Cel)(k:Nat)(h:k<a.length):a.drop k=a.getD k Cel.none :: a.drop (k+1):=by
 rw[List.drop_eq_getElem_cons h]
 congr 1
 rw[List.getD,List.getElem?_eq_getElem h];rfl
theorem bl_irrefl:∀ a:List UInt8,Op.bytesLess a a=false
 | []=>by simp[Op.bytesLess]
 | a :: r=>by simp[Op.bytesLess,bl_irrefl r]
theorem u8_lt (a b:UInt8):a<b↔a.toNat<b.toNat:=UInt8.lt_iff_toNat_lt
theorem u8_eq (a b:UInt8):a=b↔a.toNat=b.toNat:=UInt8.toNat_inj.symm
theorem bl_trans:∀ a b c:List UInt8,Op.bytesLess a b=true->Op.bytesLess b c=true->Op.bytesLess a c=true
 | _,[],_,h,_=>by simp[Op.bytesLess] at h
 | _,_ :: _,[],_,h=>by simp[Op.bytesLess] at h
 | [],_ :: _,_ :: _,_,_=>by simp[Op.bytesLess]
 | a :: x,b :: y,c :: z,h1,d=>by
   simp only[Op.bytesLess,Bool.or_eq_true,decide_eq_true_eq,Bool.and_eq_true,beq_iff_eq] at h1 d ⊢;have f:=bl_trans x y z;rw[u8_lt,u8_eq] at *
   rcases h1 with h1 | ⟨h1,h1'⟩ <;> rcases d with d | ⟨d,e⟩
   ·left;omega
   ·left;omega
   ·left;omega
   ·right;exact⟨by omega,f h1' e⟩
theorem bl_tri:∀ a b:List UInt8,Op.bytesLess a b=false->a≠b->Op.bytesLess b a=true
 | [],[],_,h=>absurd rfl h
 | [],_ :: _,h,_=>by simp[Op.bytesLess] at h
 | _ :: _,[],_,_=>by simp[Op.bytesLess]
 | a :: x,b :: y,h,hne=>by
   simp only[Op.bytesLess,Bool.or_eq_false_iff,decide_eq_false_iff_not,Bool.and_eq_false_iff] at h;simp only[Op.bytesLess,Bool.or_eq_true,decide_eq_true_eq,Bool.and_eq_true,beq_iff_eq]
   by_cases e:a=b
   ·subst e
    right
    refine⟨rfl,bl_tri x y ?_ (fun e=>hne (by rw[e]))⟩
    rcases h.2 with h2 | h2
    ·simp at h2
    ·exact h2
   ·left
    have c:=h.1;rw[u8_lt] at c ⊢;rw[u8_eq] at e
    omega
theorem ba_ext {a b:ByteArray}(h:a.toList=b.toList):a=b:=by
 rw[ByteArray.toList_eq,ByteArray.toList_eq] at h
 cases a;cases b;simpa using h
def cmpI (x y:Int):Int:=if x<y then -1 else if y<x then 1 else 0
def cmpS (x y:ByteArray):Int:=if Op.bytesLess x.toList y.toList then -1 else if x.toList == y.toList then 0 else 1
def CAt (w:World)(b o:Nat)(c:Cel):Prop:=
 ∃ p cap,w.cell? ⟨b,o,none⟩=some (.int .i64 c.1)/\w.cell? ⟨b,o+1,none⟩=some (.int .i64 c.2.1)/\w.cell? ⟨b,o+2,none⟩=some (.slice p c.2.2.length cap)/\BIn w p c.2.2
def CIn (w:World)(p:Option Addr)(cs:List Cel):Prop:=
 0<cs.length->∃ b o,p=some ⟨b,o,none⟩/\∀ i,i<cs.length->CAt w b (o+i * 3) (cs.getD i Cel.none)
theorem CAt.below {W e:World}{b o:Nat}{c:Cel}(h:CAt W b o c)(a:Below W.heap.size W e):CAt e b o c:=by
 obtain⟨p,d,f,g,i,j⟩:=h;exact⟨p,d,(a.cell (World.block_lt_of_cell? _ _ f)).trans f,(a.cell (World.block_lt_of_cell? _ _ g)).trans g,(a.cell (World.block_lt_of_cell? _ _ i)).trans i,j.below a⟩
theorem CIn.below {W a:World}{p:Option Addr}{c:List Cel}(h:CIn W p c)(d:Below W.heap.size W a):CIn a p c:=fun g=>by
 obtain⟨b,o,rfl,e⟩:=h g;exact⟨b,o,rfl,fun i f=>(e i f).below d⟩
theorem CIn.drewN {W:World}{p:Option Addr}{a:List Cel}(h:CIn W p a)(m:Nat):CIn (W.drewN m) p a:=h
theorem infoCell:(Tryz.prog.info? 27).map (fun i=>(i.zero,i.size,i.bytes))=some (some (.agg #[.int .i64 0,.int .i64 0,.slice none 0 0]),3,40):=by kernel_rfl
def rcV (r:RC):List Value:=[.int .i64 r.1,.int .i64 r.2.1,.slice r.2.2.1 r.2.2.2.1 r.2.2.2.2]
def flat (rs:List RC):List Value:=rs.flatMap rcV
theorem flat_cons (r:RC)(a:List RC):flat (r :: a) = .int .i64 r.1 :: .int .i64 r.2.1 :: .slice r.2.2.1 r.2.2.2.1 r.2.2.2.2 :: flat a:=rfl
theorem flat_append (a b:List RC):flat (a ++ b)=flat a ++ flat b:=List.flatMap_append
theorem flat_len:∀ a:List RC,(flat a).length=a.length * 3
 | []=>rfl
 | r :: a=>by simp only[flat_cons,List.length_cons,flat_len a];omega
theorem flat_at:∀ (a:List RC) (i:Nat),i<a.length->(flat a)[i * 3]?=some (.int .i64 (a.getD i RC.zero).1)/\(flat a)[i * 3+1]?=some (.int .i64 (a.getD i RC.zero).2.1)/\
  (flat a)[i * 3+2]?=some (.slice (a.getD i RC.zero).2.2.1 (a.getD i RC.zero).2.2.2.1 (a.getD i RC.zero).2.2.2.2)
 | [],i,h=>by simp at h
 | r :: a,0,_=>by simp[flat_cons]
 | r :: a,i+1,h=>by
   have:=flat_at a i (by simpa using h);rw[flat_cons,show(i+1) * 3=(i * 3)+1+1+1 by omega,show(i * 3)+1+1+1+1=(i * 3+1)+1+1+1 by omega,show(i * 3)+1+1+1+2=(i * 3+2)+1+1+1 by omega]
   simpa using this
def OwnC (w:World)(B:Nat)(p:Option Addr)(n c:Nat)(cs:List Cel):Prop:=
 n=cs.length/\∃ rs:List RC,rs.length=cs.length/\w.ownsRow B 27 3 (.slice p n c) n (flat rs)/\(∀ i,i<cs.length->Fits w B (rs.getD i RC.zero) (cs.getD i Cel.none))/\ApartC p rs
theorem OwnC.nil (w:World)(B:Nat):OwnC w B none 0 0 []:=⟨rfl,[],rfl,World.ownsRow_nil _ _ _ _,fun i h=>by simp at h,fun i h=>by simp at h,fun i j h=>by simp at h⟩
theorem OwnC.cin {w:World}{B:Nat}{p:Option Addr}{n c:Nat}{d:List Cel}(h:OwnC w B p n c d):CIn w p d:=fun t=>by
 obtain⟨rfl,b,x,a,r,_⟩:=h;obtain⟨g,m,f,u,v⟩:=a.form t;simp only[Value.slice.injEq,true_and] at f;obtain⟨rfl,rfl⟩:=f;refine⟨g,0,rfl,fun i s=>?_⟩;obtain⟨o,q,e⟩:=r i s;obtain⟨j,k,l⟩:=flat_at b i (by omega);rw[Nat.zero_add];refine⟨(b.getD i RC.zero).2.2.1,(b.getD i RC.zero).2.2.2.2,?_,?_,?_,e.bin⟩
 ·rw[a.cellAt _ (by omega),j,o]
 ·rw[a.cellAt _ (by omega),k,q]
 ·rw[a.cellAt _ (by omega),l,e.len]
theorem OwnC.below {w w':World}{B:Nat}{p:Option Addr}{n c:Nat}{f:List Cel}(h:OwnC w B p n c f)(j:Below w.heap.size w w'):OwnC w' B p n c f:=by
 obtain⟨rfl,t,q,l,d,ha⟩:=h;refine⟨rfl,t,q,⟨l.1,?_⟩,fun i e=>⟨(d i e).1,(d i e).2.1,(d i e).2.2.below j⟩,ha⟩
 rcases l.2 with m | ⟨g,a,b,s,o,k,r⟩
 ·exact .inl m
 ·exact .inr ⟨g,a,b,s,o,(j.block g (Array.getElem?_eq_some_iff.1 k).1).trans k,r⟩
theorem OwnC.mono {w:World}{B B':Nat}{p:Option Addr}{n c:Nat}{d:List Cel}(h:OwnC w B p n c d)(e:B'<=B):OwnC w B' p n c d:=by
 obtain⟨g,rs,f,j,a,ha⟩:=h;exact⟨g,rs,f,ownsRow_down j e,fun i b=>⟨(a i b).1,(a i b).2.1,(a i b).2.2.mono e⟩,ha⟩
def cellB (k n:Int)(m:Nat):Bool:=decide ((k=0/\0<=n/\n<=1000000/\m=0)∨(k=1/\-1000000000000000<=n/\n<=1000000000000000/\m=0)∨(k=2/\m<=100/\n=0)∨(k=3/\m<=100/\1<=n/\n<=20))
theorem isCell_any (k n:Int)(p:Option Addr)(m c:Nat)(w:World) :
  Calls Tryz.prog 36 #[.agg #[.int .i64 k,.int .i64 n,.slice p m c]] w fun e v=>e = .returned (.bool (cellB k n m))/\Below w.heap.size w v:=by
 have i:∀ {a:Bool} {o:Obj},a=cellB k n m->(Ending.returned (.bool a) = .returned (.bool (cellB k n m))/\Below w.heap.size w (w.alloc o)):=fun h=>⟨ret_bool h,(Below.refl _ _).alloc (Nat.le_refl _) _⟩
 have b:Hid _:=@i;clear i
 by_cases f:k=0
 ·subst f
  by_cases d:m=0
  ·subst d
   by_cases a:0<=n
   ·go_enter Tryz.func36,Tryz.ntmps36
    go_wp2
    go_ret;exact b.o (by rw[Bool.eq_iff_iff];simp[cellB];omega)
   ·go_enter Tryz.func36,Tryz.ntmps36
    go_wp2
    go_ret;exact b.o (by rw[Bool.eq_iff_iff];simp[cellB];omega)
  ·have r:((m:Int) == 0)=false:=by simp;omega
   have q:=hid d;clear d
   go_enter Tryz.func36,Tryz.ntmps36
   go_wp2
   go_ret;exact b.o (by have:=q.o;rw[Bool.eq_iff_iff];simp[cellB];omega)
 ·by_cases g:k=1
  ·subst g
   by_cases d:m=0
   ·subst d
    by_cases a : -1000000000000000<=n
    ·go_enter Tryz.func36,Tryz.ntmps36
     go_wp2
     go_ret;exact b.o (by rw[Bool.eq_iff_iff];simp[cellB];omega)
    ·go_enter Tryz.func36,Tryz.ntmps36
     go_wp2
     go_ret;exact b.o (by rw[Bool.eq_iff_iff];simp[cellB];omega)
   ·have r:((m:Int) == 0)=false:=by simp;omega
    have q:=hid d;clear d f
    go_enter Tryz.func36,Tryz.ntmps36
    go_wp2
    go_ret;exact b.o (by have:=q.o;rw[Bool.eq_iff_iff];simp[cellB];omega)
  ·have s:(k == 0)=false:=by simpa using f
   have t:(k == 1)=false:=by simpa using g
   by_cases j:k=2
   ·subst j
    clear s t f g
    by_cases d:(m:Int)<=100
    ·go_enter Tryz.func36,Tryz.ntmps36
     go_wp2
     go_ret;exact b.o (by rw[Bool.eq_iff_iff];simp[cellB];omega)
    ·go_enter Tryz.func36,Tryz.ntmps36
     go_wp2
     go_ret;exact b.o (by rw[Bool.eq_iff_iff];simp[cellB];omega)
   ·by_cases l:k=3
    ·subst l
     clear s t f g j
     by_cases d:(m:Int)<=100
     ·by_cases a:1<=n
      ·go_enter Tryz.func36,Tryz.ntmps36
       go_wp2
       go_ret;exact b.o (by rw[Bool.eq_iff_iff];simp[cellB];omega)
      ·go_enter Tryz.func36,Tryz.ntmps36
       go_wp2
       go_ret;exact b.o (by rw[Bool.eq_iff_iff];simp[cellB];omega)
     ·go_enter Tryz.func36,Tryz.ntmps36
      go_wp2
      go_ret;exact b.o (by rw[Bool.eq_iff_iff];simp[cellB];omega)
    ·have x:(k == 2)=false:=by simpa using j
     have y:(k == 3)=false:=by simpa using l
     have u:Hid (k≠0/\k≠1/\k≠2/\k≠3):=⟨f,g,j,l⟩
     clear f g j l
     go_enter Tryz.func36,Tryz.ntmps36
     go_wp2
     go_ret;exact b.o (by have:=u.o;rw[Bool.eq_iff_iff];simp[cellB];omega)
theorem l2cell_any (k n:Int)(p:Option Addr)(m c:Nat)(w:World) :
  Calls Tryz.prog 17 #[.agg #[.int .i64 k,.int .i64 n,.slice p m c]] w fun e u=>e = .returned (.bool (cellB k n m))/\Below w.heap.size w u:=by
 have i:∀ {a:Bool} {o:Obj},a=cellB k n m->(Ending.returned (.bool a) = .returned (.bool (cellB k n m))/\Below w.heap.size w (w.alloc o)):=fun h=>⟨ret_bool h,(Below.refl _ _).alloc (Nat.le_refl _) _⟩
 have d:Hid _:=@i;clear i
 by_cases f:k=0
 ·subst f
  by_cases a:0<=n
  ·by_cases b:n<=1000000
   ·go_enter Tryz.func17,Tryz.ntmps17
    go_wp2
    go_ret;exact d.o (by rw[Bool.eq_iff_iff];simp[cellB];omega)
   ·go_enter Tryz.func17,Tryz.ntmps17
    go_wp2
    go_ret;exact d.o (by rw[Bool.eq_iff_iff];simp[cellB];omega)
  ·go_enter Tryz.func17,Tryz.ntmps17
   go_wp2
   go_ret;exact d.o (by rw[Bool.eq_iff_iff];simp[cellB];omega)
 ·by_cases g:k=1
  ·subst g
   by_cases a : -1000000000000000<=n
   ·by_cases b:n<=1000000000000000
    ·go_enter Tryz.func17,Tryz.ntmps17
     go_wp2
     go_ret;exact d.o (by rw[Bool.eq_iff_iff];simp[cellB];omega)
    ·go_enter Tryz.func17,Tryz.ntmps17
     go_wp2
     go_ret;exact d.o (by rw[Bool.eq_iff_iff];simp[cellB];omega)
   ·go_enter Tryz.func17,Tryz.ntmps17
    go_wp2
    go_ret;exact d.o (by rw[Bool.eq_iff_iff];simp[cellB];omega)
  ·have s:(k == 0)=false:=by simpa using f
   have t:(k == 1)=false:=by simpa using g
   by_cases v:100<m
   ·have r:(100:Int)<m:=by omega
    have q:Hid (k≠0/\k≠1):=⟨f,g⟩
    clear f g
    go_enter Tryz.func17,Tryz.ntmps17
    go_wp2
    go_ret;exact d.o (by have:=q.o;rw[Bool.eq_iff_iff];simp[cellB];omega)
   ·have r:¬ (100:Int)<m:=by omega
    by_cases j:k=2
    ·subst j
     clear s t f g
     go_enter Tryz.func17,Tryz.ntmps17
     go_wp2
     go_ret;exact d.o (by rw[Bool.eq_iff_iff];simp[cellB];omega)
    ·by_cases l:k=3
     ·subst l
      clear s t f g j
      by_cases a:1<=n
      ·go_enter Tryz.func17,Tryz.ntmps17
       go_wp2
       go_ret;exact d.o (by rw[Bool.eq_iff_iff];simp[cellB];omega)
      ·go_enter Tryz.func17,Tryz.ntmps17
       go_wp2
       go_ret;exact d.o (by rw[Bool.eq_iff_iff];simp[cellB];omega)
     ·have x:(k == 2)=false:=by simpa using j
      have y:(k == 3)=false:=by simpa using l
      have q:Hid (k≠0/\k≠1/\k≠2/\k≠3):=⟨f,g,j,l⟩
      clear f g j l
      go_enter Tryz.func17,Tryz.ntmps17
      go_wp2
      go_ret;exact d.o (by have:=q.o;rw[Bool.eq_iff_iff];simp[cellB];omega)
def grows (k n:Int):Int:=if k=3 then n else 0
def validFrom:Int->List Cel->Bool
 | m,[]=>m == 0
 | m,c :: r=>if m=0∨cellB c.1 c.2.1 c.2.2.length=false then false else validFrom (m-1+grows c.1 c.2.1) r
def validB (cs:List Cel):Bool:=decide (cs.length<=2000) && validFrom 1 cs
theorem validFrom_at (m:Int)(a:List Cel)(k:Nat)(h:k<a.length):validFrom m (a.drop k) =
  if m=0∨cellB (a.getD k Cel.none).1 (a.getD k Cel.none).2.1 (a.getD k Cel.none).2.2.length=false then false else validFrom (m-1+grows (a.getD k Cel.none).1 (a.getD k Cel.none).2.1) (a.drop (k+1)):=by
 rw[drop_at a k h,validFrom]
theorem cellB_comp {n:Int}{m:Nat}(h:cellB 3 n m=true):1<=n/\n<=20:=by simp[cellB] at h;omega
theorem specValid_any (p:Option Addr)(c:Nat)(a:List Cel)(w:World)(hn:a.length<=1000000000)(P:CIn w p a) :
  Calls Tryz.prog 5 #[.slice p a.length c] w fun e w'=>e = .returned (.bool (validB a))/\Below w.heap.size w w':=by
 have H:=hid P;clear P
 by_cases V:a.length<=2000
 ·have A:¬ (2000:Int)<a.length:=by omega
  have C:validB a=validFrom 1 a:=by simp[validB,V]
  rw[C];clear C
  go_enter Tryz.func5,Tryz.ntmps5
  go_wp2
  clear A
  go_loopw [3,4] (fun s i wr=>∃ (k:Nat) (m:Int),k<=a.length/\0<=m/\m<=1+20 * k/\s = .int .i64 m/\i = .int .i64 k/\Hid (validFrom 1 a=validFrom m (a.drop k))/\Hid (Below w.heap.size w wr)) (fun _ i _=>a.length-(intOf i).toNat)
  case atStart=>exact⟨0,1,Nat.zero_le _,by decide,by decide,rfl,rfl,rfl,Below.refl _ _⟩
  case round=>
   obtain⟨k,m,hk,X,Y,rfl,rfl,u,r⟩:=hrel
   by_cases B:k<a.length
   ·obtain⟨b,o,rfl,z⟩:=H.o (by omega)
    obtain⟨q,qc,n,y,L,_⟩:=(z k B).below r.o;have g:Hid _:=validFrom_at m a k B
    obtain⟨F,M⟩:∃ x,x=(a.getD k Cel.none).1:=⟨_,rfl⟩
    obtain⟨J,N⟩:∃ x,x=(a.getD k Cel.none).2.1:=⟨_,rfl⟩
    obtain⟨t,O⟩:∃ x,x=(a.getD k Cel.none).2.2.length:=⟨_,rfl⟩
    rw[<-M] at n g;rw[<-N] at y g;rw[<-O] at L g;clear M N O z H
    by_cases D:m=0
    ·subst D
     go_wp2
     go_ret;exact⟨ret_bool (by rw[u.o,g.o,if_pos (by simp)]),r.o⟩
    ·have Z:(m == 0)=false:=by simpa using D
     have E:=hid D
     have l:=fun W=>l2cell_any F J q t qc W
     cases v:cellB F J t
     ·rw[v] at l
      have f:Hid _:=v;clear v D;go_wp2_with (go_at_call 17;refine(l _).mono ?_;rintro e Q ⟨rfl,d⟩);go_ret;exact⟨ret_bool (by rw[u.o,g.o,if_pos (.inr f.o)]),Below.on r.o d⟩
     ·rw[v] at l
      have f:Hid _:=v;clear v D
      by_cases G:F=3
      ·subst G
       have U:=cellB_comp f.o;go_wp2_with fail;refine(l _).mono ?_;rintro e Q ⟨rfl,d⟩;have K:=(d.cell (World.block_lt_of_cell? _ _ n)).trans n;have S:=(d.cell (World.block_lt_of_cell? _ _ y)).trans y;have j:=hid (Below.on r.o d);clear d n y L l
       go_wp2
       go_roundw
       case rel=>exact⟨k+1,m-1+J,by omega,by have:=E.o;omega,by omega,by go_num,by go_num,by show _=_;rw[u.o,g.o,if_neg (by rintro(h | h);exact E.o h;rw[f.o] at h;cases h)];rfl,j.o⟩
       case measure=>simp[intOf];omega
      ·have T:(F == 3)=false:=by simpa using G
       have R:=hid G;clear G;go_wp2_with fail;refine(l _).mono ?_;rintro e Q ⟨rfl,d⟩;have K:=(d.cell (World.block_lt_of_cell? _ _ n)).trans n;have j:=hid (Below.on r.o d);clear d n y L l
       go_wp2
       go_roundw
       case rel=>exact⟨k+1,m-1,by omega,by have:=E.o;omega,by omega,by go_num,by go_num,by show _=_;rw[u.o,g.o,if_neg (by rintro(h | h);exact E.o h;rw[f.o] at h;cases h),grows,if_neg R.o,Int.add_zero],j.o⟩
       case measure=>simp[intOf];omega
   ·obtain rfl:k=a.length:=by omega
    have I:Hid (validFrom 1 a=(m == 0)):=by
     have:=u.o;rw[List.drop_length] at this;exact this
    clear u H
    go_wp2
    go_ret;exact⟨ret_bool I.o.symm,r.o⟩
 ·have A:(2000:Int)<a.length:=by omega
  have C:validB a=false:=by simp[validB];omega
  rw[C];clear C
  go_enter Tryz.func5,Tryz.ntmps5
  go_wp2
  go_ret;exact⟨rfl,Below.refl _ _⟩
theorem implValid_any (p:Option Addr)(c:Nat)(a:List Cel)(w:World)(hn:a.length<=1000000000)(U:CIn w p a) :
  Calls Tryz.prog 18 #[.slice p a.length c] w fun e w'=>e = .returned (.bool (validB a))/\Below w.heap.size w w':=by
 have K:=hid U;clear U
 by_cases hl:a.length<=2000
 ·have C:¬ (2000:Int)<a.length:=by omega
  have E:validB a=validFrom 1 a:=by simp[validB,hl]
  rw[E];clear E
  go_enter Tryz.func18,Tryz.ntmps18
  go_wp2
  clear C
  go_loopw [3,11] (fun s i wr=>∃ (k:Nat) (m:Int),k<=a.length/\0<=m/\m<=1+20 * k/\s = .int .i64 m/\i = .int .i64 k/\Hid (validFrom 1 a=validFrom m (a.drop k))/\Hid (Below w.heap.size w wr)) (fun _ i _=>a.length-(intOf i).toNat)
  case atStart=>exact⟨0,1,Nat.zero_le _,by decide,by decide,rfl,rfl,rfl,Below.refl _ _⟩
  case round=>
   obtain⟨k,m,hk,h4,h5,rfl,rfl,u,r⟩:=hrel
   by_cases D:k<a.length
   ·obtain⟨b,o,rfl,B⟩:=K.o (by omega)
    obtain⟨q,I,N,P,Q,_⟩:=(B k D).below r.o;have g:Hid _:=validFrom_at m a k D
    obtain⟨v,R⟩:∃ x,x=(a.getD k Cel.none).1:=⟨_,rfl⟩
    obtain⟨y,S⟩:∃ x,x=(a.getD k Cel.none).2.1:=⟨_,rfl⟩
    obtain⟨t,T⟩:∃ x,x=(a.getD k Cel.none).2.2.length:=⟨_,rfl⟩
    rw[<-R] at N g;rw[<-S] at P g;rw[<-T] at Q g;clear R S T B K
    by_cases F:m=0
    ·subst F
     go_wp2
     go_ret;exact⟨ret_bool (by rw[u.o,g.o,if_pos (by simp)]),r.o.alloc r.o.size _⟩
    ·have h6:(m == 0)=false:=by simpa using F
     have G:=hid F
     have n:=fun W=>isCell_any v y q t I W
     have A:Below w.heap.size w (wr.alloc (Obj.cells #[.int .i64 v,.int .i64 y,.slice q t I] 27)):=r.o.alloc r.o.size _;have j:Hid _:=A;clear A
     cases z:cellB v y t
     ·rw[z] at n
      have f:Hid _:=z;clear z F;go_wp2_with (go_at_call 36;refine(n _).mono ?_;rintro e J ⟨rfl,d⟩);go_ret;exact⟨ret_bool (by rw[u.o,g.o,if_pos (.inr f.o)]),Below.on j.o d⟩
     ·rw[z] at n
      have f:Hid _:=z;clear z F
      by_cases H:v=3
      ·subst H
       have Z:=cellB_comp f.o;go_wp2_with fail;refine(n _).mono ?_;rintro e J ⟨rfl,d⟩;have M:Box3 J wr.heap.size (.int .i64 3) (.int .i64 y) (.slice q t I):=Box3.of_block (t:=27) ((d.block _ (by simp)).trans (heap_alloc_new _ _));obtain⟨O,X,_,_⟩:=M;have l:=hid (Below.on j.o d);clear d N P Q n
       go_wp2
       go_roundw
       case rel=>exact⟨k+1,m-1+y,by omega,by have:=G.o;omega,by omega,by go_num,by go_num,by show _=_;rw[u.o,g.o,if_neg (by rintro(h | h);exact G.o h;rw[f.o] at h;cases h)];rfl,l.o⟩
       case measure=>simp[intOf];omega
      ·have Y:(v == 3)=false:=by simpa using H
       have V:=hid H;clear H;go_wp2_with fail;refine(n _).mono ?_;rintro e J ⟨rfl,d⟩;have M:Box3 J wr.heap.size (.int .i64 v) (.int .i64 y) (.slice q t I):=Box3.of_block (t:=27) ((d.block _ (by simp)).trans (heap_alloc_new _ _));obtain⟨O,_,_,_⟩:=M;have l:=hid (Below.on j.o d);clear d N P Q n
       go_wp2
       go_roundw
       case rel=>exact⟨k+1,m-1,by omega,by have:=G.o;omega,by omega,by go_num,by go_num,by show _=_;rw[u.o,g.o,if_neg (by rintro(h | h);exact G.o h;rw[f.o] at h;cases h),grows,if_neg V.o,Int.add_zero],l.o⟩
       case measure=>simp[intOf];omega
   ·obtain rfl:k=a.length:=by omega
    have L:Hid (validFrom 1 a=(m == 0)):=by
     have:=u.o;rw[List.drop_length] at this;exact this
    clear u K
    go_wp2
    go_ret;exact⟨ret_bool L.o.symm,r.o⟩
 ·have C:(2000:Int)<a.length:=by omega
  have E:validB a=false:=by simp[validB];omega
  rw[E];clear E
  go_enter Tryz.func18,Tryz.ntmps18
  go_wp2
  go_ret;exact⟨rfl,Below.refl _ _⟩
inductive Fo where
 | nil:Fo
 | node:Cel->Fo->Fo->Fo
def Fo.cells:Fo->List Cel
 | .nil=>[]
 | .node c k r=>c :: (k.cells ++ r.cells)
def Fo.count:Fo->Nat
 | .nil=>0
 | .node _ _ r=>r.count+1
def Fo.cat:Fo->Fo->Fo
 | .nil,s=>s
 | .node c k r,s=>.node c k (r.cat s)
def Fo.ok:Fo->Prop
 | .nil=>True
 | .node c k r=>cellB c.1 c.2.1 c.2.2.length=true/\Byte c.2.2/\(c.1=3->c.2.1=k.count)/\(c.1≠3->k = .nil)/\k.ok/\r.ok
theorem Fo.cells_cat:∀ a b:Fo,(a.cat b).cells=a.cells ++ b.cells
 | .nil,b=>rfl
 | .node c k r,b=>by simp[Fo.cat,Fo.cells,Fo.cells_cat r b]
theorem Fo.count_cat:∀ a b:Fo,(a.cat b).count=a.count+b.count
 | .nil,b=>by simp[Fo.cat,Fo.count]
 | .node c k r,b=>by simp only[Fo.cat,Fo.count,Fo.count_cat r b];omega
theorem Fo.ok_cat:∀ a b:Fo,(a.cat b).ok↔a.ok/\b.ok
 | .nil,b=>by simp[Fo.cat,Fo.ok]
 | .node c k r,b=>by
   have:=Fo.ok_cat r b;simp only[Fo.cat,Fo.ok]
   constructor
   ·rintro⟨e,f,g,h,i,d⟩
    exact⟨⟨e,f,g,h,i,(this.1 d).1⟩,(this.1 d).2⟩
   ·rintro⟨⟨e,f,g,h,i,d⟩,j⟩
    exact⟨e,f,g,h,i,this.2 ⟨d,j⟩⟩
theorem Fo.cat_nil:∀ a:Fo,a.cat .nil=a
 | .nil=>rfl
 | .node c k r=>by rw[Fo.cat,Fo.cat_nil r]
theorem Fo.cat_assoc:∀ a b c:Fo,(a.cat b).cat c=a.cat (b.cat c)
 | .nil,b,c=>rfl
 | .node x k r,b,c=>by simp only[Fo.cat,Fo.cat_assoc r b c]
theorem Fo.count_le:∀ a:Fo,a.count<=a.cells.length
 | .nil=>Nat.le_refl _
 | .node c k r=>by have:=Fo.count_le r;simp[Fo.count,Fo.cells];omega
theorem Fo.parted:∀ (n:Nat) (a:Fo),n<=a.count->∃ x y:Fo,a=x.cat y/\x.count=n
 | 0,a,_=>⟨.nil,a,rfl,rfl⟩
 | n+1,.nil,h=>by simp[Fo.count] at h
 | n+1,.node c k r,h=>by
   obtain⟨x,y,e,b⟩:=Fo.parted n r (by simpa [Fo.count] using h);exact⟨.node c k x,y,by rw[Fo.cat,e],by rw[Fo.count,b]⟩
theorem forest_of:∀ (o:List Cel) (m:Nat),(∀ i,i<o.length->Byte (o.getD i Cel.none).2.2)->validFrom m o=true->∃ F:Fo,F.count=m/\F.cells=o/\F.ok
 | [],m,_,h=>by
   have:m=0:=by simpa [validFrom] using h
   exact⟨.nil,by simp[Fo.count,this],rfl,trivial⟩
 | c :: r,m,hb,h=>by
   rw[validFrom] at h
   split at h
   ·cases h
   rename_i p
   rw[not_or] at p;obtain⟨v,p⟩:=p
   have d:cellB c.1 c.2.1 c.2.2.length=true:=by simpa using p
   have k:∀ i,i<r.length->Byte (r.getD i Cel.none).2.2:=fun i t=>by simpa using hb (i+1) (by simpa using t)
   have j:Byte c.2.2:=by simpa using hb 0 (by simp)
   by_cases f:c.1=3
   ·have s:=cellB_comp (f▸d)
    obtain⟨n,q⟩:∃ n:Nat,c.2.1=n:=⟨c.2.1.toNat,by omega⟩
    obtain⟨F,g,a,b⟩:=forest_of r (m-1+n) k (by
     have e:((m-1+n:Nat):Int)=m-1+grows c.1 c.2.1:=by rw[grows,if_pos f,q];omega
     rw[e];exact h)
    obtain⟨x,y,rfl,u⟩:=Fo.parted n F (by omega);rw[Fo.count_cat] at g;have l:=(Fo.ok_cat x y).1 b;exact⟨.node c x y,by rw[Fo.count];omega,by rw[Fo.cells,<-Fo.cells_cat,a],d,j,fun _=>by rw[u,q],fun h=>absurd f h,l.1,l.2⟩
   ·obtain⟨F,g,a,b⟩:=forest_of r (m-1) k (by
     have e:((m-1:Nat):Int)=m-1+grows c.1 c.2.1:=by rw[grows,if_neg f];omega
     rw[e];exact h)
    exact⟨.node c .nil F,by rw[Fo.count];omega,by rw[Fo.cells,a];rfl,d,j,fun h=>absurd h f,fun _=>rfl,trivial,b⟩
def NodeIn (w:World)(B:Nat)(c:Cel)(K:List Value->Prop)(v:Value):Prop:=
 (c.1=0/\v = .iface 65 (.int .i64 c.2.1))∨(c.1=1/\v = .iface 146 (.int .i64 c.2.1))∨(c.1=2/\v = .iface 55 (.string (strOfNums c.2.2)))∨
 (c.1=3/\∃ b g vs,v = .iface 101 (.pointer (some ⟨b,0,none⟩))/\B<=b/\B<=g/\w.cell? ⟨b,0,none⟩=some (.string (strOfNums c.2.2))/\
   w.cell? ⟨b,1,none⟩=some (.slice (some ⟨g,0,none⟩) vs.length vs.length)/\g<w.heap.size/\(∀ i,i<vs.length->w.cell? ⟨g,i,none⟩=some (vs.getD i .nilIface))/\K vs)
def FoIn (w:World)(B:Nat):Fo->List Value->Prop
 | .nil,vs=>vs = []
 | .node c k r,vs=>∃ v vr,vs=v :: vr/\NodeIn w B c (fun kv=>FoIn w B k kv) v/\FoIn w B r vr
theorem NodeIn.imp {w e:World}{B f:Nat}{c:Cel}{K j:List Value->Prop}{v:Value}(h:NodeIn w B c K v)(y:f<=B)(d:∀ b o,B<=b->b<w.heap.size->e.cell? ⟨b,o,none⟩=w.cell? ⟨b,o,none⟩)(z:w.heap.size<=e.heap.size)(r:∀ a,K a->j a):NodeIn e f c j v:=by
 rcases h with h | h | h | ⟨h,b,g,a,x,l,q,k,n,s,p,u⟩
 ·exact .inl h
 ·exact .inr (.inl h)
 ·exact .inr (.inr (.inl h))
 ·have m:=World.block_lt_of_cell? _ _ k
  exact .inr (.inr (.inr ⟨h,b,g,a,x,by omega,by omega,(d _ _ l m).trans k,(d _ _ l m).trans n,by omega,fun i t=>(d _ _ q s).trans (p i t),r _ u⟩))
theorem FoIn.imp {w i:World}{B j:Nat}(d:j<=B)(f:∀ b o,B<=b->b<w.heap.size->i.cell? ⟨b,o,none⟩=w.cell? ⟨b,o,none⟩)(g:w.heap.size<=i.heap.size):∀ (F:Fo) (a:List Value),FoIn w B F a->FoIn i j F a
 | .nil,a,h=>h
 | .node c k r,a,⟨v,vr,e,hn,hr⟩=>⟨v,vr,e,hn.imp d f g (fun l=>FoIn.imp d f g k l),FoIn.imp d f g r vr hr⟩
theorem FoIn.below {w w':World}{B:Nat}{F:Fo}{c:List Value}(h:FoIn w B F c)(d:Below w.heap.size w w'):FoIn w' B F c:=
 FoIn.imp (Nat.le_refl _) (fun b o _ a=>d.cell (p:=⟨b,o,none⟩) a) d.size F c h
theorem FoIn.mono {w:World}{B B':Nat}{F:Fo}{a:List Value}(h:FoIn w B F a)(b:B'<=B):FoIn w B' F a:=FoIn.imp b (fun _ _ _ _=>rfl) (Nat.le_refl _) F a h
theorem FoIn.setCell {w:World}{B:Nat}{F:Fo}{c:List Value}(h:FoIn w B F c){a:Addr}(ha:a.block<B)(u:Value):FoIn (w.setCell a u) B F c:=
 FoIn.imp (Nat.le_refl _) (fun b o d _=>World.cell?_setCell_other _ _ _ _ (fun e=>by rw[e] at ha;simp at ha;omega)) (by simp) F c h
theorem FoIn.count {w:World}{B:Nat} : ∀ (F:Fo) (a:List Value),FoIn w B F a->a.length=F.count
 | .nil,a,h=>by rw[show a = [] from h];rfl
 | .node c k r,a,⟨v,vr,e,hn,hr⟩=>by rw[e,List.length_cons,FoIn.count r vr hr];rfl
theorem FoIn.cat {w:World}{B:Nat} : ∀ (F G:Fo) (b a:List Value),FoIn w B F b->FoIn w B G a->FoIn w B (F.cat G) (b ++ a)
 | .nil,G,b,a,h,hg=>by rw[show b = [] from h];exact hg
 | .node c k r,G,b,a,⟨v,vr,e,hn,hr⟩,hg=>⟨v,vr ++ a,by rw[e];rfl,hn,FoIn.cat r G vr a hr hg⟩
end Go.Proofs.YtnfnddnffoigfaaGreatDoor
