/- Texts of ItP, PrP, GrP, NextG, ItS, FcD, ArgU. Own work of the verifier. -/
import Derived.Test.YtlkhmmoimplokaaGreatDoorUqao
import Derived.Test.YtlkhmmoimplokaaGreatDoorUqah
namespace Go.Proofs.YtlkhmmoimplokaaGreatDoor
set_option maxHeartbeats 2000000
set_option linter.unusedVariables false
section
open Go Go.RowKit
def dot:Cel:=(3,2,[46])
def itsF:List (Cel×Fo)->Fo
 | []=>.nil
 | x :: r=>.node x.1 x.2 (itsF r)
theorem itsF_snoc:∀ (a:List (Cel×Fo)) (x:Cel×Fo),itsF (a ++ [x])=(itsF a).cat (.node x.1 x.2 .nil)
 | [],x=>rfl
 | y :: r,x=>by simp only[List.cons_append,itsF,Fo.cat,itsF_snoc r x]
theorem itsF_count:∀ b:List (Cel×Fo),(itsF b).count=b.length
 | []=>rfl
 | a :: r=>by simp[itsF,Fo.count,itsF_count r]
def itC (x:Cel×Fo):List Cel:=x.1 :: x.2.cells
def nilC:Cel:=(2,0,[91,93])
def lenOf:Value->Nat
 | .slice _ n _=>n
 | _=>0
abbrev Tr:=Cel×Fo
abbrev TT:=Tr×Tr
def Tr.fo (t:Tr):Fo:=.node t.1 t.2 .nil
def trs:Fo->List Tr
 | .nil=>[]
 | .node c k r=>(c,k) :: trs r
def argPairs (x:TT):List TT:=((trs x.1.2).zip (trs x.2.2)).reverse
def opened (x:TT):List TT:=if x.1.1=x.2.1 then argPairs x else []
def Tr.ok (t:Tr):Prop:=t.fo.ok
def vT (n:Int):Tr:=((0,n,[]),.nil)
def cmpT (nm:List Int)(ts:List Tr):Tr:=((3,(ts.length:Int),nm),itsF ts)
def lstT (e:Tr):List Tr->Tr
 | []=>e
 | x :: r=>(dot,.node x.1 x.2 (.node (lstT e r).1 (lstT e r).2 .nil))
theorem itsF_cells:∀ a:List Tr,(itsF a).cells=a.flatMap itC
 | []=>rfl
 | x :: r=>by
   have b:=itsF_cells r;simp only[itsF,Fo.cells,List.flatMap_cons,itC,b,List.cons_append]
theorem cmpT_cells (b:List Int)(a:List Tr):itC (cmpT b a)=(3,(a.length:Int),b) :: a.flatMap itC:=by
 show _ :: (itsF a).cells=_
 rw[itsF_cells];rfl
theorem byte_small {l:List Int}(h:l.all (fun x=>decide (0<=x/\x<256))=true):Byte l:=fun x a=>by
 have:=List.all_eq_true.1 h x a
 simpa using this
theorem lstT_cells (e:Tr):∀ a:List Tr,itC (lstT e a)=a.flatMap (fun x=>dot :: itC x) ++ itC e
 | []=>rfl
 | x :: r=>by
   have b:=lstT_cells e r
   have:itC (lstT e (x :: r))=dot :: (itC x ++ itC (lstT e r)):=by simp[lstT,itC,Fo.cells]
   rw[this,b]
   simp
def slV (r:Option Addr×Nat×Nat):Value:=.slice r.1 r.2.1 r.2.2
theorem app_sl (w:World){i:Array Oper}{d:List Oper}{o:Oper}{a:Act}{Q:Exit->Act->World->Prop}(u:o.guard=none)(s x:Operand)
  (H:o.op = .call { callee:=.builtin .append,args:=#[s,x],argTypes:=#[113,113] }) (B:Nat) (p:Option Addr) (n c:Nat) (y:List (Option Addr×Nat×Nat)) (q:Option Addr) (m l:Nat)
  (F:a.eval s = .slice p n c) (j:w.ownsRow B 25 1 (.slice p n c) n (y.map slV)) (G:a.eval x = .slice (some ⟨w.heap.size,0,none⟩) 1 1)
  (A:n+1<=1000000) (v:B<=w.heap.size)
  (h:∀ g b k,k.ownsRow B 25 1 (.slice (some ⟨g,0,none⟩) (n+1) b) (n+1) ((y ++ [(q,m,l)]).map slV)->(w.alloc (.cells #[.slice q m l] 25)).grownBy k (Value.ownBlock (.slice p n c))->wpList Tryz.prog i Q d (a.put o.dst (.slice (some ⟨g,0,none⟩) (n+1) b)) k):wpList Tryz.prog i Q (o :: d) a (w.alloc (.cells #[.slice q m l] 25)):=by
 obtain⟨I,E,r,z,t⟩:=info_parts infoCells;refine wpList_append_lies _ u s x 113 H B 25 I (.slice none 0 0) 1 24 Tryz.underlying113 E r z t rfl (by decide) (.slice p n c) n (y.map slV) F (j.alloc _) ⟨w.heap.size,0,none⟩ 1 1 [.slice q m l] G rfl (cell_one_new _ _ _) (by simp[Value.oneCell']) (by decide) (by unfold maxLen;omega) (by omega) (by simp;omega) _ rfl ?_
 intro g b k e f D C
 exact h g b k (by rw[List.map_append];exact e) f
end
section
open Go Go.RowKit Go.Maps
def NodeC (w:World)(c:Cel)(K:List Value->Prop)(v:Value):Prop:=
 (c.1=0/\v = .iface 150 (.int .i64 c.2.1))∨(c.1=1/\v = .iface 149 (.int .i64 c.2.1))∨(c.1=2/\v = .iface 154 (.string (strOfNums c.2.2)))∨
 (c.1=3/\∃ b g cq vs,v = .iface 159 (.pointer (some ⟨b,0,none⟩))/\True/\True/\w.cell? ⟨b,0,none⟩=some (.string (strOfNums c.2.2))/\
   w.cell? ⟨b,1,none⟩=some (.slice (some ⟨g,0,none⟩) vs.length cq)/\g<w.heap.size/\(∀ i,i<vs.length->w.cell? ⟨g,i,none⟩=some (vs.getD i .nilIface))/\K vs)
def FoC (w:World):Fo->List Value->Prop
 | .nil,vs=>vs = []
 | .node c k r,vs=>∃ v vr,vs=v :: vr/\NodeC w c (fun kv=>FoC w k kv) v/\FoC w r vr
theorem NodeC.iface {w:World}{c:Cel}{K:List Value->Prop}{v:Value}(h:NodeC w c K v):∃ t x,v = .iface t x:=by
 rcases h with ⟨_,h⟩ | ⟨_,h⟩ | ⟨_,h⟩ | ⟨_,b,g,cq,vs,h,_⟩ <;> exact⟨_,_,h⟩
theorem FoC.iface {w:World}{c:Cel}{k:Fo}{v:Value}(h:FoC w (.node c k .nil) [v]):∃ t x,v = .iface t x:=by
 obtain⟨d,b,e,a,_⟩:=h;obtain⟨rfl,rfl⟩:=List.cons.inj e;exact a.iface
theorem FoC.count {w:World} : ∀ (F:Fo) (a:List Value),FoC w F a->a.length=F.count
 | .nil,a,h=>by rw[show a = [] from h];rfl
 | .node c k r,a,⟨v,vr,e,_,hr⟩=>by rw[e];simp[Fo.count,FoC.count r vr hr]
theorem FoC.imp {w d:World}(f:w.heap.size<=d.heap.size):∀ (F:Fo) (a:List Value),(∀ p v,w.cell? p=some v->d.cell? p=some v)->FoC w F a->FoC d F a
 | .nil,a,_,h=>h
 | .node c k r,a,hc,⟨v,vr,e,hn,hr⟩=>by
   refine⟨v,vr,e,?_,FoC.imp f r vr hc hr⟩
   rcases hn with h | h | h | ⟨h,b,g,u,j,n,t,o,x,l,s,y,m⟩
   ·exact .inl h
   ·exact .inr (.inl h)
   ·exact .inr (.inr (.inl h))
   ·exact .inr (.inr (.inr ⟨h,b,g,u,j,n,t,o,hc _ _ x,hc _ _ l,Nat.lt_of_lt_of_le s f,fun i q=>hc _ _ (y i q),FoC.imp f k j hc m⟩))
theorem FoC.of {w:World}{B:Nat} : ∀ (F:Fo) (a:List Value),FoIn w B F a->FoC w F a
 | .nil,a,h=>h
 | .node c k r,a,⟨v,vr,e,hn,hr⟩=>by
   refine⟨v,vr,e,?_,FoC.of r vr hr⟩
   rcases hn with h | h | h | ⟨h,b,g,d,n,p,o,l,i,f,m,j⟩
   ·exact .inl h
   ·exact .inr (.inl h)
   ·exact .inr (.inr (.inl h))
   ·exact .inr (.inr (.inr ⟨h,b,g,d.length,d,n,trivial,trivial,l,i,f,m,FoC.of k d j⟩))
theorem FoC.below {w w':World}{F:Fo}{a:List Value}(h:FoC w F a)(c:Below w.heap.size w w'):FoC w' F a:=FoC.imp c.size F a (fun p v b=>(c.cell (World.block_lt_of_cell? _ _ b)).trans b) h
def NodeB (w:World)(B:Nat)(c:Cel)(K:List Value->Prop)(v:Value):Prop:=
 (c.1=0/\v = .iface 150 (.int .i64 c.2.1))∨(c.1=1/\v = .iface 149 (.int .i64 c.2.1))∨(c.1=2/\v = .iface 154 (.string (strOfNums c.2.2)))∨
 (c.1=3/\∃ b g cq vs,v = .iface 159 (.pointer (some ⟨b,0,none⟩))/\B<=b/\B<=g/\w.cell? ⟨b,0,none⟩=some (.string (strOfNums c.2.2))/\
   w.cell? ⟨b,1,none⟩=some (.slice (some ⟨g,0,none⟩) vs.length cq)/\g<w.heap.size/\(∀ i,i<vs.length->w.cell? ⟨g,i,none⟩=some (vs.getD i .nilIface))/\K vs)
def FoB (w:World)(B:Nat):Fo->List Value->Prop
 | .nil,vs=>vs = []
 | .node c k r,vs=>∃ v vr,vs=v :: vr/\NodeB w B c (fun kv=>FoB w B k kv) v/\FoB w B r vr
theorem NodeB.iface {w:World}{B:Nat}{c:Cel}{K:List Value->Prop}{v:Value}(h:NodeB w B c K v):∃ t x,v = .iface t x:=by
 rcases h with ⟨_,h⟩ | ⟨_,h⟩ | ⟨_,h⟩ | ⟨_,b,g,cq,vs,h,_⟩ <;> exact⟨_,_,h⟩
theorem FoB.iface {w:World}{B:Nat}{c:Cel}{k:Fo}{v:Value}(h:FoB w B (.node c k .nil) [v]):∃ t x,v = .iface t x:=by
 obtain⟨d,b,e,a,_⟩:=h;obtain⟨rfl,rfl⟩:=List.cons.inj e;exact a.iface
theorem FoB.toC {w:World}{B:Nat} : ∀ (F:Fo) (a:List Value),FoB w B F a->FoC w F a
 | .nil,a,h=>h
 | .node c k r,a,⟨v,vr,e,hn,hr⟩=>by
   refine⟨v,vr,e,?_,FoB.toC r vr hr⟩
   rcases hn with h | h | h | ⟨h,b,g,j,d,o,q,p,m,i,f,n,l⟩
   ·exact .inl h
   ·exact .inr (.inl h)
   ·exact .inr (.inr (.inl h))
   ·exact .inr (.inr (.inr ⟨h,b,g,j,d,o,trivial,trivial,m,i,f,n,FoB.toC k d l⟩))
theorem FoB.imp {w f:World}{B o:Nat}(a:o<=B)(l:w.heap.size<=f.heap.size):∀ (F:Fo) (d:List Value),(∀ p v,B<=p.block->w.cell? p=some v->f.cell? p=some v)->FoB w B F d->FoB f o F d
 | .nil,d,_,h=>h
 | .node c k r,d,hc,⟨v,vr,e,hn,hr⟩=>by
   refine⟨v,vr,e,?_,FoB.imp a l r vr hc hr⟩
   rcases hn with h | h | h | ⟨h,b,g,y,n,t,j,m,z,q,x,A,s⟩
   ·exact .inl h
   ·exact .inr (.inl h)
   ·exact .inr (.inr (.inl h))
   ·exact .inr (.inr (.inr ⟨h,b,g,y,n,t,Nat.le_trans a j,Nat.le_trans a m,hc _ _ j z,hc _ _ j q,Nat.lt_of_lt_of_le x l,fun i u=>hc _ _ m (A i u),FoB.imp a l k n hc s⟩))
theorem FoB.mono {w:World}{B b:Nat}{F:Fo}{a:List Value}(h:FoB w B F a)(c:b<=B):FoB w b F a:=FoB.imp c (Nat.le_refl _) F a (fun _ _ _ h=>h) h
theorem FoB.below {w w':World}{B:Nat}{F:Fo}{a:List Value}(h:FoB w B F a)(c:Below w.heap.size w w'):FoB w' B F a:=FoB.imp (Nat.le_refl _) c.size F a (fun p v _ b=>(c.cell (World.block_lt_of_cell? _ _ b)).trans b) h
def CompC (w:World)(s:List Int)(k:Fo)(b g cq:Nat)(vs:List Value):Prop:=
 True/\True/\w.cell? ⟨b,0,none⟩=some (.string (strOfNums s))/\w.cell? ⟨b,1,none⟩=some (.slice (some ⟨g,0,none⟩) vs.length cq)/\g<w.heap.size/\(∀ i,i<vs.length->w.cell? ⟨g,i,none⟩=some (vs.getD i .nilIface))/\FoC w k vs
end
section
open Go Go.RowKit
set_option linter.unusedSimpArgs false
end
end Go.Proofs.YtlkhmmoimplokaaGreatDoor
