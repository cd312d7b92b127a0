/- Texts of SSO, NextG, LsA, FoI, FoS, UntilR, ItP, L1c, IntM, MarkH. Own work of the verifier. -/
import Derived.Test.YtnfnddnffoigfaaGreatDoorUqac
import Derived.Test.YtnfnddnffoigfaaGreatDoorUqae
import Derived.Maps.AppendAt
import Derived.OrdersIn
import Derived.RangeFuncCalls
import Derived.TacticsIn
import Derived.Deep.Upon
namespace Go.Proofs.YtnfnddnffoigfaaGreatDoor
set_option maxHeartbeats 2000000
set_option linter.unusedVariables false
section
open Go Go.RowKit
def CCIn (w:World)(p:Option Addr)(css:List (List Cel)):Prop:=
 0<css.length->∃ b o,p=some ⟨b,o,none⟩/\∀ i,i<css.length->∃ q c,w.cell? ⟨b,o+i,none⟩=some (.slice q (css.getD i []).length c)/\CIn w q (css.getD i [])
theorem CCIn.below {W d:World}{p:Option Addr}{a:List (List Cel)}(h:CCIn W p a)(f:Below W.heap.size W d):CCIn d p a:=fun m=>by
 obtain⟨b,o,rfl,j⟩:=h m;refine⟨b,o,rfl,fun i k=>?_⟩;obtain⟨q,c,e,g⟩:=j i k;exact⟨q,c,(f.cell (World.block_lt_of_cell? _ _ e)).trans e,g.below f⟩
def vals (ds:List It)(css:List (List Cel)):List Value:=(List.range css.length).map fun i=>.slice (ds.getD i It.zero).1 (css.getD i []).length (ds.getD i It.zero).2.1
theorem vals_at (b:List It)(a:List (List Cel))(i:Nat)(h:i<a.length):(vals b a)[i]?=some (.slice (b.getD i It.zero).1 (a.getD i []).length (b.getD i It.zero).2.1):=by simp[vals,h]
structure OwnSS (w:World)(B U:Nat)(p:Option Addr)(n c:Nat)(css:List (List Cel))(ds:List It):Prop where
 len:n=css.length
 dlen:ds.length=css.length
 row:w.ownsRow B 23 1 (.slice p n c) n (vals ds css)
 item:∀ i,i<css.length->OwnCU w (ds.getD i It.zero).2.2.1 (ds.getD i It.zero).2.2.2 (ds.getD i It.zero).1 (css.getD i []).length (ds.getD i It.zero).2.1 (css.getD i [])
 low:∀ i,i<css.length->B<=(ds.getD i It.zero).2.2.1/\(ds.getD i It.zero).2.2.2<=U
 away:∀ i,i<css.length->∀ g,Value.ownBlock (.slice p n c)=some g->g<(ds.getD i It.zero).2.2.1∨(ds.getD i It.zero).2.2.2<=g
 apart:∀ i j,i<j->j<css.length->(ds.getD i It.zero).2.2.2<=(ds.getD j It.zero).2.2.1
 top:∀ g,Value.ownBlock (.slice p n c)=some g->g<U
def OwnCC (w:World)(B U:Nat)(p:Option Addr)(n c:Nat)(css:List (List Cel)):Prop:=∃ ds,OwnSS w B U p n c css ds
theorem OwnCC.nil (w:World)(B U:Nat):OwnCC w B U none 0 0 []:=⟨[],rfl,rfl,World.ownsRow_nil _ _ _ _,fun i h=>by simp at h,fun i h=>by simp at h,fun i h=>by simp at h,fun i j _ h=>by simp at h,fun g h=>by cases h⟩
theorem OwnCC.ccin {w:World}{B U:Nat}{p:Option Addr}{n c:Nat}{a:List (List Cel)}(h:OwnCC w B U p n c a):CCIn w p a:=fun o=>by
 obtain⟨b,h⟩:=h;have m:=h.len;obtain⟨g,f,e,j,k⟩:=h.row.form (by omega);simp only[Value.slice.injEq,true_and] at e;obtain⟨rfl,rfl⟩:=e;refine⟨g,0,rfl,fun i d=>⟨(b.getD i It.zero).1,(b.getD i It.zero).2.1,?_,(h.item i d).toC.cin⟩⟩;rw[Nat.zero_add,h.row.cellAt i (by omega)];exact vals_at b a i d
theorem OwnSS.other {w j:World}{B U:Nat}{p:Option Addr}{n c:Nat}{a:List (List Cel)}{m:List It}(h:OwnSS w B U p n c a m)(v:w.heap.size<=j.heap.size)(q:∀ k,k<w.heap.size->B<=k->k<U->j.heap[k]?=w.heap[k]?):OwnSS j B U p n c a m:=by
 refine⟨h.len,h.dlen,⟨h.row.1,?_⟩,fun i e=>(h.item i e).other v (fun k u x y=>q k u (by have:=h.low i e;omega) (by have:=h.low i e;omega)),h.low,h.away,h.apart,h.top⟩
 rcases h.row.2 with t | ⟨g,b,d,f,o,s,r⟩
 ·exact .inl t
 ·refine .inr ⟨g,b,d,f,o,(q g (Array.getElem?_eq_some_iff.1 s).1 o (h.top g ?_)).trans s,r⟩
  simp only[Value.slice.injEq] at f;rw[f.1];rfl
theorem OwnCC.below {w w':World}{B U:Nat}{p:Option Addr}{n c:Nat}{a:List (List Cel)}(h:OwnCC w B U p n c a)(b:Below w.heap.size w w'):OwnCC w' B U p n c a:=by
 obtain⟨d,h⟩:=h;exact⟨d,h.other b.size (fun k e _ _=>b.block k e)⟩
theorem OwnCC.keep {w f:World}{B U b d:Nat}{p:Option Addr}{n c:Nat}{a:List (List Cel)}(h:OwnCC w B U p n c a)(e:Keep b d w f)(o:U<=b∨d<=B):OwnCC f B U p n c a:=by
 obtain⟨g,h⟩:=h;exact⟨g,h.other e.size (fun k i j m=>e.block k i (by omega))⟩
theorem OwnCC.up {w:World}{B U b:Nat}{p:Option Addr}{n c:Nat}{a:List (List Cel)}(h:OwnCC w B U p n c a)(d:U<=b):OwnCC w B b p n c a:=by
 obtain⟨f,h⟩:=h;exact⟨f,h.len,h.dlen,h.row,h.item,fun i e=>⟨(h.low i e).1,Nat.le_trans (h.low i e).2 d⟩,h.away,h.apart,fun g j=>Nat.lt_of_lt_of_le (h.top g j) d⟩
theorem OwnCC.down {w:World}{B b U:Nat}{p:Option Addr}{n c:Nat}{a:List (List Cel)}(h:OwnCC w B U p n c a)(d:b<=B):OwnCC w b U p n c a:=by
 obtain⟨f,h⟩:=h;exact⟨f,h.len,h.dlen,ownsRow_down h.row d,h.item,fun i e=>⟨Nat.le_trans d (h.low i e).1,(h.low i e).2⟩,h.away,h.apart,h.top⟩
theorem css_append_at (a:List (List Cel))(c:List Cel)(i:Nat)(h:i<=a.length):(a ++ [c]).getD i []=if i=a.length then c else a.getD i []:=by
 by_cases e:i=a.length
 ·subst e;simp[List.getD]
 ·rw[if_neg e,List.getD,List.getD,List.getElem?_append_left (by omega)]
theorem vals_append (b:List It)(a:List (List Cel))(d:It)(c:List Cel)(h:b.length=a.length):vals (b ++ [d]) (a ++ [c])=vals b a ++ [.slice d.1 c.length d.2.1]:=by
 apply List.ext_getElem?
 intro i
 rcases Nat.lt_trichotomy i a.length with hi | hi | hi
 ·rw[vals_at _ _ _ (by simp;omega),List.getElem?_append_left (by simpa [vals] using hi),vals_at _ _ _ hi,ds_append_at _ _ _ (by omega),css_append_at _ _ _ (by omega),if_neg (by omega),if_neg (by omega)]
 ·subst hi
  rw[vals_at _ _ _ (by simp),List.getElem?_append_right (by simp[vals]),ds_append_at _ _ _ (by omega),css_append_at _ _ _ (by omega),if_pos h.symm,if_pos rfl]
  simp[vals]
 ·rw[List.getElem?_eq_none (by simp[vals];omega),List.getElem?_eq_none (by simp[vals];omega)]
theorem app_item (v w:World){ops:Array Oper}{A:List Oper}{o:Oper}{a:Act}{Q:Exit->Act->World->Prop}(W:o.guard=none)(s x:Operand)
  (ho:o.op = .call { callee:=.builtin .append,args:=#[s,x],argTypes:=#[31,31] }) (B:Nat) (p:Option Addr) (n c:Nat) (b:List (List Cel))
  (hs:a.eval s = .slice p n c) (r:OwnCC v B v.heap.size p n c b) (E:Below v.heap.size v w) (R:B<=v.heap.size) (q:Option Addr) (m D:Nat) (cs:List Cel) (K:OwnC w v.heap.size q m D cs)
  (hx:a.eval x = .slice (some ⟨w.heap.size,0,none⟩) 1 1) (h8:n+1<=1000000)
  (h:∀ g n' y C,OwnCC C B C.heap.size (some ⟨g,0,none⟩) n' y (b ++ [cs])->Below B (w.alloc (.cells #[.slice q m D] 23)) C->Hid (n'=n+1)->wpList Tryz.prog ops Q A (a.put o.dst (.slice (some ⟨g,0,none⟩) n' y)) C):wpList Tryz.prog ops Q (o :: A) a (w.alloc (.cells #[.slice q m D] 23)):=by
 obtain⟨i0,G,h5,h6,h7⟩:=info_parts infoCells;obtain⟨ds,f⟩:=r;have T:Below w.heap.size w (w.alloc (.cells #[.slice q m D] 23)):=(Below.refl _ _).alloc (Nat.le_refl _) _;have F:=Below.on E T;refine wpList_append_lies _ W s x 31 ho B 23 i0 (.slice none 0 0) 1 24 Tryz.underlying31 G h5 h6 h7 rfl (by decide) (.slice p n c) n (vals ds b) hs (row_below f.row F) ⟨w.heap.size,0,none⟩ 1 1 [.slice q m D] hx rfl (cell_one_new _ _ _) (fun u hu=>by simp at hu;rw[hu];rfl) (by decide) (by unfold maxLen;omega) (by omega) (Nat.le_trans R F.size) _ rfl ?_
 intro g y C I d J e2
 have r:∀ k,Value.ownBlock (.slice p n c)=some k->B<=k/\k<v.heap.size:=fun k z=>f.row.lt k z
 have hm:=K.1
 have V:g<v.heap.size∨w.heap.size<=g:=by
  rcases J with h' | h'
  ·exact .inl (r g h').2
  ·right;rw[h'];simp
 have e3:=E.size
 have t:∀ k,k<w.heap.size->(∀ j,Value.ownBlock (.slice p n c)=some j->k≠j)->C.heap[k]?=w.heap[k]?:=fun k z Y=>
  (d.block k (by simp;omega) (fun e=>Y k e.symm rfl)).trans (Below.heap_alloc _ _ _ z)
 have L:=K.up;refine h g _ y C ⟨ds ++ [(q,D,v.heap.size,w.heap.size)],?_⟩ ((Below.refl _ _).grown d (Nat.le_trans R F.size) (fun k z=>(r k z).1)) rfl;have U:=f.dlen;have e1:=f.len;refine⟨by simp;omega,by simp;omega,by rw[vals_append _ _ _ _ U,<-hm];exact I,fun i G=>?_,fun i G=>?_,fun i G k z=>?_,fun i j X M=>?_,fun k z=>?_⟩
 ·have H:i<=b.length:=by simp at G;omega
  rw[ds_append_at _ _ _ (by omega),css_append_at _ _ _ H]
  by_cases e:i=b.length
  ·rw[if_pos (by omega),if_pos e,<-hm]
   exact L.other (by have:=d.size;simp at this;omega) (fun k O h2 h3=>t k O (fun j M=>by have:=(r j M).2;omega))
  ·rw[if_neg (by omega),if_neg e]
   refine((f.item i (by omega)).below E).other (by have:=d.size;simp at this;omega) (fun k O h2 h3=>t k O (fun j M=>?_));have:=f.away i (by omega) j M
   omega
 ·have H:i<=b.length:=by simp at G;omega
  rw[ds_append_at _ _ _ (by omega)]
  have h4:w.heap.size<=C.heap.size:=by have:=d.size;simp at this;omega
  by_cases e:i=b.length
  ·rw[if_pos (by omega)];exact⟨R,h4⟩
  ·rw[if_neg (by omega)]
   have:=f.low i (by omega);exact⟨this.1,by omega⟩
 ·have H:i<=b.length:=by simp at G;omega
  have N:k=g:=(Option.some.inj z).symm;subst N;rw[ds_append_at _ _ _ (by omega)]
  by_cases e:i=b.length
  ·rw[if_pos (by omega)];exact V
  ·rw[if_neg (by omega)]
   rcases J with h' | h'
   ·exact f.away i (by omega) _ h'
   ·right
    have:=(f.low i (by omega)).2
    have Z:(w.alloc (.cells #[.slice q m D] 23)).heap.size=w.heap.size+1:=by simp
    rw[h',Z];omega
 ·have h9:j<=b.length:=by simp at M;omega
  rw[ds_append_at _ _ _ (by omega),ds_append_at _ _ _ (by omega),if_neg (by omega)]
  by_cases e:j=b.length
  ·rw[if_pos (by omega)]
   exact(f.low i (by omega)).2
  ·rw[if_neg (by omega)]
   exact f.apart i j X (by omega)
 ·have N:k=g:=(Option.some.inj z).symm
  omega
theorem CIn.part {w:World}{b o:Nat}{a d:List Cel}(h:∀ i,i<a.length->CAt w b (o+i * 3) (a.getD i Cel.none))(j:Nat)(k:d <+: a.drop j):CIn w (some ⟨b,o+j * 3,none⟩) d:=fun _=>by
 refine⟨b,o+j * 3,rfl,fun i m=>?_⟩;obtain⟨r,g⟩:=k
 have p:j+i<a.length:=by
  have:=congrArg List.length g
  simp at this;omega
 have e:a.getD (j+i) Cel.none=d.getD i Cel.none:=by
  have f:(a.drop j)[i]?=d[i]?:=by rw[<-g,List.getElem?_append_left m]
  rw[List.getElem?_drop] at f;simp only[List.getD,f]
 have:=h (j+i) p;rw[e,show o+(j+i) * 3=o+j * 3+i * 3 by omega] at this;exact this
def slV (r:Option Addr×Nat×Nat):Value:=.slice r.1 r.2.1 r.2.2
def RowG (w:World)(g:Nat):Prop:=∃ cur,w.heap[g]?=some (.cells cur 23 (0,0))/\∃ q n c,cur[0]?=some (.slice q n c)
theorem OwnC.grown {w w':World}{B n c:Nat}{p:Option Addr}{r:List Cel}{f:Option Nat}(h:OwnC w B p n c r)(u:w.grownBy w' f)(C:∀ g,f=some g->RowG w g):OwnC w' B p n c r:=by
 obtain⟨K,L,J,A,j,ha⟩:=h;refine⟨K,L,J,A.kept u ?_,fun i o=>⟨(j i o).1,(j i o).2.1,(j i o).2.2.other u.size (fun k y F=>?_)⟩,ha⟩
 ·rcases A.2 with ⟨v,_⟩ | ⟨g,D,E,v,_,b,_⟩
  ·rw[v];exact .inl rfl
  ·refine .inr (fun e=>?_)
   rw[v] at e;obtain⟨a,s,_⟩:=C g e.symm;rw[s] at b
   simp at b
 ·obtain⟨M,x,_,I,H⟩:=(j i o).2.2.2 y
  rw[F] at x
  cases x
  refine u.block k I (fun e=>?_);obtain⟨a,s,q,m,d,G⟩:=C k e.symm;have t:=(H 0 y).1
  unfold World.cell? at t
  simp only[s] at t
  have z:a[0]?=some (.int .u8 (((r.getD i Cel.none).2.2).getD 0 0)):=by simpa using t
  rw[G] at z
  cases z
abbrev Sl3:=Option Addr×Nat×Nat
def Sl3.zero:Sl3:=(none,0,0)
def LS (w:World)(B:Nat)(q:Option Addr)(m c:Nat)(css:List (List Cel)):Prop:=
 (css.length=0->q=none)/\∃ rs:List Sl3,rs.length=css.length/\m=css.length/\w.ownsRow B 23 1 (.slice q m c) m (rs.map slV)/\∀ j,j<css.length->OwnC w B (rs.getD j Sl3.zero).1 (rs.getD j Sl3.zero).2.1 (rs.getD j Sl3.zero).2.2 (css.getD j [])
theorem LS.nil (w:World)(B:Nat):LS w B none 0 0 []:=⟨fun _=>rfl,[],rfl,rfl,World.ownsRow_nil _ _ _ _,fun j h=>by simp at h⟩
theorem LS.kept {w e:World}{B m c:Nat}{q:Option Addr}{a:List (List Cel)}{row:Option Nat}(h:LS w B q m c a)(d:w.grownBy e row)(r:∀ g,row=some g->RowG w g)(b:Value.ownBlock (.slice q m c)=none∨Value.ownBlock (.slice q m c)≠row):LS e B q m c a:=by
 obtain⟨s,t,f,i,k,o⟩:=h;exact⟨s,t,f,i,k.kept d b,fun j p=>(o j p).grown d r⟩
theorem LS.below {w w':World}{B m c:Nat}{q:Option Addr}{a:List (List Cel)}(h:LS w B q m c a)(b:Below w.heap.size w w'):LS w' B q m c a:=
 h.kept (row:=none) ⟨b.os,b.tape,b.output,b.size,fun k d _=>b.block k d⟩ (fun g e=>by cases e) (by cases f:Value.ownBlock (.slice q m c) <;> simp)
theorem LS.row {w:World}{B m c:Nat}{q:Option Addr}{a:List (List Cel)}(h:LS w B q m c a):∀ g,Value.ownBlock (.slice q m c)=some g->0<a.length->RowG w g/\B<=g/\g<w.heap.size:=by
 intro g d u
 obtain⟨A,rs,v,x,o,y⟩:=h;have i:=o.lt g d
 rcases o.2 with ⟨k,_⟩ | ⟨t,p,b,k,z,f,s,_,r,j⟩
 ·rw[k] at d;cases d
 ·rw[k] at d
  cases d
  refine⟨⟨b,f,?_⟩,i⟩
  have e:b.toList[0]?=(rs.map slV)[0]?:=by
   rw[<-j,List.getElem?_take_of_lt (by omega)]
  rw[List.getElem?_map,List.getElem?_eq_getElem (show 0<rs.length by omega)] at e;exact⟨_,_,_,by rw[<-Array.getElem?_toList];exact e⟩
theorem LS.ccin {w:World}{B m c:Nat}{q:Option Addr}{b:List (List Cel)}(h:LS w B q m c b):CCIn w q b:=fun u=>by
 obtain⟨v,a,p,r,d,f⟩:=h;obtain⟨g,o,k,s,t⟩:=d.form (by omega);simp only[Value.slice.injEq,true_and] at k;obtain⟨rfl,rfl⟩:=k;refine⟨g,0,rfl,fun i j=>⟨(a.getD i Sl3.zero).1,(a.getD i Sl3.zero).2.2,?_,(f i j).cin⟩⟩;rw[Nat.zero_add,d.cellAt i (by omega),List.getElem?_map,List.getElem?_eq_getElem (show i<a.length by omega)]
 have e:a.getD i Sl3.zero=a[i]'(by omega):=by rw[List.getD,List.getElem?_eq_getElem (show i<a.length by omega)];rfl
 have:=(f i j).1;rw[<-this,e]
 rfl
theorem css_cat_at (a b:List (List Cel))(i:Nat):(a ++ b).getD i []=if i<a.length then a.getD i [] else b.getD (i-a.length) []:=by
 simp only[List.getD,List.getElem?_append]
 split <;> rfl
theorem sl_cat_at (a b:List Sl3)(i:Nat):(a ++ b).getD i Sl3.zero=if i<a.length then a.getD i Sl3.zero else b.getD (i-a.length) Sl3.zero:=by
 simp only[List.getD,List.getElem?_append]
 split <;> rfl
theorem NodeIn.imp2 {w e:World}{B f:Nat}{c:Cel}{K j:List Value->Prop}{v:Value}(h:NodeIn w B c K v)(y:f<=B)(d:∀ p v,w.cell? p=some v->e.cell? p=some v)(A:w.heap.size<=e.heap.size)(q:∀ a,K a->j a):NodeIn e f c j v:=by
 rcases h with h | h | h | ⟨h,b,g,a,t,u,x,k,m,z,o,s⟩
 ·exact .inl h
 ·exact .inr (.inl h)
 ·exact .inr (.inr (.inl h))
 ·exact .inr (.inr (.inr ⟨h,b,g,a,t,by omega,by omega,d _ _ k,d _ _ m,by omega,fun i r=>d _ _ (o i r),q _ s⟩))
theorem FoIn.imp2 {w g:World}{B i:Nat}(b:i<=B)(d:∀ p v,w.cell? p=some v->g.cell? p=some v)(f:w.heap.size<=g.heap.size):∀ (F:Fo) (a:List Value),FoIn w B F a->FoIn g i F a
 | .nil,a,h=>h
 | .node c k r,a,⟨v,vr,e,hn,hr⟩=>⟨v,vr,e,hn.imp2 b d f (fun j=>FoIn.imp2 b d f k j),FoIn.imp2 b d f r vr hr⟩
end
section
open Go Go.RowKit
open Classical in
noncomputable def strikeA (A:Nat->Prop) (W:World):World:={ W with heap:=W.heap.mapIdx fun i o=>if A i then .deferred none else o }
theorem strikeA_size (A:Nat->Prop)(W:World):(strikeA A W).heap.size=W.heap.size:=by simp[strikeA]
open Classical in
theorem strikeA_cell {A:Nat->Prop}{W:World}{p:Addr}{v:Value} : (strikeA A W).cell? p=some v↔¬ A p.block/\W.cell? p=some v:=by
 have e:(strikeA A W).heap[p.block]?=W.heap[p.block]?.map fun o=>if A p.block then .deferred none else o:=by simp[strikeA]
 unfold World.cell?
 rw[e]
 by_cases h:A p.block
 ·cases W.heap[p.block]? <;> simp[h]
 ·cases W.heap[p.block]? <;> simp[h]
def FoA (A:Nat->Prop)(W:World)(F:Fo)(vs:List Value):Prop:=FoIn (strikeA A W) 0 F vs
theorem FoA.foIn {A:Nat->Prop}{W:World}{F:Fo}{a:List Value}(h:FoA A W F a):FoIn W 0 F a:=
 FoIn.imp2 (Nat.le_refl _) (fun p v b=>(strikeA_cell.1 b).2) (by rw[strikeA_size];exact Nat.le_refl _) F a h
theorem FoA.move {A d:Nat->Prop}{W a:World}{F:Fo}{b:List Value}(h:FoA A W F b)(f:∀ p v,¬ A p.block->W.cell? p=some v->¬ d p.block/\a.cell? p=some v)(g:W.heap.size<=a.heap.size):FoA d a F b:=
 FoIn.imp2 (Nat.le_refl _) (fun p v e=>strikeA_cell.2 (f p v (strikeA_cell.1 e).1 (strikeA_cell.1 e).2)) (by rw[strikeA_size,strikeA_size];exact g) F b h
theorem FoA.cat {A:Nat->Prop}{W:World}{F G:Fo}{b a:List Value}(h:FoA A W F b)(d:FoA A W G a):FoA A W (F.cat G) (b ++ a):=FoIn.cat _ _ _ _ h d
end
section
open Go
section
variable {P:Program}{ops:Array Oper}{Q:Exit->Act->World->Prop}{md:Region.Mode}{S:World->Prop}{c:Nat}{l n:Nat}
def noDefer (ops:Array Oper):Bool:=ops.all fun o=>match o.op with | .defer _=>false | _=>true
theorem noDefer_spec (h:noDefer ops=true){i:Nat}{o:Oper}(a:ops[i]?=some o):∀ c,o.op≠.defer c:=fun c e=>by
 have:=Array.all_eq_true_iff_forall_mem.1 h o (Array.mem_of_getElem? a);rw[e] at this
 cases this
theorem upon_wide {o:Oper}{a:Act}{K:Act->World->Prop}{r:Result Next}(h:o.upon P a K Q r):o.uponIn (Fence.wide.inRound l) n P a K Q r:=by
 cases r with
 | ok x b=>
   cases x <;> simp only[Oper.upon] at h <;> simp only[Oper.uponIn] <;>
    first
     | exact h
     | exact⟨fun h=>(by cases h),CallsIn.inRound l (callsIn_wide.2 h)⟩
     | exact⟨fun h=>(by cases h),fun c d _=>let ⟨v,b,r,s⟩:=h c d;⟨v,b,r,stepsIn_wide.2 s⟩⟩
     | exact h.elim
 | halt x b=>cases x <;> simp only[Oper.upon] at h <;> simp only[Oper.uponIn] <;> first | exact h | exact h.elim
theorem wpOpIn_of (g:noDefer ops=true)(f:¬ LetsOut Q){i:Nat}{K:Act->World->Prop}{a:Act}{w:World}(h:wpOp P ops Q i K a w):wpOpIn (Fence.wide.inRound l) n P ops Q i K a w:=by
 unfold wpOp at h
 unfold wpOpIn
 cases b:ops[i]? with
 | none=>simpa [b] using h
 | some o=>
   simp only[b] at h ⊢
   split
   ·rename_i d
    simp only[d,if_true] at h;refine⟨fun _ _=>trivial,?_⟩
    rcases h with h | h
    ·have e:o.semAt (Fence.wide.inRound l).round a.eval=execOp a.eval o:=Oper.semAt_some l _ _ (noDefer_spec g b)
     rw[e];exact upon_wide h
    ·exact absurd h.2 f
   ·rename_i d
    simp only[d] at h;exact⟨fun _ _=>trivial,by simpa using h⟩
theorem wpAnyIn_of (e:noDefer ops=true)(d:¬ LetsOut Q):∀ (fuel:Nat) (b:Array Bool) (a:Act) (w:World),wpAny P md ops Q fuel b a w->wpAnyIn (Fence.wide.inRound l) n P md ops Q fuel b a w
 | 0,_,_,_,h=>h
 | fuel+1,_,_,_,h=>⟨h.1,fun i j=>wpOpIn_of e d (wpOp_mono (fun f k g=>wpAnyIn_of e d fuel _ f k g) (h.2 i j))⟩
theorem wpIn_region_until {id:Nat}{a:Act}{w:World}(d:P.follows .mixedOrders=true)(b:noDefer ops=true)
  (h:wpAnyU P .any ops (fun e a w=>e = .normal/\Q .normal a w) S c ops.size (Array.replicate ops.size false) a { w with drawn:=w.drawn+1 }):(Code.region id ops true).wpIn (Fence.wide.inRound l) n P Q a w:=
 wpIn_mono (wpIn_region_any d (wpAnyIn_of b (fun h=>by simp[LetsOut] at h) _ _ _ _ (wpAny_of_until _ _ _ _ h))) (fun e a w h=>h.1▸h.2)
theorem wpOp_oper {i:Nat}{a:Act}{w:World}{K:Act->World->Prop}(e:(ops[i]?).map (fun o=>Region.wanted o (yielded ops a.tmps))=some true)(h:∀ o,ops[i]?=some o->o.wp P a w K Q):wpOp P ops Q i K a w:=by
 cases b:ops[i]? with
 | none=>simp[b] at e
 | some o=>
   have d:Region.wanted o (yielded ops a.tmps)=true:=by simpa [b] using e
   unfold wpOp
   simp only[b,d,if_true];exact .inl (h o b)
end
end
section
open Go Go.RowKit
def dot:Cel:=(3,2,[46])
def splitF:Cel->Fo->List (Cel×Fo)×(Cel×Fo)
 | c,.node c1 k1 (.node c2 k2 .nil)=>if c=dot then((c1,k1) :: (splitF c2 k2).1,(splitF c2 k2).2) else([],(c,.node c1 k1 (.node c2 k2 .nil)))
 | c,k=>([],(c,k))
theorem splitF_dot (d:Cel)(e:Fo)(a:Cel)(b:Fo):splitF dot (.node d e (.node a b .nil))=((d,e) :: (splitF a b).1,(splitF a b).2):=by
 rw[splitF,if_pos rfl]
theorem splitF_other (c:Cel)(k:Fo)(h:c≠dot):splitF c k=([],(c,k)):=by
 unfold splitF
 split
 ·rw[if_neg h]
 ·rfl
def itsF:List (Cel×Fo)->Fo
 | []=>.nil
 | x :: r=>.node x.1 x.2 (itsF r)
theorem itsF_snoc:∀ (a:List (Cel×Fo)) (x:Cel×Fo),itsF (a ++ [x])=(itsF a).cat (.node x.1 x.2 .nil)
 | [],x=>rfl
 | y :: r,x=>by simp only[List.cons_append,itsF,Fo.cat,itsF_snoc r x]
theorem two_of {k:Fo}(h:k.count=2):∃ e g f i,k = .node e g (.node f i .nil):=by
 cases k with
 | nil=>simp[Fo.count] at h
 | node e g r=>
   cases r with
   | nil=>simp[Fo.count] at h
   | node f i r=>
     cases r with
     | nil=>exact⟨e,g,f,i,rfl⟩
     | node a b d=>simp[Fo.count] at h
theorem itsF_ok_at:∀ (b:List (Cel×Fo)),(itsF b).ok->∀ i (h:i<b.length),(Fo.node b[i].1 b[i].2 .nil).ok
 | [],_,i,h=>by simp at h
 | a :: r,⟨h1,h2,h3,h4,h5,h6⟩,0,_=>⟨h1,h2,h3,h4,h5,trivial⟩
 | a :: r,⟨h1,h2,h3,h4,h5,h6⟩,i+1,h=>by simpa using itsF_ok_at r h6 i (by simpa using h)
theorem itsF_count:∀ b:List (Cel×Fo),(itsF b).count=b.length
 | []=>rfl
 | a :: r=>by simp[itsF,Fo.count,itsF_count r]
def itC (x:Cel×Fo):List Cel:=x.1 :: x.2.cells
def nilC:Cel:=(2,0,[91,93])
theorem split_size:∀ (N:Nat) (c:Cel) (k:Fo),k.cells.length<=N->((splitF c k).1.map (fun x=>(itC x).length)).sum+(itC (splitF c k).2).length<=k.cells.length+1/\(∀ x ∈ (splitF c k).1,x.2.cells.length<=k.cells.length)
 | N,c,.nil,_=>by simp[splitF,itC,Fo.cells]
 | N,c,.node c1 k1 .nil,_=>by simp[splitF,itC,Fo.cells]
 | N,c,.node c1 k1 (.node c2 k2 (.node a b d)),_=>by simp[splitF,itC,Fo.cells]
 | 0,c,.node c1 k1 (.node c2 k2 .nil),h=>by simp[Fo.cells] at h
 | N+1,c,.node c1 k1 (.node c2 k2 .nil),h=>by
   by_cases e:c=dot
   ·subst e
    have f:=split_size N c2 k2 (by simp[Fo.cells] at h;omega);rw[splitF_dot];simp only[List.map_cons,List.sum_cons,itC,List.length_cons,Fo.cells,List.length_append,List.length_nil] at f ⊢;refine⟨by omega,fun x hx=>?_⟩
    rcases List.mem_cons.1 hx with rfl | hx
    ·simp;omega
    ·have:=f.2 x hx;omega
   ·rw[splitF_other _ _ e]
    simp[itC]
def lenOf:Value->Nat
 | .slice _ n _=>n
 | _=>0
theorem news_of {w:World}{b o:Nat}{a:List Int}(g:∀ i,i<a.length->w.cell? ⟨b,o+i,none⟩=some (.int .u8 (a.getD i 0))):∀ j u,(a.map (Value.int .u8))[j]?=some u->w.cell? ((⟨b,o,none⟩:Addr).add j)=some u:=fun j u f=>by
 have d:j<a.length:=by
  rcases Nat.lt_or_ge j a.length with h | h
  ·exact h
  ·simp[List.getElem?_eq_none h] at f
 have e:(⟨b,o,none⟩:Addr).add j=⟨b,o+j,none⟩:=by unfold Addr.add;split <;> simp_all
 rw[e,g j d,<-f]
 simp[List.getD,d]
theorem app_nothing (w:World){ops:Array Oper}{b:List Oper}{o:Oper}{a:Act}{Q:Exit->Act->World->Prop}(f:o.guard=none)(s x:Operand)
  (t:o.op = .call { callee:=.builtin .append,args:=#[s,x],argTypes:=#[22,22] }) (p:Option Addr) (n c:Nat) (g:n<=c) (y:a.eval s = .slice p n c) (q:Option Addr) (e:Nat) (z:a.eval x = .slice q 0 e)
  (h:wpList Tryz.prog ops Q b (a.put o.dst (.slice p n c)) w):wpList Tryz.prog ops Q (o :: b) a w:=by
 obtain⟨i,r,A,B,C⟩:=info_parts infoByte
 refine wpList_plain f fun K m=>?_
 have d:Src Tryz.prog i.size 22 (.slice q 0 e) 0 [] w:=by
  cases q with
  | none=>exact Src.ofNil w Tryz.underlying22 e
  | some k=>exact Src.ofSlice w Tryz.underlying22 k 0 e [] (by simp) (fun j u h=>by simp at h) (fun u h=>by cases h)
 have v:=fun D=>run_append_nothing (P:=Tryz.prog) w 22 22 D 5 i Tryz.underlying22 r p n c g _ d
 unfold Oper.wp
 simp[execOp,t,resolve,invoke,builtin,y,z,v,Result.andThen]
 exact m _ _ h
theorem l1copy_all (p:Option Addr)(n c:Nat)(f:List Int)(w:World)(h:n=f.length)(y:n<=10000000)(j:BIn w p f) :
  Calls Tryz.prog 219 #[.slice p n c] w fun e r=>∃ q k m,e = .returned (.slice q k m)/\OwnS r w.heap.size q k m f/\Below w.heap.size w r:=by
 by_cases v:0<n
 ·obtain⟨b,o,rfl,d⟩:=j (by omega)
  have s:=hid d;have t:=hid h;clear j h d
  go_enter Tryz.func219,Tryz.ntmps219
  go_wp2_with (at_builtin;refine app_bytes _ rfl _ _ rfl w.heap.size none 0 0 [] f n t.o rfl (OwnS.nil _ _) _ c rfl (news_of s.o) v (by omega) (Nat.le_refl _) ?_;intro g k u z a i x);go_ret;exact⟨_,_,_,rfl,a,i⟩
 ·obtain rfl:n=0:=by omega
  obtain rfl:f = []:=List.length_eq_zero_iff.1 h.symm;clear j h
  go_enter Tryz.func219,Tryz.ntmps219
  go_wp2_with (at_builtin;refine app_nothing _ rfl _ _ rfl none 0 0 (Nat.le_refl _) rfl p c rfl ?_);go_ret;exact⟨_,_,_,rfl,OwnS.nil _ _,Below.refl _ _⟩
end
section
open Go Go.RowKit Go.Maps
end
section
open Go Go.RowKit
end
end Go.Proofs.YtnfnddnffoigfaaGreatDoor
