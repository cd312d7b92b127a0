/- Texts of SSO, MkL, Make3, MarkH, SS1, CArg, LawValid, SS2, Ren1, RenN, RenG, Vars1, Vars2, VarO, Vars3, IntM, Vars4, Ren2, Items1, Items2, Make1, Make2, Make4, FcL. Own work of the verifier. -/
import Derived.Maps.AppendAt
import Derived.Test.YtlkhmmoimplokaaGreatDoorUqba
import Derived.RangeFuncNested
import Derived.RangeFuncBound
import Derived.RangeFuncCalls
import Derived.RangeFuncLeaves
import Derived.Shelf.RegionOpen
import Derived.OwnWalkIn
import Derived.TacticsInMore
import Derived.LoopNIn
import Derived.LoopIn
import Derived.Sort.EveryDepth
namespace Go.Proofs.YtlkhmmoimplokaaGreatDoor
set_option maxHeartbeats 2000000
set_option linter.unusedVariables false
set_option maxRecDepth 100000
section
open Go Go.RowKit
def CCIn (w:World)(p:Option Addr)(css:List (List Cel)):Prop:=
 0<css.length->∃ b o,p=some ⟨b,o,none⟩/\∀ i,i<css.length->∃ q c,w.cell? ⟨b,o+i,none⟩=some (.slice q (css.getD i []).length c)/\CIn w q (css.getD i [])
theorem CCIn.below {W d:World}{p:Option Addr}{a:List (List Cel)}(h:CCIn W p a)(f:Below W.heap.size W d):CCIn d p a:=fun j=>by
 obtain⟨b,o,rfl,l⟩:=h j;refine⟨b,o,rfl,fun i k=>?_⟩;obtain⟨q,c,e,g⟩:=l i k;exact⟨q,c,(f.cell (World.block_lt_of_cell? _ _ e)).trans e,g.below f⟩
def vals (ds:List It)(css:List (List Cel)):List Value:=(List.range css.length).map fun i=>.slice (ds.getD i It.zero).1 (css.getD i []).length (ds.getD i It.zero).2.1
theorem vals_at (b:List It)(a:List (List Cel))(i:Nat)(h:i<a.length):(vals b a)[i]?=some (.slice (b.getD i It.zero).1 (a.getD i []).length (b.getD i It.zero).2.1):=by simp[vals,h]
structure OwnSS (w:World)(B U:Nat)(p:Option Addr)(n c:Nat)(css:List (List Cel))(ds:List It):Prop where
 len:n=css.length
 dlen:ds.length=css.length
 row:w.ownsRow B 25 1 (.slice p n c) n (vals ds css)
 item:∀ i,i<css.length->OwnCU w (ds.getD i It.zero).2.2.1 (ds.getD i It.zero).2.2.2 (ds.getD i It.zero).1 (css.getD i []).length (ds.getD i It.zero).2.1 (css.getD i [])
 low:∀ i,i<css.length->B<=(ds.getD i It.zero).2.2.1/\(ds.getD i It.zero).2.2.2<=U
 away:∀ i,i<css.length->∀ g,Value.ownBlock (.slice p n c)=some g->g<(ds.getD i It.zero).2.2.1∨(ds.getD i It.zero).2.2.2<=g
 apart:∀ i j,i<j->j<css.length->(ds.getD i It.zero).2.2.2<=(ds.getD j It.zero).2.2.1
 top:∀ g,Value.ownBlock (.slice p n c)=some g->g<U
def OwnCC (w:World)(B U:Nat)(p:Option Addr)(n c:Nat)(css:List (List Cel)):Prop:=∃ ds,OwnSS w B U p n c css ds
theorem OwnCC.nil (w:World)(B U:Nat):OwnCC w B U none 0 0 []:=⟨[],rfl,rfl,World.ownsRow_nil _ _ _ _,fun i h=>by simp at h,fun i h=>by simp at h,fun i h=>by simp at h,fun i j _ h=>by simp at h,fun g h=>by cases h⟩
theorem OwnCC.ccin {w:World}{B U:Nat}{p:Option Addr}{n c:Nat}{a:List (List Cel)}(h:OwnCC w B U p n c a):CCIn w p a:=fun j=>by
 obtain⟨b,h⟩:=h;have m:=h.len;obtain⟨g,f,d,k,l⟩:=h.row.form (by omega);simp only[Value.slice.injEq,true_and] at d;obtain⟨rfl,rfl⟩:=d;refine⟨g,0,rfl,fun i e=>⟨(b.getD i It.zero).1,(b.getD i It.zero).2.1,?_,(h.item i e).toC.cin⟩⟩;rw[Nat.zero_add,h.row.cellAt i (by omega)];exact vals_at b a i e
theorem OwnSS.other {w f:World}{B U:Nat}{p:Option Addr}{n c:Nat}{a:List (List Cel)}{m:List It}(h:OwnSS w B U p n c a m)(u:w.heap.size<=f.heap.size)(o:∀ k,k<w.heap.size->B<=k->k<U->f.heap[k]?=w.heap[k]?):OwnSS f B U p n c a m:=by
 refine⟨h.len,h.dlen,⟨h.row.1,?_⟩,fun i e=>(h.item i e).other u (fun k t v x=>o k t (by have:=h.low i e;omega) (by have:=h.low i e;omega)),h.low,h.away,h.apart,h.top⟩
 rcases h.row.2 with s | ⟨g,j,b,d,l,q,r⟩
 ·exact .inl s
 ·refine .inr ⟨g,j,b,d,l,(o g (Array.getElem?_eq_some_iff.1 q).1 l (h.top g ?_)).trans q,r⟩
  simp only[Value.slice.injEq] at d;rw[d.1];rfl
theorem OwnCC.below {w w':World}{B U:Nat}{p:Option Addr}{n c:Nat}{a:List (List Cel)}(h:OwnCC w B U p n c a)(b:Below w.heap.size w w'):OwnCC w' B U p n c a:=by
 obtain⟨ds,h⟩:=h;exact⟨ds,h.other b.size (fun k d _ _=>b.block k d)⟩
theorem OwnCC.keep {w f:World}{B U b d:Nat}{p:Option Addr}{n c:Nat}{a:List (List Cel)}(h:OwnCC w B U p n c a)(e:Keep b d w f)(l:U<=b∨d<=B):OwnCC f B U p n c a:=by
 obtain⟨i,h⟩:=h;exact⟨i,h.other e.size (fun k g j m=>e.block k g (by omega))⟩
theorem OwnCC.up {w:World}{B U d:Nat}{p:Option Addr}{n c:Nat}{a:List (List Cel)}(h:OwnCC w B U p n c a)(e:U<=d):OwnCC w B d p n c a:=by
 obtain⟨f,h⟩:=h;exact⟨f,h.len,h.dlen,h.row,h.item,fun i b=>⟨(h.low i b).1,Nat.le_trans (h.low i b).2 e⟩,h.away,h.apart,fun g j=>Nat.lt_of_lt_of_le (h.top g j) e⟩
theorem css_append_at (a:List (List Cel))(c:List Cel)(i:Nat)(h:i<=a.length):(a ++ [c]).getD i []=if i=a.length then c else a.getD i []:=by
 by_cases e:i=a.length
 ·subst e;simp[List.getD]
 ·rw[if_neg e,List.getD,List.getD,List.getElem?_append_left (by omega)]
theorem vals_append (b:List It)(a:List (List Cel))(d:It)(c:List Cel)(h:b.length=a.length):vals (b ++ [d]) (a ++ [c])=vals b a ++ [.slice d.1 c.length d.2.1]:=by
 apply List.ext_getElem?
 intro i
 rcases Nat.lt_trichotomy i a.length with hi | hi | hi
 ·rw[vals_at _ _ _ (by simp;omega),List.getElem?_append_left (by simpa [vals] using hi),vals_at _ _ _ hi,ds_append_at _ _ _ (by omega),css_append_at _ _ _ (by omega),if_neg (by omega),if_neg (by omega)]
 ·subst hi
  rw[vals_at _ _ _ (by simp),List.getElem?_append_right (by simp[vals]),ds_append_at _ _ _ (by omega),css_append_at _ _ _ (by omega),if_pos h.symm,if_pos rfl]
  simp[vals]
 ·rw[List.getElem?_eq_none (by simp[vals];omega),List.getElem?_eq_none (by simp[vals];omega)]
theorem app_item (y w:World){N:Array Oper}{z:List Oper}{o:Oper}{a:Act}{Q:Exit->Act->World->Prop}(T:o.guard=none)(s x:Operand)
  (ho:o.op = .call { callee:=.builtin .append,args:=#[s,x],argTypes:=#[113,113] }) (B:Nat) (p:Option Addr) (n c:Nat) (d:List (List Cel))
  (hs:a.eval s = .slice p n c) (l:OwnCC y B y.heap.size p n c d) (F:Below y.heap.size y w) (P:B<=y.heap.size) (q:Option Addr) (m G:Nat) (cs:List Cel) (I:OwnC w y.heap.size q m G cs)
  (hx:a.eval x = .slice (some ⟨w.heap.size,0,none⟩) 1 1) (h7:n+1<=1000000)
  (h:∀ g U t A,OwnCC A B A.heap.size (some ⟨g,0,none⟩) U t (d ++ [cs])->Below B (w.alloc (.cells #[.slice q m G] 25)) A->Hid (U=n+1)->wpList Tryz.prog N Q z (a.put o.dst (.slice (some ⟨g,0,none⟩) U t)) A):wpList Tryz.prog N Q (o :: z) a (w.alloc (.cells #[.slice q m G] 25)):=by
 obtain⟨i0,D,R,h5,S⟩:=info_parts infoCells;obtain⟨ds,b⟩:=l;have O:Below w.heap.size w (w.alloc (.cells #[.slice q m G] 25)):=(Below.refl _ _).alloc (Nat.le_refl _) _;have E:=Below.on F O;refine wpList_append_lies _ T s x 113 ho B 25 i0 (.slice none 0 0) 1 24 Tryz.underlying113 D R h5 S rfl (by decide) (.slice p n c) n (vals ds d) hs (row_below b.row E) ⟨w.heap.size,0,none⟩ 1 1 [.slice q m G] hx rfl (cell_one_new _ _ _) (fun u hu=>by simp at hu;rw[hu];rfl) (by decide) (by unfold maxLen;omega) (by omega) (Nat.le_trans P E.size) _ rfl ?_
 intro g t A C f L h9
 have l:∀ k,Value.ownBlock (.slice p n c)=some k->B<=k/\k<y.heap.size:=fun k v=>b.row.lt k v
 have hm:=I.1
 have h4:g<y.heap.size∨w.heap.size<=g:=by
  rcases L with h' | h'
  ·exact .inl (l g h').2
  ·right;rw[h'];simp
 have e2:=F.size
 have r:∀ k,k<w.heap.size->(∀ j,Value.ownBlock (.slice p n c)=some j->k≠j)->A.heap[k]?=w.heap[k]?:=fun k v h6=>
  (f.block k (by simp;omega) (fun e=>h6 k e.symm rfl)).trans (Below.heap_alloc _ _ _ v)
 have K:=I.up;refine h g _ t A ⟨ds ++ [(q,G,y.heap.size,w.heap.size)],?_⟩ ((Below.refl _ _).grown f (Nat.le_trans P E.size) (fun k v=>(l k v).1)) rfl;have X:=b.dlen;have h8:=b.len;refine⟨by simp;omega,by simp;omega,by rw[vals_append _ _ _ _ X,<-hm];exact C,fun i D=>?_,fun i D=>?_,fun i D k v=>?_,fun i j Z M=>?_,fun k v=>?_⟩
 ·have H:i<=d.length:=by simp at D;omega
  rw[ds_append_at _ _ _ (by omega),css_append_at _ _ _ H]
  by_cases e:i=d.length
  ·rw[if_pos (by omega),if_pos e,<-hm]
   exact K.other (by have:=f.size;simp at this;omega) (fun k W h2 h3=>r k W (fun j M=>by have:=(l j M).2;omega))
  ·rw[if_neg (by omega),if_neg e]
   refine((b.item i (by omega)).below F).other (by have:=f.size;simp at this;omega) (fun k W h2 h3=>r k W (fun j M=>?_));have:=b.away i (by omega) j M
   omega
 ·have H:i<=d.length:=by simp at D;omega
  rw[ds_append_at _ _ _ (by omega)]
  have Y:w.heap.size<=A.heap.size:=by have:=f.size;simp at this;omega
  by_cases e:i=d.length
  ·rw[if_pos (by omega)];exact⟨P,Y⟩
  ·rw[if_neg (by omega)]
   have:=b.low i (by omega);exact⟨this.1,by omega⟩
 ·have H:i<=d.length:=by simp at D;omega
  have J:k=g:=(Option.some.inj v).symm;subst J;rw[ds_append_at _ _ _ (by omega)]
  by_cases e:i=d.length
  ·rw[if_pos (by omega)];exact h4
  ·rw[if_neg (by omega)]
   rcases L with h' | h'
   ·exact b.away i (by omega) _ h'
   ·right
    have:=(b.low i (by omega)).2
    have V:(w.alloc (.cells #[.slice q m G] 25)).heap.size=w.heap.size+1:=by simp
    rw[h',V];omega
 ·have e1:j<=d.length:=by simp at M;omega
  rw[ds_append_at _ _ _ (by omega),ds_append_at _ _ _ (by omega),if_neg (by omega)]
  by_cases e:j=d.length
  ·rw[if_pos (by omega)]
   exact(b.low i (by omega)).2
  ·rw[if_neg (by omega)]
   exact b.apart i j Z (by omega)
 ·have J:k=g:=(Option.some.inj v).symm
  omega
theorem conv_dot (w:World):(convert 23 23 (.slice (some ⟨w.heap.size,0,none⟩) 1 1)).run Tryz.prog (w.alloc (.cells #[.int .u8 46] 5)) = .ok (.slice (some ⟨w.heap.size,0,none⟩) 1 1) (w.alloc (.cells #[.int .u8 46] 5 (1,2))):=
 Lib.run_convert_bytes_const (P:=Tryz.prog) w 23 5 #[.int .u8 46] 1 1 Tryz.underlying23 Tryz.underlying5
theorem dot_text (w:World):OwnT (w.alloc (.cells #[.int .u8 46] 5 (1,2))) w.heap.size (some ⟨w.heap.size,0,none⟩) 1 1 [46]:=⟨rfl,fun _=>⟨w.heap.size,rfl,Nat.le_refl _,by simp,fun i b=>by
 have a:i=0:=by omega
 subst a;refine⟨cell_of_row _ _ 0 _ _ _ (heap_alloc_new _ _),?_⟩;simp only[World.frozen?,heap_alloc_new]
 simp⟩⟩
def mkL (css:List (List Cel)):List Cel:=css.flatMap (fun cs=>dot :: cs)
theorem mkL_take (a:List (List Cel))(j:Nat)(h:j<a.length):mkL (a.take (j+1))=mkL (a.take j) ++ [dot] ++ a.getD j []:=by
 rw[mkL,List.take_succ_eq_append_getElem h,List.flatMap_append,List.getD,List.getElem?_eq_getElem h]
 simp[mkL]
theorem l2listE_any (a:List (List Cel))(Q:List Cel)(p q:Option Addr)(n c le cq:Nat)(w:World)(h4:le=Q.length)(N:0<le)(R:le+tl Q<=1000000)(hn:n=a.length)(hl:n<=2000)(X:∀ i,i<a.length->0<(a.getD i []).length)(hb:a.length+tll a<=1048576)(k8:(mkL a).length<=1000000)(U:CCIn w p a)(D:CIn w q Q) :
  Calls Tryz.prog 177 #[.slice p n c,.slice q le cq] w fun e w'=>∃ r m z,e = .returned (.slice r m z)/\OwnC w' w.heap.size r m z (mkL a ++ Q)/\Below w.heap.size w w':=by
 have HI:=hid U;have HE:=hid D;have G:=hid h4;have e2:=hid R
 have k5:le<=1000000:=by omega
 have HN:=hid hn;have h8:Hid _:=X;have x2:=conv_dot;clear U D hn X h4 R
 go_enter Tryz.func177,Tryz.ntmps177
 go_wp2_with fail
 go_loopw [5,6] (fun s i wr=>∃ (j:Nat) (r:Option Addr) (m z:Nat),j<=n/\m<=1000000/\i = .int .i64 j/\s = .slice r m z/\Hid (OwnC wr w.heap.size r m z (mkL (a.take j)))/\Hid (Below w.heap.size w wr)) (fun _ i _=>n-(intOf i).toNat)
 case atStart=>exact⟨0,none,0,0,Nat.zero_le _,by decide,rfl,rfl,OwnC.nil _ _,Below.refl _ _⟩
 case round=>
  obtain⟨j,r,m,z,hj,hm,rfl,rfl,HO,HB⟩:=hrel;have F:w.heap.size<=wr.heap.size:=HB.o.size
  by_cases k1:j<n
  ·have y:j<a.length:=by rw[<-HN.o];exact k1
   have h6:Below wr.heap.size wr (wr.alloc (.cells #[.int .u8 46] 5 (1,2))):=(Below.refl _ _).alloc (Nat.le_refl _) _;have h3:=hid (dot_text wr);obtain⟨b,o,rfl,C⟩:=HI.o (by omega);obtain⟨qi,ci,x0,x1⟩:=C j y;have h9:=hid x1;have e4:=tll_at a j y;have h5:=h8.o j y
   obtain⟨K,J⟩:∃ K,K=(a.getD j []).length:=⟨_,rfl⟩
   have Z:=hid J
   have x3:0<K:=by omega
   have k4:K<=1048576:=by omega
   rw[<-J] at x0;have X0:=hid x0
   have k2:Hid ((a.getD j []).length+tl (a.getD j [])<=1048576):=by show _<=_;omega
   have e3:Hid _:=mkL_take a j y
   have e9:Hid ((mkL (a.take (j+1))).length<=1000000):=by
    have h1:mkL a=mkL (a.take (j+1)) ++ mkL (a.drop (j+1)):=by rw[mkL,mkL,mkL,<-List.flatMap_append,List.take_append_drop]
    have h2:=congrArg List.length h1;rw[List.length_append] at h2
    show _<=_
    omega
   clear C x1 e4 h5 J x0;have h:Below (wr.alloc (.cells #[.int .u8 46] 5 (1,2))).heap.size (wr.alloc (.cells #[.int .u8 46] 5 (1,2))) ((wr.alloc (.cells #[.int .u8 46] 5 (1,2))).alloc (Obj.cells #[Value.int IntKind.i64 3,Value.int IntKind.i64 2,Value.slice (some ⟨wr.heap.size,0,none⟩) 1 1] 102)):=(Below.refl _ _).alloc (Nat.le_refl _) _;have Y:=hid (Below.on h6 h);have e6:=hid (h3.o.below h)
   have x:=heap_alloc_new (wr.alloc (.cells #[.int .u8 46] 5 (1,2))) (Obj.cells #[Value.int IntKind.i64 3,Value.int IntKind.i64 2,Value.slice (some ⟨wr.heap.size,0,none⟩) 1 1] 102)
   have P:(wr.alloc (.cells #[.int .u8 46] 5 (1,2))).heap.size=wr.heap.size+1:=by simp
   rw[P] at x;have e7:=hid (Box3.of_block (t:=102) x);clear h6 h x P h3;go_wp2_with (at_builtin;refine app_cell wr _ rfl _ _ rfl w.heap.size r m z _ rfl HO.o Y.o F ⟨wr.heap.size+1,0,none⟩ 1 rfl 3 2 (some ⟨wr.heap.size,0,none⟩) 1 1 [46] e6.o (news_rc e7.o) (by omega) ?_;intro g1 n1 M w2 g W V;have A:Below w.heap.size w w2:=(HB.o.trans (Y.o.mono F)).trans W;have y0:=(A.cell (World.block_lt_of_cell? _ _ X0.o)).trans X0.o);have h7:=hid A;have e8:=hid g
   have k9:=hid V.o
   have k7:n1<=1000001:=by have:=V.o;omega
   have l:=l2copy_any qi K ci (a.getD j []) w2 Z.o (by have:=k2.o;omega) (h9.o.below A);clear g W A;refine l.mono ?_;rintro e w3 ⟨q3,E,c3,rfl,f,k⟩;have I:=hid f;have v:=hid k
   have S:Hid (E=K):=by show _=_;rw[f.1,Z.o]
   have H:0<E:=by have:=S.o;omega
   have k6:E<=1048576:=by have:=S.o;omega
   have L:w.heap.size<=w2.heap.size:=h7.o.size;clear f k l;go_wp2_with (at_builtin;refine app_cells w2 w3 rfl _ _ rfl w.heap.size (some ⟨g1,0,none⟩) n1 M _ rfl e8.o v.o L q3 E c3 _ rfl I.o H (by omega) ?_;intro g4 n4 u w4 d B e5)
   have O:Hid (OwnC w4 w.heap.size (some ⟨g4,0,none⟩) n4 u (mkL (a.take (j+1)))):=by rw[e3.o];exact d
   have k3:Hid (Below w.heap.size w w4):=(Below.on h7.o v.o).trans B
   have T:n4<=1000000:=by rw[O.o.1];exact e9.o
   clear d B;go_roundw
   case rel=>exact⟨j+1,_,n4,u,by omega,T,by go_num,rfl,O,k3⟩
   case measure=>simp[intOf];omega
  ·obtain rfl:j=n:=by omega
   have l:=l2copy_any q le cq Q wr G.o (by have:=e2.o;have:=G.o;omega) (HE.o.below HB.o)
   have e1:Hid (OwnC wr w.heap.size r m z (mkL a)):=by have:=HO.o;rwa[List.take_of_length_le (by rw[<-HN.o];exact Nat.le_refl _)] at this
   go_wp2_with fail;refine l.mono ?_;rintro e w3 ⟨q3,E,c3,rfl,f,k⟩;have I:=hid f;have v:=hid k
   have H:E=le:=by rw[f.1,G.o]
   subst H;clear f k l;go_wp2_with (at_builtin;refine app_cells wr w3 rfl _ _ rfl w.heap.size r m z _ rfl e1.o v.o F q3 E c3 _ rfl I.o N (by omega) ?_;intro g4 n4 u w4 d B e5);go_ret;exact⟨_,_,_,rfl,d,(Below.on HB.o v.o).trans B⟩
end
section
open Go Go.RowKit Go.Shelf
attribute [local go_sem] Oper.semAt_some
def upto {α:Type}(f:Nat->α)(k:Nat):List α:=(List.range k).map f
theorem upto_succ {a:Type}(f:Nat->a)(k:Nat):upto f (k+1)=upto f k ++ [f k]:=by simp[upto,List.range_succ]
theorem upto_length {a:Type}(f:Nat->a)(k:Nat):(upto f k).length=k:=by simp[upto]
abbrev Itm:Type:=Nat×Nat×Value
def bkAt (zs:List (Nat×Value))(n j:Nat):Itm:=(n-1-j,(zs[n-1-j]?.getD (0,.nilIface)).1,(zs[n-1-j]?.getD (0,.nilIface)).2)
def BKeep (n₀ Bs:Nat)(A B:World):Prop:=Below n₀ A B/\∀ v,A.cell? ⟨Bs,0,none⟩=some v->B.cell? ⟨Bs,0,none⟩=some v
theorem BKeep.refl (a b:Nat)(A:World):BKeep a b A A:=⟨Below.refl _ _,fun _ h=>h⟩
theorem BKeep.trans {a b:Nat}{A B C:World}(h:BKeep a b A B)(k:BKeep a b B C):BKeep a b A C:=⟨h.1.trans k.1,fun v c=>k.2 v (h.2 v c)⟩
theorem back_in (F:Fence)(n:Nat)(g:F.fn 153)(d:F.round=none)(a:Option Addr)(b c:Nat)(w:World) :
  CallsIn F n Tryz.prog 153 #[.slice a b c] w fun e f=>e = .returned (.func (.func 194) #[] #[.pointer (some ⟨w.heap.size,0,none⟩)])/\f=w.alloc (.cells #[.slice a b c] 119):=by
 refine callsIn_of_wp Tryz.func153 rfl g ?_ d;simp only[Tryz.ntmps153,List.size_toArray,List.length_cons,List.length_nil,Nat.reduceAdd,Nat.reduceSub,Array.replicate_succ,Array.replicate_zero,List.push_toArray,List.append_toArray,List.nil_append,List.cons_append]
 gi_wp2
 go_ret;exact⟨rfl,rfl⟩
theorem bKeep_b {a f:Nat}{w:World}(d:a<=w.heap.size)(W:World)(l:Nat)(o b:Obj)(j:w.heap.size<=l)(h:W.heap[l]?=some o)(c:o.isCells=false)(g:o.isWalk=false):BKeep a f W (W.putObj l b):=
 ⟨belowK_b d W l o b j h c g,fun v i=>cell_kept i (grownBy_putObj' W l b) (fun r e=>by cases e;exact⟨_,h,c⟩)⟩
end
section
open Go Go.RowKit
theorem heldCells_any (p:Option Addr)(n c:Nat)(k:Int)(d:List Cel)(w:World)(Q:0<=k)(V:k<=10000000)(U:d.length+tl d<=100000000)(F:n=d.length)(l:CIn w p (markC k d)) :
  Calls Tryz.prog 40 #[.slice p n c,.int .i64 k] w fun e N=>e = .returned (.int .i64 (endC k d))/\N=w:=by
 have C:=hid l;have m:=hid F;clear l
 have L:n<=100000000:=by omega
 clear F
 go_enter Tryz.func40,Tryz.ntmps40
 go_wp2_with fail
 go_loop [1,5] (fun q i=>∃ (j:Nat) (g:Int),j<=n/\0<=g/\g<=1000000000/\i = .int .i64 j/\q = .int .i64 g/\Hid (g=kAt k d j)) (fun _ i=>n-(intOf i).toNat)
 case atStart=>exact⟨0,k,Nat.zero_le _,Q,by omega,rfl,rfl,(kAt_zero _ _).symm⟩
 case round=>
  obtain⟨j,g,T,K,O,rfl,rfl,v⟩:=hrel
  by_cases y:j<n
  ·have f:j<d.length:=by rw[<-m.o];exact y
   obtain⟨b,o,rfl,h⟩:=C.o (by rw[markC,mixC_len];omega);obtain⟨q,R,D,I,A,s⟩:=h j (by rw[markC,mixC_len];exact f)
   have G:(markC k d).getD j Cel.none=markedC k d j:=by rw[markC,mixC_at _ _ _ _ f,if_pos f]
   rw[G] at D I A s;simp only[markedC,<-v.o,marks_len] at D I A s;have z:=tl_at d j f;have t:Hid _:=kAt_succ k d j f
   have a:kAt k d (j+1)<=1000000000:=by have:=tl_take_le d (j+1);simp only[kAt];omega
   have B:Hid _:=a
   obtain⟨u,r⟩:∃ x,x=(d.getD j Cel.none).2.2.length:=⟨_,rfl⟩
   rw[<-r] at A s t
   have M:u<=100000000:=by omega
   have H:¬ (g+1+1+(u:Int)<0):=by omega
   have J:=held_any q u R (g+1+1) w (by omega) (by omega) (by omega) s;clear r h G z C a s;go_wp2_with fail;refine J.mono ?_;rintro e W ⟨rfl,rfl⟩;go_wp2_with fail;have E:=t.o;have S:=v.o;have P:=B.o
   go_round
   case rel=>exact⟨j+1,g+1+1+u,by omega,by omega,by rw[E] at P;omega,by go_num,rfl,by show _=_;rw[E];omega⟩
   case measure=>simp[intOf];omega
  ·obtain rfl:j=n:=by omega
   clear C;go_wp2_with fail;go_ret;exact⟨ret_int (by rw[v.o,m.o];rfl),rfl⟩
end
section
open Go Go.RowKit Go.Maps
def Fo.map (f:Cel->Cel):Fo->Fo
 | .nil=>.nil
 | .node c k r=>.node (f c) (k.map f) (r.map f)
theorem FoIn.kept {w i:World}{B g:Nat}{F:Fo}{c:List Value}(h:FoIn w B F c)(f:w.grownBy i (some g))(j:g<B):FoIn i B F c:=
 FoIn.imp (Nat.le_refl _) (fun b o k d=>World.cell?_of_block (w:=w) (a:=⟨b,o,none⟩) (f.block b d (fun e=>by have:=Option.some.inj e;omega))) f.size F c h
end
section
end
section
open Go Go.RowKit Go.Maps
def ups (k:Int)(n:Nat):List Int:=(List.range n).map fun (i:Nat)=>k+(i:Int)
end
section
open Go Go.RowKit
theorem one_iface (t:TypeId)(x:Value):∀ u ∈ [Value.iface t x],u.oneCell'=true:=fun u a=>by simp at a;rw[a];rfl
theorem FoIn.at_ {w:World}{B:Nat} : ∀ (b:List (Cel×Fo)) (c:List Value),FoIn w B (itsF b) c->∀ i (h:i<b.length),∃ t x,c[i]?=some (.iface t x)/\FoIn w B (.node b[i].1 b[i].2 .nil) [.iface t x]
 | [],c,_,i,h=>by simp at h
 | a :: r,c,⟨v,vr,e,hn,hr⟩,0,_=>by
   obtain⟨t,x,rfl⟩:=hn.iface;exact⟨t,x,by rw[e];rfl,_,[],rfl,hn,rfl⟩
 | a :: r,c,⟨v,vr,e,hn,hr⟩,i+1,h=>by
   obtain⟨t,x,f,d⟩:=FoIn.at_ r vr hr i (by simpa using h);exact⟨t,x,by rw[e];simpa using f,by simpa using d⟩
end
section
open Go Go.RowKit Go.Shelf
attribute [local go_sem] Oper.semAt_some
def strike (W:World)(X:Nat):World:=W.putObj X (.deferred none)
theorem strike_size (W:World)(X:Nat):(strike W X).heap.size=W.heap.size:=World.putObj_size
theorem strike_cell {W:World}{X:Nat}(a:X<W.heap.size){p:Addr}{v:Value}(h:(strike W X).cell? p=some v):p.block≠X/\W.cell? p=some v:=by
 by_cases e:p.block=X
 ·exfalso
  subst e;simp only[strike,World.cell?,World.putObj_heap_same a] at h
  cases h
 ·refine⟨e,?_⟩
  simpa only[strike,World.cell?,World.putObj_heap_other e] using h
theorem strike_of {W:World}{X:Nat}{p:Addr}{v:Value}(e:p.block≠X)(h:W.cell? p=some v):(strike W X).cell? p=some v:=by
 simpa only[strike,World.cell?,World.putObj_heap_other e] using h
def rndW (w W:World)(x:Itm)(t:Nat)(u:Value):World:=
 ((W.alloc (.cells #[.iface x.2.1 x.2.2,.iface t u] 65)).alloc (.cells #[.string ⟨#[46]⟩,.slice (some ⟨W.heap.size,0,none⟩) 2 2] 162)).setCell ⟨w.heap.size,0,none⟩ (.iface 159 (.pointer (some ⟨W.heap.size+1,0,none⟩)))
theorem rndW_size (w W:World)(x:Itm)(t:Nat)(u:Value):W.heap.size<=(rndW w W x t u).heap.size:=by
 have:=(grownBy_setCell' ((W.alloc (.cells #[.iface x.2.1 x.2.2,.iface t u] 65)).alloc (.cells #[.string ⟨#[46]⟩,.slice (some ⟨W.heap.size,0,none⟩) 2 2] 162)) w.heap.size (.iface 159 (.pointer (some ⟨W.heap.size+1,0,none⟩)))).size;simp only[World.size_alloc] at this
 show _<=_
 simp only[rndW]
 omega
theorem rndW_heap (w W:World)(x:Itm)(t:Nat)(u:Value)(k:Nat)(b:k<W.heap.size+2)(a:k≠w.heap.size):(rndW w W x t u).heap[k]?=((W.alloc (.cells #[.iface x.2.1 x.2.2,.iface t u] 65)).alloc (.cells #[.string ⟨#[46]⟩,.slice (some ⟨W.heap.size,0,none⟩) 2 2] 162)).heap[k]?:=
 (grownBy_setCell' _ w.heap.size _).block k (by simp only[World.size_alloc];omega) (fun e=>a (Option.some.inj e))
theorem rndW_cell {w W:World}(x:Itm)(t:Nat)(u:Value){p:Addr}{v:Value}(a:p.block≠w.heap.size)(h:W.cell? p=some v):(rndW w W x t u).cell? p=some v:=by
 have b:=World.block_lt_of_cell? _ _ h;refine(World.cell?_of_block (rndW_heap w W x t u p.block (by omega) a)).trans ?_;rw[World.cell?_alloc_some _ _ _ (by rw[World.cell?_alloc_some _ _ _ (by rw[h];rfl),h];rfl),World.cell?_alloc_some _ _ _ (by rw[h];rfl),h]
theorem bKeep_step {w W:World}{t:Nat}{u:Value}(a:Below w.heap.size w W)(b:Boxed W w.heap.size 65 (.iface t u))(x:Itm) :
  KeepsOthers W (rndW w W x t u)/\BKeep w.heap.size (w.heap.size+1) W (rndW w W x t u):=by
 refine⟨((KeepsOthers.alloc W _).trans ((KeepsOthers.alloc _ _).trans (KeepsOthers.setCell _ _ _))),⟨?_,fun v c=>rndW_cell x t u (by simp) c⟩⟩;refine(((Below.refl w.heap.size W).alloc a.size _).alloc (by have:=a.size;simp;omega) _).setCell (p:=⟨w.heap.size,0,none⟩) (Nat.le_refl _) _
attribute [local go_sem] Oper.semAt_some
theorem back1H_in (F:Fence)(n:Nat)(P:F.fn 194)(w:F.round=none)(X:1<=n)(l s f b a B:Nat)(c:List (Nat×Value))(H:a<=1000000)(R:b<f)(J O:List Itm->World->Prop)
  (Q:∀ d x W,J d W->d.length<a->YieldAt F (n-1) Tryz.prog l #[.int .i64 (x.1:Int),.iface x.2.1 x.2.2] W fun e h=>
    (e = .returned (.bool true)/\J (d ++ [x]) h/\BKeep f s W h)∨(e = .returned (.bool false)/\O (d ++ [x]) h))
  (W:World) (A:W.cell? ⟨s,0,none⟩=some (.slice (some ⟨b,0,none⟩) a B)) (U:∀ j,j<a->W.cell? ⟨b,j,none⟩=some (.iface (c[j]?.getD (0,.nilIface)).1 (c[j]?.getD (0,.nilIface)).2)) (T:J [] W) :
  CallsIn F n Tryz.prog 194 #[.func (.yield l) #[] #[],.pointer (some ⟨s,0,none⟩)] W fun e h=>(∃ v,e = .returned v)/\
   ((∃ N,N=upto (bkAt c a) a/\J N h)∨(∃ d,True/\O d h)):=by
 refine callsIn_of_wp Tryz.func194 rfl P ?_ w;simp only[Tryz.ntmps194,List.size_toArray,List.length_cons,List.length_nil,Nat.reduceAdd,Nat.reduceSub,Array.replicate_succ,Array.replicate_zero,List.push_toArray,List.append_toArray,List.nil_append,List.cons_append]
 gi_wp2
 gi_loopw [3] (fun i wr=>∃ m:Nat,m<=a/\i = .int .i64 ((m:Int)-1)/\J (upto (bkAt c a) (a-m)) wr/\BKeep f s W wr)
  (fun i _=>(intOf i+1).toNat)
 case atStart=>exact⟨a,Nat.le_refl _,by go_num,by rw[Nat.sub_self];exact T,BKeep.refl _ _ _⟩
 case round=>
  obtain⟨m,Y,rfl,r,g⟩:=hrel;have M:=g.2 _ A
  cases m with
  | zero=>
    gi_wp2
    go_end0
    exact⟨⟨_,rfl⟩,.inl ⟨_,rfl,r⟩⟩
  | succ m=>
    have z:=(g.1.cell (p:=⟨b,m,none⟩) R).trans (U m (by omega))
    have K:((m+1:Nat):Int)-1=(m:Int):=by omega
    have C:a-1-(a-(m+1))=m:=by omega
    have G:bkAt c a (a-(m+1))=(m,(c[m]?.getD (0,.nilIface)).1,(c[m]?.getD (0,.nilIface)).2):=by simp only[bkAt,C]
    have E:upto (bkAt c a) (a-(m+1)) ++ [(m,(c[m]?.getD (0,.nilIface)).1,(c[m]?.getD (0,.nilIface)).2)]=upto (bkAt c a) (a-m):=by
     rw[<-G,<-upto_succ]
     congr 1;omega
    obtain⟨Z,tmps,assign,body,I,t⟩:=Q _ (m,(c[m]?.getD (0,.nilIface)).1,(c[m]?.getD (0,.nilIface)).2) wr r (by rw[upto_length];omega)
    dsimp only at I
    rw[E] at t;rw[K]
    obtain⟨D,q⟩:∃ D,D=(c[m]?.getD (0,.nilIface)).1:=⟨_,rfl⟩
    obtain⟨L,k⟩:∃ L,L=(c[m]?.getD (0,.nilIface)).2:=⟨_,rfl⟩
    rw[<-q,<-k] at I z;have S:Hid _:=t;clear K C G E q k
    gi_wp2
    refine t.mono ?_;rintro e V (⟨rfl,u,y⟩ | ⟨rfl,o⟩)
    ·gi_wp2
     go_roundw
     case rel=>exact⟨m,by omega,by go_num,u,g.trans y⟩
     case measure=>simp[intOf]
    ·gi_wp2
     refine bodyPost_ret (results_none rfl _ _ _) rfl ?_;exact⟨⟨_,rfl⟩,.inr ⟨_,trivial,o⟩⟩
theorem back10H_in (F:Fence)(n:Nat)(z:F.fn 194)(k:F.round=none)(D:1<=n)(l h d b a r:Nat)(g:List (Nat×Value))(A:Option Addr)(y:¬ 0<a)(s:a<=1000000)(G:b<d)(J w:List Itm->World->Prop)
  (E:∀ c x W,J c W->c.length<a->YieldAt F (n-1) Tryz.prog l #[.int .i64 (x.1:Int),.iface x.2.1 x.2.2] W fun e f=>
    (e = .returned (.bool true)/\J (c ++ [x]) f/\BKeep d h W f)∨(e = .returned (.bool false)/\w (c ++ [x]) f))
  (W:World) (p:W.cell? ⟨h,0,none⟩=some (.slice A a r)) (H:∀ j,j<a->W.cell? ⟨b,j,none⟩=some (.iface (g[j]?.getD (0,.nilIface)).1 (g[j]?.getD (0,.nilIface)).2)) (B:J [] W) :
  CallsIn F n Tryz.prog 194 #[.func (.yield l) #[] #[],.pointer (some ⟨h,0,none⟩)] W fun e f=>(∃ v,e = .returned v)/\
   ((∃ u,u=upto (bkAt g a) a/\J u f)∨(∃ c,True/\w c f)):=by
 refine callsIn_of_wp Tryz.func194 rfl z ?_ k;simp only[Tryz.ntmps194,List.size_toArray,List.length_cons,List.length_nil,Nat.reduceAdd,Nat.reduceSub,Array.replicate_succ,Array.replicate_zero,List.push_toArray,List.append_toArray,List.nil_append,List.cons_append]
 gi_wp2
 gi_loopw [3] (fun i wr=>∃ m:Nat,m<=a/\i = .int .i64 ((m:Int)-1)/\J (upto (bkAt g a) (a-m)) wr/\BKeep d h W wr)
  (fun i _=>(intOf i+1).toNat)
 case atStart=>exact⟨a,Nat.le_refl _,by go_num,by rw[Nat.sub_self];exact B,BKeep.refl _ _ _⟩
 case round=>
  obtain⟨m,C,rfl,o,q⟩:=hrel;have t:=q.2 _ p
  cases m with
  | zero=>
    gi_wp2
    go_end0
    exact⟨⟨_,rfl⟩,.inl ⟨_,rfl,o⟩⟩
  | succ m=>exact absurd C (by omega)
theorem back1GH_in (F:Fence)(n:Nat)(s:F.fn 194)(i:F.round=none)(t:1<=n)(l o c b a g:Nat)(k:List (Nat×Value))(r:Option Addr)(q:0<a->r=some ⟨b,0,none⟩)(f:a<=1000000)(w:b<c)(J p:List Itm->World->Prop)
  (u:∀ d x W,J d W->d.length<a->YieldAt F (n-1) Tryz.prog l #[.int .i64 (x.1:Int),.iface x.2.1 x.2.2] W fun e h=>
    (e = .returned (.bool true)/\J (d ++ [x]) h/\BKeep c o W h)∨(e = .returned (.bool false)/\p (d ++ [x]) h))
  (W:World) (m:W.cell? ⟨o,0,none⟩=some (.slice r a g)) (B:∀ j,j<a->W.cell? ⟨b,j,none⟩=some (.iface (k[j]?.getD (0,.nilIface)).1 (k[j]?.getD (0,.nilIface)).2)) (A:J [] W) :
  CallsIn F n Tryz.prog 194 #[.func (.yield l) #[] #[],.pointer (some ⟨o,0,none⟩)] W fun e h=>(∃ v,e = .returned v)/\
   ((∃ z,z=upto (bkAt k a) a/\J z h)∨(∃ d,True/\p d h)):=by
 by_cases y:0<a
 ·obtain rfl:=q y
  exact back1H_in F n s i t l o c b a g k f w J p u W m B A
 ·exact back10H_in F n s i t l o c b a g k r y f w J p u W m B A
theorem back_stopsH (F:Fence)(n:Nat)(s:F.fn 194)(i:F.round=none)(u:1<=n)(d c b a f:Nat)(g:List (Nat×Value))(k:Option Addr)(h:0<a->k=some ⟨b,0,none⟩)(e:a<=1000000)(w:World)(o:d<w.heap.size)(m:c<=w.heap.size)(y:b<c)
  (q:w.cell? ⟨d,0,none⟩=some (.slice k a f)) (B:∀ j,j<a->w.cell? ⟨b,j,none⟩=some (.iface (g[j]?.getD (0,.nilIface)).1 (g[j]?.getD (0,.nilIface)).2)) :
  SeqStopsK F n Tryz.prog 194 #[.pointer (some ⟨d,0,none⟩)] (fun x:Itm=>#[Value.int .i64 (x.1:Int),Value.iface x.2.1 x.2.2]) (BKeep c d) (fun z=>z=upto (bkAt g a) a) (fun _=>True) a w:=fun l J C W r _ _ v A=>by
 exact back1GH_in F n s i u l d c b a f g k h e y J C v W ((r.cell (p:=⟨d,0,none⟩) o).trans q) (fun j t=>(r.cell (p:=⟨b,j,none⟩) (by show b<_;omega)).trans (B j t)) A
def FoCX (W:World)(X B:Nat)(F:Fo)(vs:List Value):Prop:=FoB (strike W X) B F vs
theorem FoCX.imp {W W':World}{X B:Nat}{F:Fo}{a:List Value}(h:FoCX W X B F a)(g:X<W.heap.size)(e:∀ p v,p.block≠X->W.cell? p=some v->W'.cell? p=some v)(f:W.heap.size<=W'.heap.size):FoCX W' X B F a:=
 FoB.imp (Nat.le_refl _) (by rw[strike_size,strike_size];exact f) F a (fun p v _ d=>by obtain⟨b,c⟩:=strike_cell g d;exact strike_of b (e p v b c)) h
theorem FoCX.foC {W:World}{X B:Nat}{F:Fo}{a:List Value}(h:FoCX W X B F a)(c:X<W.heap.size):FoB W B F a:=
 FoB.imp (Nat.le_refl _) (by rw[strike_size];exact Nat.le_refl _) F a (fun p v _ b=>(strike_cell c b).2) h
theorem FoB.foCX {w W:World}{B:Nat}{F:Fo}{a:List Value}(h:FoB w B F a)(c:Below w.heap.size w W):FoCX W w.heap.size B F a:=
 FoB.imp (Nat.le_refl _) (by rw[strike_size];exact c.size) F a (fun p v _ b=>by have d:=World.block_lt_of_cell? _ _ b;exact strike_of (by omega) ((c.cell d).trans b)) h
def LInvE (en:Tr)(w:World)(B:Nat)(ts:List (Cel×Fo))(zs:List (Nat×Value))(pre:List Itm)(W:World):Prop:=
 ∃ t u,Boxed W w.heap.size 65 (.iface t u)/\(pre=upto (bkAt zs ts.length) pre.length->FoCX W w.heap.size B (lstT en (ts.drop (ts.length-pre.length))).fo [.iface t u])
theorem lInvE_own (g:Tr)(w:World)(B:Nat)(f:List (Cel×Fo))(h:List (Nat×Value)):Own (LInvE g w B f h):=fun k A C a ⟨t,u,d,j⟩ b c=>
 ⟨t,u,boxed_own (β:=Unit) _ _ (fun _=>.iface t u) () A C a d b c,fun e=>(j e).imp d.lt (fun p v _ i=>cell_kept i b c) b.size⟩
theorem lInvE_start {g:Tr}{w W:World}{B d:Nat}{f:Value}(b:Below w.heap.size w W)(c:FoB w B g.fo [.iface d f])(a:List (Cel×Fo)):FoCX W w.heap.size B (lstT g (a.drop (a.length-([]:List Itm).length))).fo [.iface d f]:=by
 have e:a.drop (a.length-([]:List Itm).length) = []:=by simp
 rw[e];exact c.foCX b
theorem lInvE_step {m:Tr}{w W:World}{B:Nat}{b:List (Cel×Fo)}{c:List (Nat×Value)}{a:List Itm}{t:Nat}{u:Value}(M:B<=w.heap.size)
  (k:∀ j (h:j<b.length),FoB w B (.node b[j].1 b[j].2 .nil) [.iface (c[j]?.getD (0,.nilIface)).1 (c[j]?.getD (0,.nilIface)).2])
  (f:Below w.heap.size w W) (d:Boxed W w.heap.size 65 (.iface t u)) (K:a=upto (bkAt c b.length) a.length->FoCX W w.heap.size B (lstT m (b.drop (b.length-a.length))).fo [.iface t u]) (D:a.length<b.length) (x:Itm) :
  LInvE m w B b c (a ++ [x]) (rndW w W x t u):=by
 have s:=d.lt;refine⟨_,_,((d.alloc _).alloc _).set _,fun e=>?_⟩;rw[List.length_append,List.length_singleton,upto_succ] at e;obtain⟨I,y⟩:=List.append_inj' e rfl
 have C:x=bkAt c b.length a.length:=by simpa using y
 have o:b.length-1-a.length<b.length:=by omega
 have F:b.drop (b.length-(a ++ [x]).length)=b[b.length-1-a.length] :: b.drop (b.length-a.length):=by
  rw[List.length_append,List.length_singleton,show b.length-(a.length+1)=b.length-1-a.length by omega,List.drop_eq_getElem_cons o]
  congr 2;omega
 rw[F];have J:=K I;have n:=(k _ o).foCX f
 have A:Value.iface x.2.1 x.2.2 = .iface (c[b.length-1-a.length]?.getD (0,.nilIface)).1 (c[b.length-1-a.length]?.getD (0,.nilIface)).2:=by rw[C];rfl
 rw[<-A] at n;have z:=J.imp (W':=rndW w W x t u) s (fun p v l g=>rndW_cell x t u l g) (rndW_size _ _ _ _ _);have E:=n.imp (W':=rndW w W x t u) s (fun p v l g=>rndW_cell x t u l g) (rndW_size _ _ _ _ _)
 have r:(rndW w W x t u).heap[W.heap.size]?=some (.cells #[.iface x.2.1 x.2.2,.iface t u] 65):=by
  rw[rndW_heap w W x t u _ (by omega) (by omega)];exact(Below.heap_alloc _ _ _ (by simp)).trans (World.alloc_heap_new W _)
 have q:(rndW w W x t u).heap[W.heap.size+1]?=some (.cells #[.string ⟨#[46]⟩,.slice (some ⟨W.heap.size,0,none⟩) 2 2] 162):=by
  rw[rndW_heap w W x t u _ (by omega) (by omega)];have:=World.alloc_heap_new (W.alloc (.cells #[.iface x.2.1 x.2.2,.iface t u] 65)) (.cells #[.string ⟨#[46]⟩,.slice (some ⟨W.heap.size,0,none⟩) 2 2] 162)
  rwa[World.size_alloc] at this
 obtain⟨N,O,L,G,P⟩:=E;obtain⟨rfl,rfl⟩:=List.cons.inj L;refine⟨_,[],rfl,.inr (.inr (.inr ⟨rfl,W.heap.size+1,W.heap.size,2,[.iface x.2.1 x.2.2,.iface t u],rfl,by omega,by omega,strike_of (by simp;omega) (by simp[World.cell?,q];rfl),strike_of (by simp;omega) (by simp[World.cell?,q]),?_,fun i H=>?_,⟨_,_,rfl,G,z⟩⟩)),rfl⟩
 ·rw[strike_size]
  exact(Array.getElem?_eq_some_iff.1 r).1
 ·refine strike_of (by simp;omega) ?_
  simp only[World.cell?,r]
  match i,H with
  | 0,_=>rfl
  | 1,_=>rfl
theorem listE_in (F:Fence)(n:Nat)(h3:F.fn 104)(h5:F.fn 153)(U:F.fn 194)(k:F.round=none)(hn:3<=n)
  (a:List (Cel×Fo)) (y:List (Nat×Value)) (b i B:Nat) (m:Option Addr) (M:0<a.length->m=some ⟨b,0,none⟩) (G:Tr) (A:Nat) (s:Value) (w:World) (N:FoB w B G.fo [.iface A s]) (E:a.length<=1000000) (Y:b<w.heap.size) (hB:B<=w.heap.size)
  (hc:∀ j,j<a.length->w.cell? ⟨b,j,none⟩=some (.iface (y[j]?.getD (0,.nilIface)).1 (y[j]?.getD (0,.nilIface)).2))
  (O:∀ j (h:j<a.length),FoB w B (.node a[j].1 a[j].2 .nil) [.iface (y[j]?.getD (0,.nilIface)).1 (y[j]?.getD (0,.nilIface)).2]) :
  CallsIn F n Tryz.prog 104 #[.slice m a.length i,.iface A s] w fun e P=>∃ v,e = .returned v/\FoB P B (lstT G a).fo [v]/\Below w.heap.size w P:=by
 have h1:1<=n:=by omega
 refine callsIn_of_wp_marks Tryz.func104 rfl h3 ?_ k;simp only[Tryz.ntmps104,List.size_toArray,List.length_cons,List.length_nil,Nat.reduceAdd,Nat.reduceSub,Array.replicate_succ,Array.replicate_zero,List.push_toArray,List.append_toArray,List.nil_append,List.cons_append]
 gi_wp2_with (gi_at_call 153;refine(back_in F (n-1) h5 k _ _ _ _).mono ?_;rintro e P ⟨rfl,rfl⟩)
 have Q:=Boxed.new w 65 (.iface A s);have bL:=Q.alloc (.cells #[.slice m a.length i] 119);have V:=Boxed.new (w.alloc (.cells #[.iface A s] 65)) 119 (.slice m a.length i);rw[World.size_alloc] at V;have q:Below w.heap.size w ((w.alloc (.cells #[.iface A s] 65)).alloc (.cells #[.slice m a.length i] 119)):=((Below.refl _ w).alloc (Nat.le_refl _) _).alloc (by simp) _;refine wpIn_rangeFunc_ownG k h1 (gf:=194) (lb:=#[.pointer (some ⟨w.heap.size+1,0,none⟩)]) rfl U (enters_of Tryz.func194 (by kernel_rfl) rfl)
  (back_stopsH F (n-1) U k (by omega) (w.heap.size+1) w.heap.size b a.length i y m M E _ (by simp) (by simp;omega) Y V.cell (fun j hj=>(q.cell (p:=⟨b,j,none⟩) Y).trans (hc j hj))) BKeep.trans (bKeep_b (by simp;omega)) (Below.refl _ _) (fun _=>rfl)
  (fun z W=>LInvE G w B a y z W/\Below w.heap.size w W)
  (fun _ _ _=>False)
  (OwnFrom.and (Own.from (lInvE_own G w B a y) _) (ownFrom_below (Nat.le_refl _) (by simp;omega)))
  (fun _ _ _ _ _ hs _ _=>hs)
  ⟨⟨_,_,bL,fun _=>lInvE_start q N a⟩,q⟩
  (fun x=>{ tmps:=#[.slice m a.length i,.iface A s,undef,undef,.nilIface,.pointer (some ⟨w.heap.size,0,none⟩),undef,.iface x.2.1 x.2.2,.iface A s,.slice m a.length i,.func (.func 194) #[] #[.pointer (some ⟨w.heap.size+1,0,none⟩)],.int .i64 (x.1:Int),.iface x.2.1 x.2.2,undef,undef,undef,undef,undef,undef,undef],defers:=[] }) ?assign ?body ?done ?stop
 case assign=>
  intro l x W K H
  gi_wp2
  exact H
 case body=>
  rintro l z x W ⟨⟨t,u,d,I⟩,g⟩ L;have R:=d.cell;have h2:=d.frozen;have Z:=(d.alloc (.cells #[.iface x.2.1 x.2.2,.iface t u] 65)).alloc (.cells #[.string ⟨#[46]⟩,.slice (some ⟨W.heap.size,0,none⟩) 2 2] 162);have T:=Z.cell;have X:=Z.frozen;have C:Hid _:=lInvE_step hB O g d I L x;have J:Hid _:=bKeep_step g d x;have HL:Hid _:=g;clear I
  gi_wp2
  exact⟨J.o.1.from _,J.o.2,C.o,HL.o.trans J.o.2.1⟩
 case done=>
  rintro D ys W hD rfl ⟨⟨t,u,d,I⟩,g⟩ H;have R:=d.cell
  have S:Hid (FoB W B (lstT G a).fo [.iface t u]):=by
   have:=(I (by rw[upto_length])).foC d.lt
   rwa[upto_length,Nat.sub_self,List.drop_zero] at this
  clear I
  gi_wp2
  refine⟨by simp,.inl ⟨_,_,rfl,run_takeDeferred H,?_⟩⟩;refine⟨.iface t u,by simp[results,Tryz.f104,go_sem],_,rfl,FoB.imp (Nat.le_refl _) (by simp) _ _ (fun p v _ hp=>cell_kept hp (grownBy_putObj' _ D (.deferred none)) (fun r e=>by cases e;exact⟨_,H,rfl⟩)) S.o,g.trans (belowK_b (w:=w) (Nat.le_refl _) W D _ _ (by simp at hD;omega) H rfl rfl)⟩
 case stop=>
  rintro D c z W _ _ h _;exact h.elim
theorem listOfC_any (a:List (Cel×Fo))(d:List (Nat×Value))(b f B:Nat)(m:Option Addr)(g:0<a.length->m=some ⟨b,0,none⟩)(k:Tr)(o:Nat)(i:Value)(w:World)(l:FoB w B k.fo [.iface o i])(c:a.length<=1000000)(r:b<w.heap.size)(q:B<=w.heap.size)
  (s:∀ j,j<a.length->w.cell? ⟨b,j,none⟩=some (.iface (d[j]?.getD (0,.nilIface)).1 (d[j]?.getD (0,.nilIface)).2))
  (n:∀ j (h:j<a.length),FoB w B (.node a[j].1 a[j].2 .nil) [.iface (d[j]?.getD (0,.nilIface)).1 (d[j]?.getD (0,.nilIface)).2]) :
  Calls Tryz.prog 104 #[.slice m a.length f,.iface o i] w fun e p=>∃ v,e = .returned v/\FoB p B (lstT k a).fo [v]/\Below w.heap.size w p:=
 callsIn_wide.1 (listE_in Fence.wide 3 trivial trivial trivial rfl (Nat.le_refl _) a d b f B m g k o i w l c r q s n)
end
end Go.Proofs.YtlkhmmoimplokaaGreatDoor
