/- Texts of MdE, MdP, MdG, RdT. Own work of the verifier. -/
import Derived.Test.YtlkhmmoimplokaaGreatDoorUqbl
import Derived.Test.YtlkhmmoimplokaaGreatDoorUqbe
namespace Go.Proofs.YtlkhmmoimplokaaGreatDoor
set_option maxHeartbeats 2000000
set_option linter.unusedVariables false
set_option linter.unusedSimpArgs false
set_option maxRecDepth 100000
section
open Go Go.RowKit
theorem leafM (w:World)(k n:Int):OwnC (w.alloc (Obj.cells #[Value.int IntKind.i64 k,Value.int IntKind.i64 n,Value.slice none 0 0] 102)) w.heap.size (some ⟨w.heap.size,0,none⟩) 1 1 [(k,n,[])]:=
 own_one (heap_alloc_new w _) (Nat.le_refl _) ⟨rfl,fun h=>absurd h (by decide)⟩ (fun a h=>by cases h)
theorem l2varM_any (n:Int)(w:World):Calls Tryz.prog 176 #[.int .i64 n] w fun e a=>e = .returned (.slice (some ⟨w.heap.size,0,none⟩) 1 1)/\OwnC a w.heap.size (some ⟨w.heap.size,0,none⟩) 1 1 [(0,n,[])]/\Below w.heap.size w a:=by
 have c:Hid _:=leafM w 0 n
 go_enter Tryz.func176,Tryz.ntmps176
 go_wp2_with fail;go_ret;exact⟨rfl,c.o,(Below.refl _ _).alloc (Nat.le_refl _) _⟩
theorem l2numM_any (n:Int)(w:World):Calls Tryz.prog 140 #[.int .i64 n] w fun e a=>e = .returned (.slice (some ⟨w.heap.size,0,none⟩) 1 1)/\OwnC a w.heap.size (some ⟨w.heap.size,0,none⟩) 1 1 [(1,n,[])]/\Below w.heap.size w a:=by
 have c:Hid _:=leafM w 1 n
 go_enter Tryz.func140,Tryz.ntmps140
 go_wp2_with fail;go_ret;exact⟨rfl,c.o,(Below.refl _ _).alloc (Nat.le_refl _) _⟩
theorem l2atomM_any (s:List Int)(v:Byte s)(w:World)(r:s≠[]):Calls Tryz.prog 147 #[.string (strOfNums s)] w fun e t=>∃ p,e = .returned (.slice p 1 1)/\OwnC t w.heap.size p 1 1 [(2,0,s)]/\Below w.heap.size w t:=by
 obtain⟨c,d,m,f,i⟩:=conv_bytes w s v 9 Tryz.underlying9
 obtain⟨l,n⟩:∃ l,l=s.length:=⟨_,rfl⟩
 have x:0<l:=by rw[n];exact List.length_pos_iff.2 r
 rw[<-n] at m i;have q:Below c.heap.size c (c.alloc (Obj.cells #[Value.int IntKind.i64 2,Value.int IntKind.i64 0,Value.slice (some ⟨w.heap.size,0,none⟩) l d] 102)):=(Below.refl _ _).alloc (Nat.le_refl _) _
 have j:w.heap.size<c.heap.size:=by
  obtain⟨g,e,_,z,_⟩:=i.2 x
  injection e with e
  injection e with e
  omega
 have u:Hid (OwnC (c.alloc (Obj.cells #[Value.int IntKind.i64 2,Value.int IntKind.i64 0,Value.slice (some ⟨w.heap.size,0,none⟩) l d] 102)) w.heap.size (some ⟨c.heap.size,0,none⟩) 1 1 [(2,0,s)]):=
  own_one (heap_alloc_new c _) f.size (i.below q) (fun a h=>by injection h with h;rw[<-h];show w.heap.size≠c.heap.size;omega)
 have y:=hid (Below.on f q);clear f i q n j
 go_enter Tryz.func147,Tryz.ntmps147
 go_wp2_with fail;go_ret;exact⟨_,rfl,u.o,y.o⟩
theorem mf_grown {w d:World}{pb B:Nat}{p:Option Addr}{n c:Nat}{j:List (List Int)}{o:Obj}(h:NmO w pb B p n c j)(g:pb<B)(a:(w.alloc o).grownBy d (Value.ownBlock (.slice p n c))):MF pb w d:=
 ⟨a.os,a.tape,a.output,by have:=a.size;simp at this;omega,fun k i l f=>(a.block k (by simp;omega) (fun e=>f ⟨by have:=(h.lt k e.symm).1;omega,(h.lt k e.symm).2.2⟩)).trans (Below.heap_alloc _ _ _ i)⟩
theorem app_nameM (w:World){pb:Nat}{A:Array Oper}{l:List Oper}{o:Oper}{a:Act}{Q:Exit->Act->World->Prop}(N:o.guard=none)(s x:Operand)
  (ho:o.op = .call { callee:=.builtin .append,args:=#[s,x],argTypes:=#[26,26] }) (B:Nat) (p:Option Addr) (n c:Nat) (f:List (List Int))
  (hs:a.eval s = .slice p n c) (r:NmO w pb B p n c f) (P:B<=w.heap.size/\pb<B) (q:Option Addr) (m t:Nat) (D:List Int) (hm:m=D.length) (J:BK w pb q D)
  (hx:a.eval x = .slice (some ⟨w.heap.size,0,none⟩) 1 1) (R:n+1<=1000000)
  (h:∀ g j E,NmO E pb B (some ⟨g,0,none⟩) (n+1) j (f ++ [D])->(w.alloc (.cells #[.slice q m t] 23)).grownBy E (Value.ownBlock (.slice p n c))->wpList Tryz.prog A Q l (a.put o.dst (.slice (some ⟨g,0,none⟩) (n+1) j)) E):wpList Tryz.prog A Q (o :: l) a (w.alloc (.cells #[.slice q m t] 23)):=by
 obtain⟨X,C,K,O,M⟩:=info_parts infoBytesS;have y:=r;obtain⟨Y,_,F,hl,Z,U⟩:=r;have z:Below w.heap.size w (w.alloc (.cells #[.slice q m t] 23)):=(Below.refl _ _).alloc (Nat.le_refl _) _;refine wpList_append_lies _ N s x 26 ho B 23 X (.slice none 0 0) 1 24 Tryz.underlying26 C K O M rfl (by decide) (.slice p n c) n _ hs (row_below Z z) ⟨w.heap.size,0,none⟩ 1 1 [.slice q m t] hx rfl (cell_one_new _ _ _) (fun u S=>by simp at S;rw[S];rfl) (by decide) (by unfold maxLen;omega) (by omega) (Nat.le_trans P.1 z.size) _ rfl ?_
 intro g j E v d W V
 have G:=mf_grown y P.2 d;refine h g j E ⟨by simp[Y],fun e=>by simp at e,F ++ [(q,t)],by simp[hl],?_,fun i C=>?_⟩ d
 ·have e:((List.range (f ++ [D]).length).map fun i=>(.slice ((F ++ [(q,t)]).getD i (none,0)).1 ((f ++ [D]).getD i []).length ((F ++ [(q,t)]).getD i (none,0)).2:Value))=((List.range f.length).map fun i=>(.slice (F.getD i (none,0)).1 (f.getD i []).length (F.getD i (none,0)).2:Value)) ++ [.slice q m t]:=by
   rw[List.length_append,List.length_singleton,List.range_succ,List.map_append]
   congr 1
   ·apply List.map_congr_left
    intro i C
    have I:i<f.length:=by simpa using C
    rw[rs_app _ _ _ _ (by omega),rs_app _ _ _ _ (by omega),if_neg (by omega),if_neg (by omega)]
   ·simp only[List.map_cons,List.map_nil]
    rw[rs_app _ _ _ _ (by omega),rs_app _ _ _ _ (by omega),if_pos (by omega),if_pos rfl,hm]
  rw[e];exact v
 ·have I:i<=f.length:=by simp at C;omega
  rw[rs_app _ _ _ _ (by omega),rs_app _ _ _ _ I]
  by_cases e:i=f.length
  ·rw[if_pos (by omega),if_pos e]
   exact J.move G.sf
  ·rw[if_neg (by omega),if_neg e]
   exact(U i (by omega)).move G.sf
section
variable {w0:World}{pb:Nat}{po:Option Addr}{co:Nat}{kp:Option Addr}{kc:Nat}{T:List Cel}{L:Int}{all:List Tok}{s:RS}{k:Nat}{b:Int}{w:World}
theorem MS.names (h:MS w0 pb po co kp kc T L all s k b w)(r:pb<w0.heap.size){p:Option Addr}{n c:Nat}(A:w.cell? ⟨pb,4,none⟩=some (.slice p n c))(D:NmO w pb w0.heap.size p n c s.ns){q:Option Addr}{m G:Nat}{u:List Int}{g f:Nat}{d:World}(t:NmO d pb w0.heap.size (some ⟨g,0,none⟩) (n+1) f (s.ns ++ [u]))(C:(w.alloc (.cells #[.slice q m G] 23)).grownBy d (Value.ownBlock (.slice p n c)))(F:Byte u/\u.length<=100)(I:s.ns.length+s.ts.length+1<=all.length) :
  (d.cell? ⟨pb,4,none⟩=some (.slice p n c)/\d.frozen? ⟨pb,4,none⟩=false)/\MS w0 pb po co kp kc T L all ⟨s.ts,s.ns ++ [u],s.ft⟩ k b (d.setCell ⟨pb,4,none⟩ (.slice (some ⟨g,0,none⟩) (n+1) f))/\MF pb w (d.setCell ⟨pb,4,none⟩ (.slice (some ⟨g,0,none⟩) (n+1) f)):=by
 have z:=mf_grown D r C;have x:pb<w.heap.size:=Nat.lt_of_lt_of_le r h.mf.size;have l:d.heap[pb]?=w.heap[pb]?:=(C.block pb (by simp;omega) (fun e=>by have:=(D.lt pb e.symm).1;omega)).trans (Below.heap_alloc _ _ _ x)
 have j:∀ o v,w.cell? ⟨pb,o,none⟩=some v->d.cell? ⟨pb,o,none⟩=some v:=fun o v j=>(World.cell?_of_block (a:=⟨pb,o,none⟩) l).trans j
 have E:∀ o,d.frozen? ⟨pb,o,none⟩=false:=fun o=>(World.frozen?_of_block (a:=⟨pb,o,none⟩) l).trans (h.fz o)
 have i:MF pb w (d.setCell ⟨pb,4,none⟩ (.slice (some ⟨g,0,none⟩) (n+1) f)):=z.trans (.set _ _ _ _);refine⟨⟨j _ _ A,E 4⟩,⟨h.mf.trans i,cell_pbD _ _ (by decide) (j _ _ h.c0),cell_pbD _ _ (by decide) (j _ _ h.c1),cell_pbD _ _ (by decide) (j _ _ h.c2),cell_pbD _ _ (by decide) (j _ _ h.c3),⟨_,_,_,World.cell?_setCell_same' _ _ _ (by rw[j _ _ A];rfl),t.of (MF.set _ _ _ _).sf fun B y=>Below.heap_setCell _ _ _ _ (by have:=(t.lt B y).1;show B≠pb;omega)⟩,fun o=>by rw[World.frozen?_setCell];exact E o,h.kl,h.rel,fun ys hy=>?_,?_⟩,i⟩
 ·rcases List.mem_append.1 hy with hy | hy
  ·exact h.nb.1 ys hy
  ·rw[List.mem_singleton.1 hy];exact F
 ·simp only[List.length_append,List.length_singleton];omega
def MCel (w0:World)(pb:Nat)(po:Option Addr)(co:Nat)(kp:Option Addr)(kc:Nat)(T:List Cel)(L:Int)(all:List Tok)(w:World)(s':RS)(P:List Cel->Prop)(e:Ending)(w':World):Prop:=
 ∃ q n c t,e = .returned (.slice q n c)/\CT w' pb q n c t/\t.length<=2001/\(s'.ft=none->P t)/\(∃ k' b',MS w0 pb po co kp kc T L all s' k' b' w')/\MF pb w w'
theorem idx_at {a:List (List Int)}{c:List Int}(h:c ∈ a):a.idxOf c<a.length/\a.getD (a.idxOf c) []=c:=by
 have d:=List.idxOf_lt_length_of_mem h;refine⟨d,?_⟩;rw[List.getD,List.getElem?_eq_getElem d];exact List.getElem_idxOf d
theorem idx_no {a:List (List Int)}{c:List Int}{i:Nat}(h:i<a.idxOf c)(f:i<a.length):a.getD i []≠c:=fun e=>by
 have d:a[i]=c:=by rw[List.getD,List.getElem?_eq_getElem f] at e;exact e
 have:=List.not_of_lt_findIdx (p:=(· == c)) (xs:=a) (i:=i) h
 simp[d] at this
end
end
section
open Go Go.RowKit
def Cut (t u:List Cel):Prop:=t.take 2001=u.take 2001
theorem take_cat {h:Type}{K:Nat}{a b c d:List h}(e:a.take K=b.take K)(g:c.take K=d.take K):(a ++ c).take K=(b ++ d).take K:=by
 rcases Nat.lt_or_ge a.length K with ha | ha
 ·have f:b.length<K:=by
   have:=congrArg List.length e;simp only[List.length_take] at this
   omega
  rw[List.take_of_length_le (by omega),List.take_of_length_le (by omega)] at e;subst e;rw[List.take_append,List.take_append]
  congr 1
  have:=congrArg (List.take (K-a.length)) g;rw[List.take_take,List.take_take,Nat.min_eq_left (by omega)] at this;exact this
 ·have f:K<=b.length:=by
   have:=congrArg List.length e;simp only[List.length_take] at this
   omega
  rw[List.take_append_of_le_length ha,List.take_append_of_le_length f,e]
theorem Cut.refl (t:List Cel):Cut t t:=rfl
theorem Cut.cat {a b c d:List Cel}(f:Cut a b)(e:Cut c d):Cut (a ++ c) (b ++ d):=take_cat f e
theorem Cut.cut {a b:List Cel}(h:Cut a b):Cut (a.take 2001) b:=by
 show(a.take 2001).take 2001=_
 rw[List.take_take];exact h
def Cuts:List (List Cel)->List (List Cel)->Prop
 | [],[]=>True
 | a :: r,b :: q=>Cut a b/\Cuts r q
 | _,_=>False
theorem Cuts.flat:∀ {a b:List (List Cel)},Cuts a b->Cut a.flatten b.flatten
 | [],[],_=>rfl
 | x :: r,y :: q,h=>by rw[List.flatten_cons,List.flatten_cons];exact h.1.cat (Cuts.flat h.2)
 | [],_ :: _,h=>h.elim
 | _ :: _,[],h=>h.elim
theorem Cuts.len:∀ {a b:List (List Cel)},Cuts a b->a.length=b.length
 | [],[],_=>rfl
 | x :: r,y :: q,h=>by simp[Cuts.len h.2]
 | [],_ :: _,h=>h.elim
 | _ :: _,[],h=>h.elim
theorem Cuts.snoc:∀ {a b:List (List Cel)} {x y:List Cel},Cuts a b->Cut x y->Cuts (a ++ [x]) (b ++ [y])
 | [],[],x,y,_,h=>⟨h,trivial⟩
 | _ :: r,_ :: q,x,y,h,k=>⟨h.1,Cuts.snoc h.2 k⟩
 | [],_ :: _,_,_,h,_=>h.elim
 | _ :: _,[],_,_,h,_=>h.elim
theorem Cuts.dots (d:Cel):∀ {a b:List (List Cel)},Cuts a b->Cut (a.flatMap (d :: ·)) (b.flatMap (d :: ·))
 | [],[],_=>rfl
 | x :: r,y :: q,h=>by
   rw[List.flatMap_cons,List.flatMap_cons];exact Cut.cat (Cut.cat (a:=[d]) (b:=[d]) rfl h.1) (Cuts.dots d h.2)
 | [],_ :: _,h=>h.elim
 | _ :: _,[],h=>h.elim
theorem Cut.small {a b:List Cel}(h:Cut a b)(c:b.length<=2000):a=b:=by
 have:=congrArg List.length h;simp only[List.length_take] at this
 unfold Cut at h
 rwa[List.take_of_length_le (by omega),List.take_of_length_le (by omega)] at h
theorem Cut.great {a b:List Cel}(h:Cut a b)(c:2000<b.length):2000<a.length:=by
 have:=congrArg List.length h;simp only[List.length_take] at this
 omega
end
section
open Go Go.RowKit
def TRw (w:World)(pb B:Nat)(p:Option Addr)(n c:Nat)(rs:List (Option Addr×Nat×Nat))(tss:List (List Cel)):Prop:=
 n=tss.length/\(n=0->p=none)/\rs.length=tss.length/\w.ownsRow B 25 1 (.slice p n c) n (rs.map slV)/\∀ (i:Nat) (r:Option Addr×Nat×Nat) (t:List Cel),rs[i]?=some r->tss[i]?=some t->CT w pb r.1 r.2.1 r.2.2 t
theorem TRw.nil (w:World)(pb B:Nat):TRw w pb B none 0 0 [] []:=⟨rfl,fun _=>rfl,rfl,World.ownsRow_nil _ _ _ _,fun i r t h=>by simp at h⟩
theorem TRw.mf {w a:World}{pb B n c:Nat}{p:Option Addr}{d:List (Option Addr×Nat×Nat)}{tss:List (List Cel)}(h:TRw w pb B p n c d tss)(g:pb<B)(e:MF pb w a):TRw a pb B p n c d tss:=by
 obtain⟨o,l,u,j,q⟩:=h;exact⟨o,l,u,row_mf j (by decide) g e,fun i r t m f=>(q i r t m f).move e.sf⟩
theorem TRw.lt {w:World}{pb B n c:Nat}{p:Option Addr}{l:List (Option Addr×Nat×Nat)}{j:List (List Cel)}(h:TRw w pb B p n c l j):∀ g,Value.ownBlock (.slice p n c)=some g->B<=g/\g<w.heap.size/\SlRow w g/\¬ NmRow w g:=fun g a=>by
 obtain⟨A,o,x,f,C⟩:=h;refine⟨(f.lt g a).1,(f.lt g a).2,?_⟩
 have z:n≠0:=fun e=>by rw[o e] at a;cases a
 rcases f.2 with ⟨u,_⟩ | ⟨t,v,m,i,y,d,_⟩
 ·rw[u] at a;cases a
 ·have e:t=g:=by
   simp only[Value.slice.injEq] at i;rw[i.1] at a;exact Option.some.inj a
  subst e;refine⟨⟨⟨_,.inr (.inl d)⟩,?_⟩,nm_tag d (by decide)⟩;simp only[Value.slice.injEq] at i;obtain⟨rfl,_⟩:=i;have:=f.cellAt 0 (by omega);rw[this]
  cases l with
  | nil=>simp at x;omega
  | cons r q=>exact⟨r.1,r.2.1,r.2.2,rfl⟩
theorem sf_grown {w c:World}{pb:Nat}{v:Option Nat}{o:Obj}(h:∀ g,v=some g->SlRow w g)(a:(w.alloc o).grownBy c v):SF pb w c:=
 ⟨a.os,a.tape,a.output,by have:=a.size;simp at this;omega,fun k f i d=>(a.block k (by simp;omega) (fun e=>d (h k e.symm))).trans (Below.heap_alloc _ _ _ f)⟩
theorem MF.grow {w d f:World}{pb:Nat}{v:Option Nat}{o:Obj}(h:MF pb w d)(a:(d.alloc o).grownBy f v)(m:∀ g,v=some g->w.heap.size<=g):MF pb w f:=
 ⟨a.os.trans h.os,a.tape.trans h.tape,a.output.trans h.output,by have:=a.size;have:=h.size;simp at *;omega,fun k i l j=>by
   have c:k<d.heap.size:=Nat.lt_of_lt_of_le i h.size
   exact((a.block k (by simp;omega) (fun e=>by have:=m k e.symm;omega)).trans (Below.heap_alloc _ _ _ c)).trans (h.block k i l j)⟩
theorem TRw.app {w v:World}{pb B n c g u:Nat}{p:Option Addr}{l:List (Option Addr×Nat×Nat)}{f:List (List Cel)}(h:TRw w pb B p n c l f){q:Option Addr}{m z:Nat}{t:List Cel}{o:Obj}(x:CT w pb q m z t)(D:v.ownsRow B 25 1 (.slice (some ⟨g,0,none⟩) (n+1) u) (n+1) ((l ++ [(q,m,z)]).map slV))(y:(w.alloc o).grownBy v (Value.ownBlock (.slice p n c))):TRw v pb B (some ⟨g,0,none⟩) (n+1) u (l ++ [(q,m,z)]) (f ++ [t]):=by
 have j:SF pb w v:=sf_grown (fun g y=>(h.lt g y).2.2.1) y;obtain⟨E,I,A,G,F⟩:=h;refine⟨by simp[E],fun e=>by omega,by simp[A],D,fun i r C a d=>?_⟩
 rcases Nat.lt_or_ge i l.length with hi | hi
 ·rw[List.getElem?_append_left hi] at a
  rw[List.getElem?_append_left (by omega)] at d;exact(F i r C a d).move j
 ·have e:i=l.length:=by
   have:=(List.getElem?_eq_some_iff.1 a).1
   simp at this;omega
  subst e;rw[List.getElem?_append_right (Nat.le_refl _)] at a;rw[List.getElem?_append_right (by omega)] at d
  simp[A] at a d
  subst a;subst d;exact x.move j
section
variable {w0:World}{pb:Nat}{po:Option Addr}{co:Nat}{kp:Option Addr}{kc:Nat}{T:List Cel}{L:Int}{all:List Tok}{s:RS}{k:Nat}{b:Int}{w:World}
theorem MS.grow (h:MS w0 pb po co kp kc T L all s k b w)(t:pb<w0.heap.size){l:World}{v:Option Nat}{o:Obj}(d:(w.alloc o).grownBy l v)(q:∀ g,v=some g->w0.heap.size<=g/\SlRow w g/\¬ NmRow w g):MS w0 pb po co kp kc T L all s k b l:=by
 obtain⟨p,n,c,u,m⟩:=h.c4;have r:pb<w.heap.size:=Nat.lt_of_lt_of_le t h.mf.size;have j:l.heap[pb]?=w.heap[pb]?:=(d.block pb (by simp;omega) (fun e=>by have:=(q pb e.symm).1;omega)).trans (Below.heap_alloc _ _ _ r)
 have i:∀ o v,w.cell? ⟨pb,o,none⟩=some v->l.cell? ⟨pb,o,none⟩=some v:=fun o v i=>(World.cell?_of_block (a:=⟨pb,o,none⟩) j).trans i
 exact⟨h.mf.grow d (fun g d=>(q g d).1),i _ _ h.c0,i _ _ h.c1,i _ _ h.c2,i _ _ h.c3,⟨p,n,c,i _ _ u,m.of (sf_grown (fun g d=>(q g d).2.1) d) fun g f=>(d.block g (by simp;have:=(m.lt g f).2.1;omega) (fun e=>(q g e.symm).2.2 (m.lt g f).2.2)).trans (Below.heap_alloc _ _ _ (m.lt g f).2.1)⟩,fun o=>(World.frozen?_of_block (a:=⟨pb,o,none⟩) j).trans (h.fz o),h.kl,h.rel,h.nb⟩
end
theorem l4cut_any {w:World}{pb:Nat}{q:Option Addr}{n c:Nat}{d:List Cel}(h:CT w pb q n c d)(u:n<=1000000000):Calls Tryz.prog 149 #[.slice q n c] w fun e p=>∃ m,e = .returned (.slice q m c)/\CT w pb q m c (d.take 2001)/\m<=2001/\p=w:=by
 obtain⟨j,i,x,r,b,o,v,rfl,a,_⟩:=id h
 by_cases t:2001<n
 ·have f:Hid (CT w pb (some ⟨b,o,none⟩) 2001 c (d.take 2001)):=h.take 2001 (by decide) (by omega)
  have l:∀ W:World,(Instr.slice 25 (.slice (some ⟨b,o,none⟩) n c) none (some (.int .i64 2001)) none).run Tryz.prog W = .ok (.slice (some ⟨b,o,none⟩) 2001 c) W:=fun W=>by
   rw[run_slice_h W 25 _ _ _ Tryz.underlying25 .i64 2001 (by decide) (by omega)]
   have e:(sizeOf (Tryz.prog.elem 25)).run Tryz.prog W = .ok 3 W:=by kernel_rfl
   rw[e]
   simp[Result.andThen,sliced,Addr.add]
   try omega
  have g:(2001:Int)<(n:Int):=by omega
  clear h j i a
  go_enter Tryz.func149,Tryz.ntmps149
  go_wp2_with fail;go_ret;exact⟨2001,rfl,f.o,Nat.le_refl _,rfl⟩
 ·have f:Hid (CT w pb (some ⟨b,o,none⟩) n c (d.take 2001)):=by rw[List.take_of_length_le (by omega)];exact h
  have g:¬ (2001:Int)<(n:Int):=by omega
  clear h j i a
  go_enter Tryz.func149,Tryz.ntmps149
  go_wp2_with fail;go_ret;exact⟨n,rfl,f.o,by omega,rfl⟩
end
section
open Go Go.RowKit
def FK (s s':RS):Prop:=s'.ft=none->s.ft=none
theorem FK.refl (s:RS):FK s s:=fun h=>h
theorem FK.trans {a b c:RS}(h:FK a b)(k:FK b c):FK a c:=fun e=>h (k e)
theorem fk_tk (s:RS):FK s s.tk:=fun h=>h
theorem fk_stop (L:Int)(s:RS):FK s (s.stop L):=fun h=>by simp[RS.stop] at h
theorem fk_must (L:Int)(m:List Int)(s:RS):FK s (s.must L m):=by
 unfold RS.must;split
 ·exact fk_tk s
 ·exact fk_stop L s
theorem fk_var (a:List Int)(s:RS):FK s (s.var a).2:=by
 unfold RS.var RS.new;split
 ·exact fun h=>h
 ·split
  ·exact FK.refl _
  ·exact fun h=>h
section
variable {rd:Int->RS->Tr×RS}(H:∀ pri s,FK s (rd pri s).2)
include H
theorem bh_fk (T:List Cel):∀ (g:Nat) (pri:Int) (t:Tr) (p:Int) (s:RS),FK s (bhR rd T g pri t p s).2
 | 0,pri,t,p,s=>FK.refl _
 | g+1,pri,t,p,s=>by
   unfold bhR
   split
   ·exact FK.refl _
   ·split
    ·exact FK.refl _
    ·split
     ·exact(fk_tk s).trans (bh_fk T g _ _ _ _)
     ·exact(fk_tk s).trans ((H _ _).trans (bh_fk T g _ _ _ _))
theorem ser_fk:∀ (g:Nat) (s:RS),FK s (serR rd g s).2
 | 0,s=>H _ _
 | g+1,s=>by
   unfold serR
   split
   ·exact(H 999 s).trans ((fk_tk _).trans (ser_fk g _))
   ·exact H 999 s
theorem ins_fk (L:Int)(m:List Int)(s:RS):FK s (insR rd L m s).2:=(H 1200 s).trans (fk_must L m _)
theorem lis_fk (L:Int)(s:RS):FK s (lisR rd L s).2:=by
 unfold lisR
 split
 ·exact fk_tk s
 ·split
  ·exact(ser_fk H _ s).trans ((fk_tk _).trans ((H _ _).trans (fk_must L _ _)))
  ·exact(ser_fk H _ s).trans (fk_must L _ _)
theorem cur_fk (L:Int)(s:RS):FK s (curR rd L s).2:=by
 unfold curR
 split
 ·exact fk_tk s
 ·exact ins_fk H L _ s
theorem nam_fk (T:List Cel)(L pri:Int)(s:RS):FK s (namR rd T L pri s).2:=by
 unfold namR
 split
 ·exact(fk_tk s).trans ((fk_tk _).trans ((ser_fk H _ _).trans (fk_must L _ _)))
 split
 ·exact(fk_tk s).trans (fk_tk _)
 split
 ·exact(fk_tk s).trans (H _ _)
 ·exact fk_tk s
theorem bra_fk (L:Int)(s:RS):FK s (braR rd L s).2:=by
 unfold braR
 split
 ·exact(fk_tk s).trans (ins_fk H L _ _)
 split
 ·exact(fk_tk s).trans (lis_fk H L _)
 split
 ·exact(fk_tk s).trans (cur_fk H L _)
 ·exact fk_stop L s
theorem stt_fk (T:List Cel)(L pri:Int)(s:RS):FK s (sttR rd T L pri s).2:=by
 unfold sttR
 split
 ·exact fk_tk s
 split
 ·exact(fk_tk s).trans (fk_var _ _)
 split
 ·exact fk_tk s
 split
 ·exact(fk_tk s).trans (ins_fk H L _ _)
 split
 ·exact bra_fk H L s
 split
 ·exact nam_fk H T L pri s
 ·exact fk_stop L s
end
theorem rd_fk (T:List Cel)(L:Int):∀ (f:Nat) (pri:Int) (s:RS),FK s (rdR T L f pri s).2
 | 0,pri,s=>FK.refl _
 | f+1,pri,s=>by
   unfold rdR
   exact(stt_fk (rd_fk T L f) T L pri s).trans (bh_fk (rd_fk T L f) T _ _ _ _ _)
theorem serR_step (rd:Int->RS->Tr×RS)(g:Nat)(s:RS):serR rd (g+1) s=if (rd 999 s).2.isP [44]=true then((rd 999 s).1 :: (serR rd g (rd 999 s).2.tk).1,(serR rd g (rd 999 s).2.tk).2) else([(rd 999 s).1],(rd 999 s).2):=rfl
end
end Go.Proofs.YtlkhmmoimplokaaGreatDoor
