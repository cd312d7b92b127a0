/- Texts of Tree3, Tree4, Tree5, CellG, FcX. Own work of the verifier. -/
import Derived.Deep.RegionLaw
import Derived.Deep.Cut
import Derived.Test.YtlkhmmoimplokaaGreatDoorUqap
namespace Go.Proofs.YtlkhmmoimplokaaGreatDoor
set_option maxHeartbeats 2000000
set_option linter.unusedVariables false
set_option maxRecDepth 100000
section
open Go Go.RowKit
theorem flat_one (r:RC):flat [r]=rcV r:=by simp[flat]
theorem ownC_grew {u w V:World}{B g n M P:Nat}{p:Option Addr}{s:List Cel}{d:List RC}(hn:n=s.length)(hl:d.length=s.length)(S:u.ownsRow B 102 3 (.slice p n P) n (flat d))
  (O:∀ i,i<s.length->Fits u B (d.getD i RC.zero) (s.getD i Cel.none)) (ha:ApartC p d) (E:Below u.heap.size u w) (hB:B<=u.heap.size)
  {F H:Int} {r:Option Addr} {A G:Nat} {t:List Int} (Z:OwnT w u.heap.size r A G t)
  (hr:V.ownsRow B 102 3 (.slice (some ⟨g,0,none⟩) (n+1) M) (n+1) (flat d ++ rcV (F,H,r,A,G))) (N:w.grownBy V (Value.ownBlock (.slice p n P))) (I:Value.ownBlock (.slice p n P)=some g∨g=w.heap.size) :
  OwnC V B (some ⟨g,0,none⟩) (n+1) M (s ++ [(F,H,t)]):=by
 have l:∀ k,Value.ownBlock (.slice p n P)=some k->p=some ⟨k,0,none⟩/\k<u.heap.size:=fun k v=>by
  rcases S.2 with ⟨K,_⟩ | ⟨g',h4,h5,K,hb,W,_⟩
  ·simp only[Value.slice.injEq] at K;rw[K.1] at v;simp[Value.ownBlock] at v
  ·simp only[Value.slice.injEq] at K
   rw[K.1] at v ⊢
   simp[Value.ownBlock] at v
   subst v;exact⟨rfl,(Array.getElem?_eq_some_iff.1 W).1⟩
 have J:∀ i,i<s.length->OwnT w B (d.getD i RC.zero).2.2.1 (d.getD i RC.zero).2.2.2.1 (d.getD i RC.zero).2.2.2.2 (s.getD i Cel.none).2.2:=fun i x=>(O i x).2.2.below E
 have m:∀ i,i<s.length->0<(d.getD i RC.zero).2.2.2.1->∃ k,(d.getD i RC.zero).2.2.1=some ⟨k,0,none⟩/\k<u.heap.size:=fun i x o=>by
  obtain⟨k,e,_,R,_⟩:=(O i x).2.2.2 o;exact⟨k,e,R⟩
 have b:0<A->∃ k,r=some ⟨k,0,none⟩/\u.heap.size<=k/\k<w.heap.size:=fun o=>by
  obtain⟨k,e,C,L,_⟩:=Z.2 o;exact⟨k,e,C,L⟩
 have U:g<u.heap.size∨g=w.heap.size:=by
  rcases I with h | h
  ·exact .inl (l g h).2
  ·exact .inr h
 refine⟨by simp;omega,d ++ [(F,H,r,A,G)],by simp;omega,by rw[flat_append,flat_one];exact hr,fun i x=>?_,fun i x o=>?_,fun i j x hj X c f=>?_⟩
 ·have q:i<=s.length:=by simp at x;omega
  rw[rs_append_at _ _ _ (by omega),cs_append_at _ _ _ q]
  by_cases e:i=s.length
  ·rw[if_pos (by omega),if_pos e]
   refine⟨rfl,rfl,(Z.mono hB).other N.size (fun k y z=>?_)⟩;obtain⟨D,a,C,L⟩:=b y
   have Y:k=D:=by
    have:=z.symm.trans a;exact congrArg Addr.block (Option.some.inj this)
   refine N.block k (by omega) (fun v=>?_);have:=(l k v.symm).2
   omega
  ·rw[if_neg (by omega),if_neg e]
   refine⟨(O i (by omega)).1,(O i (by omega)).2.1,(J i (by omega)).other N.size (fun k y z=>?_)⟩;obtain⟨D,a,C⟩:=m i (by omega) y;have Y:k=D:=congrArg Addr.block (Option.some.inj (z.symm.trans a));refine N.block k (by have:=E.size;omega) (fun v=>?_);exact ha.1 i (by omega) y (by rw[z,(l k v.symm).1])
 ·have q:i<=d.length:=by simp at x;omega
  rw[rs_append_at _ _ _ q] at o ⊢
  by_cases e:i=d.length
  ·rw[if_pos e] at o ⊢
   obtain⟨D,a,C,L⟩:=b o;rw[show((F,H,r,A,G):RC).2.2.1=r from rfl,a];exact ne_block (by omega) o
  ·rw[if_neg e] at o ⊢
   obtain⟨D,a,C⟩:=m i (by omega) o
   rcases I with h | h
   ·rw[<-(l g h).1]
    exact ha.1 i (by omega) o
   ·rw[a]
    exact ne_block (by have:=E.size;omega) o
 ·have q:i<=d.length:=by simp at x;omega
  have T:j<=d.length:=by simp at hj;omega
  rw[rs_append_at _ _ _ q] at c ⊢;rw[rs_append_at _ _ _ T] at f ⊢
  by_cases e:i=d.length
  ·rw[if_pos e] at c ⊢
   rw[if_neg (by omega)] at f ⊢;obtain⟨D,a,C,L⟩:=b c;obtain⟨k2,Q,h3⟩:=m j (by omega) f;rw[show((F,H,r,A,G):RC).2.2.1=r from rfl,a,Q];exact ne_block (by omega) c
  ·rw[if_neg e] at c ⊢
   by_cases z:j=d.length
   ·rw[if_pos z] at f ⊢
    obtain⟨D,a,C,L⟩:=b f;obtain⟨k2,Q,h3⟩:=m i (by omega) c;rw[show((F,H,r,A,G):RC).2.2.1=r from rfl,a,Q];exact ne_block (by omega) c
   ·rw[if_neg z] at f ⊢
    exact ha.2 i j (by omega) (by omega) X c f
theorem rcV_one (r:RC):∀ u ∈ rcV r,u.oneCell'=true:=fun u a=>by
 simp[rcV] at a
 rcases a with rfl | rfl | rfl <;> rfl
theorem app_cell (v w:World){m:Array Oper}{f:List Oper}{o:Oper}{a:Act}{Q:Exit->Act->World->Prop}(E:o.guard=none)(s x:Operand)
  (Z:o.op = .call { callee:=.builtin .append,args:=#[s,x],argTypes:=#[25,25] }) (B:Nat) (p:Option Addr) (n c:Nat) (P:List Cel)
  (X:a.eval s = .slice p n c) (q:OwnC v B p n c P) (e:Below v.heap.size v w) (y:B<=v.heap.size) (C:Addr) (O:Nat) (Y:a.eval x = .slice (some C) 1 O) (F L:Int) (H:Option Addr) (I K:Nat) (t:List Int)
  (R:OwnT w v.heap.size H I K t) (l:∀ j u,(rcV (F,L,H,I,K))[j]?=some u->w.cell? (C.add j)=some u) (N:n+1<=1000000000)
  (h:∀ g G d r,OwnC r B (some ⟨g,0,none⟩) G d (P ++ [(F,L,t)])->Below B w r->Hid (G=n+1)->wpList Tryz.prog m Q f (a.put o.dst (.slice (some ⟨g,0,none⟩) G d)) r):wpList Tryz.prog m Q (o :: f) a w:=by
 obtain⟨i0,V,A,M,D⟩:=info_parts infoCell;obtain⟨U,rs,W,J,hf,ha⟩:=q;refine wpList_append_lies w E s x 25 Z B 102 i0 (.agg #[.int .i64 0,.int .i64 0,.slice none 0 0]) 3 40 Tryz.underlying25 V A M D rfl (by decide) (.slice p n c) n (flat rs) X (row_below J e) C 1 O (rcV (F,L,H,I,K)) Y rfl l (rcV_one _) (by decide) (by unfold maxLen;omega) (by omega) (Nat.le_trans y e.size) w.heap.size rfl ?_
 intro g d r i b z S
 refine h g _ d r (ownC_grew U W J hf ha e y R i b z) ((Below.refl _ _).grown b (Nat.le_trans y e.size) (fun k T=>?_)) rfl;exact(J.lt k T).1
theorem step_app_cell (q w:World){C:Array Oper}{o:Oper}{a:Act}{K:Act->World->Prop}{Q:Exit->Act->World->Prop}{E:Prop}(D:o.guard=none)(s x:Operand)
  (ho:o.op = .call { callee:=.builtin .append,args:=#[s,x],argTypes:=#[25,25] }) (B:Nat) (p:Option Addr) (n c:Nat) (R:List Cel)
  (Y:a.eval s = .slice p n c) (l:OwnC q B p n c R) (e:Below q.heap.size q w) (r:B<=q.heap.size) (z:Addr) (P:Nat) (Z:a.eval x = .slice (some z) 1 P) (F M:Int) (G:Option Addr) (H L:Nat) (t:List Int)
  (S:OwnT w q.heap.size G H L t) (i:∀ j u,(rcV (F,M,G,H,L))[j]?=some u->w.cell? (z.add j)=some u) (O:n+1<=1000000000)
  (h:∀ g J d m,OwnC m B (some ⟨g,0,none⟩) J d (R ++ [(F,M,t)])->Below B w m->Hid (J=n+1)->K (a.put o.dst (.slice (some ⟨g,0,none⟩) J d)) m) :
  if Region.wanted o (yielded C a.tmps)=true then Oper.wp Tryz.prog o a w K Q else E:=by
 obtain⟨i0,W,y,N,A⟩:=info_parts infoCell;obtain⟨V,rs,X,I,hf,ha⟩:=l;refine step_append_lies w D s x 25 ho B 102 i0 (.agg #[.int .i64 0,.int .i64 0,.slice none 0 0]) 3 40 Tryz.underlying25 W y N A rfl (by decide) (.slice p n c) n (flat rs) Y (row_below I e) z 1 P (rcV (F,M,G,H,L)) Z rfl i (rcV_one _) (by decide) (by unfold maxLen;omega) (by omega) (Nat.le_trans r e.size) w.heap.size rfl ?_
 intro g d m f b v T
 refine h g _ d m (ownC_grew V X I hf ha e r S f b v) ((Below.refl _ _).grown b (Nat.le_trans r e.size) (fun k U=>?_)) rfl;exact(I.lt k U).1
def AppOut (w:World)(B:Nat)(cs ds:List Cel)(e:Ending)(w':World):Prop:=
 ∃ p n c,e = .returned (.slice p n c)/\OwnC w' B p n c (cs ++ ds)/\Below B w w'
theorem news_rc {w:World}{d:Nat}{r:RC}(h:Box3 w d (.int .i64 r.1) (.int .i64 r.2.1) (.slice r.2.2.1 r.2.2.2.1 r.2.2.2.2)):∀ j u,(rcV r)[j]?=some u->w.cell? ((⟨d,0,none⟩:Addr).add j)=some u:=fun j u a=>by
 have e:(⟨d,0,none⟩:Addr).add j=⟨d,j,none⟩:=by unfold Addr.add;split <;> simp_all
 rw[e]
 rcases j with _ | _ | _ | j
 ·simp only[rcV,List.getElem?_cons_zero,Option.some.injEq] at a;rw[<-a];exact h.1
 ·simp only[rcV,List.getElem?_cons_succ,List.getElem?_cons_zero,Option.some.injEq] at a;rw[<-a];exact h.2.1
 ·simp only[rcV,List.getElem?_cons_succ,List.getElem?_cons_zero,Option.some.injEq] at a;rw[<-a];exact h.2.2.1
 ·simp[rcV] at a
theorem appVar_any (x:Int)(p:Option Addr)(n c:Nat)(d:List Cel)(B:Nat)(w:World)(e:B<=w.heap.size)(r:n<=100000000)(i:OwnC w B p n c d) :
  Calls Tryz.prog 242 #[.int .i64 x,.slice p n c] w (AppOut w B d [(0,x,[])]):=by
 have l:=hid i;have f:Below w.heap.size w (w.alloc (Obj.cells #[Value.int IntKind.i64 0,Value.int IntKind.i64 x,Value.slice none 0 0] 102)):=(Below.refl _ _).alloc (Nat.le_refl _) _;have m:Hid _:=f;have k:Hid (Box3 (w.alloc (Obj.cells #[Value.int IntKind.i64 0,Value.int IntKind.i64 x,Value.slice none 0 0] 102)) w.heap.size (.int .i64 0) (.int .i64 x) (.slice none 0 0)):=Box3.of_block (t:=102) (heap_alloc_new _ _);clear i f
 go_enter Tryz.func242,Tryz.ntmps242
 go_wp2_with (at_builtin;refine app_cell w _ rfl _ _ rfl B p n c d rfl l.o m.o e ⟨w.heap.size,0,none⟩ 1 rfl 0 x none 0 0 [] ⟨rfl,fun h=>absurd h (Nat.lt_irrefl 0)⟩ (news_rc k.o) (by omega) ?_;intro g s q u a b j);go_ret;exact⟨_,_,_,rfl,a,((Below.refl _ _).alloc e _).trans b⟩
theorem appNum_any (x:Int)(p:Option Addr)(n c:Nat)(d:List Cel)(B:Nat)(w:World)(e:B<=w.heap.size)(r:n<=100000000)(i:OwnC w B p n c d) :
  Calls Tryz.prog 240 #[.int .i64 x,.slice p n c] w (AppOut w B d [(1,x,[])]):=by
 have l:=hid i;have f:Below w.heap.size w (w.alloc (Obj.cells #[Value.int IntKind.i64 1,Value.int IntKind.i64 x,Value.slice none 0 0] 102)):=(Below.refl _ _).alloc (Nat.le_refl _) _;have m:Hid _:=f;have k:Hid (Box3 (w.alloc (Obj.cells #[Value.int IntKind.i64 1,Value.int IntKind.i64 x,Value.slice none 0 0] 102)) w.heap.size (.int .i64 1) (.int .i64 x) (.slice none 0 0)):=Box3.of_block (t:=102) (heap_alloc_new _ _);clear i f
 go_enter Tryz.func240,Tryz.ntmps240
 go_wp2_with (at_builtin;refine app_cell w _ rfl _ _ rfl B p n c d rfl l.o m.o e ⟨w.heap.size,0,none⟩ 1 rfl 1 x none 0 0 [] ⟨rfl,fun h=>absurd h (Nat.lt_irrefl 0)⟩ (news_rc k.o) (by omega) ?_;intro g s q u a b j);go_ret;exact⟨_,_,_,rfl,a,((Below.refl _ _).alloc e _).trans b⟩
theorem appAtom_any (d:List Int)(s:Byte d)(p:Option Addr)(n c:Nat)(l:List Cel)(B:Nat)(w:World)(r:B<=w.heap.size)(G:n<=100000000)(u:OwnC w B p n c l) :
  Calls Tryz.prog 243 #[.string (strOfNums d),.slice p n c] w (AppOut w B l [(2,0,d)]):=by
 have E:=hid u;obtain⟨f,a,h,b,i⟩:=conv_bytes w d s 154 Tryz.underlying154
 obtain⟨m,q⟩:∃ m,m=d.length:=⟨_,rfl⟩
 obtain⟨str,v⟩:∃ str,str=strOfNums d:=⟨_,rfl⟩
 rw[<-q] at h i;rw[<-v] at h ⊢;have D:=b.size;have j:Below f.heap.size f (f.alloc (Obj.cells #[Value.int IntKind.i64 2,Value.int IntKind.i64 0,Value.slice (some ⟨w.heap.size,0,none⟩) m a] 102)):=(Below.refl _ _).alloc (Nat.le_refl _) _;have x:=hid (Below.on b j);have y:=hid (i.below j);have A:Hid (Box3 (f.alloc (Obj.cells #[Value.int IntKind.i64 2,Value.int IntKind.i64 0,Value.slice (some ⟨w.heap.size,0,none⟩) m a] 102)) f.heap.size (.int .i64 2) (.int .i64 0) (.slice (some ⟨w.heap.size,0,none⟩) m a)):=Box3.of_block (t:=102) (heap_alloc_new _ _)
 have C:=hid (x.o.mono r);clear u j b i q v s
 go_enter Tryz.func243,Tryz.ntmps243
 go_wp2_with (at_builtin;refine app_cell w _ rfl _ _ rfl B p n c l rfl E.o x.o r ⟨f.heap.size,0,none⟩ 1 rfl 2 0 (some ⟨w.heap.size,0,none⟩) m a d y.o (news_rc A.o) (by omega) ?_;intro g H F I e k z);go_ret;exact⟨_,_,_,rfl,e,C.o.trans k⟩
end
section
open Go Go.RowKit Go.Maps
end
section
open Go Go.RowKit Go.Maps
set_option linter.unusedSimpArgs false
def cellH (k n:Int)(m:Nat):Prop:=(k=0/\0<=n/\n<=1000000/\m=0)∨(k=1/\-1000000000000000<=n/\n<=1000000000000000/\m=0)∨(k=2/\m<=100/\n=0)∨(k=3/\m<=100/\1<=n)
def okH:Fo->Prop
 | .nil=>True
 | .node c k r=>cellH c.1 c.2.1 c.2.2.length/\Byte c.2.2/\(c.1=3->c.2.1=k.count)/\(c.1≠3->k = .nil)/\okH k/\okH r
theorem okH_cat:∀ a b:Fo,okH (a.cat b)↔okH a/\okH b
 | .nil,b=>by simp[Fo.cat,okH]
 | .node c k r,b=>by
   have:=okH_cat r b;have e:=Fo.count_cat k;simp only[Fo.cat,okH,this,and_assoc]
theorem appCompH_any:∀ (N:Nat) (s:List Int) (k:Fo) (b g cq:Nat) (vs:List Value) (p:Option Addr) (n cp:Nat) (cs:List Cel) (B:Nat) (T w:World),k.cells.length<=N->okH k->Byte s->CompC T s k b g cq vs->Below T.heap.size T w->T.heap.size<=B->B<=w.heap.size->
  OwnC w B p n cp cs->n+1+k.cells.length<=4000000->Calls Tryz.prog 245 #[.pointer (some ⟨b,0,none⟩),.slice p n cp] w (AppOut w B cs ((3,k.count,s) :: k.cells)):=by
 intro N
 induction N using Nat.strongRecOn with
 | _ N ih=>
   intro s k b g cq vs p n cp cs B T w hN k6 hs h hw e6 hB ho hn
   have HO:=hid ho;have HC:=hid h;have HW:=hid hw;obtain⟨w1,y,h7,h9,ht⟩:=conv_bytes w.drew s hs 9 Tryz.underlying9;have e8:vs.length=k.count:=FoC.count _ _ h.2.2.2.2.2.2;have c0:=(hw.cell (World.block_lt_of_cell? _ _ h.2.2.1)).trans h.2.2.1;have O:=(hw.cell (World.block_lt_of_cell? _ _ h.2.2.2.1)).trans h.2.2.2.1;have Z:Below w.heap.size w w1:=(Below.refl _ _).drew.trans h9;have d0:=(Z.cell (World.block_lt_of_cell? _ _ c0)).trans c0;have d1:=(Z.cell (World.block_lt_of_cell? _ _ O)).trans O
   obtain⟨m,em⟩:∃ m,m=s.length:=⟨_,rfl⟩
   obtain⟨str,es⟩:∃ str,str=strOfNums s:=⟨_,rfl⟩
   obtain⟨q,eq⟩:∃ q,q=vs.length:=⟨_,rfl⟩
   rw[<-em] at h7 ht;rw[<-es] at h7 c0 d0;rw[<-eq] at O d1;have x5:=h9.size;have e7:(convert 9 23 (.string str)).run Tryz.prog w.drew = .ok (.slice (some ⟨w.heap.size,0,none⟩) m y) w1:=h7;have k4:OwnT w1 w.heap.size (some ⟨w.heap.size,0,none⟩) m y s:=ht;have hb:Below w1.heap.size w1 (w1.alloc (Obj.cells #[Value.int IntKind.i64 3,Value.int IntKind.i64 q,Value.slice (some ⟨w.heap.size,0,none⟩) m y] 102)):=(Below.refl _ _).alloc (Nat.le_refl _) _;have HB:=hid (Below.on Z hb);have HT:=hid (k4.below hb)
   have HX:Hid (Box3 (w1.alloc (Obj.cells #[Value.int IntKind.i64 3,Value.int IntKind.i64 q,Value.slice (some ⟨w.heap.size,0,none⟩) m y] 102)) w1.heap.size (.int .i64 3) (.int .i64 q) (.slice (some ⟨w.heap.size,0,none⟩) m y)):=Box3.of_block (t:=102) (heap_alloc_new _ _);have V:Hid _:=ih
   have HE:Hid (q=vs.length/\vs.length=k.count):=⟨eq,e8⟩
   have hq:q<=4000000:=by have:=Fo.count_le k;omega
   clear ih ho h hw em es eq e8 h9 ht k4 h7 hb Z
   go_enter Tryz.func245,Tryz.ntmps245
   go_upto_region 1 with fail
   go_cut [1] from 7 (fun v wc=>∃ g2 n2 c2,v = .slice (some ⟨g2,0,none⟩) n2 c2/\Hid (OwnC wc B (some ⟨g2,0,none⟩) n2 c2 (cs ++ [((3,(q:Int),s):Cel)]))/\Hid (Below B w wc)/\n2=n+1)
   case first=>
    go_region_law (refine step_app_cell w _ rfl _ _ rfl B p n cp cs rfl HO.o HB.o hB ⟨w1.heap.size,0,none⟩ 1 rfl 3 q (some ⟨w.heap.size,0,none⟩) m y s HT.o (news_rc HX.o) (by omega) ?_;intro g1 n1 k3 w2 h8 k9 k8)
    all_goals go_wp2_with fail
    all_goals go_meet
    all_goals exact⟨g1,n1,k3,rfl,h8,(HB.o.mono hB).trans k9,k8⟩
   case rest=>
    obtain⟨g2,n2,c2,rfl,x1,e9,k7⟩:=hcut;have e1:wc.cell? ⟨b,1,none⟩=some (.slice (some ⟨g,0,none⟩) q cq):=(e9.o.cell (p:=⟨b,1,none⟩) (by have:=World.block_lt_of_cell? _ _ HC.o.2.2.2.1;show b<B;simp at this;omega)).trans O;clear c0 O d0 d1 e7 HO HB HT HX;go_wp2_with fail
    go_loopw [1,26] (fun v i wr=>∃ (D R:Fo) (us z:List Value) (j:Nat) (X:Option Addr) (G Y:Nat),j<=q/\G<=4000000/\i = .int .i64 j/\v = .slice X G Y/\Hid (k=D.cat R/\vs=us ++ z/\us.length=j/\G=n+1+D.cells.length)/\Hid (FoC T R z)/\
     Hid (OwnC wr B X G Y (cs ++ ((3,(q:Int),s):Cel) :: D.cells))/\Hid (Below B w wr)) (fun _ i _=>q-(intOf i).toNat)
    case atStart=>exact⟨.nil,k,[],vs,0,_,_,_,Nat.zero_le _,by omega,rfl,rfl,⟨rfl,rfl,rfl,by simp[Fo.cells,k7]⟩,HC.o.2.2.2.2.2.2,x1,e9⟩
    case round=>
     obtain⟨D,R,us,z,j,X,G,Y,hj,x4,rfl,rfl,M,HR,x,h6⟩:=hrel
     by_cases x2:j<q
     ·obtain⟨U,L,r',rfl⟩:∃ U L r',R = .node U L r':=by
       cases R with
       | nil=>
         have h1:=M.o;have h2:z = []:=HR.o;have h3:=HE.o.1;rw[h1.2.1,h2,List.append_nil] at h3
         omega
       | node U L r'=>exact⟨U,L,r',rfl⟩
      obtain⟨v,vr,rfl,e2,r⟩:=HR.o;have c:=(okH_cat D (.node U L r')).1 (M.o.1▸k6)
      have F:D.cells.length+(L.cells.length+r'.cells.length+1)=k.cells.length:=by
       rw[M.o.1,Fo.cells_cat];simp[Fo.cells]
      have I:T.cell? ⟨g,j,none⟩=some v:=by
       rw[HC.o.2.2.2.2.2.1 j (by rw[<-HE.o.1];exact x2),M.o.2.1]
       simp[List.getD,M.o.2.2.1]
      have K:Below T.heap.size T wr:=HW.o.trans (h6.o.mono e6);have c5:wr.cell? ⟨g,j,none⟩=some v:=(K.cell (World.block_lt_of_cell? _ _ I)).trans I
      have next:∀ Q P S J,OwnC J B Q P S ((cs ++ ((3,(q:Int),s):Cel) :: D.cells) ++ (U :: L.cells))->Below B wr J->
        ∃ (D R:Fo) (us z:List Value) (j':Nat) (X:Option Addr) (G Y:Nat),j'<=q/\G<=4000000/\Value.int .i64 ((j:Int)+1) = .int .i64 j'/\Value.slice Q P S = .slice X G Y/\Hid (k=D.cat R/\vs=us ++ z/\us.length=j'/\G=n+1+D.cells.length)/\Hid (FoC T R z)/\
          Hid (OwnC J B X G Y (cs ++ ((3,(q:Int),s):Cel) :: D.cells))/\Hid (Below B w J):=fun Q P S J h1 h2=>by
       have e3:=h1.1;have e4:=x.o.1;have e5:=M.o.2.2.2;simp only[List.length_append,List.length_cons] at e3 e4;refine⟨D.cat (.node U L .nil),r',us ++ [v],vr,j+1,Q,P,S,by omega,by omega,by go_num,rfl,⟨by rw[Fo.cat_assoc];exact M.o.1,by rw[M.o.2.1];simp,by simp[M.o.2.2.1],?_⟩,r,?_,h6.o.trans h2⟩
       ·rw[Fo.cells_cat];simp[Fo.cells];omega
       ·show OwnC _ _ _ _ _ _
        rw[Fo.cells_cat];simpa [Fo.cells] using h1
      have H:Hid _:=next
      clear next
      have h4:B<=wr.heap.size:=Nat.le_trans hB h6.o.size
      rcases e2 with ⟨C,rfl⟩ | ⟨C,rfl⟩ | ⟨C,rfl⟩ | ⟨C,b5,g5,x3,kv,rfl,h5⟩
      ·have W:L = .nil:=c.2.2.2.2.1 (by rw[C];decide)
       have l:=c.2.1;obtain⟨c0,O,u⟩:=U;simp only at C l;subst C W
       have e:u = []:=by(have hz:u.length=0:=by unfold cellH at l;omega);exact List.eq_nil_of_length_eq_zero hz
       subst e;have HS:=appVar_any O X G Y _ B wr h4 (by omega) x.o;clear c F I l r K x HR V;go_wp2_with fail;refine HS.mono ?_;rintro e J ⟨Q,P,S,rfl,f,A⟩;go_wp2_with fail;go_roundw
       case rel=>exact H.o Q P S J f A
       case measure=>simp[intOf];omega
      ·have W:L = .nil:=c.2.2.2.2.1 (by rw[C];decide)
       have l:=c.2.1;obtain⟨c0,O,u⟩:=U;simp only at C l;subst C W
       have e:u = []:=by(have hz:u.length=0:=by unfold cellH at l;omega);exact List.eq_nil_of_length_eq_zero hz
       subst e;have HS:=appNum_any O X G Y _ B wr h4 (by omega) x.o;clear c F I l r K x HR V;go_wp2_with fail;refine HS.mono ?_;rintro e J ⟨Q,P,S,rfl,f,A⟩;go_wp2_with fail;go_roundw
       case rel=>exact H.o Q P S J f A
       case measure=>simp[intOf];omega
      ·have W:L = .nil:=c.2.2.2.2.1 (by rw[C];decide)
       have l:=c.2.1;have E:=c.2.2.1;obtain⟨c0,O,u⟩:=U;simp only at C l E c5;subst C W
       have e:O=0:=by unfold cellH at l;omega
       subst e;have HS:=appAtom_any u E X G Y _ B wr h4 (by omega) x.o
       obtain⟨st,k1⟩:∃ st,st=strOfNums u:=⟨_,rfl⟩
       rw[<-k1] at HS c5;clear c F I l r K x HR V E k1;go_wp2_with fail;refine HS.mono ?_;rintro e J ⟨Q,P,S,rfl,f,A⟩;go_wp2_with fail;go_roundw
       case rel=>exact H.o Q P S J f A
       case measure=>simp[intOf];omega
      ·have l:=c.2.1
       have E:=c.2.2.1;have k2:=c.2.2.2.1 C;obtain⟨c0,O,u⟩:=U;simp only at C l E k2 h5;subst C k2;have HS:=V.o L.cells.length (by omega) u L b5 g5 x3 kv X G Y _ B T wr (Nat.le_refl _) c.2.2.2.2.2.1 E h5 K e6 h4 x.o (by have:=M.o.2.2.2;omega);clear c F I l r K x HR V E h5;go_wp2_with fail;refine HS.mono ?_;rintro e J ⟨Q,P,S,rfl,f,A⟩;go_wp2_with fail;go_roundw
       case rel=>exact H.o Q P S J f A
       case measure=>simp[intOf];omega
     ·obtain rfl:j=q:=by omega
      obtain rfl:R = .nil:=by
       have h1:=FoC.count _ _ HR.o;have h2:=HE.o;rw[M.o.2.1,List.length_append] at h2;have h3:=M.o.2.2.1
       cases R with
       | nil=>rfl
       | node a b d=>simp[Fo.count] at h1;omega
      have k5:Hid (D=k):=by have:=M.o.1;rw[Fo.cat_nil] at this;exact this.symm
      go_wp2_with fail;go_ret;refine⟨_,_,_,rfl,?_,h6.o⟩;have h1:=x.o;rw[k5.o,HE.o.1,HE.o.2] at h1;exact h1
theorem cellsH_any (c:Cel)(k:Fo)(v:Value)(w:World)(a:okH (Fo.node c k .nil))(C:FoC w (.node c k .nil) [v])(P:k.cells.length<=3000000) :
  Calls Tryz.prog 72 #[v] w fun e r=>∃ p n m,e = .returned (.slice p n m)/\OwnC r w.heap.size p n m (c :: k.cells)/\Below w.heap.size w r:=by
 have nil:=OwnC.nil w w.heap.size
 have u:∀ {e:Ending} {r:World},AppOut w w.heap.size [] (c :: k.cells) e r->∃ p n m,e = .returned (.slice p n m)/\OwnC r w.heap.size p n m (c :: k.cells)/\Below w.heap.size w r:=fun ⟨p,n,m,A,z,N⟩=>⟨p,n,m,A,by simpa using z,N⟩
 have B:Hid _:=@u;clear u;obtain⟨O,R,e,l,_⟩:=C;obtain⟨rfl,rfl⟩:=List.cons.inj e;have d:=a.1;have f:=a.2.1
 rcases l with ⟨h,rfl⟩ | ⟨h,rfl⟩ | ⟨h,rfl⟩ | ⟨h,b,g,M,L,rfl,i⟩
 rotate_right
 case' _=>
  have y:=a.2.2.1 h;obtain⟨F,q,j⟩:=c;simp only at h d f y i;subst h y;have x:=appCompH_any k.cells.length j k b g M L none 0 0 [] w.heap.size w w (Nat.le_refl _) a.2.2.2.2.1 f i (Below.refl _ _) (Nat.le_refl _) (Nat.le_refl _) nil (by omega);clear a d f e nil i
 rotate_right
 case' _=>
  have t:k = .nil:=a.2.2.2.1 (by rw[h];decide);obtain⟨F,q,j⟩:=c;simp only at h d f;subst h t
  have s:q=0:=by unfold cellH at d;omega
  subst s;have x:=appAtom_any j f none 0 0 [] w.heap.size w (Nat.le_refl _) (by decide) nil
  obtain⟨str,H⟩:∃ str,str=strOfNums j:=⟨_,rfl⟩
  simp only;rw[<-H] at x ⊢;clear a d f e nil H
 rotate_right
 case' _=>
  have t:k = .nil:=a.2.2.2.1 (by rw[h];decide);obtain⟨F,q,j⟩:=c;simp only at h d;subst h t
  have s:j = []:=by(have D:j.length=0:=by unfold cellH at d;omega);exact List.eq_nil_of_length_eq_zero D
  subst s;have x:=appNum_any q none 0 0 [] w.heap.size w (Nat.le_refl _) (by decide) nil;clear a d f e nil
 rotate_right
 case' _=>
  have t:k = .nil:=a.2.2.2.1 (by rw[h];decide);obtain⟨F,q,j⟩:=c;simp only at h d;subst h t
  have s:j = []:=by(have D:j.length=0:=by unfold cellH at d;omega);exact List.eq_nil_of_length_eq_zero D
  subst s;have x:=appVar_any q none 0 0 [] w.heap.size w (Nat.le_refl _) (by decide) nil;clear a d f e nil
 all_goals
  go_enter Tryz.func72,Tryz.ntmps72
  go_wp2_with fail;refine x.mono ?_;rintro e Q ⟨I,K,J,rfl,A,z⟩;have G:=B.o ⟨I,K,J,rfl,A,z⟩;have E:Hid _:=G;clear G A z;go_wp2_with fail;go_ret;exact E.o
end
end Go.Proofs.YtlkhmmoimplokaaGreatDoor
