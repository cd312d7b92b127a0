/- Texts of OrD, OrE, OrF, Make1, Make2, Make4, Make5, OrX0, MkN. Own work of the verifier. -/
import Derived.Test.YtnfnddnffoigfaaGreatDoorUqal
import Derived.Test.YtnfnddnffoigfaaGreatDoorUqad
namespace Go.Proofs.YtnfnddnffoigfaaGreatDoor
set_option maxHeartbeats 4000000
set_option linter.unusedVariables false
set_option maxRecDepth 100000
section
open Go Go.RowKit Go.Shelf
attribute [local go_sem] Oper.semAt_some
theorem one_set {W:World}{T:Nat}{u:Value}{t:TypeId}(h:W.heap[T]?=some (.cells #[u] t))(v:Value):(W.setCell ⟨T,0,none⟩ v).heap[T]?=some (.cells #[v] t):=by
 rw[heap_setCell_same _ _ _ _ _ _ h];rfl
theorem items_in (l p O n:Nat)(D:World)(c:Cel)(k:Fo)(lm:World->Nat)(J:List Value->World->Prop)(k8:(Fo.node c k .nil).ok)(hl:k.cells.length<=10000)(hn:1<=n)
  (hJ:∀ f W y,J f W->W.grownBy y (some p)->J f y) (k4:∀ f W,J f W->Below D.heap.size D W/\lm W=f.length) (k9:D.heap.size<=p)
  (hY:∀ f t x W rv,J f W->f.length<=10000->W.heap[p]?=some (.cells #[rv] 169)->YieldAt Fence.wide (n-1) Tryz.prog l #[.iface t x] W fun e y=>e = .returned (.bool true)/\J (f ++ [.iface t x]) y/\y.heap[p]?=W.heap[p]?)
  (W:World) (t0:TypeId) (x0:Value) (k5:FoIn D O (.node c k .nil) [.iface t0 x0]) (hS:W.heap[p]?=some (.cells #[.iface t0 x0] 169)) (z:J [] W) :
  CallsIn Fence.wide n Tryz.prog 128 #[.pointer (some ⟨p,0,none⟩),.func (.yield l) #[] #[]] W fun e y=>(∃ v,e = .returned v)/\∃ f v2,J f y/\y.heap[p]?=some (.cells #[v2] 169)/\FoIn D O (itsF (splitF c k).1) f/\FoIn D O (.node (splitF c k).2.1 (splitF c k).2.2 .nil) [v2]/\(itsF (splitF c k).1).ok:=by
 have Q:=hid hJ;have h6:=hid k4;have x6:Hid _:=hY;have HS:=hid hS;have H0:=hid z;have e6:=hid k5;have e9:Hid (Fo.node c k .nil).ok:=k8;have x5:=hid k9;clear hJ k4 hY hS z k5 k8 k9;refine callsIn_of_wp Tryz.func128 rfl trivial ?_ rfl;simp only[Tryz.ntmps128,List.size_toArray,List.length_cons,List.length_nil,Nat.reduceAdd,Nat.reduceSub,Array.replicate_succ,Array.replicate_zero,List.push_toArray,List.append_toArray,List.nil_append,List.cons_append]
 gi_wp2_with fail
 gi_loopw [] (fun wr=>∃ (B:List (Cel×Fo)) (m:Cel) (C:Fo) (T:TypeId) (U:Value) (f:List Value),f.length+C.cells.length<=10000/\Hid (splitF c k=(B ++ (splitF m C).1,(splitF m C).2))/\Hid (FoIn D O (.node m C .nil) [.iface T U])/\Hid ((Fo.node m C .nil).ok/\(itsF B).ok)/\Hid (FoIn D O (itsF B) f)/\
  Hid (wr.heap[p]?=some (.cells #[.iface T U] 169))/\Hid (J f wr)) (fun wr=>10001-lm wr)
 case atStart=>exact⟨[],c,k,t0,x0,[],by simpa using hl,rfl,e6,⟨e9.o,trivial⟩,rfl,HS,H0⟩
 case round=>
  obtain⟨B,m,C,T,U,f,w3,X,Z,H,Y,d,u⟩:=hrel
  have h5:∀ y,y.heap[p]?=some (.cells #[.iface T U] 169)->J f y->splitF m C=([],(m,C))->∃ f v2,J f y/\y.heap[p]?=some (.cells #[v2] 169)/\FoIn D O (itsF (splitF c k).1) f/\FoIn D O (.node (splitF c k).2.1 (splitF c k).2.2 .nil) [v2]/\(itsF (splitF c k).1).ok:=fun y A E h=>by
   have h3:=X.o;rw[h,List.append_nil] at h3;exact⟨f,_,E,A,by rw[h3];exact Y.o,by rw[h3];exact Z.o,by rw[h3];exact H.o.2⟩
  have i:Hid _:=h5;clear h5;obtain⟨v',vr,e,e4,_⟩:=Z.o;obtain⟨rfl,rfl⟩:=List.cons.inj e;clear e;have s0:wr.cell? ⟨p,0,none⟩=some (.iface T U):=cell_of_row _ _ 0 _ _ _ d.o
  have j:∀ c0,m.1=c0->c0≠3->splitF m C=([],(m,C)):=fun c0 A E=>splitF_other _ _ (fun e=>E (by rw[<-A,e];rfl))
  rcases e4 with ⟨z,F⟩ | ⟨z,F⟩ | ⟨z,F⟩ | ⟨z,b,g,kv,F,a⟩
  ·obtain⟨rfl,rfl⟩:T=65/\U = .int .i64 m.2.1:=by injection F with A E;exact⟨A,E⟩
   have R:Hid _:=i.o wr d.o u.o (j 0 z (by decide));have n1:=noComp_var
   obtain⟨x,ex⟩:∃ x,x=Value.int .i64 m.2.1:=⟨_,rfl⟩
   rw[<-ex] at s0;clear j z F ex i Z Y H X
   gi_wp2_with fail
   refine⟨trivial,?_⟩
   gi_wp2_with fail
   refine bodyPost_ret (results_none rfl _ _ _) rfl ⟨⟨_,rfl⟩,R.o⟩
  ·obtain⟨rfl,rfl⟩:T=146/\U = .int .i64 m.2.1:=by injection F with A E;exact⟨A,E⟩
   have R:Hid _:=i.o wr d.o u.o (j 1 z (by decide));have n1:=noComp_num
   obtain⟨x,ex⟩:∃ x,x=Value.int .i64 m.2.1:=⟨_,rfl⟩
   rw[<-ex] at s0;clear j z F ex i Z Y H X
   gi_wp2_with fail
   refine⟨trivial,?_⟩
   gi_wp2_with fail
   refine bodyPost_ret (results_none rfl _ _ _) rfl ⟨⟨_,rfl⟩,R.o⟩
  ·obtain⟨rfl,rfl⟩:T=55/\U = .string (strOfNums m.2.2):=by injection F with A E;exact⟨A,E⟩
   have R:Hid _:=i.o wr d.o u.o (j 2 z (by decide));have n1:=noComp_atom
   obtain⟨x,ex⟩:∃ x,x=Value.string (strOfNums m.2.2):=⟨_,rfl⟩
   rw[<-ex] at s0;clear j z F ex i Z Y H X
   gi_wp2_with fail
   refine⟨trivial,?_⟩
   gi_wp2_with fail
   refine bodyPost_ret (results_none rfl _ _ _) rfl ⟨⟨_,rfl⟩,R.o⟩
  ·obtain⟨rfl,rfl⟩:T=101/\U = .pointer (some ⟨b,0,none⟩):=by injection F with A E;exact⟨A,E⟩
   have n1:=isComp;have G:Below D.heap.size D wr:=(h6.o _ _ u.o).1;have K:=FoIn.count _ _ a.2.2.2.2.2.2;have S:=H.o.1.2.2.1 z
   obtain⟨q,eq⟩:∃ q,q=kv.length:=⟨_,rfl⟩
   have d0:=(G.cell (World.block_lt_of_cell? _ _ a.2.2.1)).trans a.2.2.1;have d1:=(G.cell (World.block_lt_of_cell? _ _ a.2.2.2.1)).trans a.2.2.2.1;rw[<-eq] at d1;have s:=str_eq H.o.1.2.1 [46]
   have I:Hid (m.2.1=q):=by show _=_;rw[S,<-K,eq]
   obtain⟨str,es⟩:∃ str,str=strOfNums m.2.2:=⟨_,rfl⟩
   rw[<-es] at d0 s;have P:=functor_any b g q str wr d0 d1;have HC:=hid a
   have b2:q<=10000:=by have:=Fo.count_le C;omega
   by_cases hs:m.2.2 = [46]
   ·have w7:str.toList = [46]:=s.2 (by rw[hs];rfl)
    by_cases hq:q=2
    ·have h4:m=dot:=by
      have A:=I.o;obtain⟨a1,a2,a3⟩:=m;simp only at z hs A;rw[z,hs,A,hq];rfl
     obtain⟨c1,k1,c2,k2,rfl⟩:=two_of (k:=C) (by rw[<-K,<-eq,hq]);obtain⟨v1,b3,e1,h8,v2,w8,e2,h9,e3⟩:=a.2.2.2.2.2.2;have x7:w8 = []:=e3;subst x7 e2;subst e1;obtain⟨t1,x1,rfl⟩:=h8.iface;obtain⟨L,N,rfl⟩:=h9.iface;have b0:=a.2.2.2.2.2.1 0 (by simp);have b1:=a.2.2.2.2.2.1 1 (by simp);simp only[List.getD_cons_zero,List.getD_cons_succ] at b0 b1;subst hq
     obtain⟨W3,x8⟩:∃ W3:World->World,W3=fun V=>V.setCell ⟨p,0,none⟩ (.iface L N):=⟨_,rfl⟩
     have w1:=a.2.2.2.2.1;have x9:b<D.heap.size:=World.block_lt_of_cell? _ _ a.2.2.1
     have e8:Hid (∀ V,Below wr.heap.size wr V->V.cell? ⟨b,1,none⟩=some (.slice (some ⟨g,0,none⟩) 2 2)/\V.cell? ⟨g,0,none⟩=some (.iface t1 x1)/\V.cell? ⟨g,1,none⟩=some (.iface L N)/\V.heap[p]?=some (.cells #[.iface 101 (.pointer (some ⟨b,0,none⟩))] 169)/\J f V):=fun V hV=>by
      have hw:=Below.on G hV;refine⟨?_,(hw.cell (World.block_lt_of_cell? _ _ b0)).trans b0,(hw.cell (World.block_lt_of_cell? _ _ b1)).trans b1,(hV.block _ (Array.getElem?_eq_some_iff.1 d.o).1).trans d.o,Q.o _ _ _ u.o (grown_of_below hV _)⟩;exact(hV.cell (World.block_lt_of_cell? _ _ d1)).trans d1
     have w:Hid (splitF c k=((B ++ [(c1,k1)]) ++ (splitF c2 k2).1,(splitF c2 k2).2)/\FoIn D O (.node c2 k2 .nil) [.iface L N]/\((Fo.node c2 k2 .nil).ok/\(itsF (B ++ [(c1,k1)])).ok)/\FoIn D O (itsF (B ++ [(c1,k1)])) (f ++ [.iface t1 x1])):=by
      have hk:=H.o.1.2.2.2.2.1;refine⟨?_,⟨_,[],rfl,h9,rfl⟩,⟨hk.2.2.2.2.2,?_⟩,?_⟩
      ·rw[X.o,h4,splitF_dot];simp
      ·rw[itsF_snoc,Fo.ok_cat]
       exact⟨H.o.2,hk.1,hk.2.1,hk.2.2.1,hk.2.2.2.1,hk.2.2.2.2.1,trivial⟩
      ·rw[itsF_snoc]
       exact FoIn.cat _ _ _ _ Y.o ⟨_,[],rfl,h8,rfl⟩
     have w6:(f ++ [Value.iface t1 x1]).length+k2.cells.length<=10000:=by simp[Fo.cells] at w3 ⊢;omega
     have w5:f.length<=10000:=by omega
     have k3:Hid (∀ V,V.heap[p]?=some (.cells #[.iface 101 (.pointer (some ⟨b,0,none⟩))] 169)->J f V->YieldAt Fence.wide (n-1) Tryz.prog l #[.iface t1 x1] (V.setCell ⟨p,0,none⟩ (.iface L N)) fun e y=>e = .returned (.bool true)/\J (f ++ [.iface t1 x1]) y/\y.heap[p]?=some (.cells #[.iface L N] 169)):=fun V hV hj=>by
      obtain⟨fn,tmps,assign,body,hy,hR⟩:=x6.o f t1 x1 (V.setCell ⟨p,0,none⟩ (.iface L N)) (.iface L N) (Q.o _ _ _ hj (grown_setCell V ⟨p,0,none⟩ _)) w5 (one_set hV _);exact⟨fn,tmps,assign,body,hy,RoundIn.mono hR fun e y h=>⟨h.1,h.2.1,h.2.2.trans (one_set hV _)⟩⟩
     have e5:Hid (b≠p/\g≠p):=by have:=x5.o;exact⟨by omega,by omega⟩
     have x4:Hid (lm wr=f.length):=(h6.o _ _ u.o).2;clear j z F i Z H Y X a K S eq es s hs h4 h8 h9 e3 G I e6 e9 b0 b1 x8 w1 x9 u d HC
     gi_wp2_with fail
     refine⟨trivial,?_⟩;refine CallsIn.mono (callsIn_wide.2 P) ?_;rintro e M ⟨rfl,r⟩;obtain⟨f0,f1,f2,f3,f4⟩:=e8.o M r;obtain⟨fn,tmps,assign,body,hy,hR⟩:=k3.o M f3 f4;have HR:Hid _:=hR;have s1:M.cell? ⟨p,0,none⟩=some (.iface 101 (.pointer (some ⟨b,0,none⟩))):=cell_of_row _ _ 0 _ _ _ f3;have z1:M.frozen? ⟨p,0,none⟩=false:=frozen_of_row _ _ 0 _ _ f3;have y0:(M.setCell ⟨p,0,none⟩ (.iface L N)).cell? ⟨b,1,none⟩=some (.slice (some ⟨g,0,none⟩) 2 2):=(World.cell?_setCell_other _ _ _ _ (fun e=>e5.o.1 (by have:=congrArg Addr.block e;simpa using this.symm))).trans f0;have y1:(M.setCell ⟨p,0,none⟩ (.iface L N)).cell? ⟨g,0,none⟩=some (.iface t1 x1):=(World.cell?_setCell_other _ _ _ _ (fun e=>e5.o.2 (by have:=congrArg Addr.block e;simpa using this.symm))).trans f1;clear s0 d0 d1 P k3 e8 f3 f4 r hR
     gi_wp2_with fail
     refine RoundIn.mono HR.o ?_;rintro e w4 ⟨rfl,k6,k7⟩;have e7:Hid _:=k6;have x3:Hid _:=k7;clear k6 k7 hy HR
     gi_wp2_with fail
     go_roundw
     case rel=>exact⟨B ++ [(c1,k1)],c2,k2,L,N,f ++ [Value.iface t1 x1],w6,w.o.1,w.o.2.1,w.o.2.2.1,w.o.2.2.2,x3.o,e7.o⟩
     case measure=>
      have A:=x4.o;have E:=(h6.o _ _ e7.o).2;simp only[List.length_append,List.length_singleton] at E
      omega
    ·have w9:¬ ((q:Int)=2):=by omega
     have h7:Hid (splitF m C=([],(m,C))):=splitF_other _ _ (fun e=>hq (by have A:=I.o;rw[e] at A;simp[dot] at A;omega));clear j z F Z H Y X a K S eq es s hs hq I G d0 d1
     gi_wp2_with fail
     refine⟨trivial,?_⟩;refine CallsIn.mono (callsIn_wide.2 P) ?_;rintro e M ⟨rfl,r⟩;have R:Hid _:=i.o M ((r.block _ (Array.getElem?_eq_some_iff.1 d.o).1).trans d.o) (Q.o _ _ _ u.o (grown_of_below r _)) h7.o;clear r
     gi_wp2_with fail
     refine bodyPost_ret (results_none rfl _ _ _) rfl ⟨⟨_,rfl⟩,R.o⟩
   ·have w7:¬ str.toList = [46]:=fun h=>hs (by have:=s.1 h;simpa using this)
    have h7:Hid (splitF m C=([],(m,C))):=splitF_other _ _ (fun e=>hs (by rw[e];rfl));clear j z F Z H Y X a K S eq es s hs I G d0 d1
    gi_wp2_with fail
    refine⟨trivial,?_⟩;refine CallsIn.mono (callsIn_wide.2 P) ?_;rintro e M ⟨rfl,r⟩;have R:Hid _:=i.o M ((r.block _ (Array.getElem?_eq_some_iff.1 d.o).1).trans d.o) (Q.o _ _ _ u.o (grown_of_below r _)) h7.o;clear r
    gi_wp2_with fail
    refine bodyPost_ret (results_none rfl _ _ _) rfl ⟨⟨_,rfl⟩,R.o⟩
attribute [local go_sem] Oper.semAt_some
def lenB (w:World)(h:Nat):Nat:=match w.cell? ⟨h,0,none⟩ with
 | some (.slice _ n _)=>n
 | _=>0
theorem lenB_at {w:World}{h n c:Nat}{p:Option Addr}(e:w.cell? ⟨h,0,none⟩=some (.slice p n c)):lenB w h=n:=by unfold lenB;rw[e]
structure JC (w0 w:World)(sp T:Nat)(ready:Obj)(vs:List Value)(W:World):Prop where
 low:Below w0.heap.size w0 W
 gr:w.grownBy W (some sp)
 top:T+3<=W.heap.size
 mark:W.heap[T+1]?=some (.deferred (some []))
 rec':W.heap[T+2]?=some ready
 box:∃ p n c,W.heap[T]?=some (.cells #[.slice p n c] 52)/\n=vs.length/\W.ownsRow (T+3) 48 1 (.slice p n c) n vs
theorem JC.grown {i w W j:World}{d T:Nat}{b:Obj}{m:List Value}(h:JC i w d T b m W)(v:i.heap.size<=d)(s:d<T)(u:T=w.heap.size)(a:W.grownBy j (some d)):JC i w d T b m j:=by
 obtain⟨p,n,c,o,r,l⟩:=h.box;have t:=h.top;refine⟨h.low.trans ⟨a.os,a.tape,a.output,a.size,fun k q=>a.block k (Nat.lt_of_lt_of_le q h.low.size) (fun e=>by cases e;omega)⟩,h.gr.trans a,Nat.le_trans t a.size,(a.block _ (by omega) (fun e=>by cases e;omega)).trans h.mark,(a.block _ (by omega) (fun e=>by cases e;omega)).trans h.rec',p,n,c,(a.block _ (by omega) (fun e=>by cases e;omega)).trans o,r,l.kept a ?_⟩
 cases f:Value.ownBlock (.slice p n c) with
 | none=>exact .inl rfl
 | some g=>
   have:=(l.lt g f).1;exact .inr (fun e=>by cases e;omega)
theorem JC.next {G w W t f U:World}{C T n c a m:Nat}{p:Option Addr}{d i:Obj}{D:List Value}{x:Value}(h:JC G w C T d D W)(Y:G.heap.size<=T)(S:C<T)(V:T=w.heap.size)
  (N:W.heap[T]?=some (.cells #[.slice p n c] 52)) (O:n=D.length) (P:W.ownsRow (T+3) 48 1 (.slice p n c) n D)
  (u:t=(W.putObj (T+2) i).alloc (.cells #[x] 48)) (y:f.ownsRow (T+3) 48 1 (.slice (some ⟨m,0,none⟩) (n+1) a) (n+1) (D ++ [x])) (l:t.grownBy f (Value.ownBlock (.slice p n c)))
  (r:U=(f.setCell ⟨T,0,none⟩ (.slice (some ⟨m,0,none⟩) (n+1) a)).putObj (T+2) d) :
  (f.setCell ⟨T,0,none⟩ (.slice (some ⟨m,0,none⟩) (n+1) a)).heap[T+2]?=some i/\JC G w C T d (D ++ [x]) U/\U.heap[C]?=W.heap[C]?:=by
 have X:=h.top
 have own:∀ k,k<T+3->Value.ownBlock (.slice p n c)≠some k:=fun k o e=>by have:=(P.lt k e).1;omega
 have L:∀ k,k<W.heap.size->k≠T+2->t.heap[k]?=W.heap[k]?:=fun k o b=>by
  rw[u];exact(Below.heap_alloc _ _ _ (by simpa using o)).trans (World.putObj_heap_other b)
 have F:t.heap[T+2]?=some i:=by
  rw[u];exact(Below.heap_alloc _ _ _ (by simp;omega)).trans (World.putObj_heap_same (by omega))
 have M:t.heap.size=W.heap.size+1:=by rw[u];simp
 have H:∀ k,k<T+3->f.heap[k]?=t.heap[k]?:=fun k o=>l.block k (by omega) (own k o).symm
 have j:∀ k,k<T+3->k≠T+2->f.heap[k]?=W.heap[k]?:=fun k o b=>(H k o).trans (L k (by omega) b)
 have I:∀ k,k≠T->(f.setCell ⟨T,0,none⟩ (.slice (some ⟨m,0,none⟩) (n+1) a)).heap[k]?=f.heap[k]?:=fun k b=>heap_setCell_other f ⟨T,0,none⟩ k _ (fun e=>b e)
 have q:∀ k,k≠T->k≠T+2->U.heap[k]?=f.heap[k]?:=fun k J K=>by rw[r];exact(World.putObj_heap_other K).trans (I k J)
 have E:(f.setCell ⟨T,0,none⟩ (.slice (some ⟨m,0,none⟩) (n+1) a)).heap[T]?=some (.cells #[.slice (some ⟨m,0,none⟩) (n+1) a] 52):=one_set ((j T (by omega) (by omega)).trans N) _
 have Q:W.heap.size+1<=f.heap.size:=by have:=l.size;omega
 have R:U.heap.size=f.heap.size:=by rw[r];simp
 have A:U.os=W.os:=by rw[r];exact l.os.trans (by rw[u];rfl)
 have B:U.tape=W.tape:=by rw[r];exact l.tape.trans (by rw[u];rfl)
 have z:U.output=W.output:=by rw[r];exact l.output.trans (by rw[u];rfl)
 refine⟨(I _ (by omega)).trans ((H _ (by omega)).trans F),⟨⟨A.trans h.low.os,B.trans h.low.tape,z.trans h.low.output,by have:=h.low.size;omega,fun k o=>?_⟩,⟨A.trans h.gr.os,B.trans h.gr.tape,z.trans h.gr.output,by have:=h.gr.size;omega,fun k o b=>?_⟩,by omega,?_,?_,some ⟨m,0,none⟩,n+1,a,?_,by simp[O],?_⟩,?_⟩
 ·exact(q k (by omega) (by omega)).trans ((j k (by omega) (by omega)).trans (h.low.block k o))
 ·exact(q k (by omega) (by omega)).trans ((j k (by omega) (by omega)).trans (h.gr.block k o b))
 ·exact(q _ (by omega) (by omega)).trans ((j _ (by omega) (by omega)).trans h.mark)
 ·rw[r];exact World.putObj_heap_same (by simp;omega)
 ·rw[r];exact(World.putObj_heap_other (by omega)).trans E
 ·rw[r]
  have v:∀ g,Value.ownBlock (.slice (some ⟨m,0,none⟩) (n+1) a)=some g->T+3<=g:=fun g e=>(y.lt g e).1
  refine(y.kept (grown_setCell f ⟨T,0,none⟩ _) ?_).kept (grownBy_putObj' _ _ _) ?_
  ·cases s:Value.ownBlock (.slice (some ⟨m,0,none⟩) (n+1) a) with
   | none=>exact .inl rfl
   | some g=>exact .inr (fun e=>by have:=v g s;cases e;simp at this;omega)
  ·cases s:Value.ownBlock (.slice (some ⟨m,0,none⟩) (n+1) a) with
   | none=>exact .inl rfl
   | some g=>exact .inr (fun e=>by have:=v g s;cases e;omega)
 ·exact(q _ (by omega) (by omega)).trans (j _ (by omega) (by omega))
def ColOut (w0:World)(Bt sp:Nat)(w:World)(c:Cel)(k:Fo)(e:Ending)(w':World):Prop:=
 ∃ p n cp vs v2,e = .returned (.slice p n cp)/\n=(splitF c k).1.length/\w'.ownsRow w.heap.size 48 1 (.slice p n cp) n vs/\FoIn w0 Bt (itsF (splitF c k).1) vs/\FoIn w0 Bt (.node (splitF c k).2.1 (splitF c k).2.2 .nil) [v2]/\w'.heap[sp]?=some (.cells #[v2] 169)/\(itsF (splitF c k).1).ok/\w.grownBy w' (some sp)
theorem appendSeq_any (d Bt:Nat)(G w:World)(c:Cel)(k:Fo)(k3:(Fo.node c k .nil).ok)(hl:k.cells.length<=10000)(t0:TypeId)(x0:Value)(e8:FoIn G Bt (.node c k .nil) [.iface t0 x0])(hB:Below G.heap.size G w)(e4:G.heap.size<=d)
  (hS:w.heap[d]?=some (.cells #[.iface t0 x0] 169)) :
  Calls Tryz.prog 230 #[.slice none 0 0,.func (.func 128) #[.pointer (some ⟨d,0,none⟩)] #[]] w (ColOut G Bt d w c k):=by
 have R:d<w.heap.size:=(Array.getElem?_eq_some_iff.1 hS).1;refine(callsIn_wide (n:=6)).1 ?_;refine callsIn_of_wp_marks Tryz.func230 rfl trivial ?_ rfl;simp only[Tryz.ntmps230,List.size_toArray,List.length_cons,List.length_nil,Nat.reduceAdd,Nat.reduceSub,Array.replicate_succ,Array.replicate_zero,List.push_toArray,List.append_toArray,List.nil_append,List.cons_append]
 gi_wp2_with fail
 obtain⟨T,J⟩:∃ T,T=w.heap.size:=⟨_,rfl⟩
 refine wpIn_range_pan (gf:=128) (first:=#[.pointer (some ⟨d,0,none⟩)]) rfl (enters_of Tryz.func128 (by kernel_rfl) rfl) ?_;rintro l D a L done I hD hL y x1 x2 x3 u
 have eD:D=T+1:=by rw[hD,J];simp
 have eL:l=T+2:=by rw[hL,J];simp
 clear hD hL;subst eD;subst eL
 have r:Below w.heap.size w I:=by
  rw[y];exact(((Below.refl _ _).alloc (Nat.le_refl _) _).alloc (by simp) _).alloc (by simp;omega) _
 have h9:I.heap.size=T+3:=by rw[y,J];simp
 have k0:I.heap[T]?=some (.cells #[.slice none 0 0] 52):=by
  rw[y,J];exact(Below.heap_alloc _ _ _ (by simp;omega)).trans ((Below.heap_alloc _ _ _ (by simp)).trans (heap_alloc_new _ _))
 have k1:I.heap[T+1]?=some (.deferred (some [])):=by
  rw[y,J];refine(Below.heap_alloc _ _ _ (by simp)).trans ?_;have:=heap_alloc_new (w.alloc (.cells #[.slice none 0 0] 52)) (.deferred (some []))
  rwa[show(w.alloc (.cells #[.slice none 0 0] 52)).heap.size=w.heap.size+1 from by simp] at this
 have k2:I.heap[T+2]?=some a:=by
  have:=heap_alloc_new ((w.alloc (.cells #[.slice none 0 0] 52)).alloc (.deferred (some []))) a;rw[show((w.alloc (.cells #[.slice none 0 0] 52)).alloc (.deferred (some []))).heap.size=T+2 from by rw[J];simp] at this;rw[y];exact this
 have X:Hid (JC G w d T a [] I):=⟨Below.on hB r,grown_of_below r _,by omega,k1,k2,none,0,0,k0,rfl,World.ownsRow_nil _ _ _ _⟩
 have Y:Hid (I.heap[d]?=some (.cells #[.iface t0 x0] 169)):=(r.block _ R).trans hS
 have m:Hid (G.heap.size<=T/\d<T/\T=w.heap.size):=⟨by have:=hB.size;omega,by omega,J⟩
 have h6:=hid e4;have z:Hid _:=u;rw[<-J]
 show CallsIn _ _ _ _ #[.pointer (some ⟨d,0,none⟩),.func (.yield (T+2)) #[] #[]] I _
 clear u r h9 k0 k1 k2 y hS hB e4 R J;refine(items_in (T+2) d Bt 5 G c k (fun W=>lenB W T) (JC G w d T a) k3 hl (by decide) (fun S W W' h g=>h.grown h6.o m.o.2.1 m.o.2.2 g) (fun S W h=>⟨h.low,by obtain⟨p,n,c',M,hn,_⟩:=h.box;rw[lenB_at (cell_of_row _ _ 0 _ _ _ M)];exact hn⟩) h6.o ?round I t0 x0 e8 Y.o X.o).mono ?post
 case round=>
  intro S t x W rv b e2 k4
  refine z.o #[.iface t x] W _ rfl b.rec' ?_;rw[<-m.o.2.2];obtain⟨p,n,i,M,hn,K⟩:=b.box
  obtain⟨V,q⟩:∃ V,V=W.putObj (T+2) L:=⟨_,rfl⟩
  have e7:V.heap.size=W.heap.size:=by rw[q];simp
  have F:=b.top
  have h3:V.heap[T]?=some (.cells #[.slice p n i] 52):=by rw[q];exact(World.putObj_heap_other (by omega)).trans M
  have h8:V.ownsRow (T+3) 48 1 (.slice p n i) n S:=by
   rw[q];refine K.kept (grownBy_putObj' _ _ _) ?_
   cases C:Value.ownBlock (.slice p n i) with
   | none=>exact .inl rfl
   | some g=>exact .inr (fun e=>by have:=(K.lt g C).1;cases e;omega)
  have e6:=hid h8;have q0:V.cell? ⟨T,0,none⟩=some (.slice p n i):=cell_of_row _ _ 0 _ _ _ h3
  have k8:T+3<=V.heap.size:=by omega
  have k9:n<=10000:=by omega
  obtain⟨i0,hi,k5,k6,k7⟩:=info_parts infoTerm
  have e5:Hid (∀ Z A H,H.ownsRow (T+3) 48 1 (.slice (some ⟨Z,0,none⟩) (n+1) A) (n+1) (S ++ [.iface t x])->(V.alloc (.cells #[.iface t x] 48)).grownBy H (Value.ownBlock (.slice p n i))->
    H.heap[T]?=some (.cells #[.slice p n i] 52)/\(H.setCell ⟨T,0,none⟩ (.slice (some ⟨Z,0,none⟩) (n+1) A)).heap[T+2]?=some L/\JC G w d T a (S ++ [.iface t x]) ((H.setCell ⟨T,0,none⟩ (.slice (some ⟨Z,0,none⟩) (n+1) A)).putObj (T+2) a)/\((H.setCell ⟨T,0,none⟩ (.slice (some ⟨Z,0,none⟩) (n+1) A)).putObj (T+2) a).heap[d]?=W.heap[d]?):=fun Z A H h1 h2=>by
   refine⟨?_,b.next m.o.1 m.o.2.1 m.o.2.2 M hn K (by rw[q]) h1 h2 rfl⟩;exact(h2.block T (by simp;omega) (fun e=>by have:=(K.lt T e.symm).1;omega)).trans ((Below.heap_alloc _ _ _ (by omega)).trans h3)
  have h5:=hid b.rec';have HV:=hid q;clear b M hn K h3 h8 q k4 e2 z X Y e7 F
  gi_wp2_with fail
  refine⟨h5.o,?_⟩;rw[<-HV.o];clear HV h5;refine wpIn_block ?_;refine wpIn_region_round (by simp[noDefer]) ?_;go_wp2_with (refine wpList_append_lies _ rfl _ _ 52 rfl (T+3) 48 i0 .nilIface 1 16 Tryz.underlying52 hi k5 k6 k7 rfl (by decide) (.slice p n i) n S rfl (World.ownsRow.alloc (w:=V) e6.o _) ⟨V.heap.size,0,none⟩ 1 1 [.iface t x] rfl rfl (cell_one_new V _ _) (one_iface t x) (by decide) (by unfold maxLen;omega) (by omega) (by simp;omega) _ rfl ?_;intro Z h7 H E s e1 e3;have U:Hid _:=e5.o Z h7 H E s;have c7:H.cell? ⟨T,0,none⟩=some (.slice p n i):=cell_of_row _ _ 0 _ _ _ U.o.1;have f7:H.frozen? ⟨T,0,none⟩=false:=frozen_of_row _ _ 0 _ _ U.o.1;clear E s e1 e3);exact U.o.2
 case post=>
  rintro e W' ⟨⟨v,rfl⟩,S,v2,b,Q,B,O,P⟩;refine⟨b.rec',?_⟩;obtain⟨p,n,i,M,hn,K⟩:=b.box;have F:=b.top
  obtain⟨V,q⟩:∃ V,V=W'.putObj (T+2) done:=⟨_,rfl⟩
  have hk:∀ k,k≠T+2->V.heap[k]?=W'.heap[k]?:=fun k h=>by rw[q];exact World.putObj_heap_other h
  rw[<-q];have v0:V.cell? ⟨T,0,none⟩=some (.slice p n i):=cell_of_row _ _ 0 _ _ _ ((hk T (by omega)).trans M);have e9:V.heap[T+1]?=some (.deferred (some [])):=(hk _ (by omega)).trans b.mark
  have N:n=(splitF c k).1.length:=by
   have:=FoIn.count _ _ B;rw[hn,this,itsF_count]
  have hT:=m.o
  have h4:Hid (ColOut G Bt d w c k (.returned (.slice p n i)) (V.putObj (T+1) (.deferred none))):=by
   have own:∀ g,Value.ownBlock (.slice p n i)=some g->T+3<=g:=fun g e=>(K.lt g e).1
   have hY:∀ j,j≠T+1->j≠T+2->(V.putObj (T+1) (.deferred none)).heap[j]?=W'.heap[j]?:=fun j h1 h2=>(World.putObj_heap_other h1).trans (hk j h2)
   refine⟨p,n,i,S,v2,rfl,N,?_,B,O,(hY d (by omega) (by omega)).trans Q,P,?_⟩
   ·rw[q]
    refine World.ownsRow.mono ((K.kept (grownBy_putObj' _ _ _) ?_).kept (grownBy_putObj' _ _ _) ?_) (by omega)
    ·cases C:Value.ownBlock (.slice p n i) with
     | none=>exact .inl rfl
     | some g=>exact .inr (fun e=>by have:=own g C;cases e;omega)
    ·cases C:Value.ownBlock (.slice p n i) with
     | none=>exact .inl rfl
     | some g=>exact .inr (fun e=>by have:=own g C;cases e;omega)
   ·exact⟨by rw[q];exact b.gr.os,by rw[q];exact b.gr.tape,by rw[q];exact b.gr.output,by rw[q];simpa using b.gr.size,fun j h1 h2=>(hY j (by omega) (by omega)).trans (b.gr.block j h1 h2)⟩
  clear b M hn K B O P Q hk q z X Y N hT F
  gi_wp2_with fail
  refine⟨by simp,.inl ⟨_,_,rfl,run_takeDeferred e9,?_⟩⟩;exact⟨.slice p n i,by simp[results,Tryz.f230,go_sem],h4.o⟩
end
section
open Go Go.RowKit
theorem collectT_any (g i:Nat)(a w:World)(c:Cel)(k:Fo)(d:(Fo.node c k .nil).ok)(s:k.cells.length<=10000)(j:TypeId)(l:Value)(b:FoIn a i (.node c k .nil) [.iface j l])(q:Below a.heap.size a w)(f:a.heap.size<=g)
  (r:w.heap[g]?=some (.cells #[.iface j l] 169)) :
  Calls Tryz.prog 176 #[.func (.func 128) #[.pointer (some ⟨g,0,none⟩)] #[]] w (ColOut a i g w c k):=by
 have m:=appendSeq_any g i a w c k d s j l b q f r;clear d s b q f r
 go_enter Tryz.func176,Tryz.ntmps176
 go_wp2_with fail;refine m.mono ?_;rintro e x ⟨p,n,t,v,u,rfl,h⟩;have H:Hid _:=h;clear h m;go_wp2_with fail;go_ret;exact⟨p,n,t,v,u,rfl,H.o⟩
def LsOut (w0:World)(Bt:Nat)(w:World)(its:List (Cel×Fo))(e:Ending)(w':World):Prop:=
 ∃ p n cp vs,e = .returned (.tuple #[.slice p n cp,.nilIface])/\n=its.length/\w'.ownsRow w.heap.size 48 1 (.slice p n cp) n vs/\FoIn w0 Bt (itsF its) vs/\(itsF its).ok/\Below w.heap.size w w'
theorem listArg_any (y:Nat)(w:World)(c:Cel)(k:Fo)(v:Value)(s:(Fo.node c k .nil).ok)(F:k.cells.length<=10000)(m:FoIn w y (.node c k .nil) [v])(b:(splitF c k).2.1=nilC) :
  Calls Tryz.prog 117 #[v] w (LsOut w y w (splitF c k).1):=by
 obtain⟨A,B,rfl⟩:=m.iface
 obtain⟨x,z⟩:∃ x,x=w.alloc (.cells #[.iface A B] 169):=⟨_,rfl⟩
 have l:Below w.heap.size w x:=by rw[z];exact(Below.refl _ _).alloc (Nat.le_refl _) _
 have I:x.heap[w.heap.size]?=some (.cells #[.iface A B] 169):=by rw[z];exact heap_alloc_new _ _
 have C:=collectT_any w.heap.size y w x c k s F A B m l (Nat.le_refl _) I;have i:=hid l;have q:=hid b;have O:=noVar_atom;have P:=isAtom;clear s F m l I b
 go_enter Tryz.func117,Tryz.ntmps117
 go_wp2_with fail;rw[<-z];clear z;refine C.mono ?_;rintro e J ⟨p,n,D,N,M,rfl,G,H,d,f,t,g,E⟩;rw[q.o] at f;obtain⟨u,R,e,a,_⟩:=f;obtain⟨rfl,rfl⟩:=List.cons.inj e
 have L:M = .iface 55 (.string ⟨#[91,93]⟩):=by
  rcases a with ⟨h,_⟩ | ⟨h,_⟩ | ⟨_,h⟩ | ⟨h,_⟩
  ·cases h
  ·cases h
  ·exact h
  ·cases h
 subst L
 have r:Hid (LsOut w y w (splitF c k).1 (.returned (.tuple #[.slice p n D,.nilIface])) J):=by
  refine⟨p,n,D,N,rfl,G,H.mono i.o.size,d,g,i.o.grown E i.o.size (fun j K=>by cases K;exact Nat.le_refl _)⟩
 have Q:J.cell? ⟨w.heap.size,0,none⟩=some (.iface 55 (.string ⟨#[91,93]⟩)):=cell_of_row _ _ 0 _ _ _ t;clear G H d t g E e a C;go_wp2_with fail
 go_ret2
 exact r.o
end
section
open Go Go.RowKit Go.Shelf
attribute [local go_sem] Oper.semAt_some
def strike (W:World)(X:Nat):World:=W.putObj X (.deferred none)
theorem strike_size (W:World)(X:Nat):(strike W X).heap.size=W.heap.size:=World.putObj_size
theorem strike_cell {W:World}{X:Nat}(a:X<W.heap.size){p:Addr}{v:Value}(h:(strike W X).cell? p=some v):p.block≠X/\W.cell? p=some v:=by
 by_cases e:p.block=X
 ·exfalso
  subst e;simp only[strike,World.cell?,World.putObj_heap_same a] at h
  cases h
 ·refine⟨e,?_⟩
  simpa only[strike,World.cell?,World.putObj_heap_other e] using h
theorem strike_of {W:World}{X:Nat}{p:Addr}{v:Value}(e:p.block≠X)(h:W.cell? p=some v):(strike W X).cell? p=some v:=by
 simpa only[strike,World.cell?,World.putObj_heap_other e] using h
def FoX (W:World)(X B:Nat)(F:Fo)(vs:List Value):Prop:=FoIn (strike W X) B F vs
theorem FoX.imp {W W':World}{X B:Nat}{F:Fo}{c:List Value}(h:FoX W X B F c)(a:X<W.heap.size)(d:∀ p v,p.block≠X->W.cell? p=some v->W'.cell? p=some v)(e:W.heap.size<=W'.heap.size):FoX W' X B F c:=
 FoIn.imp2 (Nat.le_refl _) (fun p v b=>strike_of (strike_cell a b).1 (d p v (strike_cell a b).1 (strike_cell a b).2)) (by rw[strike_size,strike_size];exact e) F c h
theorem FoX.foIn {W:World}{X B:Nat}{F:Fo}{a:List Value}(h:FoX W X B F a)(b:X<W.heap.size):FoIn W B F a:=
 FoIn.imp2 (Nat.le_refl _) (fun p v c=>(strike_cell b c).2) (by rw[strike_size];exact Nat.le_refl _) F a h
theorem FoIn.foX {w W:World}{B:Nat}{F:Fo}{b:List Value}(h:FoIn w B F b)(c:Below w.heap.size w W):FoX W w.heap.size B F b:=
 FoIn.imp2 (Nat.le_refl _) (fun p v a=>strike_of (by have:=World.block_lt_of_cell? _ _ a;omega) ((c.cell (World.block_lt_of_cell? _ _ a)).trans a)) (by rw[strike_size];exact c.size) F b h
def listT:List (Cel×Fo)->Fo
 | []=>.node nilC .nil .nil
 | x :: r=>.node dot (.node x.1 x.2 (listT r)) .nil
theorem listT_count (a:List (Cel×Fo)):(listT a).count=1:=by cases a <;> rfl
theorem listT_ok:∀ b:List (Cel×Fo),(∀ x ∈ b,(Fo.node x.1 x.2 .nil).ok)->(listT b).ok
 | [],_=>⟨by decide,fun x a=>by simp[nilC] at a;omega,fun h=>by simp[nilC] at h,fun _=>rfl,trivial,trivial⟩
 | x :: r,h=>by
   obtain⟨c,d,e,f,g,_⟩:=h x (by simp);refine⟨by decide,fun x a=>by simp[dot] at a;omega,fun _=>?_,fun h=>(h rfl).elim,⟨c,d,e,f,g,listT_ok r (fun y i=>h y (by simp[i]))⟩,trivial⟩
   show(2:Int)=(((listT r).count+1:Nat):Int)
   rw[listT_count];rfl
def LInv (w:World)(B:Nat)(ts:List (Cel×Fo))(zs:List (Nat×Value))(pre:List Itm)(W:World):Prop:=
 ∃ t u,Boxed W w.heap.size 48 (.iface t u)/\(pre=upto (bkAt zs ts.length) pre.length->FoX W w.heap.size B (listT (ts.drop (ts.length-pre.length))) [.iface t u])
theorem lInv_own (w:World)(B:Nat)(i:List (Cel×Fo))(j:List (Nat×Value)):Own (LInv w B i j):=fun h A C b ⟨t,u,c,f⟩ a d=>
 ⟨t,u,boxed_own (β:=Unit) _ _ (fun _=>.iface t u) () A C b c a d,fun e=>(f e).imp c.lt (fun p v _ g=>cell_kept g a d) a.size⟩
def rndW (w W:World)(x:Itm)(t:Nat)(u:Value):World:=
 ((W.alloc (.cells #[.iface x.2.1 x.2.2,.iface t u] 48)).alloc (.cells #[.string ⟨#[46]⟩,.slice (some ⟨W.heap.size,0,none⟩) 2 2] 105)).setCell ⟨w.heap.size,0,none⟩ (.iface 101 (.pointer (some ⟨W.heap.size+1,0,none⟩)))
theorem rndW_size (w W:World)(x:Itm)(t:Nat)(u:Value):W.heap.size<=(rndW w W x t u).heap.size:=by
 have:=(grownBy_setCell' ((W.alloc (.cells #[.iface x.2.1 x.2.2,.iface t u] 48)).alloc (.cells #[.string ⟨#[46]⟩,.slice (some ⟨W.heap.size,0,none⟩) 2 2] 105)) w.heap.size (.iface 101 (.pointer (some ⟨W.heap.size+1,0,none⟩)))).size;simp only[World.size_alloc] at this
 show _<=_
 simp only[rndW]
 omega
theorem rndW_heap (w W:World)(x:Itm)(t:Nat)(u:Value)(k:Nat)(b:k<W.heap.size+2)(a:k≠w.heap.size):(rndW w W x t u).heap[k]?=((W.alloc (.cells #[.iface x.2.1 x.2.2,.iface t u] 48)).alloc (.cells #[.string ⟨#[46]⟩,.slice (some ⟨W.heap.size,0,none⟩) 2 2] 105)).heap[k]?:=
 (grownBy_setCell' _ w.heap.size _).block k (by simp only[World.size_alloc];omega) (fun e=>a (Option.some.inj e))
theorem rndW_cell {w W:World}(x:Itm)(t:Nat)(u:Value){p:Addr}{v:Value}(a:p.block≠w.heap.size)(h:W.cell? p=some v):(rndW w W x t u).cell? p=some v:=by
 have b:=World.block_lt_of_cell? _ _ h;refine(World.cell?_of_block (rndW_heap w W x t u p.block (by omega) a)).trans ?_;rw[World.cell?_alloc_some _ _ _ (by rw[World.cell?_alloc_some _ _ _ (by rw[h];rfl),h];rfl),World.cell?_alloc_some _ _ _ (by rw[h];rfl),h]
theorem bKeep_step {w W:World}{t:Nat}{u:Value}(a:Below w.heap.size w W)(b:Boxed W w.heap.size 48 (.iface t u))(x:Itm) :
  KeepsOthers W (rndW w W x t u)/\BKeep w.heap.size (w.heap.size+1) W (rndW w W x t u):=by
 refine⟨((KeepsOthers.alloc W _).trans ((KeepsOthers.alloc _ _).trans (KeepsOthers.setCell _ _ _))),⟨?_,fun v c=>rndW_cell x t u (by simp) c⟩⟩;refine(((Below.refl w.heap.size W).alloc a.size _).alloc (by have:=a.size;simp;omega) _).setCell (p:=⟨w.heap.size,0,none⟩) (Nat.le_refl _) _
theorem lInv_start {w W:World}{B:Nat}(b:Below w.heap.size w W)(c:B<=w.heap.size)(a:List (Cel×Fo)):FoX W w.heap.size B (listT (a.drop (a.length-([]:List Itm).length))) [.iface 55 (.string ⟨#[91,93]⟩)]:=by
 have e:a.drop (a.length-([]:List Itm).length) = []:=by simp
 rw[e];exact⟨_,_,rfl,.inr (.inr (.inl ⟨rfl,rfl⟩)),rfl⟩
theorem lInv_step {w W:World}{B:Nat}{b:List (Cel×Fo)}{c:List (Nat×Value)}{a:List Itm}{t:Nat}{u:Value}(M:B<=w.heap.size)
  (g:∀ j (h:j<b.length),FoIn w B (.node b[j].1 b[j].2 .nil) [.iface (c[j]?.getD (0,.nilIface)).1 (c[j]?.getD (0,.nilIface)).2])
  (f:Below w.heap.size w W) (d:Boxed W w.heap.size 48 (.iface t u)) (H:a=upto (bkAt c b.length) a.length->FoX W w.heap.size B (listT (b.drop (b.length-a.length))) [.iface t u]) (J:a.length<b.length) (x:Itm) :
  LInv w B b c (a ++ [x]) (rndW w W x t u):=by
 have n:=d.lt;refine⟨_,_,((d.alloc _).alloc _).set _,fun e=>?_⟩;rw[List.length_append,List.length_singleton,upto_succ] at e;obtain⟨s,y⟩:=List.append_inj' e rfl
 have z:x=bkAt c b.length a.length:=by simpa using y
 have o:b.length-1-a.length<b.length:=by omega
 have G:b.drop (b.length-(a ++ [x]).length)=b[b.length-1-a.length] :: b.drop (b.length-a.length):=by
  rw[List.length_append,List.length_singleton,show b.length-(a.length+1)=b.length-1-a.length by omega,List.drop_eq_getElem_cons o]
  congr 2;omega
 rw[G];have F:=H s;have m:=(g _ o).foX f
 have A:Value.iface x.2.1 x.2.2 = .iface (c[b.length-1-a.length]?.getD (0,.nilIface)).1 (c[b.length-1-a.length]?.getD (0,.nilIface)).2:=by rw[z];rfl
 rw[<-A] at m;have D:=F.imp (W':=rndW w W x t u) n (fun p v k l=>rndW_cell x t u k l) (rndW_size _ _ _ _ _);have E:=m.imp (W':=rndW w W x t u) n (fun p v k l=>rndW_cell x t u k l) (rndW_size _ _ _ _ _)
 have q:(rndW w W x t u).heap[W.heap.size]?=some (.cells #[.iface x.2.1 x.2.2,.iface t u] 48):=by
  rw[rndW_heap w W x t u _ (by omega) (by omega)];exact(Below.heap_alloc _ _ _ (by simp)).trans (World.alloc_heap_new W _)
 have r:(rndW w W x t u).heap[W.heap.size+1]?=some (.cells #[.string ⟨#[46]⟩,.slice (some ⟨W.heap.size,0,none⟩) 2 2] 105):=by
  rw[rndW_heap w W x t u _ (by omega) (by omega)];have:=World.alloc_heap_new (W.alloc (.cells #[.iface x.2.1 x.2.2,.iface t u] 48)) (.cells #[.string ⟨#[46]⟩,.slice (some ⟨W.heap.size,0,none⟩) 2 2] 105)
  rwa[World.size_alloc] at this
 obtain⟨N,O,C,K,L⟩:=E;obtain⟨rfl,rfl⟩:=List.cons.inj C;refine⟨_,[],rfl,.inr (.inr (.inr ⟨rfl,W.heap.size+1,W.heap.size,[.iface x.2.1 x.2.2,.iface t u],rfl,by omega,by omega,strike_of (by simp;omega) (by simp[World.cell?,r];rfl),strike_of (by simp;omega) (by simp[World.cell?,r]),?_,fun i I=>?_,⟨_,_,rfl,K,D⟩⟩)),rfl⟩
 ·rw[strike_size]
  exact(Array.getElem?_eq_some_iff.1 q).1
 ·refine strike_of (by simp;omega) ?_
  simp only[World.cell?,q]
  match i,I with
  | 0,_=>rfl
  | 1,_=>rfl
theorem listOf_in (F:Fence)(n:Nat)(Y:F.fn 126)(Z:F.fn 111)(P:F.fn 168)(k:F.round=none)(hn:3<=n)
  (g:List (Cel×Fo)) (y:List (Nat×Value)) (b i B:Nat) (w:World) (C:g.length<=2000) (R:b<w.heap.size) (Q:B<=w.heap.size)
  (hc:∀ j,j<g.length->w.cell? ⟨b,j,none⟩=some (.iface (y[j]?.getD (0,.nilIface)).1 (y[j]?.getD (0,.nilIface)).2))
  (J:∀ j (h:j<g.length),FoIn w B (.node g[j].1 g[j].2 .nil) [.iface (y[j]?.getD (0,.nilIface)).1 (y[j]?.getD (0,.nilIface)).2]) :
  CallsIn F n Tryz.prog 126 #[.slice (some ⟨b,0,none⟩) g.length i,.iface 55 (.string ⟨#[91,93]⟩)] w fun e M=>∃ v,e = .returned v/\FoIn M B (listT g) [v]/\Below w.heap.size w M:=by
 have X:1<=n:=by omega
 refine callsIn_of_wp_marks Tryz.func126 rfl Y ?_ k;simp only[Tryz.ntmps126,List.size_toArray,List.length_cons,List.length_nil,Nat.reduceAdd,Nat.reduceSub,Array.replicate_succ,Array.replicate_zero,List.push_toArray,List.append_toArray,List.nil_append,List.cons_append]
 gi_wp2_with (gi_at_call 111;refine(back_in F (n-1) Z k _ _ _ _).mono ?_;rintro e M ⟨rfl,rfl⟩)
 have H:=Boxed.new w 48 (.iface 55 (.string ⟨#[91,93]⟩));have V:=H.alloc (.cells #[.slice (some ⟨b,0,none⟩) g.length i] 52);have O:=Boxed.new (w.alloc (.cells #[.iface 55 (.string ⟨#[91,93]⟩)] 48)) 52 (.slice (some ⟨b,0,none⟩) g.length i);rw[World.size_alloc] at O;have q:Below w.heap.size w ((w.alloc (.cells #[.iface 55 (.string ⟨#[91,93]⟩)] 48)).alloc (.cells #[.slice (some ⟨b,0,none⟩) g.length i] 52)):=((Below.refl _ w).alloc (Nat.le_refl _) _).alloc (by simp) _;refine wpIn_rangeFunc_ownG k X (gf:=168) (lb:=#[.pointer (some ⟨w.heap.size+1,0,none⟩)]) rfl P (enters_of Tryz.func168 (by kernel_rfl) rfl)
  (back_stops F (n-1) P k (by omega) (w.heap.size+1) w.heap.size b g.length i y C _ (by simp) (by simp;omega) R O.cell (fun j hj=>(q.cell (p:=⟨b,j,none⟩) R).trans (hc j hj))) BKeep.trans (bKeep_b (by simp;omega)) (Below.refl _ _) (fun _=>rfl)
  (fun s W=>LInv w B g y s W/\Below w.heap.size w W)
  (fun _ _ _=>False)
  (OwnFrom.and (Own.from (lInv_own w B g y) _) (ownFrom_below (Nat.le_refl _) (by simp;omega)))
  (fun _ _ _ _ _ hs _ _=>hs)
  ⟨⟨_,_,V,fun _=>lInv_start q Q g⟩,q⟩
  (fun x=>{ tmps:=#[.slice (some ⟨b,0,none⟩) g.length i,.iface 55 (.string ⟨#[91,93]⟩),undef,undef,.nilIface,.pointer (some ⟨w.heap.size,0,none⟩),undef,.iface x.2.1 x.2.2,.iface 55 (.string ⟨#[91,93]⟩),.slice (some ⟨b,0,none⟩) g.length i,.func (.func 168) #[] #[.pointer (some ⟨w.heap.size+1,0,none⟩)],.int .i64 (x.1:Int),.iface x.2.1 x.2.2,undef,undef,undef,undef,undef,undef,undef],defers:=[] }) ?assign ?body ?done ?stop
 case assign=>
  intro l x W K z
  gi_wp2
  exact z
 case body=>
  rintro l s x W ⟨⟨t,u,a,A⟩,d⟩ L;have I:=a.cell;have h2:=a.frozen;have N:=(a.alloc (.cells #[.iface x.2.1 x.2.2,.iface t u] 48)).alloc (.cells #[.string ⟨#[46]⟩,.slice (some ⟨W.heap.size,0,none⟩) 2 2] 105);have S:=N.cell;have T:=N.frozen;have m:Hid _:=lInv_step Q J d a A L x;have G:Hid _:=bKeep_step d a x;have U:Hid _:=d;clear A
  gi_wp2
  exact⟨G.o.1.from _,G.o.2,m.o,U.o.trans G.o.2.1⟩
 case done=>
  rintro D ys W hD rfl ⟨⟨t,u,a,A⟩,d⟩ z;have I:=a.cell
  have E:Hid (FoIn W B (listT g) [.iface t u]):=by
   have:=(A (by rw[upto_length])).foIn a.lt
   rwa[upto_length,Nat.sub_self,List.drop_zero] at this
  clear A
  gi_wp2
  refine⟨by simp,.inl ⟨_,_,rfl,run_takeDeferred z,?_⟩⟩;refine⟨.iface t u,by simp[results,Tryz.f126,go_sem],_,rfl,FoIn.imp2 (Nat.le_refl _) (fun p v hp=>cell_kept hp (grownBy_putObj' _ D (.deferred none)) (fun r e=>by cases e;exact⟨_,z,rfl⟩)) (by simp) _ _ E.o,d.trans (belowK_b (w:=w) (Nat.le_refl _) W D _ _ (by simp at hD;omega) z rfl rfl)⟩
 case stop=>
  rintro D c s W _ _ h _;exact h.elim
theorem listOf_any (a:List (Cel×Fo))(f:List (Nat×Value))(b c B:Nat)(w:World)(d:a.length<=2000)(l:b<w.heap.size)(k:B<=w.heap.size)
  (m:∀ j,j<a.length->w.cell? ⟨b,j,none⟩=some (.iface (f[j]?.getD (0,.nilIface)).1 (f[j]?.getD (0,.nilIface)).2))
  (g:∀ j (h:j<a.length),FoIn w B (.node a[j].1 a[j].2 .nil) [.iface (f[j]?.getD (0,.nilIface)).1 (f[j]?.getD (0,.nilIface)).2]) :
  Calls Tryz.prog 126 #[.slice (some ⟨b,0,none⟩) a.length c,.iface 55 (.string ⟨#[91,93]⟩)] w fun e i=>∃ v,e = .returned v/\FoIn i B (listT a) [v]/\Below w.heap.size w i:=
 callsIn_wide.1 (listOf_in Fence.wide 3 trivial trivial trivial rfl (Nat.le_refl _) a f b c B w d l k m g)
end
section
open Go Go.RowKit
theorem listT_node (a:List (Cel×Fo)):∃ c k,listT a = .node c k .nil:=by cases a <;> exact⟨_,_,rfl⟩
end
section
open Go Go.RowKit
set_option linter.unusedSimpArgs false
def zOf (u:Value):Nat×Value:=match u with
 | .iface t x=>(t,x)
 | _=>(0,.nilIface)
theorem listOfU_any (a:List (Cel×Fo))(f:List Value)(b n l B:Nat)(w:World)(G:n=a.length)(A:0<n)(F:n<=2000)(H:f.length=n)(D:B<=w.heap.size)(u:∀ i,i<n->w.cell? ⟨b,i,none⟩=some (f.getD i .nilIface))(p:FoIn w B (itsF a) f) :
  Calls Tryz.prog 126 #[.slice (some ⟨b,0,none⟩) n l,.iface 55 (.string ⟨#[91,93]⟩)] w fun e q=>∃ t x,e = .returned (.iface t x)/\FoIn q B (listT a) [.iface t x]/\Below w.heap.size w q:=by
 subst G
 have g:∀ j,j<a.length->∃ t x,f.getD j .nilIface = .iface t x/\((f.map zOf)[j]?.getD (0,.nilIface))=(t,x)/\∀ h:j<a.length,FoIn w B (.node a[j].1 a[j].2 .nil) [.iface t x]:=fun j d=>by
  obtain⟨t,x,s,C⟩:=p.at_ a f j d;exact⟨t,x,by simp[List.getD,s],by simp[s,zOf],fun _=>C⟩
 refine(listOf_any a (f.map zOf) b l B w F (World.block_lt_of_cell? _ _ (u 0 A)) D (fun j d=>?_) (fun j d=>?_)).mono ?_
 ·obtain⟨t,x,r,m,_⟩:=g j d
  rw[u j d,r,m]
 ·obtain⟨t,x,r,m,y⟩:=g j d
  rw[m];exact y d
 ·rintro e q ⟨v,rfl,o,E⟩
  obtain⟨c,k,z⟩:=listT_node a;rw[z] at o ⊢;obtain⟨t,x,rfl⟩:=o.iface;exact⟨t,x,rfl,o,E⟩
end
section
open Go Go.RowKit Go.Shelf
attribute [local go_sem] Oper.semAt_some
theorem back10_in (F:Fence)(n:Nat)(z:F.fn 168)(r:F.round=none)(H:1<=n)(l g d b a k:Nat)(h:List (Nat×Value))(C:Option Addr)(B:¬ 0<a)(u:a<=2000)(E:b<d)(J s:List Itm->World->Prop)
  (D:∀ c x W,J c W->c.length<a->YieldAt F (n-1) Tryz.prog l #[.int .i64 (x.1:Int),.iface x.2.1 x.2.2] W fun e f=>
    (e = .returned (.bool true)/\J (c ++ [x]) f/\BKeep d g W f)∨(e = .returned (.bool false)/\s (c ++ [x]) f))
  (W:World) (o:W.cell? ⟨g,0,none⟩=some (.slice C a k)) (G:∀ j,j<a->W.cell? ⟨b,j,none⟩=some (.iface (h[j]?.getD (0,.nilIface)).1 (h[j]?.getD (0,.nilIface)).2)) (y:J [] W) :
  CallsIn F n Tryz.prog 168 #[.func (.yield l) #[] #[],.pointer (some ⟨g,0,none⟩)] W fun e f=>(∃ v,e = .returned v)/\
   ((∃ w,w=upto (bkAt h a) a/\J w f)∨(∃ c,True/\s c f)):=by
 refine callsIn_of_wp Tryz.func168 rfl z ?_ r;simp only[Tryz.ntmps168,List.size_toArray,List.length_cons,List.length_nil,Nat.reduceAdd,Nat.reduceSub,Array.replicate_succ,Array.replicate_zero,List.push_toArray,List.append_toArray,List.nil_append,List.cons_append]
 gi_wp2
 gi_loopw [3] (fun i wr=>∃ m:Nat,m<=a/\i = .int .i64 ((m:Int)-1)/\J (upto (bkAt h a) (a-m)) wr/\BKeep d g W wr)
  (fun i _=>(intOf i+1).toNat)
 case atStart=>exact⟨a,Nat.le_refl _,by go_num,by rw[Nat.sub_self];exact y,BKeep.refl _ _ _⟩
 case round=>
  obtain⟨m,A,rfl,p,q⟩:=hrel;have t:=q.2 _ o
  cases m with
  | zero=>
    gi_wp2
    go_end0
    exact⟨⟨_,rfl⟩,.inl ⟨_,rfl,p⟩⟩
  | succ m=>exact absurd A (by omega)
theorem back1G_in (F:Fence)(n:Nat)(t:F.fn 168)(m:F.round=none)(A:1<=n)(l i c b a g:Nat)(o:List (Nat×Value))(r:Option Addr)(q:0<a->r=some ⟨b,0,none⟩)(f:a<=2000)(y:b<c)(J p:List Itm->World->Prop)
  (w:∀ d x W,J d W->d.length<a->YieldAt F (n-1) Tryz.prog l #[.int .i64 (x.1:Int),.iface x.2.1 x.2.2] W fun e h=>
    (e = .returned (.bool true)/\J (d ++ [x]) h/\BKeep c i W h)∨(e = .returned (.bool false)/\p (d ++ [x]) h))
  (W:World) (k:W.cell? ⟨i,0,none⟩=some (.slice r a g)) (z:∀ j,j<a->W.cell? ⟨b,j,none⟩=some (.iface (o[j]?.getD (0,.nilIface)).1 (o[j]?.getD (0,.nilIface)).2)) (s:J [] W) :
  CallsIn F n Tryz.prog 168 #[.func (.yield l) #[] #[],.pointer (some ⟨i,0,none⟩)] W fun e h=>(∃ v,e = .returned v)/\
   ((∃ B,B=upto (bkAt o a) a/\J B h)∨(∃ d,True/\p d h)):=by
 by_cases u:0<a
 ·obtain rfl:=q u
  exact back1_in F n t m A l i c b a g o f y J p w W k z s
 ·exact back10_in F n t m A l i c b a g o r u f y J p w W k z s
theorem back_stopsG (F:Fence)(n:Nat)(u:F.fn 168)(o:F.round=none)(B:1<=n)(d c b a e:Nat)(g:List (Nat×Value))(q:Option Addr)(m:0<a->q=some ⟨b,0,none⟩)(f:a<=2000)(w:World)(h:d<w.heap.size)(k:c<=w.heap.size)(y:b<c)
  (i:w.cell? ⟨d,0,none⟩=some (.slice q a e)) (z:∀ j,j<a->w.cell? ⟨b,j,none⟩=some (.iface (g[j]?.getD (0,.nilIface)).1 (g[j]?.getD (0,.nilIface)).2)) :
  SeqStopsK F n Tryz.prog 168 #[.pointer (some ⟨d,0,none⟩)] (fun x:Itm=>#[Value.int .i64 (x.1:Int),Value.iface x.2.1 x.2.2]) (BKeep c d) (fun C=>C=upto (bkAt g a) a) (fun _=>True) a w:=fun l J s W r _ _ v t=>by
 exact back1G_in F n u o B l d c b a e g q m f y J s v W ((r.cell (p:=⟨d,0,none⟩) h).trans i) (fun j A=>(r.cell (p:=⟨b,j,none⟩) (by show b<_;omega)).trans (z j A)) t
theorem listN_in (F:Fence)(n:Nat)(h3:F.fn 126)(h5:F.fn 111)(R:F.fn 168)(k:F.round=none)(hn:3<=n)
  (a:List (Cel×Fo)) (z:List (Nat×Value)) (b i B:Nat) (m:Option Addr) (N:0<a.length->m=some ⟨b,0,none⟩) (w:World) (E:a.length<=2000) (T:b<w.heap.size) (S:B<=w.heap.size)
  (hc:∀ j,j<a.length->w.cell? ⟨b,j,none⟩=some (.iface (z[j]?.getD (0,.nilIface)).1 (z[j]?.getD (0,.nilIface)).2))
  (L:∀ j (h:j<a.length),FoIn w B (.node a[j].1 a[j].2 .nil) [.iface (z[j]?.getD (0,.nilIface)).1 (z[j]?.getD (0,.nilIface)).2]) :
  CallsIn F n Tryz.prog 126 #[.slice m a.length i,.iface 55 (.string ⟨#[91,93]⟩)] w fun e O=>∃ v,e = .returned v/\FoIn O B (listT a) [v]/\Below w.heap.size w O:=by
 have Z:1<=n:=by omega
 refine callsIn_of_wp_marks Tryz.func126 rfl h3 ?_ k;simp only[Tryz.ntmps126,List.size_toArray,List.length_cons,List.length_nil,Nat.reduceAdd,Nat.reduceSub,Array.replicate_succ,Array.replicate_zero,List.push_toArray,List.append_toArray,List.nil_append,List.cons_append]
 gi_wp2_with (gi_at_call 111;refine(back_in F (n-1) h5 k _ _ _ _).mono ?_;rintro e O ⟨rfl,rfl⟩)
 have I:=Boxed.new w 48 (.iface 55 (.string ⟨#[91,93]⟩));have Y:=I.alloc (.cells #[.slice m a.length i] 52);have Q:=Boxed.new (w.alloc (.cells #[.iface 55 (.string ⟨#[91,93]⟩)] 48)) 52 (.slice m a.length i);rw[World.size_alloc] at Q;have s:Below w.heap.size w ((w.alloc (.cells #[.iface 55 (.string ⟨#[91,93]⟩)] 48)).alloc (.cells #[.slice m a.length i] 52)):=((Below.refl _ w).alloc (Nat.le_refl _) _).alloc (by simp) _;refine wpIn_rangeFunc_ownG k Z (gf:=168) (lb:=#[.pointer (some ⟨w.heap.size+1,0,none⟩)]) rfl R (enters_of Tryz.func168 (by kernel_rfl) rfl)
  (back_stopsG F (n-1) R k (by omega) (w.heap.size+1) w.heap.size b a.length i z m N E _ (by simp) (by simp;omega) T Q.cell (fun j hj=>(s.cell (p:=⟨b,j,none⟩) T).trans (hc j hj))) BKeep.trans (bKeep_b (by simp;omega)) (Below.refl _ _) (fun _=>rfl)
  (fun y W=>LInv w B a z y W/\Below w.heap.size w W)
  (fun _ _ _=>False)
  (OwnFrom.and (Own.from (lInv_own w B a z) _) (ownFrom_below (Nat.le_refl _) (by simp;omega)))
  (fun _ _ _ _ _ hs _ _=>hs)
  ⟨⟨_,_,Y,fun _=>lInv_start s S a⟩,s⟩
  (fun x=>{ tmps:=#[.slice m a.length i,.iface 55 (.string ⟨#[91,93]⟩),undef,undef,.nilIface,.pointer (some ⟨w.heap.size,0,none⟩),undef,.iface x.2.1 x.2.2,.iface 55 (.string ⟨#[91,93]⟩),.slice m a.length i,.func (.func 168) #[] #[.pointer (some ⟨w.heap.size+1,0,none⟩)],.int .i64 (x.1:Int),.iface x.2.1 x.2.2,undef,undef,undef,undef,undef,undef,undef],defers:=[] }) ?assign ?body ?done ?stop
 case assign=>
  intro l x W K A
  gi_wp2
  exact A
 case body=>
  rintro l y x W ⟨⟨t,u,d,C⟩,g⟩ M;have J:=d.cell;have h2:=d.frozen;have P:=(d.alloc (.cells #[.iface x.2.1 x.2.2,.iface t u] 48)).alloc (.cells #[.string ⟨#[46]⟩,.slice (some ⟨W.heap.size,0,none⟩) 2 2] 105);have U:=P.cell;have V:=P.frozen;have q:Hid _:=lInv_step S L g d C M x;have H:Hid _:=bKeep_step g d x;have X:Hid _:=g;clear C
  gi_wp2
  exact⟨H.o.1.from _,H.o.2,q.o,X.o.trans H.o.2.1⟩
 case done=>
  rintro D ys W hD rfl ⟨⟨t,u,d,C⟩,g⟩ A;have J:=d.cell
  have G:Hid (FoIn W B (listT a) [.iface t u]):=by
   have:=(C (by rw[upto_length])).foIn d.lt
   rwa[upto_length,Nat.sub_self,List.drop_zero] at this
  clear C
  gi_wp2
  refine⟨by simp,.inl ⟨_,_,rfl,run_takeDeferred A,?_⟩⟩;refine⟨.iface t u,by simp[results,Tryz.f126,go_sem],_,rfl,FoIn.imp2 (Nat.le_refl _) (fun p v hp=>cell_kept hp (grownBy_putObj' _ D (.deferred none)) (fun r e=>by cases e;exact⟨_,A,rfl⟩)) (by simp) _ _ G.o,g.trans (belowK_b (w:=w) (Nat.le_refl _) W D _ _ (by simp at hD;omega) A rfl rfl)⟩
 case stop=>
  rintro D c y W _ _ h _;exact h.elim
theorem listNil_any (a:List (Cel×Fo))(f:List (Nat×Value))(b c B:Nat)(k:Option Addr)(i:0<a.length->k=some ⟨b,0,none⟩)(w:World)(d:a.length<=2000)(n:b<w.heap.size)(m:B<=w.heap.size)
  (o:∀ j,j<a.length->w.cell? ⟨b,j,none⟩=some (.iface (f[j]?.getD (0,.nilIface)).1 (f[j]?.getD (0,.nilIface)).2))
  (g:∀ j (h:j<a.length),FoIn w B (.node a[j].1 a[j].2 .nil) [.iface (f[j]?.getD (0,.nilIface)).1 (f[j]?.getD (0,.nilIface)).2]) :
  Calls Tryz.prog 126 #[.slice k a.length c,.iface 55 (.string ⟨#[91,93]⟩)] w fun e l=>∃ v,e = .returned v/\FoIn l B (listT a) [v]/\Below w.heap.size w l:=
 callsIn_wide.1 (listN_in Fence.wide 3 trivial trivial trivial rfl (Nat.le_refl _) a f b c B k i w d n m o g)
theorem listOfN_any (a:List (Cel×Fo))(d:List Value)(p:Option Addr)(n l B:Nat)(w:World)(K:n=a.length)(J:n<=2000)(M:d.length=n)(m:0<w.heap.size)(G:B<=w.heap.size)(I:0<n->∃ b,p=some ⟨b,0,none⟩/\∀ i,i<n->w.cell? ⟨b,i,none⟩=some (d.getD i .nilIface))(y:FoIn w B (itsF a) d) :
  Calls Tryz.prog 126 #[.slice p n l,.iface 55 (.string ⟨#[91,93]⟩)] w fun e A=>∃ t x,e = .returned (.iface t x)/\FoIn A B (listT a) [.iface t x]/\Below w.heap.size w A:=by
 subst K
 obtain⟨b,z,r,s⟩:∃ b,(0<a.length->p=some ⟨b,0,none⟩)/\b<w.heap.size/\∀ i,i<a.length->w.cell? ⟨b,i,none⟩=some (d.getD i .nilIface):=by
  by_cases q:0<a.length
  ·obtain⟨b,e,h⟩:=I q
   exact⟨b,fun _=>e,World.block_lt_of_cell? _ _ (h 0 q),h⟩
  ·exact⟨0,fun h=>absurd h q,m,fun i L=>by omega⟩
 have g:∀ j,j<a.length->∃ t x,d.getD j .nilIface = .iface t x/\((d.map zOf)[j]?.getD (0,.nilIface))=(t,x)/\∀ h:j<a.length,FoIn w B (.node a[j].1 a[j].2 .nil) [.iface t x]:=fun j f=>by
  obtain⟨t,x,m,F⟩:=y.at_ a d j f;exact⟨t,x,by simp[List.getD,m],by simp[m,zOf],fun _=>F⟩
 refine(listNil_any a (d.map zOf) b l B p z w J r G (fun j f=>?_) (fun j f=>?_)).mono ?_
 ·obtain⟨t,x,C,o,_⟩:=g j f
  rw[s j f,C,o]
 ·obtain⟨t,x,C,o,D⟩:=g j f
  rw[o];exact D f
 ·rintro e A ⟨v,rfl,u,H⟩
  obtain⟨c,k,E⟩:=listT_node a;rw[E] at u ⊢;obtain⟨t,x,rfl⟩:=u.iface;exact⟨t,x,rfl,u,H⟩
end
end Go.Proofs.YtnfnddnffoigfaaGreatDoor
