/- Texts of MarkC, SSG. Own work of the verifier. -/
import Derived.Test.YtlkhmmoimplokaaGreatDoorUqag
import Derived.Test.YtlkhmmoimplokaaGreatDoorUqaf
namespace Go.Proofs.YtlkhmmoimplokaaGreatDoor
set_option maxHeartbeats 2000000
open Go Go.RowKit
set_option linter.unusedVariables false
def OwnCU (w:World)(B U:Nat)(p:Option Addr)(n c:Nat)(cs:List Cel):Prop:=
 n=cs.length/\∃ rs:List RC,rs.length=cs.length/\w.ownsRow B 102 3 (.slice p n c) n (flat rs)/\(∀ i,i<cs.length->Fits w B (rs.getD i RC.zero) (cs.getD i Cel.none))/\ApartC p rs/\
   (∀ k,Value.ownBlock (.slice p n c)=some k->k<U)/\(∀ i,i<cs.length->∀ k,tb (rs.getD i RC.zero).2.2.1 (rs.getD i RC.zero).2.2.2.1=some k->k<U)
theorem OwnCU.toC {w:World}{B U:Nat}{p:Option Addr}{n c:Nat}{a:List Cel}(h:OwnCU w B U p n c a):OwnC w B p n c a:=by
 obtain⟨e,d,g,f,b,ha,_⟩:=h;exact⟨e,d,g,f,b,ha⟩
theorem OwnC.up {w:World}{B:Nat}{p:Option Addr}{n c:Nat}{d:List Cel}(h:OwnC w B p n c d):OwnCU w B w.heap.size p n c d:=by
 obtain⟨g,f,l,e,b,ha⟩:=h;exact⟨g,f,l,e,b,ha,fun k a=>(e.lt k a).2,fun i j k a=>((b i j).2.2.tb a).2.2⟩
theorem OwnCU.other {w j:World}{B U:Nat}{p:Option Addr}{n c:Nat}{y:List Cel}(h:OwnCU w B U p n c y)(E:w.heap.size<=j.heap.size)(v:∀ k,k<w.heap.size->B<=k->k<U->j.heap[k]?=w.heap[k]?):OwnCU j B U p n c y:=by
 obtain⟨A,m,D,z,b,ha,u,q⟩:=h;refine⟨A,m,D,⟨z.1,?_⟩,fun i a=>⟨(b i a).1,(b i a).2.1,(b i a).2.2.other E (fun g l e=>?_)⟩,ha,u,q⟩
 ·rcases z.2 with C | ⟨g,o,d,f,t,x,r⟩
  ·exact .inl C
  ·refine .inr ⟨g,o,d,f,t,(v g (Array.getElem?_eq_some_iff.1 x).1 t (u g ?_)).trans x,r⟩
   simp only[Value.slice.injEq] at f;rw[f.1];rfl
 ·have s:Go.Proofs.YtlkhmmoimplokaaGreatDoor.tb (m.getD i RC.zero).2.2.1 (m.getD i RC.zero).2.2.2.1=some g:=by rw[e];exact tb_of l
  have:=(b i a).2.2.tb s;exact v g this.2.2 this.2.1 (q i a g s)
theorem OwnCU.below {w w':World}{B U:Nat}{p:Option Addr}{n c:Nat}{a:List Cel}(h:OwnCU w B U p n c a)(b:Below w.heap.size w w'):OwnCU w' B U p n c a:=h.other b.size (fun k d _ _=>b.block k d)
theorem OwnCU.keep {w f:World}{B U a d:Nat}{p:Option Addr}{n c:Nat}{b:List Cel}(h:OwnCU w B U p n c b)(e:Keep a d w f)(j:U<=a∨d<=B):OwnCU f B U p n c b:=h.other e.size (fun k g i l=>e.block k g (by omega))
def markedC (k:Int)(cs:List Cel)(j:Nat):Cel:=(kAt k cs j,kAt k cs j+1,marks (kAt k cs j+1+1) (cs.getD j Cel.none).2.2.length)
def mixC (k:Int)(cs:List Cel)(j:Nat):List Cel:=(List.range cs.length).map fun i=>if i<j then markedC k cs i else cs.getD i Cel.none
theorem mixC_len (k:Int)(a:List Cel)(j:Nat):(mixC k a j).length=a.length:=by simp[mixC]
theorem mixC_at (k:Int)(a:List Cel)(j i:Nat)(h:i<a.length):(mixC k a j).getD i Cel.none=if i<j then markedC k a i else a.getD i Cel.none:=by
 simp[mixC,List.getD,h]
theorem mixC_zero (k:Int)(b:List Cel):mixC k b 0=b:=same_cells (mixC_len ..) (fun j a=>by rw[mixC_at _ _ _ _ (by rw[mixC_len] at a;exact a),if_neg (Nat.not_lt_zero _)])
theorem mixC_succ (k:Int)(a:List Cel)(j:Nat)(h:j<a.length):mixC k a (j+1)=(mixC k a j).set j (markedC k a j):=same_cells (by simp[mixC]) (fun i b=>by
 rw[mixC_len] at b;rw[mixC_at _ _ _ _ b,cs_set_at _ _ _ _ (by rw[mixC_len];exact h)]
 by_cases e:i=j
 ·subst e;rw[if_pos (by omega),if_pos rfl]
 ·rw[if_neg e,mixC_at _ _ _ _ b]
  by_cases c:i<j
  ·rw[if_pos c,if_pos (by omega)]
  ·rw[if_neg c,if_neg (by omega)])
theorem flat_set2:∀ (c:List RC) (i:Nat) (a b:Int),i<c.length->((flat c).set (i * 3) (.int .i64 a)).set (i * 3+1) (.int .i64 b)=flat (c.set i (a,b,(c.getD i RC.zero).2.2))
 | [],i,a,b,h=>by simp at h
 | x :: c,0,a,b,_=>by simp[flat_cons]
 | x :: c,i+1,a,b,h=>by
   have:=flat_set2 c i a b (by simpa using h);rw[flat_cons,show(i+1) * 3=(i * 3)+1+1+1 by omega,show(i * 3)+1+1+1+1=(i * 3+1)+1+1+1 by omega];simp only[List.set_cons_succ,this]
   rfl
theorem mark_one {w u:World}{B U g n c j:Nat}{h:List Cel}{d:List RC}(G:n=h.length)(H:d.length=h.length)(E:w.ownsRow B 102 3 (.slice (some ⟨g,0,none⟩) n c) n (flat d))(v:∀ i,i<h.length->Fits w B (d.getD i RC.zero) (h.getD i Cel.none))
  (ha:ApartC (some ⟨g,0,none⟩) d) (N:g<U) (A:∀ i,i<h.length->∀ k,tb (d.getD i RC.zero).2.2.1 (d.getD i RC.zero).2.2.2.1=some k->k<U) (s:j<h.length) (a b:Int) (y:List Int)
  (K:OwnT u B (d.getD j RC.zero).2.2.1 (d.getD j RC.zero).2.2.2.1 (d.getD j RC.zero).2.2.2.2 y)
  (t:((w.setCell ⟨g,j * 3,none⟩ (.int .i64 a)).setCell ⟨g,j * 3+1,none⟩ (.int .i64 b)).grownBy u (tb (d.getD j RC.zero).2.2.1 (d.getD j RC.zero).2.2.2.1)) :
  OwnCU u B U (some ⟨g,0,none⟩) n c (h.set j (a,b,y))/\Keep B U w u:=by
 have M:=(E.lt g rfl)
 have C:=((E.stored (j * 3) (.int .i64 a)).1.stored (j * 3+1) (.int .i64 b)).1;rw[flat_set2 d j a b (by omega)] at C
 have o:∀ i,i<h.length->tb (d.getD i RC.zero).2.2.1 (d.getD i RC.zero).2.2.2.1≠some g:=fun i l e=>by
  have I:=(v i l).2.2.tb e;exact ha.1 i (by omega) (tb_some e).1 I.1
 have f:∀ i,((d.set j (a,b,(d.getD j RC.zero).2.2)).getD i RC.zero).2.2=(d.getD i RC.zero).2.2:=fun i=>by
  rw[rs_set_at _ _ _ _ (by omega)]
  by_cases e:i=j
  ·rw[if_pos e,e]
  ·rw[if_neg e]
 refine⟨⟨by simpa using G,d.set j (a,b,(d.getD j RC.zero).2.2),by simpa using H,C.kept t (.inr (fun e=>o j s e.symm)),fun i l=>?_,⟨fun i l=>?_,fun i F l p x=>?_⟩,fun k r=>?_,fun i l k r=>?_⟩,?_⟩
 ·have p:i<h.length:=by simpa using l
  rw[cs_set_at _ _ _ _ s,rs_set_at _ _ _ _ (by omega)]
  by_cases e:i=j
  ·rw[if_pos e,if_pos e]
   exact⟨rfl,rfl,K⟩
  ·rw[if_neg e,if_neg e]
   obtain⟨L,q1,D⟩:=v i p;refine⟨L,q1,((D.setCell (a:=⟨g,j * 3,none⟩) (fun m q=>ha.1 i (by omega) m q) _).setCell (a:=⟨g,j * 3+1,none⟩) (fun m q=>ha.1 i (by omega) m q) _).other t.size (fun k m q=>?_)⟩;have r:=(D.tb (q▸tb_of m)).2.2;refine t.block k (by simpa using r) (fun z=>?_);have J:=(v j s).2.2.tb z.symm;exact ha.2 i j (by omega) (by omega) e m (tb_some z.symm).1 (by rw[q,J.1])
 ·rw[f];exact ha.1 i (by simpa using l)
 ·rw[f,f];exact ha.2 i F (by simpa using l) (by simpa using p) x
 ·have:k=g:=(Option.some.inj r).symm
  omega
 ·rw[f] at r
  exact A i (by simpa using l) k r
 ·refine Keep.trans (Keep.trans (b:=w.setCell ⟨g,j * 3,none⟩ (.int .i64 a)) ?_ ?_) (Keep.of_grown t (fun k e=>⟨((v j s).2.2.tb e).2.1,A j s k e⟩))
  ·exact⟨rfl,rfl,rfl,by simp,fun k _ m=>Below.heap_setCell _ _ _ _ (show k≠g by omega)⟩
  ·exact⟨rfl,rfl,rfl,by simp,fun k _ m=>Below.heap_setCell _ _ _ _ (show k≠g by omega)⟩
def markC (k:Int)(cs:List Cel):List Cel:=mixC k cs cs.length
def endC (k:Int)(cs:List Cel):Int:=kAt k cs cs.length
theorem markCells_any (B U:Nat)(p:Option Addr)(n c:Nat)(k:Int)(d:List Cel)(w:World)(h0:0<=k)(h1:k<=10000000)(hn:d.length+tl d<=100000000)(s:OwnCU w B U p n c d) :
  Calls Tryz.prog 38 #[.slice p n c,.int .i64 k] w fun e w'=>e = .returned (.int .i64 (endC k d))/\OwnCU w' B U p n c (markC k d)/\Keep B U w w':=by
 have F:=s.1;have HO:=hid s;clear s;have C:=hid F;clear F
 go_enter Tryz.func38,Tryz.ntmps38
 go_wp2
 go_loopw [1,5] (fun q i wr=>∃ (j:Nat) (b:Int),j<=n/\0<=b/\b<=1000000000/\i = .int .i64 j/\q = .int .i64 b/\Hid (b=kAt k d j)/\Hid (OwnCU wr B U p n c (mixC k d j))/\Hid (Keep B U w wr)) (fun _ i _=>n-(intOf i).toNat)
 case atStart=>exact⟨0,k,Nat.zero_le _,h0,by omega,rfl,rfl,(kAt_zero _ _).symm,by rw[mixC_zero];exact HO,Keep.refl _ _ _⟩
 case round=>
  obtain⟨j,b,hj,h6,h7,rfl,rfl,Z,R,HG⟩:=hrel
  by_cases Y:j<n
  ·obtain⟨H,l,P,y,L,ha,hu,M⟩:=R.o
   obtain⟨g,h8,hv,h5,h4⟩:=y.form (by omega);simp only[Value.slice.injEq,true_and] at hv;obtain⟨rfl,rfl⟩:=hv
   have h:j<d.length:=by rw[<-C.o];exact Y
   rw[mixC_len] at P L M;obtain⟨a0,a1,a2⟩:=flat_at l j (by omega);have d0:=(y.cellAt (j * 3) (by omega)).trans a0;have d1:=(y.cellAt (j * 3+1) (by omega)).trans a1;have d2:=(y.cellAt (j * 3+2) (by omega)).trans a2;have ff:=y.frozenAt;obtain⟨q0,q1,W⟩:=L j h
   have m:(l.getD j RC.zero).2.2.2.1=(d.getD j Cel.none).2.2.length:=by
    rw[W.1,mixC_at _ _ _ _ h,if_neg (Nat.lt_irrefl j)]
   have S:=tl_at d j h
   have V:b+1+1<=1000000000000:=by omega
   have r:=markT_any B (l.getD j RC.zero).2.2.1 (l.getD j RC.zero).2.2.2.1 (l.getD j RC.zero).2.2.2.2 (b+1+1) _ _ (by omega) V (by omega) ((W.setCell (a:=⟨g,j * 3,none⟩) (fun T X=>ha.1 j (by omega) T X) (.int .i64 b)).setCell (a:=⟨g,j * 3+1,none⟩) (fun T X=>ha.1 j (by omega) T X) (.int .i64 (b+1)))
   have v:Hid (∀ z K,OwnT z B (l.getD j RC.zero).2.2.1 (l.getD j RC.zero).2.2.2.1 (l.getD j RC.zero).2.2.2.2 K->((wr.setCell ⟨g,j * 3,none⟩ (.int .i64 b)).setCell ⟨g,j * 3+1,none⟩ (.int .i64 (b+1))).grownBy z (tb (l.getD j RC.zero).2.2.1 (l.getD j RC.zero).2.2.2.1)->
     OwnCU z B U (some ⟨g,0,none⟩) n c ((mixC k d j).set j (b,b+1,K))/\Keep B U wr z):=fun z K h1 h2=>mark_one H (by rw[mixC_len];exact P) y (by rw[mixC_len];exact L) ha (hu g rfl) (by rw[mixC_len];exact M) (by rw[mixC_len];exact h) b (b+1) K h1 h2
   have Q:Hid _:=kAt_succ k d j h;have O:Hid _:=mixC_succ k d j h;have t:Hid _:=m
   have f:kAt k d (j+1)<=1000000000:=by have:=tl_take_le d (j+1);simp only[kAt];omega
   have N:Hid _:=f
   obtain⟨tp,E⟩:∃ x,x=(l.getD j RC.zero).2.2.1:=⟨_,rfl⟩
   obtain⟨tn,A⟩:∃ x,x=(l.getD j RC.zero).2.2.2.1:=⟨_,rfl⟩
   obtain⟨tc,G⟩:∃ x,x=(l.getD j RC.zero).2.2.2.2:=⟨_,rfl⟩
   rw[<-E,<-A,<-G] at r d2 v;rw[<-A] at t m
   have h3:tn<=100000000:=by omega
   clear E A G H P y L ha hu M a0 a1 a2 q0 q1 W m S R HO f;go_wp2_with fail;refine r.mono ?_;rintro e z ⟨rfl,I,D⟩;have J:Hid _:=v.o z _ I D;clear I D;go_wp2_with fail;have e1:=Q.o;have e2:=O.o;have e3:=Z.o;have e4:=t.o;have e5:=N.o;have u:=J.o;go_roundw
   case rel=>exact⟨j+1,b+1+1+tn,by omega,by omega,by rw[e1] at e5;omega,by go_num,rfl,by show _=_;rw[e1];omega,by
    show OwnCU _ _ _ _ _ _ _
    rw[e2,markedC,<-e3,<-e4]
    exact u.1,HG.o.trans u.2⟩
   case measure=>simp[intOf];omega
  ·obtain rfl:j=n:=by omega
   go_wp2_with fail;go_ret;refine⟨ret_int ?_,?_,HG.o⟩
   ·rw[Z.o,C.o];rfl
   ·have:=R.o
    rw[markC,<-C.o];exact this
theorem infoCells:(Tryz.prog.info? 25).map (fun i=>(i.zero,i.size,i.bytes))=some (some (.slice none 0 0),1,24):=by kernel_rfl
abbrev It:=Option Addr×Nat×Nat×Nat
def It.zero:It:=(none,0,0,0)
theorem ds_append_at (a:List It)(r:It)(i:Nat)(h:i<=a.length):(a ++ [r]).getD i It.zero=if i=a.length then r else a.getD i It.zero:=by
 by_cases e:i=a.length
 ·subst e;simp[List.getD]
 ·rw[if_neg e,List.getD,List.getD,List.getElem?_append_left (by omega)]
def tll:List (List Cel)->Nat
 | []=>0
 | c :: r=>c.length+tl c+tll r
theorem tll_at:∀ (a:List (List Cel)) (i:Nat),i<a.length->(a.getD i []).length+tl (a.getD i [])<=tll a
 | [],i,h=>by simp at h
 | c :: r,0,_=>by simp[tll]
 | c :: r,i+1,h=>by have:=tll_at r i (by simpa using h);simp only[tll,List.getD_cons_succ];omega
end Go.Proofs.YtlkhmmoimplokaaGreatDoor
