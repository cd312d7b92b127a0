/- Texts of MdA, MdB, MdC. Own work of the verifier. -/
import Derived.Test.YtlkhmmoimplokaaGreatDoorUqbc
import Derived.Test.YtlkhmmoimplokaaGreatDoorUqba
namespace Go.Proofs.YtlkhmmoimplokaaGreatDoor
set_option maxHeartbeats 4000000
set_option maxRecDepth 100000
open Go Go.RowKit
set_option linter.unusedVariables false
set_option linter.unusedSimpArgs false
def NmRow (w:World)(k:Nat):Prop:=(∃ a,w.heap[k]?=some (.cells a 23))/\∃ x y z,w.cell? ⟨k,0,none⟩=some (.slice x y z)
theorem NmRow.of {w w':World}{k:Nat}(e:w'.heap[k]?=w.heap[k]?)(h:NmRow w' k):NmRow w k:=by
 obtain⟨⟨a,ha⟩,x,y,z,c⟩:=h;exact⟨⟨a,e.symm.trans ha⟩,x,y,z,(World.cell?_of_block (a:=⟨k,0,none⟩) e).symm.trans c⟩
structure MF (pb:Nat)(w w':World):Prop where
 os:w'.os=w.os
 tape:w'.tape=w.tape
 output:w'.output=w.output
 size:w.heap.size<=w'.heap.size
 block:∀ k,k<w.heap.size->k≠pb->¬ (pb<k/\NmRow w k)->w'.heap[k]?=w.heap[k]?
theorem MF.refl (pb:Nat)(w:World):MF pb w w:=⟨rfl,rfl,rfl,Nat.le_refl _,fun _ _ _ _=>rfl⟩
theorem MF.trans {pb:Nat}{w i d:World}(h:MF pb w i)(k:MF pb i d):MF pb w d:=⟨k.os.trans h.os,k.tape.trans h.tape,k.output.trans h.output,Nat.le_trans h.size k.size,fun x g c a=>by
 have e:=h.block x g c a
 exact(k.block x (Nat.lt_of_lt_of_le g h.size) c fun f=>a ⟨f.1,f.2.of e⟩).trans e⟩
theorem MF.low {pb:Nat}{w a:World}(h:MF pb w a){B:Nat}(d:B<=pb)(c:B<=w.heap.size):Below B w a:=⟨h.os,h.tape,h.output,h.size,fun k f=>h.block k (by omega) (by omega) (fun e=>by omega)⟩
theorem MF.of (pb:Nat){w w':World}(h:Below w.heap.size w w'):MF pb w w':=⟨h.os,h.tape,h.output,h.size,fun k a _ _=>h.block k a⟩
theorem MF.below {pb:Nat}{w a c:World}(h:MF pb w a)(k:Below a.heap.size a c):MF pb w c:=h.trans (.of pb k)
theorem MF.set (pb:Nat)(w:World)(o:Nat)(v:Value):MF pb w (w.setCell ⟨pb,o,none⟩ v):=⟨rfl,rfl,rfl,by simp,fun k c a _=>Below.heap_setCell _ _ _ _ a⟩
theorem nm_tag {w:World}{k:Nat}{a:Array Value}{t:TypeId}(h:w.heap[k]?=some (.cells a t))(d:t≠23):¬ NmRow w k:=fun ⟨⟨b,c⟩,_⟩=>by
 rw[h] at c;have:=Option.some.inj c
 injection this with _ e
 exact d e
def SlRow (w:World)(k:Nat):Prop:=(∃ a,w.heap[k]?=some (.cells a 23)∨w.heap[k]?=some (.cells a 25)∨w.heap[k]?=some (.cells a 96))/\∃ x y z,w.cell? ⟨k,0,none⟩=some (.slice x y z)
theorem SlRow.of {w w':World}{k:Nat}(e:w'.heap[k]?=w.heap[k]?)(h:SlRow w' k):SlRow w k:=by
 obtain⟨⟨a,ha⟩,x,y,z,c⟩:=h;rw[e] at ha;exact⟨⟨a,ha⟩,x,y,z,(World.cell?_of_block (a:=⟨k,0,none⟩) e).symm.trans c⟩
theorem NmRow.sl {w:World}{k:Nat}(h:NmRow w k):SlRow w k:=by
 obtain⟨⟨a,ha⟩,c⟩:=h;exact⟨⟨a,.inl ha⟩,c⟩
structure SF (pb:Nat)(w w':World):Prop where
 os:w'.os=w.os
 tape:w'.tape=w.tape
 output:w'.output=w.output
 size:w.heap.size<=w'.heap.size
 block:∀ k,k<w.heap.size->k≠pb->¬ SlRow w k->w'.heap[k]?=w.heap[k]?
theorem MF.sf {pb:Nat}{w a:World}(h:MF pb w a):SF pb w a:=⟨h.os,h.tape,h.output,h.size,fun k e d c=>h.block k e d fun f=>c f.2.sl⟩
theorem SF.refl (pb:Nat)(w:World):SF pb w w:=(MF.refl pb w).sf
theorem SF.trans {pb:Nat}{w g d:World}(h:SF pb w g)(k:SF pb g d):SF pb w d:=⟨k.os.trans h.os,k.tape.trans h.tape,k.output.trans h.output,Nat.le_trans h.size k.size,fun x f c a=>by
 have e:=h.block x f c a
 exact(k.block x (Nat.lt_of_lt_of_le f h.size) c fun i=>a (i.of e)).trans e⟩
theorem SF.of (pb:Nat){w w':World}(h:Below w.heap.size w w'):SF pb w w':=(MF.of pb h).sf
theorem sl_int {w:World}{k:Nat}{t:IntKind}{x:Int}(h:w.cell? ⟨k,0,none⟩=some (.int t x)):¬ SlRow w k:=fun ⟨_,a,b,c,d⟩=>by rw[h] at d;cases d
theorem sl_tag {w:World}{k:Nat}{a:Array Value}{t:TypeId}(h:w.heap[k]?=some (.cells a t))(f:t≠23)(c:t≠25)(d:t≠96):¬ SlRow w k:=fun ⟨⟨b,hb⟩,_⟩=>by
 rw[h] at hb
 rcases hb with hb | hb | hb
 ·have:=Option.some.inj hb
  injection this with _ e
  exact f e
 ·have:=Option.some.inj hb
  injection this with _ e
  exact c e
 ·have:=Option.some.inj hb
  injection this with _ e
  exact d e
def BK (w:World)(pb:Nat)(p:Option Addr)(xs:List Int):Prop:=∀ W,SF pb w W->BIn W p xs
theorem BK.bin {w:World}{pb:Nat}{p:Option Addr}{a:List Int}(h:BK w pb p a):BIn w p a:=h w (.refl _ _)
theorem BK.move {w a:World}{pb:Nat}{p:Option Addr}{xs:List Int}(h:BK w pb p xs)(d:SF pb w a):BK a pb p xs:=fun W c=>h W (d.trans c)
theorem BK.nil (w:World)(pb:Nat)(p:Option Addr):BK w pb p []:=fun W _ h=>absurd h (by simp)
theorem OwnT.bk {w:World}{B pb n c:Nat}{p:Option Addr}{i:List Int}(h:OwnT w B p n c i)(l:∀ g,B<=g->g<w.heap.size->g≠pb):BK w pb p i:=fun W f=>by
 refine(h.other f.size fun g j e=>?_).bin;obtain⟨q,a,m,d,o⟩:=h.2 j
 rw[e] at a;cases a
 exact f.block g d (l g m d) (sl_int (o 0 j).1)
def MFit (w:World)(r:RC)(c:Cel):Prop:=r.1=c.1/\r.2.1=c.2.1/\(r.2.2.2.1=c.2.2.length/\c.2.2.length<=100)/\BIn w r.2.2.1 c.2.2
def CT (w:World)(pb:Nat)(p:Option Addr)(n c:Nat)(cs:List Cel):Prop:=n=cs.length/\0<n/\n<=c/\c<=9223372036854775807/\∃ (b o:Nat) (rs:List RC),p=some ⟨b,o,none⟩/\rs.length=cs.length/\
 ∀ W,SF pb w W->(∀ j u,(flat rs)[j]?=some u->W.cell? ⟨b,o+j,none⟩=some u)/\∀ i,i<cs.length->MFit W (rs.getD i RC.zero) (cs.getD i Cel.none)
theorem CT.move {w d:World}{pb:Nat}{p:Option Addr}{n c:Nat}{f:List Cel}(h:CT w pb p n c f)(r:SF pb w d):CT d pb p n c f:=by
 obtain⟨m,i,t,g,b,o,q,e,l,j⟩:=h;exact⟨m,i,t,g,b,o,q,e,l,fun W a=>j W (r.trans a)⟩
theorem CT.cin {w:World}{pb:Nat}{p:Option Addr}{n c:Nat}{g:List Cel}(h:CT w pb p n c g):CIn w p g:=fun _=>by
 obtain⟨E,C,F,B,b,o,y,e,D,q⟩:=h;obtain⟨a,x⟩:=q w (.refl _ _);refine⟨b,o,e,fun i r=>?_⟩;obtain⟨A,u,t⟩:=flat_at y i (by omega);obtain⟨v,z,m,l⟩:=x i r;have f:=a _ _ A;have j:=a _ _ u;have d:=a _ _ t;rw[v] at f;rw[z] at j;rw[m.1] at d;exact⟨_,_,f,j,d,l⟩
theorem CT.bd {w:World}{pb:Nat}{p:Option Addr}{n c:Nat}{d:List Cel}(h:CT w pb p n c d):∀ x ∈ d,x.2.2.length<=100:=fun x g=>by
 obtain⟨q,l,t,j,b,o,r,e,m,f⟩:=h;obtain⟨i,a,rfl⟩:=List.getElem_of_mem g;have:=((f w (.refl _ _)).2 i a).2.2.1.2
 rwa[List.getD,List.getElem?_eq_getElem a] at this
theorem CT.take {w:World}{pb:Nat}{p:Option Addr}{n c:Nat}{l:List Cel}(h:CT w pb p n c l)(m:Nat)(x:0<m)(A:m<=n):CT w pb p m c (l.take m):=by
 obtain⟨z,y,B,q,b,o,rs,e,t,f⟩:=h;refine⟨by rw[List.length_take];omega,x,by omega,q,b,o,rs.take m,e,by simp[t],fun W a=>⟨fun j u g=>(f W a).1 j u ?_,fun i r=>?_⟩⟩
 ·have v:flat rs=flat (rs.take m) ++ flat (rs.drop m):=by rw[<-flat_append,List.take_append_drop]
  rw[v,List.getElem?_append_left (List.getElem?_eq_some_iff.1 g).1];exact g
 ·have d:i<m:=by rw[List.length_take] at r;omega
  have:=(f W a).2 i (by omega)
  simpa [List.getD,List.getElem?_take,d] using this
theorem row_mf {w W:World}{B pb n c z:Nat}{p:Option Addr}{e:TypeId}{j:List Value}(h:w.ownsRow B e z (.slice p n c) n j)(t:e≠23)(u:pb<B)(m:MF pb w W):W.ownsRow B e z (.slice p n c) n j:=by
 refine⟨h.1,?_⟩
 rcases h.2 with o | ⟨g,f,a,l,i,d,r⟩
 ·exact .inl o
 ·exact .inr ⟨g,f,a,l,i,(m.block g (Array.getElem?_eq_some_iff.1 d).1 (by omega) (fun q=>nm_tag d t q.2)).trans d,r⟩
theorem row_sf {w W:World}{B pb n c z:Nat}{p:Option Addr}{e:TypeId}{m:List Value}(h:w.ownsRow B e z (.slice p n c) n m)(u:e≠23)(i:e≠25)(f:e≠96)(v:pb<B)(q:SF pb w W):W.ownsRow B e z (.slice p n c) n m:=by
 refine⟨h.1,?_⟩
 rcases h.2 with t | ⟨g,j,a,o,l,d,r⟩
 ·exact .inl t
 ·exact .inr ⟨g,j,a,o,l,(q.block g (Array.getElem?_eq_some_iff.1 d).1 (by omega) (sl_tag d u i f)).trans d,r⟩
theorem OwnC.sf {w W:World}{B pb n c:Nat}{p:Option Addr}{l:List Cel}(h:OwnC w B p n c l)(o:pb<B)(f:SF pb w W):OwnC W B p n c l:=by
 obtain⟨rfl,t,r,u,d,ha⟩:=h;refine⟨rfl,t,r,row_sf u (by decide) (by decide) (by decide) o f,fun i a=>⟨(d i a).1,(d i a).2.1,(d i a).2.2.other f.size (fun g j e=>?_)⟩,ha⟩;obtain⟨x,m,y,q,v⟩:=(d i a).2.2.2 j;rw[m] at e
 injection e with e
 injection e with e
 subst e;exact f.block _ q (by omega) (sl_int (v 0 j).1)
theorem OwnC.ct {w:World}{B pb n c:Nat}{p:Option Addr}{f:List Cel}(h:OwnC w B p n c f)(m:pb<B)(E:0<n)(l:∀ x ∈ f,x.2.2.length<=100:=by simp):CT w pb p n c f:=by
 have J:∀ W,SF pb w W->OwnC W B p n c f:=fun W d=>h.sf m d
 obtain⟨rfl,D,A,q,e,_⟩:=h
 rcases q.2 with ⟨y,H⟩ | ⟨g,F,t,o,G,C,r,z,_⟩
 ·simp only[Value.slice.injEq] at y;omega
 ·simp only[Value.slice.injEq,true_and] at o
  obtain⟨rfl,rfl⟩:=o;refine⟨rfl,E,r,by unfold maxLen at z;omega,g,0,D,rfl,A,fun W d=>⟨fun j u v=>?_,fun i a=>?_⟩⟩
  ·have:=(row_sf q (by decide) (by decide) (by decide) m d).cells rfl j u v
   rwa[show(⟨g,0,none⟩:Addr).add j=⟨g,0+j,none⟩ from WideShapes.add_plain _ _ _] at this
  ·refine⟨(e i a).1,(e i a).2.1,⟨(e i a).2.2.1,l _ (by rw[List.getD,List.getElem?_eq_getElem a];exact List.getElem_mem a)⟩,((e i a).2.2.bk (pb:=pb) (fun g I _=>by omega)) W d⟩
def NmO (w:World)(pb B:Nat)(p:Option Addr)(n c:Nat)(ns:List (List Int)):Prop:=
 n=ns.length/\(ns = []->p=none)/\∃ rs:List (Option Addr×Nat),rs.length=ns.length/\w.ownsRow B 23 1 (.slice p n c) n ((List.range ns.length).map fun i=>.slice (rs.getD i (none,0)).1 (ns.getD i []).length (rs.getD i (none,0)).2)/\
   ∀ i,i<ns.length->BK w pb (rs.getD i (none,0)).1 (ns.getD i [])
theorem NmO.nil (w:World)(pb B:Nat):NmO w pb B none 0 0 []:=⟨rfl,fun _=>rfl,[],rfl,World.ownsRow_nil _ _ _ _,fun i h=>by simp at h⟩
theorem NmO.of {w w':World}{pb B:Nat}{p:Option Addr}{n c:Nat}{e:List (List Int)}(h:NmO w pb B p n c e)(A:SF pb w w')(u:∀ g,Value.ownBlock (.slice p n c)=some g->w'.heap[g]?=w.heap[g]?):NmO w' pb B p n c e:=by
 obtain⟨o,z,y,x,j,l⟩:=h;refine⟨o,z,y,x,⟨j.1,?_⟩,fun i t=>(l i t).move A⟩
 rcases j.2 with q | ⟨g,d,a,f,m,v,r⟩
 ·exact .inl q
 ·exact .inr ⟨g,d,a,f,m,(u g (by rw[f];rfl)).trans v,r⟩
theorem NmO.lt {w:World}{pb B:Nat}{p:Option Addr}{n c:Nat}{j:List (List Int)}(h:NmO w pb B p n c j):∀ g,Value.ownBlock (.slice p n c)=some g->B<=g/\g<w.heap.size/\NmRow w g:=fun g a=>by
 obtain⟨l,u,o,A,f,y⟩:=h;refine⟨(f.lt g a).1,(f.lt g a).2,?_⟩
 cases j with
 | nil=>rw[u rfl] at a;cases a
 | cons x r=>
   rcases f.2 with ⟨m,_⟩ | ⟨t,v,q,d,z,i,_⟩
   ·rw[l] at m;cases m
   ·have e:t=g:=by
     simp only[Value.slice.injEq] at d;rw[d.1] at a;exact Option.some.inj a
    subst e;refine⟨⟨_,i⟩,(o.getD 0 (none,0)).1,x.length,(o.getD 0 (none,0)).2,?_⟩;simp only[Value.slice.injEq] at d;obtain⟨rfl,_⟩:=d;rw[f.cellAt 0 (by rw[l];simp)]
    simp[List.range_succ_eq_map]
theorem NmO.below {w w':World}{pb B:Nat}{p:Option Addr}{n c:Nat}{d:List (List Int)}(h:NmO w pb B p n c d)(a:Below w.heap.size w w'):NmO w' pb B p n c d:=h.of (SF.of pb a) fun g e=>a.block g (h.lt g e).2.1
abbrev ptrM (pb:Nat):Value:=.pointer (some ⟨pb,0,none⟩)
def plM (all:List Tok)(L:Int)(i:Nat):Int:=(⟨all.drop i,[],none⟩:RS).pl L
def TokAt (w0:World)(pb:Nat)(kp:Option Addr)(i:Nat)(t:Tok):Prop:=∃ kb p c,kp=some ⟨kb,0,none⟩/\∀ W,SF pb w0 W->W.cell? ⟨kb,i * 5,none⟩=some (.int .i64 t.1.1)/\W.cell? ⟨kb,i * 5+1,none⟩=some (.int .i64 t.1.2.1)/\W.cell? ⟨kb,i * 5+2,none⟩=some (.int .i64 t.1.2.2.1)/\
    W.cell? ⟨kb,i * 5+3,none⟩=some (.slice p t.2.length c)/\W.cell? ⟨kb,i * 5+4,none⟩=some (.int .i64 t.1.2.2.2)/\BIn W p t.2
def OpAt (w0:World)(pb:Nat)(po:Option Addr)(i:Nat)(c:Cel):Prop:=∃ b o q cq,po=some ⟨b,o,none⟩/\∀ W,SF pb w0 W->W.cell? ⟨b,o+i * 3,none⟩=some (.slice q c.2.2.length cq)/\W.cell? ⟨b,o+i * 3+1,none⟩=some (.int .i64 c.1)/\W.cell? ⟨b,o+i * 3+2,none⟩=some (.int .i64 c.2.1)/\BIn W q c.2.2
structure MEnv (w0:World)(pb:Nat)(po:Option Addr)(co:Nat)(kp:Option Addr)(kc:Nat)(T:List Cel)(L:Int)(all:List Tok):Prop where
 lt:pb<w0.heap.size
 len:all.length<=10000
 cap:all.length<=kc/\kc<=9223372036854775807
 big:0<=L/\L<=9000000000
 tok:∀ i t,all[i]?=some t->TokAt w0 pb kp i t
 tg:∀ t ∈ all,TokG t
 tln:T.length<=200
 tab:∀ c ∈ T,(1<=c.1/\c.1<=1200)/\(0<=c.2.1/\c.2.1<=6)/\Byte c.2.2/\c.2.2.length<=100
 ops:∀ i c,T[i]?=some c->OpAt w0 pb po i c
theorem MEnv.oin {w0:World}{pb:Nat}{po:Option Addr}{co:Nat}{kp:Option Addr}{kc:Nat}{T:List Cel}{L:Int}{all:List Tok}(E:MEnv w0 pb po co kp kc T L all)(W:World)(f:SF pb w0 W):OIn W po T:=fun g=>by
 obtain⟨b,o,q,c,rfl,_⟩:=E.ops 0 T[0] (List.getElem?_eq_getElem g);refine⟨b,o,rfl,fun i a=>?_⟩;obtain⟨p,n,q,c,e,h⟩:=E.ops i T[i] (List.getElem?_eq_getElem a)
 cases e
 rw[List.getD,List.getElem?_eq_getElem a];obtain⟨l,j,d,m⟩:=h W f;exact⟨q,c,j,d,l,m⟩
structure MS (w0:World)(pb:Nat)(po:Option Addr)(co:Nat)(kp:Option Addr)(kc:Nat)(T:List Cel)(L:Int)(all:List Tok)(s:RS)(k:Nat)(b:Int)(w:World):Prop where
 mf:MF pb w0 w
 c0:w.cell? ⟨pb,0,none⟩=some (.slice po T.length co)
 c1:w.cell? ⟨pb,1,none⟩=some (.slice kp all.length kc)
 c2:w.cell? ⟨pb,2,none⟩=some (.int .i64 k)
 c3:w.cell? ⟨pb,3,none⟩=some (.int .i64 b)
 c4:∃ p n c,w.cell? ⟨pb,4,none⟩=some (.slice p n c)/\NmO w pb w0.heap.size p n c s.ns
 fz:∀ o,w.frozen? ⟨pb,o,none⟩=false
 kl:k<=all.length
 rel:(s.ft=none/\b = -1/\s.ts=all.drop k)∨∃ i:Nat,b=i/\i<=all.length/\s.ft=some (2,plM all L i)/\s.ts = []
 nb:(∀ xs ∈ s.ns,Byte xs/\xs.length<=100)/\s.ns.length+s.ts.length<=all.length
section
variable {w0:World}{pb:Nat}{po:Option Addr}{co:Nat}{kp:Option Addr}{kc:Nat}{T:List Cel}{L:Int}{all:List Tok}{s:RS}{k:Nat}{b:Int}{w:World}
theorem MS.below {w':World}(h:MS w0 pb po co kp kc T L all s k b w)(d:Below w.heap.size w w'):MS w0 pb po co kp kc T L all s k b w':=by
 have a:∀ p v,w.cell? p=some v->w'.cell? p=some v:=fun p v h=>(d.cell (World.block_lt_of_cell? _ _ h)).trans h
 obtain⟨p,n,c,f,e⟩:=h.c4;exact⟨h.mf.below d,a _ _ h.c0,a _ _ h.c1,a _ _ h.c2,a _ _ h.c3,⟨p,n,c,a _ _ f,e.below d⟩,fun o=>(d.frozen (p:=⟨pb,o,none⟩) (show pb<_ from World.block_lt_of_cell? _ _ h.c0)).trans (h.fz o),h.kl,h.rel,h.nb⟩
theorem cell_pbD (w:World)(pb:Nat){o j:Nat}{v u:Value}(a:o≠j)(h:w.cell? ⟨pb,o,none⟩=some v):(w.setCell ⟨pb,j,none⟩ u).cell? ⟨pb,o,none⟩=some v:=(World.cell?_setCell_other _ _ _ _ (fun e=>a (by simpa using(congrArg Addr.off e).symm))).trans h
theorem MS.adv (h:MS w0 pb po co kp kc T L all s k b w)(j:pb<w0.heap.size)(a:s.ts≠[]):MS w0 pb po co kp kc T L all s.tk (k+1) b (w.setCell ⟨pb,2,none⟩ (.int .i64 ((k:Int)+1))):=by
 rw[show((k:Int)+1)=((k+1:Nat):Int) by omega];obtain⟨p,n,c,m,f⟩:=h.c4
 obtain⟨t,q,d⟩:s.ft=none/\b = -1/\s.ts=all.drop k:=by
  rcases h.rel with h' | ⟨i,_,_,_,h'⟩
  ·exact h'
  ·exact absurd h' a
 have l:k<all.length:=by
  rcases Nat.lt_or_ge k all.length with h' | h'
  ·exact h'
  ·exact absurd (by rw[d,List.drop_eq_nil_of_le h']) a
 refine⟨h.mf.trans (.set _ _ _ _),cell_pbD _ _ (by decide) h.c0,cell_pbD _ _ (by decide) h.c1,World.cell?_setCell_same' _ _ _ (by rw[h.c2];rfl),cell_pbD _ _ (by decide) h.c3,⟨p,n,c,cell_pbD _ _ (by decide) m,f.of (MF.set _ _ _ _).sf fun g r=>Below.heap_setCell _ _ _ _ (by have:=(f.lt g r).1;show g≠pb;omega)⟩,fun o=>by rw[World.frozen?_setCell];exact h.fz o,l,.inl ⟨t,q,?_⟩,h.nb.1,?_⟩
 ·show s.ts.tail=_
  rw[d,List.tail_drop]
 ·have:=h.nb.2
  have e:s.tk.ns=s.ns:=rfl;rw[e,tk_len];omega
theorem MS.halt (h:MS w0 pb po co kp kc T L all s k b w)(j:pb<w0.heap.size)(a:s.ft=none):MS w0 pb po co kp kc T L all (s.stop L) k (k:Nat) (w.setCell ⟨pb,3,none⟩ (.int .i64 (k:Nat))):=by
 obtain⟨p,n,c,m,e⟩:=h.c4
 obtain⟨q,r,f⟩:s.ft=none/\b = -1/\s.ts=all.drop k:=by
  rcases h.rel with d | ⟨i,_,_,d,_⟩
  ·exact d
  ·rw[a] at d;cases d
 refine⟨h.mf.trans (.set _ _ _ _),cell_pbD _ _ (by decide) h.c0,cell_pbD _ _ (by decide) h.c1,cell_pbD _ _ (by decide) h.c2,World.cell?_setCell_same' _ _ _ (by rw[h.c3];rfl),⟨p,n,c,cell_pbD _ _ (by decide) m,e.of (MF.set _ _ _ _).sf fun g l=>Below.heap_setCell _ _ _ _ (by have:=(e.lt g l).1;show g≠pb;omega)⟩,fun o=>by rw[World.frozen?_setCell];exact h.fz o,h.kl,.inr ⟨k,rfl,h.kl,?_,rfl⟩,h.nb.1,?_⟩
 ·unfold RS.stop plM
  rw[a,<-f];rfl
 ·have:=h.nb.2
  simp[RS.stop];omega
theorem MS.stopped (h:MS w0 pb po co kp kc T L all s k b w)(d:s.ft≠none):s.stop L=s:=by
 rcases h.rel with ⟨c,_⟩ | ⟨i,_,_,c,a⟩
 ·exact absurd c d
 ·obtain⟨f,g,e⟩:=s
  simp only at c a;subst c;subst a
  rfl
theorem MS.bad (h:MS w0 pb po co kp kc T L all s k b w):(s.ft=none/\b = -1)∨(s.ft≠none/\0<=b/\b<=10000+all.length/\s.ts = []):=by
 rcases h.rel with ⟨c,a,_⟩ | ⟨i,c,a,d,e⟩
 ·exact .inl ⟨c,a⟩
 ·exact .inr ⟨by rw[d];simp,by omega,by omega,e⟩
end
def MUnit (w0:World)(pb:Nat)(po:Option Addr)(co:Nat)(kp:Option Addr)(kc:Nat)(T:List Cel)(L:Int)(all:List Tok)(w:World)(s':RS)(v:Value)(e:Ending)(w':World):Prop:=e = .returned v/\(∃ k' b',MS w0 pb po co kp kc T L all s' k' b' w')/\MF pb w w'
def MTx (W0:World)(pb:Nat)(w:World)(p:Option Addr)(xs:List Int):Prop:=BK W0 pb p xs∨∃ c,OwnT w W0.heap.size p xs.length c xs
theorem MTx.below {a w w':World}{pb:Nat}{p:Option Addr}{xs:List Int}(h:MTx a pb w p xs)(d:Below w.heap.size w w'):MTx a pb w' p xs:=by
 rcases h with h | ⟨c,h⟩
 ·exact .inl h
 ·exact .inr ⟨c,h.below d⟩
theorem MTx.bk {a w:World}{pb:Nat}{p:Option Addr}{d:List Int}(h:MTx a pb w p d)(i:pb<a.heap.size)(e:SF pb a w):BK w pb p d:=by
 rcases h with h | ⟨c,h⟩
 ·exact h.move e
 ·exact h.bk fun g f _=>by omega
def RwM (W0:World)(pb:Nat)(w:World)(p:Option Addr)(n c:Nat)(cs:List Cel):Prop:=
 n=cs.length/\(n=0->p=none)/\∃ rs:List RC,rs.length=cs.length/\w.ownsRow W0.heap.size 102 3 (.slice p n c) n (flat rs)/\∀ i,i<cs.length->(rs.getD i RC.zero).1=(cs.getD i Cel.none).1/\(rs.getD i RC.zero).2.1=(cs.getD i Cel.none).2.1/\(rs.getD i RC.zero).2.2.2.1=(cs.getD i Cel.none).2.2.length/\MTx W0 pb w (rs.getD i RC.zero).2.2.1 (cs.getD i Cel.none).2.2
theorem RwM.nil (a:World)(pb:Nat)(w:World):RwM a pb w none 0 0 []:=⟨rfl,fun _=>rfl,[],rfl,World.ownsRow_nil _ _ _ _,fun i h=>by simp at h⟩
theorem RwM.below {g w w':World}{pb n c:Nat}{p:Option Addr}{e:List Cel}(h:RwM g pb w p n c e)(f:Below w.heap.size w w'):RwM g pb w' p n c e:=by
 obtain⟨m,l,j,q,o,a⟩:=h;exact⟨m,l,j,q,row_below o f,fun i d=>⟨(a i d).1,(a i d).2.1,(a i d).2.2.1,(a i d).2.2.2.below f⟩⟩
theorem RwM.ct {l w:World}{pb n c:Nat}{p:Option Addr}{f:List Cel}(h:RwM l pb w p n c f)(m:pb<l.heap.size)(F:SF pb l w)(E:0<n)(e:∀ x ∈ f,x.2.2.length<=100:=by simp):CT w pb p n c f:=by
 obtain⟨rfl,_,D,B,r,d⟩:=h
 rcases r.2 with ⟨z,I⟩ | ⟨g,G,v,o,H,C,t,A,_⟩
 ·simp only[Value.slice.injEq] at z;omega
 ·simp only[Value.slice.injEq,true_and] at o
  obtain⟨rfl,rfl⟩:=o;refine⟨rfl,E,t,by unfold maxLen at A;omega,g,0,D,rfl,B,fun W q=>⟨fun j u y=>?_,fun i a=>?_⟩⟩
  ·have:=(row_sf r (by decide) (by decide) (by decide) m q).cells rfl j u y
   rwa[show(⟨g,0,none⟩:Addr).add j=⟨g,0+j,none⟩ from WideShapes.add_plain _ _ _] at this
  ·exact⟨(d i a).1,(d i a).2.1,⟨(d i a).2.2.1,e _ (by rw[List.getD,List.getElem?_eq_getElem a];exact List.getElem_mem a)⟩,((d i a).2.2.2.bk m F) W q⟩
theorem flat_oneR (d:List RC):∀ u ∈ flat d,u.oneCell'=true:=fun u c=>by
 simp only[flat,List.mem_flatMap] at c;obtain⟨r,_,a⟩:=c
 simp[rcV] at a
 rcases a with rfl | rfl | rfl <;> rfl
theorem RwM.grew {l w A:World}{pb n c m y g:Nat}{p:Option Addr}{a ds:List Cel}{d rs2:List RC}(R:n=a.length)(h0:n=0->p=none)(J:d.length=a.length)(I:w.ownsRow l.heap.size 102 3 (.slice p n c) n (flat d))(B:∀ i,i<a.length->(d.getD i RC.zero).1=(a.getD i Cel.none).1/\(d.getD i RC.zero).2.1=(a.getD i Cel.none).2.1/\(d.getD i RC.zero).2.2.2.1=(a.getD i Cel.none).2.2.length/\MTx l pb w (d.getD i RC.zero).2.2.1 (a.getD i Cel.none).2.2)(hW:Below l.heap.size l w)(D:rs2.length=ds.length)(hm:m=ds.length)(X:0<m)
  (j:∀ i,i<ds.length->(rs2.getD i RC.zero).1=(ds.getD i Cel.none).1/\(rs2.getD i RC.zero).2.1=(ds.getD i Cel.none).2.1/\(rs2.getD i RC.zero).2.2.2.1=(ds.getD i Cel.none).2.2.length/\MTx l pb w (rs2.getD i RC.zero).2.2.1 (ds.getD i Cel.none).2.2)
  (v:A.ownsRow l.heap.size 102 3 (.slice (some ⟨g,0,none⟩) (n+m) y) (n+m) (flat d ++ flat rs2)) (f:w.grownBy A (Value.ownBlock (.slice p n c))):RwM l pb A (some ⟨g,0,none⟩) (n+m) y (a ++ ds):=by
 subst R
 have o:∀ q F,MTx l pb w q F->MTx l pb A q F:=fun q F r=>by
  rcases r with r | ⟨Y,r⟩
  ·exact .inl r
  ·refine .inr ⟨Y,r.other f.size fun b E e=>f.block b ?_ fun x=>?_⟩
   ·obtain⟨W,t,_,Q,_⟩:=r.2 E
    rw[e] at t;cases t;exact Q
   ·obtain⟨W,t,_,_,P⟩:=r.2 E
    rw[e] at t;cases t
    have h1:a.length≠0:=fun N=>by rw[h0 N] at x;cases x
    rcases I.2 with ⟨u,_⟩ | ⟨S,H,M,G,_⟩
    ·rw[u] at x;cases x
    ·simp only[Value.slice.injEq,true_and] at G
     obtain⟨rfl,rfl⟩:=G
     have V:S=b:=by have Z:=x;simp[Value.ownBlock] at Z;omega
     subst V;have K:=I.cellAt 0 (by omega);have O:=(P 0 E).1;obtain⟨a0,_,_⟩:=flat_at d 0 (by omega);rw[a0] at K;have:=O.symm.trans K
     simp at this
 refine⟨by simp[hm],fun e=>by omega,d ++ rs2,by simp[J,D],?_,fun i U=>?_⟩
 ·rw[flat_append];exact v
 ·by_cases h:i<a.length
  ·have u:(d ++ rs2).getD i RC.zero=d.getD i RC.zero:=by simp only[List.getD];rw[List.getElem?_append_left (by omega)]
   have C:(a ++ ds).getD i Cel.none=a.getD i Cel.none:=by simp only[List.getD];rw[List.getElem?_append_left h]
   rw[u,C];exact⟨(B i h).1,(B i h).2.1,(B i h).2.2.1,o _ _ (B i h).2.2.2⟩
  ·have u:(d ++ rs2).getD i RC.zero=rs2.getD (i-a.length) RC.zero:=by simp only[List.getD];rw[List.getElem?_append_right (by omega),J]
   have C:(a ++ ds).getD i Cel.none=ds.getD (i-a.length) Cel.none:=by simp only[List.getD];rw[List.getElem?_append_right (by omega)]
   have z:i-a.length<ds.length:=by simp at U;omega
   rw[u,C];exact⟨(j _ z).1,(j _ z).2.1,(j _ z).2.2.1,o _ _ (j _ z).2.2.2⟩
theorem app_rw (f w:World){pb:Nat}{A:Array Oper}{r:List Oper}{o:Oper}{a:Act}{Q:Exit->Act->World->Prop}(K:o.guard=none)(s x:Operand)
  (ho:o.op = .call { callee:=.builtin .append,args:=#[s,x],argTypes:=#[25,25] }) (p:Option Addr) (n c:Nat) (Z:List Cel)
  (hs:a.eval s = .slice p n c) (B:RwM f pb w p n c Z) (z:Below f.heap.size f w) (q:Option Addr) (m U:Nat) (D:List Cel) (hx:a.eval x = .slice q m U) (E:CT f pb q m U D) (X:n+m<=1000000000)
  (h:∀ g M e C,RwM f pb C (some ⟨g,0,none⟩) M e (Z ++ D)->Below f.heap.size f C->Hid (M=n+m)->wpList Tryz.prog A Q r (a.put o.dst (.slice (some ⟨g,0,none⟩) M e)) C):wpList Tryz.prog A Q (o :: r) a w:=by
 obtain⟨i0,l,H,S,J⟩:=info_parts infoCell;obtain⟨hn,h0,rs,hl,N,hf⟩:=B;obtain⟨I,Y,h4,h3,b,O,y,rfl,G,V⟩:=E;obtain⟨R,v⟩:=V w (.of pb z)
 have P:∀ i,i<D.length->BK f pb (y.getD i RC.zero).2.2.1 (D.getD i Cel.none).2.2:=fun i l W F=>((V W F).2 i l).2.2.2
 refine wpList_append_lies w K s x 25 ho f.heap.size 102 i0 (.agg #[.int .i64 0,.int .i64 0,.slice none 0 0]) 3 40 Tryz.underlying25 l H S J rfl (by decide) (.slice p n c) n (flat rs) hs N ⟨b,O,none⟩ m U (flat y) hx (by rw[flat_len];omega) (fun j u hj=>by rw[show(⟨b,O,none⟩:Addr).add j=⟨b,O+j,none⟩ from WideShapes.add_plain _ _ _];exact R j u hj) (flat_oneR y) Y (by unfold maxLen;omega) (by omega) z.size w.heap.size rfl ?_
 intro g e C t d h2 h1
 exact h g _ e C (RwM.grew hn h0 hl N hf z G I Y (fun i l=>⟨(v i l).1,(v i l).2.1,(v i l).2.2.1.1,.inl (P i l)⟩) t d) (z.trans ((Below.refl _ _).grown d z.size (fun k hk=>(N.lt k hk).1))) rfl
theorem wrapM {x:Int}(a : -9223372036854775808<=x)(c:x<=9223372036854775807):IntKind.i64.wrap x=x:=by rw[IntKind.wrap_i64];omega
section
variable {w0:World}{pb:Nat}{po:Option Addr}{co:Nat}{kp:Option Addr}{kc:Nat}{T:List Cel}{L:Int}{all:List Tok}{s:RS}{k:Nat}{b:Int}{w:World}
theorem l4stop_any (E:MEnv w0 pb po co kp kc T L all)(h:MS w0 pb po co kp kc T L all s k b w):Calls Tryz.prog 27 #[ptrM pb] w (MUnit w0 pb po co kp kc T L all w (s.stop L) (.tuple #[])):=by
 have m:=h.c2;have g:=h.c3;have j:=h.fz 3;have l:=h.kl;have n:=E.len
 rcases h.bad with ⟨a,c⟩ | ⟨a,c,e,_⟩
 ·have f:Hid _:=h.halt E.lt a
  have d:Hid (MUnit w0 pb po co kp kc T L all w (s.stop L) (.tuple #[]) (.returned (.tuple #[])) (w.setCell ⟨pb,3,none⟩ (.int .i64 (k:Nat)))):=⟨rfl,⟨_,_,f.o⟩,.set _ _ _ _⟩
  rw[c] at g;clear h f E a c
  go_enter Tryz.func27,Tryz.ntmps27
  go_wp2_with fail
  go_end0
  exact d.o
 ·have d:Hid (MUnit w0 pb po co kp kc T L all w (s.stop L) (.tuple #[]) (.returned (.tuple #[])) w):=⟨rfl,⟨k,b,by rw[h.stopped a];exact h⟩,.refl _ _⟩
  have i:¬ b<0:=by omega
  clear h E a c e
  go_enter Tryz.func27,Tryz.ntmps27
  go_wp2_with fail
  go_end0
  exact d.o
def RS.at (s:RS)(j:Nat):RS:=⟨s.ts.drop j,s.ns,s.ft⟩
theorem RS.at0 (s:RS):s.at 0=s:=by simp[RS.at]
theorem RS.at1 (s:RS):s.at 1=s.tk:=by simp[RS.at,RS.tk]
theorem kd_nil {s:RS}(h:s.ts = []):s.kd=0:=by unfold RS.kd;rw[h]
theorem kd_cons {s:RS}{t:Tok}{r:List Tok}(h:s.ts=t :: r):s.kd=t.1.1:=by unfold RS.kd;rw[h]
theorem MS.look (h:MS w0 pb po co kp kc T L all s k b w)(j:Nat):(0<=b/\(s.at j).ts = [])∨(b = -1/\all.length<=k+j/\(s.at j).ts = [])∨(b = -1/\∃ t,all[k+j]?=some t/\(s.at j).ts=t :: all.drop (k+j+1)):=by
 rcases h.rel with ⟨d,a,c⟩ | ⟨i,d,a,c,e⟩
 ·right
  rcases Nat.lt_or_ge (k+j) all.length with hl | hl
  ·right
   refine⟨a,all[k+j],List.getElem?_eq_getElem hl,?_⟩
   show s.ts.drop j=_
   rw[c,List.drop_drop];exact List.drop_eq_getElem_cons hl
  ·left
   refine⟨a,hl,?_⟩
   show s.ts.drop j=_
   rw[c,List.drop_drop];exact List.drop_eq_nil_of_le hl
 ·left
  exact⟨by omega,by show s.ts.drop j=_;rw[e];simp⟩
theorem l4kind_any (E:MEnv w0 pb po co kp kc T L all)(h:MS w0 pb po co kp kc T L all s k b w)(j:Nat)(U:j<=10):Calls Tryz.prog 54 #[ptrM pb,.int .i64 j] w fun e P=>e = .returned (.int .i64 (s.at j).kd)/\Below w.heap.size w P:=by
 have z:=h.c1;have R:=h.c2;have y:=h.c3;have B:=h.kl;have H:=E.len;have i:=E.cap
 obtain⟨n,f⟩:∃ n,n=all.length:=⟨_,rfl⟩
 rcases h.look j with ⟨g,a⟩ | ⟨g,D,a⟩ | ⟨g,t,d,a⟩
 ·have l:Hid ((s.at j).kd=0):=kd_nil a
  have O:¬ b<0:=by omega
  have Q:b<=20000:=by rcases h.bad with ⟨_,h'⟩ | ⟨_,_,h',_⟩ <;> omega
  rw[<-f] at z H B i;clear h E a f
  go_enter Tryz.func54,Tryz.ntmps54
  go_wp2_with fail;refine wp_region_held_drew (S:=fun W=>W.cell? ⟨pb,3,none⟩=some (.int .i64 b)) (by kernel_rfl) ?_ (fun A=>?_)
  ·exact y
  refine hTq 0 (ptrM pb) 5 ?_
  simp only[Act.put,zzA,zzB,zzC];refine hTq 1 (ptrM pb) 6 ?_
  simp only[Act.put,zzA,zzB,zzC];refine hTq 2 (.pointer (some ⟨pb,3,none⟩)) 7 ?_
  simp only[Act.put,zzA,zzB,zzC];refine hTr 3 (.int .i64 b) 8 (fun o I W m=>?y3) ?_
  case y3=>cases I;simp[execOp,go_sem,Act.eval,m]
  simp only[Act.put,zzA,zzB,zzC];refine hTr 4 (.bool true) 9 (fun o I W m=>?y4) ?_
  case y4=>cases I;simp[execOp,go_sem,Act.eval,g]
  simp only[Act.put,zzA,zzB,zzC];refine hTq 5 (.bool true) 10 ?_
  simp only[Act.put,zzA,zzB,zzC];refine hSq 6 11 ?_;refine hSq 7 12 ?_;refine hSq 8 13 ?_;refine hSq 9 14 ?_;simp only[Act.put,zzA,zzB,zzC];refine hSq 10 15 ?_;refine hSq 11 16 ?_;refine hSq 12 17 ?_;refine hSq 13 18 ?_;simp only[Act.put,zzA,zzB,zzC];refine hSq 14 19 ?_;refine hSq 15 20 ?_;refine hSq 16 21 ?_;refine hSq 17 22 ?_;simp only[Act.put,zzA,zzB,zzC];refine hTq 18 (.bool true) 23 ?_
  simp only[Act.put,zzA,zzB,zzC];refine wpAnyH_done (by kernel_rfl) ?_ _
  change Exit.then _ _ _ _ w.drew
  go_wp2_with fail;go_ret;exact⟨by rw[l.o];rfl,(Below.refl _ _).drew⟩
 ·have l:Hid ((s.at j).kd=0):=kd_nil a
  rw[g] at y;rw[<-f] at z H B i D
  have F:(n:Int)<=(k:Int)+(j:Int):=by omega
  have q:IntKind.i64.wrap ((k:Int)+(j:Int))=(k:Int)+(j:Int):=wrapM (by omega) (by omega);clear h E a f g
  go_enter Tryz.func54,Tryz.ntmps54
  go_wp2_with fail
  go_region_held3 (fun W=>W.cell? ⟨pb,3,none⟩=some (.int .i64 (-1))/\W.cell? ⟨pb,1,none⟩=some (.slice kp n kc)/\W.cell? ⟨pb,2,none⟩=some (.int .i64 k)) (go_keep) (fail)
  go_wp2_with fail;go_ret;exact⟨by rw[l.o];rfl,(Below.refl _ _).drew⟩
 ·have l:Hid ((s.at j).kd=t.1.1):=kd_cons a
  obtain⟨v,p,c,rfl,N⟩:=E.tok _ _ d;obtain⟨M,_⟩:=N w h.mf.sf;rw[g] at y
  have D:k+j<n:=by rw[f];exact(List.getElem?_eq_some_iff.1 d).1
  rw[<-f] at z H B i
  have F:¬ (n:Int)<=(k:Int)+(j:Int):=by omega
  obtain⟨x,K⟩:∃ x,x=t.1.1:=⟨_,rfl⟩
  rw[<-K] at M l
  have q:IntKind.i64.wrap ((k:Int)+(j:Int))=((k+j:Nat):Int):=by rw[wrapM (by omega) (by omega)];omega
  have J:(0:Int)<=((k+j:Nat):Int):=by omega
  have G:((k+j:Nat):Int)<(n:Int):=by omega
  have C:¬ (n:Int)<=((k+j:Nat):Int):=by omega
  obtain⟨u,r⟩:∃ u,u=k+j:=⟨_,rfl⟩
  rw[<-r] at q J G C M;clear h E a f g d N K r D
  go_enter Tryz.func54,Tryz.ntmps54
  go_wp2_with fail
  go_region_held3 (fun W=>W.cell? ⟨pb,3,none⟩=some (.int .i64 (-1))/\W.cell? ⟨pb,1,none⟩=some (.slice (some ⟨v,0,none⟩) n kc)/\W.cell? ⟨pb,2,none⟩=some (.int .i64 k)/\W.cell? ⟨v,u * 5,none⟩=some (.int .i64 x)) (go_keep) (fail)
  go_wp2_with fail
  go_region_held3 (fun W=>W.cell? ⟨pb,1,none⟩=some (.slice (some ⟨v,0,none⟩) n kc)/\W.cell? ⟨pb,2,none⟩=some (.int .i64 k)/\W.cell? ⟨v,u * 5,none⟩=some (.int .i64 x)) (go_keep) (fail)
  go_wp2_with fail;go_ret;exact⟨by rw[l.o];rfl,(Below.refl _ _).drew.drew⟩
theorem MS.mfw (h:MS w0 pb po co kp kc T L all s k b w){W:World}(a:Below w.heap.size w W):SF pb w0 W:=(h.mf.below a).sf
theorem l4kind0 (E:MEnv w0 pb po co kp kc T L all)(h:MS w0 pb po co kp kc T L all s k b w):∀ W,Below w.heap.size w W->Calls Tryz.prog 54 #[ptrM pb,.int .i64 0] W fun e c=>e = .returned (.int .i64 s.kd)/\Below W.heap.size W c:=fun W a=>by
 have:=l4kind_any E (h.below a) 0 (by decide);rw[RS.at0] at this;exact this
theorem l4kind1 (E:MEnv w0 pb po co kp kc T L all)(h:MS w0 pb po co kp kc T L all s k b w):∀ W,Below w.heap.size w W->Calls Tryz.prog 54 #[ptrM pb,.int .i64 1] W fun e c=>e = .returned (.int .i64 s.tk.kd)/\Below W.heap.size W c:=fun W a=>by
 have:=l4kind_any E (h.below a) 1 (by decide);rw[RS.at1] at this;exact this
theorem MS.head (h:MS w0 pb po co kp kc T L all s k b w)(a:s.ts≠[]):b = -1/\s.ft=none/\∃ t,all[k]?=some t/\s.ts=t :: all.drop (k+1):=by
 rcases h.rel with ⟨f,e,c⟩ | ⟨i,_,_,_,g⟩
 ·refine⟨e,f,?_⟩
  have d:k<all.length:=by
   rcases Nat.lt_or_ge k all.length with h' | h'
   ·exact h'
   ·exact absurd (by rw[c,List.drop_eq_nil_of_le h']) a
  exact⟨all[k],List.getElem?_eq_getElem d,by rw[c];exact List.drop_eq_getElem_cons d⟩
 ·exact absurd g a
theorem l4punct_any (E:MEnv w0 pb po co kp kc T L all)(h:MS w0 pb po co kp kc T L all s k b w)(m:List Int)(S:ByteArray)(J:strOfNums m=S)(V:Byte m):Calls Tryz.prog 143 #[ptrM pb,.string S] w fun e P=>e = .returned (.bool (s.isP m))/\Below w.heap.size w P:=by
 have G:Hid _:=l4kind0 E h;have c1:=h.c1;have c2:=h.c2;have Z:=h.kl;have hl:=E.len;have F:=E.cap
 obtain⟨n,A⟩:∃ n,n=all.length:=⟨_,rfl⟩
 by_cases r:s.kd=5
 ·obtain⟨_,_,t,j,C⟩:=h.head (kd_ne r (by decide))
  obtain⟨H,p,c,rfl,K⟩:=E.tok _ _ j
  have hx:s.tx=t.2:=by unfold RS.tx;rw[C]
  have Y:=E.tg t (List.mem_of_getElem? j)
  obtain⟨y,v⟩:∃ y,y=strOfNums t.2:=⟨_,rfl⟩
  obtain⟨l,N⟩:∃ l,l=t.2.length:=⟨_,rfl⟩
  have B:Hid (∀ W,Below w.heap.size w W->(convert 23 9 (.slice p l c)).run Tryz.prog W = .ok (.string y) W):=fun W hB=>by
   rw[v];exact conv_str ((K W (h.mfw hB)).2.2.2.2.2) l c N 9 Tryz.underlying9
  have U:=(K w h.mf.sf).2.2.2.1;rw[<-N] at U
  have D:(y.toList == S.toList)=decide (s.tx=m):=by rw[hx,v,<-J];exact strOf_eq Y.tx.1 V
  have z:s.isP m=decide (s.tx=m):=by unfold RS.isP;rw[r];simp
  have hn:k<n:=by rw[A];exact(List.getElem?_eq_some_iff.1 j).1
  rw[<-A] at c1 hl Z F
  obtain⟨d,ed⟩:∃ d,d=decide (s.tx=m):=⟨_,rfl⟩
  rw[z];rw[<-ed] at D ⊢;rw[r] at G;have h1:=B.o w.drew (Below.refl _ _).drew;clear h E r j C K hx Y v N z ed A V J
  go_enter Tryz.func143,Tryz.ntmps143
  go_wp2_with fail
  go_region_held3 (fun W=>W.cell? ⟨pb,1,none⟩=some (.slice (some ⟨H,0,none⟩) n kc)/\W.cell? ⟨pb,2,none⟩=some (.int .i64 k)/\W.cell? ⟨H,k * 5+3,none⟩=some (.slice p l c)/\(convert 23 9 (.slice p l c)).run Tryz.prog W = .ok (.string y) W) (first | exact M | go_keep)
   ((go_at_call 54;refine(G.o _ (Below.refl _ _).drew).mono ?_;rintro e g ⟨rfl,q⟩;have a:Below w.heap.size w g:=((Below.refl w.heap.size w).drew).trans q;have M:g.cell? ⟨pb,1,none⟩=some (.slice (some ⟨H,0,none⟩) n kc)/\g.cell? ⟨pb,2,none⟩=some (.int .i64 k)/\g.cell? ⟨H,k * 5+3,none⟩=some (.slice p l c)/\(convert 23 9 (.slice p l c)).run Tryz.prog g = .ok (.string y) g:=⟨(a.cell (World.block_lt_of_cell? _ _ c1)).trans c1,(a.cell (World.block_lt_of_cell? _ _ c2)).trans c2,(a.cell (World.block_lt_of_cell? _ _ U)).trans U,B.o g a⟩))
  go_wp2_with fail;go_ret;exact⟨by simp[D],a⟩
 ·have z:s.isP m=false:=by unfold RS.isP;simp[r]
  rw[z]
  obtain⟨x,ex⟩:∃ x,x=s.kd:=⟨_,rfl⟩
  rw[<-ex] at r G
  have X:(x == 5)=false:=by simpa using r
  rw[<-A] at c1 hl Z F;clear h E A ex z V J
  go_enter Tryz.func143,Tryz.ntmps143
  go_wp2_with fail;refine wp_region_held_drew (S:=fun W=>True) (by kernel_rfl) ?_ (fun I=>?_)
  ·trivial
  refine hTq 0 (ptrM pb) 5 ?_
  simp only[Act.put,zzA,zzB,zzC];refine hCallE (i:=1) (f:=54) (args:=#[ptrM pb,.int .i64 0]) (some 6) (by kernel_rfl) (by kernel_rfl) (by kernel_rfl) (fun o R=>?c1) (G.o w.drew (Below.refl _ _).drew) ?k1 (fun ch P Q=>by cases Q.1) (fun P Q=>by cases Q.1)
  case c1=>cases R;simp[execOp,go_sem,Act.eval]
  case k1=>
   rintro u g ⟨hu,q⟩;obtain rfl:=Ending.returned.inj hu;have a:Below w.heap.size w g:=((Below.refl w.heap.size w).drew).trans q;clear hu q;have O:True:=trivial;refine⟨O,?_⟩;simp only[Act.put,zzA,zzB,zzC];refine hTr 2 (.bool false) 7 (fun o R W h2=>?y2) ?_
   case y2=>cases R;simp[execOp,go_sem,Act.eval,r,X]
   simp only[Act.put,zzA,zzB,zzC];refine hTq 3 (.bool false) 8 ?_
   simp only[Act.put,zzA,zzB,zzC];refine hSq 4 9 ?_;simp only[Act.put,zzA,zzB,zzC];refine hSq 5 10 ?_;refine hSq 6 11 ?_;refine hSq 7 12 ?_;refine hSq 8 13 ?_;simp only[Act.put,zzA,zzB,zzC];refine hSq 9 14 ?_;refine hSq 10 15 ?_;refine hSq 11 16 ?_;refine hSq 12 17 ?_;simp only[Act.put,zzA,zzB,zzC];refine hSq 13 18 ?_;refine hSq 14 19 ?_;refine hSq 15 20 ?_;refine hSq 16 21 ?_;simp only[Act.put,zzA,zzB,zzC]
   refine hSq 17 22 ?_;simp only[Act.put,zzA,zzB,zzC];refine hTq 18 (.bool false) 23 ?_
   simp only[Act.put,zzA,zzB,zzC];refine hTq 19 (.bool false) 4 ?_
   simp only[Act.put,zzA,zzB,zzC];refine wpAnyH_done (by kernel_rfl) ?_ _
   change Exit.then _ _ _ _ g
   go_wp2_with fail;go_ret;exact⟨by simp,a⟩
def MBool (w0:World)(pb:Nat)(po:Option Addr)(co:Nat)(kp:Option Addr)(kc:Nat)(T:List Cel)(L:Int)(all:List Tok)(w:World)(s':RS)(d:Bool)(e:Ending)(w':World):Prop:=e = .returned (.bool d)/\(∃ k' b',MS w0 pb po co kp kc T L all s' k' b' w')/\MF pb w w'
theorem l4got_any (E:MEnv w0 pb po co kp kc T L all)(h:MS w0 pb po co kp kc T L all s k b w)(m:List Int)(S:ByteArray)(j:strOfNums m=S)(l:Byte m):Calls Tryz.prog 145 #[ptrM pb,.string S] w (MBool w0 pb po co kp kc T L all w (if s.isP m=true then s.tk else s) (s.isP m)):=by
 have c:=l4punct_any E h m S j l;have p:=h.kl;have t:=E.len
 cases g:s.isP m with
 | true=>
   rw[g] at c;rw[if_pos rfl]
   have d:Hid (∀ W,Below w.heap.size w W->W.cell? ⟨pb,2,none⟩=some (.int .i64 k)/\W.frozen? ⟨pb,2,none⟩=false/\MBool w0 pb po co kp kc T L all w s.tk true (.returned (.bool true)) (W.setCell ⟨pb,2,none⟩ (.int .i64 ((k:Int)+1)))):=fun W a=>⟨(h.below a).c2,(h.below a).fz 2,rfl,⟨_,_,(h.below a).adv E.lt (isP_ne g)⟩,(MF.of pb a).trans (.set _ _ _ _)⟩
   clear h E g l j
   go_enter Tryz.func145,Tryz.ntmps145
   go_wp2_with fail;refine c.mono ?_;rintro e i ⟨rfl,f⟩;obtain⟨q,r,hF⟩:=d.o i f;have n:=hid hF;clear hF d c f;go_wp2_with fail;go_ret;exact n.o
 | false=>
   rw[g] at c;rw[if_neg (by decide)]
   have d:Hid (∀ W,Below w.heap.size w W->MBool w0 pb po co kp kc T L all w s false (.returned (.bool false)) W):=fun W a=>⟨rfl,⟨_,_,h.below a⟩,.of pb a⟩
   clear h E g l j
   go_enter Tryz.func145,Tryz.ntmps145
   go_wp2_with fail;refine c.mono ?_;rintro e i ⟨rfl,f⟩;have n:=hid (d.o i f);clear d c f;go_wp2_with fail;go_ret;exact n.o
theorem l4want_any (E:MEnv w0 pb po co kp kc T L all)(h:MS w0 pb po co kp kc T L all s k b w)(m:List Int)(S:ByteArray)(g:strOfNums m=S)(l:Byte m):Calls Tryz.prog 144 #[ptrM pb,.string S] w (MUnit w0 pb po co kp kc T L all w (s.must L m) (.tuple #[])):=by
 have a:=l4got_any E h m S g l
 unfold RS.must
 cases f:s.isP m with
 | true=>
   rw[f,if_pos rfl] at a;rw[if_pos rfl];clear h E f l g
   go_enter Tryz.func144,Tryz.ntmps144
   go_wp2_with fail;refine a.mono ?_;rintro e p ⟨rfl,d,c⟩
   have n:Hid (MUnit w0 pb po co kp kc T L all w s.tk (.tuple #[]) (.returned (.tuple #[])) p):=⟨rfl,d,c⟩
   clear d c a;go_wp2_with fail
   go_end0
   exact n.o
 | false=>
   rw[f,if_neg (by decide)] at a;rw[if_neg (by decide)]
   have t:Hid (∀ W j i,MS w0 pb po co kp kc T L all s j i W->Calls Tryz.prog 27 #[ptrM pb] W (MUnit w0 pb po co kp kc T L all W (s.stop L) (.tuple #[]))):=fun W j i y=>l4stop_any E y
   clear h E f l g
   go_enter Tryz.func144,Tryz.ntmps144
   go_wp2_with fail;refine a.mono ?_;rintro e p ⟨rfl,⟨j,i,d⟩,c⟩;have u:=t.o _ _ _ d;have r:=hid c;clear d c a t;go_wp2_with fail;refine u.mono ?_;rintro e x ⟨rfl,v,q⟩
   have n:Hid (MUnit w0 pb po co kp kc T L all w (s.stop L) (.tuple #[]) (.returned (.tuple #[])) x):=⟨rfl,v,r.o.trans q⟩
   clear v q u r;go_wp2_with fail
   go_end0
   exact n.o
end
end Go.Proofs.YtlkhmmoimplokaaGreatDoor
