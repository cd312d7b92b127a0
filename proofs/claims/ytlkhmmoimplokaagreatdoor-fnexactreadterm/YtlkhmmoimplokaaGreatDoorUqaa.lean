/- Texts of Copy, RowT, Own, CelA. Own work of the verifier. -/
import Derived.Test.YtlkhmmoimplokaaGreatDoorPre
import Derived.Deep.AppendLies
import Derived.Deep.RegionHeld3
import Derived.Deep.Light
namespace Go.Proofs.YtlkhmmoimplokaaGreatDoor
set_option maxHeartbeats 2000000
open Go Go.RowKit
set_option linter.unusedVariables false
theorem infoByte:(Tryz.prog.info? 5).map (fun i=>(i.zero,i.size,i.bytes))=some (some (.int .u8 0),1,1):=by kernel_rfl
def BIn (w:World)(p:Option Addr)(xs:List Int):Prop:=
 0<xs.length->∃ b o,p=some ⟨b,o,none⟩/\∀ i,i<xs.length->w.cell? ⟨b,o+i,none⟩=some (.int .u8 (xs.getD i 0))
theorem same_every {a b:List Int}(e:a.length=b.length)(h:∀ j,j<a.length->a.getD j 0=b.getD j 0):a=b:=by
 apply List.ext_getElem e
 intro i c d
 have:=h i c
 rwa[List.getD,List.getD,List.getElem?_eq_getElem c,List.getElem?_eq_getElem d] at this
theorem eqByteS_any (p q:Option Addr)(H J:Nat)(c a:List Int)(w:World)(F:c.length<=1000000000)(O:a.length<=1000000000)(B:BIn w p c)(A:BIn w q a) :
  Calls Tryz.prog 12 #[.slice p c.length H,.slice q a.length J] w fun e M=>e = .returned (.bool (decide (c=a)))/\∃ n,M=w.drewN n:=by
 by_cases d:c.length=a.length
 ·have t:Hid (c.length=a.length):=d
  obtain⟨n,z⟩:∃ n,a.length=n:=⟨_,rfl⟩
  rw[d];rw[d] at F;rw[z] at F O d ⊢;have g:=hid z;clear d z
  go_enter Tryz.func12,Tryz.ntmps12
  go_wp2
  go_loopw [5] (fun i wr=>∃ k m:Nat,k<=n/\i = .int .i64 k/\Hid (wr=w.drewN m)/\Hid (∀ j,j<k->c.getD j 0=a.getD j 0)) (fun i _=>n-(intOf i).toNat)
  case atStart=>exact⟨0,0,Nat.zero_le _,rfl,rfl,fun _ h=>absurd h (Nat.not_lt_zero _)⟩
  case round=>
   obtain⟨k,m,R,rfl,r,E⟩:=hrel
   by_cases f:k<n
   ·obtain⟨b,o,rfl,l⟩:=B (by rw[t.o,g.o];omega)
    obtain⟨L,I,rfl,s⟩:=A (by rw[g.o];omega)
    have N:wr.cell? ⟨b,o+k,none⟩=some (.int .u8 (c.getD k 0)):=by rw[r.o];exact l k (by rw[t.o,g.o];exact f)
    have K:wr.cell? ⟨L,I+k,none⟩=some (.int .u8 (a.getD k 0)):=by rw[r.o];exact s k (by rw[g.o];exact f)
    obtain⟨x,v⟩:∃ x,x=c.getD k 0:=⟨_,rfl⟩
    obtain⟨y,C⟩:∃ y,y=a.getD k 0:=⟨_,rfl⟩
    rw[<-v] at N;rw[<-C] at K;have G:=hid v;have D:=hid C;clear v C l s B A
    by_cases u:x=y
    ·subst u
     go_wp2
     go_region
     all_goals go_wp2
     all_goals go_roundw
     case rel=>exact⟨k+1,m+1,by omega,by go_num,by rw[r.o];rfl,fun j S=>by
      by_cases e:j=k
      ·subst e;rw[<-G.o,<-D.o]
      ·exact E.o j (by omega)⟩
     case measure=>simp[intOf];omega
    ·have Q:(x != y)=true:=by simpa using u
     go_wp2
     go_region
     all_goals go_wp2
     all_goals go_ret
     exact⟨ret_bool (by
      symm;rw[decide_eq_false_iff_not];intro e
      exact u (by rw[G.o,D.o,e])),m+1,by rw[r.o];rfl⟩
   ·obtain rfl:k=n:=by omega
    go_wp2
    go_ret;exact⟨ret_bool (by symm;rw[decide_eq_true_iff];exact same_every t.o (by rw[t.o,g.o];exact E.o)),m,r.o⟩
 ·have P:¬ ((c.length:Int)=(a.length:Int)):=by omega
  have e:decide (c=a)=false:=by rw[decide_eq_false_iff_not];intro e;exact d (by rw[e])
  rw[e];clear e B A
  go_enter Tryz.func12,Tryz.ntmps12
  go_wp2
  go_ret;exact⟨rfl,0,rfl⟩
def Row (W:World)(b:Nat)(xs:List Int):Prop:=b<W.heap.size/\∀ i,i<xs.length->W.cell? ⟨b,i,none⟩=some (.int .u8 (xs.getD i 0))
theorem Row.below {W a:World}{b:Nat}{xs:List Int}(h:Row W b xs)(c:Below W.heap.size W a):Row a b xs:=
 ⟨Nat.lt_of_lt_of_le h.1 c.size,fun i d=>(c.cell (p:=⟨b,i,none⟩) h.1).trans (h.2 i d)⟩
theorem Row.bin {W:World}{b:Nat}{a:List Int}(h:Row W b a):BIn W (some ⟨b,0,none⟩) a:=fun _=>⟨b,0,rfl,fun i c=>by rw[Nat.zero_add];exact h.2 i c⟩
theorem row_of_owns {W:World}{B b c:Nat}{d:List Int}(h:W.ownsRow B 5 1 (.slice (some ⟨b,0,none⟩) d.length c) d.length (d.map (Value.int .u8))):Row W b d:=by
 refine⟨?_,fun i g=>?_⟩
 ·rcases h.2 with ⟨a,_⟩ | ⟨k,e,f,a,_,j,_⟩
  ·simp at a
  ·simp only[Value.slice.injEq,Option.some.injEq,Addr.mk.injEq,and_true,true_and] at a
   obtain⟨rfl,_⟩:=a;exact(Array.getElem?_eq_some_iff.1 j).1
 ·rw[h.cellAt i (by omega)]
  simp[List.getD,g]
theorem BIn.below {W a:World}{p:Option Addr}{xs:List Int}(h:BIn W p xs)(f:Below W.heap.size W a):BIn a p xs:=fun e=>by
 obtain⟨b,o,rfl,d⟩:=h e;exact⟨b,o,rfl,fun i c=>(f.cell (World.block_lt_of_cell? _ _ (d i c))).trans (d i c)⟩
theorem below_drewN {B:Nat}{a w:World}(h:Below B a w)(n:Nat):Below B a (w.drewN n):=h.trans ⟨rfl,rfl,rfl,Nat.le_refl _,fun _ _=>rfl⟩
theorem Below.on {w W a:World}(h:Below w.heap.size w W)(k:Below W.heap.size W a):Below w.heap.size w a:=h.trans (k.mono h.size)
def OwnS (w:World)(B:Nat)(p:Option Addr)(n c:Nat)(ys:List Int):Prop:=n=ys.length/\w.ownsRow B 5 1 (.slice p n c) n (ys.map (Value.int .u8))
theorem OwnS.len {w:World}{B:Nat}{p:Option Addr}{n c:Nat}{a:List Int}(h:OwnS w B p n c a):n=a.length:=h.1
theorem OwnS.nil (w:World)(B:Nat):OwnS w B none 0 0 []:=⟨rfl,World.ownsRow_nil _ _ _ _⟩
theorem OwnS.bin {w:World}{B:Nat}{p:Option Addr}{n c:Nat}{b:List Int}(h:OwnS w B p n c b):BIn w p b:=fun e=>by
 obtain⟨rfl,a⟩:=h;obtain⟨g,j,d,k,l⟩:=a.form e;simp only[Value.slice.injEq,true_and] at d;obtain⟨rfl,rfl⟩:=d;exact⟨g,0,rfl,fun i f=>by rw[Nat.zero_add,a.cellAt i (by omega)];simp[List.getD,f]⟩
theorem OwnS.form {w:World}{B:Nat}{p:Option Addr}{n c:Nat}{ys:List Int}(h:OwnS w B p n c ys):(p=none/\n=0/\c=0)∨∃ g,p=some ⟨g,0,none⟩/\B<=g/\g<w.heap.size:=by
 obtain⟨rfl,d⟩:=h
 rcases d.2 with ⟨a,j⟩ | ⟨g,i,b,a,e,f,_⟩
 ·simp only[Value.slice.injEq] at a
  exact .inl a
 ·simp only[Value.slice.injEq,true_and] at a
  exact .inr ⟨g,a.1,e,(Array.getElem?_eq_some_iff.1 f).1⟩
theorem OwnS.below {w w':World}{B:Nat}{p:Option Addr}{n c:Nat}{e:List Int}(h:OwnS w B p n c e)(l:Below w.heap.size w w'):OwnS w' B p n c e:=by
 obtain⟨rfl,f⟩:=h;refine⟨rfl,f.1,?_⟩
 rcases f.2 with k | ⟨g,b,a,j,i,d,r⟩
 ·exact .inl k
 ·exact .inr ⟨g,b,a,j,i,(l.block g (Array.getElem?_eq_some_iff.1 d).1).trans d,r⟩
theorem OwnS.alloc {w:World}{B:Nat}{p:Option Addr}{n c:Nat}{ys:List Int}(h:OwnS w B p n c ys)(o:Obj):OwnS (w.alloc o) B p n c ys:=⟨h.1,h.2.alloc o⟩
theorem OwnS.of_row {w:World}{B b c:Nat}{a:List Int}(h:w.ownsRow B 5 1 (.slice (some ⟨b,0,none⟩) a.length c) a.length (a.map (Value.int .u8))):OwnS w B (some ⟨b,0,none⟩) a.length c a:=⟨rfl,h⟩
theorem OwnS.row {w:World}{B g n c:Nat}{a:List Int}(h:OwnS w B (some ⟨g,0,none⟩) n c a):Row w g a:=by obtain⟨rfl,b⟩:=h;exact row_of_owns b
theorem oneCells (b:List Int):∀ u ∈ b.map (Value.int .u8),u.oneCell'=true:=fun u a=>by
 obtain⟨z,_,rfl⟩:=List.mem_map.1 a;rfl
theorem app_bytes (w:World){t:Array Oper}{e:List Oper}{o:Oper}{a:Act}{Q:Exit->Act->World->Prop}(E:o.guard=none)(s x:Operand)
  (R:o.op = .call { callee:=.builtin .append,args:=#[s,x],argTypes:=#[23,23] }) (B:Nat) (p:Option Addr) (n c:Nat) (r q:List Int) (m:Nat) (D:m=q.length)
  (O:a.eval s = .slice p n c) (v:OwnS w B p n c r) (A:Addr) (J:Nat) (P:a.eval x = .slice (some A) m J) (i:∀ j u,(q.map (Value.int .u8))[j]?=some u->w.cell? (A.add j)=some u)
  (S:0<m) (H:n+m<=1000000000000) (b:B<=w.heap.size)
  (h:∀ g F d y,OwnS y B (some ⟨g,0,none⟩) F d (r ++ q)->Below B w y->Hid (F=n+m)->wpList Tryz.prog t Q e (a.put o.dst (.slice (some ⟨g,0,none⟩) F d)) y):wpList Tryz.prog t Q (o :: e) a w:=by
 obtain⟨T,N,z,G,C⟩:=info_parts infoByte;subst D;obtain⟨rfl,K⟩:=v;refine wpList_append_lies w E s x 23 R B 5 T (.int .u8 0) 1 1 Tryz.underlying23 N z G C rfl (by decide) (.slice p r.length c) r.length (r.map (Value.int .u8)) O K A q.length J (q.map (Value.int .u8)) P (by simp) i (oneCells q) S (by unfold maxLen;omega) (by omega) b w.heap.size rfl ?_
 intro g d y f l M L
 refine h g _ d y ⟨by simp,by rw[List.map_append];exact f⟩ ((Below.refl _ _).grown l b (fun k I=>?_)) rfl
 rcases OwnS.form (ys:=r) ⟨rfl,K⟩ with ⟨rfl,_⟩ | ⟨V,rfl,U,_⟩
 ·simp[Value.ownBlock] at I
 ·simp[Value.ownBlock] at I;omega
abbrev Cel:=Int×Int×List Int
def Cel.none:Cel:=(0,0,[])
theorem BIn.drewN {W:World}{p:Option Addr}{a:List Int}(h:BIn W p a)(m:Nat):BIn (W.drewN m) p a:=h
def tl:List Cel->Nat
 | []=>0
 | c :: r=>c.2.2.length+tl r
theorem tl_take:∀ (a:List Cel) (k:Nat),k<a.length->tl (a.take (k+1))=tl (a.take k)+(a.getD k Cel.none).2.2.length
 | [],k,h=>by simp at h
 | c :: r,0,_=>by simp[tl]
 | c :: r,k+1,h=>by
   have:=tl_take r k (by simpa using h);simp only[List.take_succ_cons,tl,this]
   simp;omega
theorem tl_take_le:∀ (a:List Cel) (k:Nat),tl (a.take k)<=tl a
 | [],k=>by simp[tl]
 | c :: r,0=>by simp[tl]
 | c :: r,k+1=>by have:=tl_take_le r k;simp only[List.take_succ_cons,tl];omega
theorem tl_at (a:List Cel)(k:Nat)(h:k<a.length):(a.getD k Cel.none).2.2.length<=tl a:=by
 have:=tl_take a k h;have:=tl_take_le a (k+1)
 omega
def szR (L n:Nat):Int:=if n<=L then(L:Int)-n else -1
end Go.Proofs.YtlkhmmoimplokaaGreatDoor
