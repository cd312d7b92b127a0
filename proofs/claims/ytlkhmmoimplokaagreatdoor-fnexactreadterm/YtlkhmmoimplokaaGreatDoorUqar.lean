/- Texts of Tk1, QuoO, WiA, WiB, WiC, Mark, WiD, WiE. Own work of the verifier. -/
import Derived.Test.YtlkhmmoimplokaaGreatDoorUqag
import Derived.Test.YtlkhmmoimplokaaGreatDoorUqab
import Derived.Test.YtlkhmmoimplokaaGreatDoorUqai
import Derived.Lib.AppendStr
import Derived.Test.YtlkhmmoimplokaaGreatDoorUqad
namespace Go.Proofs.YtlkhmmoimplokaaGreatDoor
set_option maxHeartbeats 2000000
open Go Go.RowKit
set_option linter.unusedVariables false
abbrev Tok:=(Int×Int×Int×Int)×List Int
def Tok.none:Tok:=((0,0,0,0),[])
abbrev RT:=(Int×Int×Int×Int)×Option Addr×Nat×Nat
def RT.zero:RT:=((0,0,0,0),Option.none,0,0)
def ttl:List Tok->Nat
 | []=>0
 | t :: r=>t.2.length+ttl r
theorem rt_append_at (a:List RT)(r:RT)(i:Nat)(h:i<=a.length):(a ++ [r]).getD i RT.zero=if i=a.length then r else a.getD i RT.zero:=by
 simp only[List.getD,List.getElem?_append]
 by_cases e:i=a.length
 ·subst e;simp
 ·rw[if_pos (by omega),if_neg e]
theorem ts_append_at (a:List Tok)(t:Tok)(i:Nat)(h:i<=a.length):(a ++ [t]).getD i Tok.none=if i=a.length then t else a.getD i Tok.none:=by
 simp only[List.getD,List.getElem?_append]
 by_cases e:i=a.length
 ·subst e;simp
 ·rw[if_pos (by omega),if_neg e]
theorem infoTok:(Tryz.prog.info? 86).map (fun i=>(i.zero,i.size,i.bytes))=some (some (.agg #[.int .i64 0,.int .i64 0,.int .i64 0,.slice none 0 0,.int .i64 0]),5,56):=by kernel_rfl
def rtV (r:RT):List Value:=[.int .i64 r.1.1,.int .i64 r.1.2.1,.int .i64 r.1.2.2.1,.slice r.2.1 r.2.2.1 r.2.2.2,.int .i64 r.1.2.2.2]
def flatT (rs:List RT):List Value:=rs.flatMap rtV
theorem flatT_cons (r:RT)(a:List RT):flatT (r :: a) = .int .i64 r.1.1 :: .int .i64 r.1.2.1 :: .int .i64 r.1.2.2.1 :: .slice r.2.1 r.2.2.1 r.2.2.2 :: .int .i64 r.1.2.2.2 :: flatT a:=rfl
theorem flatT_append (a b:List RT):flatT (a ++ b)=flatT a ++ flatT b:=List.flatMap_append
theorem flatT_one (r:RT):flatT [r]=rtV r:=by simp[flatT]
theorem flatT_at:∀ (a:List RT) (i:Nat),i<a.length->(flatT a)[i * 5]?=some (.int .i64 (a.getD i RT.zero).1.1)/\(flatT a)[i * 5+1]?=some (.int .i64 (a.getD i RT.zero).1.2.1)/\(flatT a)[i * 5+2]?=some (.int .i64 (a.getD i RT.zero).1.2.2.1)/\
  (flatT a)[i * 5+3]?=some (.slice (a.getD i RT.zero).2.1 (a.getD i RT.zero).2.2.1 (a.getD i RT.zero).2.2.2)/\(flatT a)[i * 5+4]?=some (.int .i64 (a.getD i RT.zero).1.2.2.2)
 | [],i,h=>by simp at h
 | r :: a,0,_=>by simp[flatT_cons]
 | r :: a,i+1,h=>by
   have:=flatT_at a i (by simpa using h);rw[flatT_cons,show(i+1) * 5=(i * 5)+1+1+1+1+1 by omega,show(i * 5)+1+1+1+1+1+1=(i * 5+1)+1+1+1+1+1 by omega,show(i * 5)+1+1+1+1+1+2=(i * 5+2)+1+1+1+1+1 by omega,show(i * 5)+1+1+1+1+1+3=(i * 5+3)+1+1+1+1+1 by omega,show(i * 5)+1+1+1+1+1+4=(i * 5+4)+1+1+1+1+1 by omega]
   simpa using this
def FitsT (w:World)(B:Nat)(r:RT)(t:Tok):Prop:=r.1=t.1/\OwnT w B r.2.1 r.2.2.1 r.2.2.2 t.2
def ApartT (p:Option Addr)(rs:List RT):Prop:=
 (∀ i,i<rs.length->0<(rs.getD i RT.zero).2.2.1->(rs.getD i RT.zero).2.1≠p)/\
 (∀ i j,i<rs.length->j<rs.length->i≠j->0<(rs.getD i RT.zero).2.2.1->0<(rs.getD j RT.zero).2.2.1->(rs.getD i RT.zero).2.1≠(rs.getD j RT.zero).2.1)
def OwnK (w:World)(B:Nat)(p:Option Addr)(n c:Nat)(ts:List Tok):Prop:=
 n=ts.length/\∃ rs:List RT,rs.length=ts.length/\w.ownsRow B 86 5 (.slice p n c) n (flatT rs)/\(∀ i,i<ts.length->FitsT w B (rs.getD i RT.zero) (ts.getD i Tok.none))/\ApartT p rs
theorem OwnK.nil (w:World)(B:Nat):OwnK w B none 0 0 []:=⟨rfl,[],rfl,World.ownsRow_nil _ _ _ _,fun i h=>by simp at h,fun i h=>by simp at h,fun i j h=>by simp at h⟩
theorem OwnK.below {w w':World}{B:Nat}{p:Option Addr}{n c:Nat}{d:List Tok}(h:OwnK w B p n c d)(e:Below w.heap.size w w'):OwnK w' B p n c d:=by
 obtain⟨rfl,f,j,g,a,ha⟩:=h;exact⟨rfl,f,j,row_below g e,fun i b=>⟨(a i b).1,(a i b).2.below e⟩,ha⟩
theorem OwnK.mono {w:World}{B b:Nat}{p:Option Addr}{n c:Nat}{f:List Tok}(h:OwnK w B p n c f)(e:b<=B):OwnK w b p n c f:=by
 obtain⟨g,rs,l,j,a,ha⟩:=h;exact⟨g,rs,l,ownsRow_down j e,fun i d=>⟨(a i d).1,(a i d).2.mono e⟩,ha⟩
theorem ownK_grew {W0 w V:World}{B g n M O:Nat}{p:Option Addr}{s:List Tok}{f:List RT}(hn:n=s.length)(hl:f.length=s.length)(S:W0.ownsRow B 86 5 (.slice p n O) n (flatT f))
  (hf:∀ i,i<s.length->FitsT W0 B (f.getD i RT.zero) (s.getD i Tok.none)) (ha:ApartT p f) (E:Below W0.heap.size W0 w) (hB:B<=W0.heap.size)
  {F:Int×Int×Int×Int} {u:Option Addr} {A G:Nat} {t:List Int} (ht:OwnT w W0.heap.size u A G t)
  (hr:V.ownsRow B 86 5 (.slice (some ⟨g,0,none⟩) (n+1) M) (n+1) (flatT f ++ rtV (F,u,A,G))) (N:w.grownBy V (Value.ownBlock (.slice p n O))) (H:Value.ownBlock (.slice p n O)=some g∨g=w.heap.size) :
  OwnK V B (some ⟨g,0,none⟩) (n+1) M (s ++ [(F,t)]):=by
 have m:∀ k,Value.ownBlock (.slice p n O)=some k->p=some ⟨k,0,none⟩/\k<W0.heap.size:=fun k v=>by
  rcases S.2 with ⟨J,_⟩ | ⟨g',h4,h5,J,hb,X,_⟩
  ·simp only[Value.slice.injEq] at J;rw[J.1] at v;simp[Value.ownBlock] at v
  ·simp only[Value.slice.injEq] at J
   rw[J.1] at v ⊢
   simp[Value.ownBlock] at v
   subst v;exact⟨rfl,(Array.getElem?_eq_some_iff.1 X).1⟩
 have I:∀ i,i<s.length->OwnT w B (f.getD i RT.zero).2.1 (f.getD i RT.zero).2.2.1 (f.getD i RT.zero).2.2.2 (s.getD i Tok.none).2:=fun i x=>(hf i x).2.below E
 have o:∀ i,i<s.length->0<(f.getD i RT.zero).2.2.1->∃ k,(f.getD i RT.zero).2.1=some ⟨k,0,none⟩/\k<W0.heap.size:=fun i x q=>by
  obtain⟨k,e,_,Q,_⟩:=(hf i x).2.2 q;exact⟨k,e,Q⟩
 have b:0<A->∃ k,u=some ⟨k,0,none⟩/\W0.heap.size<=k/\k<w.heap.size:=fun q=>by
  obtain⟨k,e,C,L,_⟩:=ht.2 q;exact⟨k,e,C,L⟩
 have U:g<W0.heap.size∨g=w.heap.size:=by
  rcases H with h | h
  ·exact .inl (m g h).2
  ·exact .inr h
 refine⟨by simp;omega,f ++ [(F,u,A,G)],by simp;omega,by rw[flatT_append,flatT_one];exact hr,fun i x=>?_,fun i x q=>?_,fun i j x hj Y d l=>?_⟩
 ·have r:i<=s.length:=by simp at x;omega
  rw[rt_append_at _ _ _ (by omega),ts_append_at _ _ _ r]
  by_cases e:i=s.length
  ·rw[if_pos (by omega),if_pos e]
   refine⟨rfl,(ht.mono hB).other N.size (fun k y z=>?_)⟩;obtain⟨D,a,C,L⟩:=b y
   have Z:k=D:=by
    have:=z.symm.trans a;exact congrArg Addr.block (Option.some.inj this)
   refine N.block k (by omega) (fun v=>?_);have:=(m k v.symm).2
   omega
  ·rw[if_neg (by omega),if_neg e]
   refine⟨(hf i (by omega)).1,(I i (by omega)).other N.size (fun k y z=>?_)⟩;obtain⟨D,a,C⟩:=o i (by omega) y;have Z:k=D:=congrArg Addr.block (Option.some.inj (z.symm.trans a));refine N.block k (by have:=E.size;omega) (fun v=>?_);exact ha.1 i (by omega) y (by rw[z,(m k v.symm).1])
 ·have r:i<=f.length:=by simp at x;omega
  rw[rt_append_at _ _ _ r] at q ⊢
  by_cases e:i=f.length
  ·rw[if_pos e] at q ⊢
   obtain⟨D,a,C,L⟩:=b q;rw[show((F,u,A,G):RT).2.1=u from rfl,a];exact ne_block (by omega) q
  ·rw[if_neg e] at q ⊢
   obtain⟨D,a,C⟩:=o i (by omega) q
   rcases H with h | h
   ·rw[<-(m g h).1]
    exact ha.1 i (by omega) q
   ·rw[a]
    exact ne_block (by have:=E.size;omega) q
 ·have r:i<=f.length:=by simp at x;omega
  have T:j<=f.length:=by simp at hj;omega
  rw[rt_append_at _ _ _ r] at d ⊢;rw[rt_append_at _ _ _ T] at l ⊢
  by_cases e:i=f.length
  ·rw[if_pos e] at d ⊢
   rw[if_neg (by omega)] at l ⊢;obtain⟨D,a,C,L⟩:=b d;obtain⟨k2,P,h3⟩:=o j (by omega) l;rw[show((F,u,A,G):RT).2.1=u from rfl,a,P];exact ne_block (by omega) d
  ·rw[if_neg e] at d ⊢
   by_cases z:j=f.length
   ·rw[if_pos z] at l ⊢
    obtain⟨D,a,C,L⟩:=b l;obtain⟨k2,P,h3⟩:=o i (by omega) d;rw[show((F,u,A,G):RT).2.1=u from rfl,a,P];exact ne_block (by omega) d
   ·rw[if_neg z] at l ⊢
    exact ha.2 i j (by omega) (by omega) Y d l
theorem rtV_one (r:RT):∀ u ∈ rtV r,u.oneCell'=true:=fun u a=>by
 simp[rtV] at a
 rcases a with rfl | rfl | rfl | rfl | rfl <;> rfl
theorem held_any (p:Option Addr)(n c:Nat)(k:Int)(w:World)(u:0<=k)(t:k<=1000000000000)(s:n<=1000000000)(d:BIn w p (marks k n)) :
  Calls Tryz.prog 47 #[.slice p n c,.int .i64 k] w fun e g=>e = .returned (.int .i64 (k+n))/\g=w:=by
 have m:=hid d;clear d
 go_enter Tryz.func47,Tryz.ntmps47
 go_wp2
 go_loop [1,5] (fun q i=>∃ j:Nat,j<=n/\i = .int .i64 j/\q = .int .i64 (k+j)) (fun _ i=>n-(intOf i).toNat)
 case atStart=>exact⟨0,Nat.zero_le _,rfl,by simp⟩
 case round=>
  obtain⟨j,r,rfl,rfl⟩:=hrel
  by_cases a:j<n
  ·obtain⟨b,o,rfl,f⟩:=m.o (by rw[marks_len];omega)
   have h:=f j (by rw[marks_len];exact a);rw[marks_at n k j a] at h;have l:=wrap_byte (k+j) (by omega);clear f
   go_wp2
   go_round
   case rel=>exact⟨j+1,by omega,by go_num,by simp;omega⟩
   case measure=>simp[intOf];omega
  ·obtain rfl:j=n:=by omega
   go_wp2
   go_ret;exact⟨rfl,rfl⟩
abbrev WK:=Nat×Option Addr×Nat×Nat×Bool
structure Bas where
 t:World
 lo:Nat
 g:Option Nat
 x:Nat->Option Value
structure Bas.grownBy (B:Bas)(W:World)(o:Option Nat):Prop where
 os:W.os=B.t.os
 tape:W.tape=B.t.tape
 output:W.output=B.t.output
 size:B.lo<=W.heap.size
 tsize:B.t.heap.size<=W.heap.size
 block:∀ k,k<B.t.heap.size->some k≠o->some k≠B.g->W.heap[k]?=B.t.heap[k]?
section
variable {W0:Bas}{W:World}{wb:Nat}{K:WK}{p:Option Addr}{n c:Nat}{R:List Int}{k:Nat}
end
end Go.Proofs.YtlkhmmoimplokaaGreatDoor
