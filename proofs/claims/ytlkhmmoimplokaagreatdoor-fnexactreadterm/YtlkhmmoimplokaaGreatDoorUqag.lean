/- Texts of MarkA, MarkT, MarkG. Own work of the verifier. -/
import Derived.LoopN
import Derived.Test.YtlkhmmoimplokaaGreatDoorUqae
namespace Go.Proofs.YtlkhmmoimplokaaGreatDoor
set_option maxHeartbeats 2000000
open Go Go.RowKit
set_option linter.unusedVariables false
def marks (k:Int):Nat->List Int
 | 0=>[]
 | n+1=>(k % 256) :: marks (k+1) n
theorem marks_len:∀ (n:Nat) (k:Int),(marks k n).length=n
 | 0,_=>rfl
 | n+1,k=>by simp[marks,marks_len n (k+1)]
theorem marks_at:∀ (n:Nat) (k:Int) (i:Nat),i<n->(marks k n).getD i 0=(k+i) % 256
 | 0,_,_,h=>absurd h (Nat.not_lt_zero _)
 | n+1,k,0,_=>by simp[marks]
 | n+1,k,i+1,h=>by
   have:=marks_at n (k+1) i (by omega);simp only[marks,List.getD_cons_succ,this]
   congr 1;omega
def partly (k:Int)(xs:List Int)(i:Nat):List Int:=marks k i ++ xs.drop i
theorem partly_len (k:Int)(a:List Int)(i:Nat)(h:i<=a.length):(partly k a i).length=a.length:=by
 simp[partly,marks_len];omega
theorem marks_snoc:∀ (i:Nat) (k:Int),marks k (i+1)=marks k i ++ [(k+i) % 256]
 | 0,k=>by simp[marks]
 | i+1,k=>by
   rw[marks,marks_snoc i (k+1),marks];simp only[List.cons_append,List.cons.injEq,true_and]
   congr 3;omega
theorem partly_set (k:Int)(a:List Int)(i:Nat)(h:i<a.length):((partly k a i).map (Value.int .u8)).set i (.int .u8 ((k+i) % 256))=(partly k a (i+1)).map (Value.int .u8):=by
 unfold partly
 have e:i-((marks k i).map (Value.int IntKind.u8)).length=0:=by simp[marks_len]
 rw[marks_snoc,List.map_append,List.set_append_right _ _ (by simp[marks_len]),e,List.drop_eq_getElem_cons h,List.map_cons,List.set_cons_zero,List.map_append,List.map_append,List.append_assoc]
 rfl
theorem wrap_byte (k:Int)(h:0<=k):IntKind.u8.wrap k=k % 256:=by
 simp[IntKind.wrap,IntKind.signed,IntKind.bits]
theorem mark_any (B g n c:Nat)(k:Int)(h:List Int)(w:World)(C:0<=k)(y:k<=1000000000000)(x:n<=1000000000)(a:OwnS w B (some ⟨g,0,none⟩) n c h) :
  Calls Tryz.prog 14 #[.slice (some ⟨g,0,none⟩) n c,.int .i64 k] w fun e r=>e = .returned (.int .i64 (k+n))/\OwnS r B (some ⟨g,0,none⟩) n c (marks k n)/\w.grownBy r (some g):=by
 have f:=hid a.1;have t:=hid a;clear a
 go_enter Tryz.func14,Tryz.ntmps14
 go_wp2
 go_loopw [1,5] (fun q i wr=>∃ j:Nat,j<=n/\i = .int .i64 j/\q = .int .i64 (k+j)/\Hid (OwnS wr B (some ⟨g,0,none⟩) n c (partly k h j))/\Hid (w.grownBy wr (some g))) (fun _ i _=>n-(intOf i).toNat)
 case atStart=>exact⟨0,Nat.zero_le _,rfl,by simp,by simpa [partly,marks] using t,⟨rfl,rfl,rfl,Nat.le_refl _,fun _ _ _=>rfl⟩⟩
 case round=>
  obtain⟨j,v,rfl,rfl,d,p⟩:=hrel
  by_cases b:j<n
  ·have m:∃ z,wr.cell? ⟨g,j,none⟩=some (.int .u8 z):=⟨_,d.o.row.2 j (by rw[<-d.o.1];exact b)⟩
   obtain⟨z,m⟩:=m;have A:=d.o.2.frozenAt j;have u:=wrap_byte (k+j) (by omega)
   have s:Hid (OwnS (wr.setCell ⟨g,j,none⟩ (.int .u8 ((k+j) % 256))) B (some ⟨g,0,none⟩) n c (partly k h (j+1))/\wr.grownBy (wr.setCell ⟨g,j,none⟩ (.int .u8 ((k+j) % 256))) (some g)):=by
    have l:=d.o.2.stored j (.int .u8 ((k+j) % 256));rw[partly_set k h j (by rw[<-f.o];exact b)] at l;exact⟨⟨by rw[partly_len _ _ _ (by rw[<-f.o];omega)];exact f.o,l.1⟩,l.2⟩
   go_wp2
   go_roundw
   case rel=>exact⟨j+1,by omega,by go_num,by simp;omega,s.o.1,p.o.trans s.o.2⟩
   case measure=>simp[intOf];omega
  ·obtain rfl:j=n:=by omega
   go_wp2
   go_ret;refine⟨rfl,?_,p.o⟩;have:=d.o
   unfold partly at this
   rw[List.drop_eq_nil_of_le (by rw[<-f.o];exact Nat.le_refl _),List.append_nil] at this;exact this
theorem mark_own (B:Nat)(p:Option Addr)(n c:Nat)(k:Int)(d:List Int)(w:World)(f:0<=k)(h:k<=1000000000000)(i:n<=1000000000)(a:OwnS w B p n c d) :
  Calls Tryz.prog 14 #[.slice p n c,.int .i64 k] w fun e b=>e = .returned (.int .i64 (k+n))/\OwnS b B p n c (marks k n)/\w.grownBy b (Value.ownBlock (.slice p n c)):=by
 rcases a.form with ⟨rfl,rfl,rfl⟩ | ⟨g,rfl,_,_⟩
 ·clear a
  go_enter Tryz.func14,Tryz.ntmps14
  go_wp2
  refine wp_loop_rounds 1 ?_;rw[rounds_succ]
  go_wp2
  go_ret;exact⟨by simp,OwnS.nil _ _,⟨rfl,rfl,rfl,Nat.le_refl _,fun _ _ _=>rfl⟩⟩
 ·exact mark_any B g n c k d w f h i a
theorem OwnS.kept {w k:World}{B:Nat}{p:Option Addr}{n c:Nat}{l:List Int}{a:Option Nat}(h:OwnS w B p n c l)(s:w.grownBy k a)(i:∀ g,p=some ⟨g,0,none⟩->a≠some g):OwnS k B p n c l:=by
 obtain⟨rfl,m⟩:=h;refine⟨rfl,m.1,?_⟩
 rcases m.2 with q | ⟨g,j,d,f,o,b,r⟩
 ·exact .inl q
 ·have t:p=some ⟨g,0,none⟩:=by simp only[Value.slice.injEq] at f;exact f.1
  exact .inr ⟨g,j,d,f,o,(s.block g (Array.getElem?_eq_some_iff.1 b).1 (fun e=>i g t e.symm)).trans b,r⟩
theorem OwnS.drewN {w:World}{B:Nat}{p:Option Addr}{n c:Nat}{a:List Int}(h:OwnS w B p n c a)(m:Nat):OwnS (w.drewN m) B p n c a:=⟨h.1,h.2⟩
def tb (p:Option Addr)(n:Nat):Option Nat:=if n=0 then none else p.map Addr.block
theorem partly_at (k:Int)(a:List Int)(j i:Nat)(b:j<=a.length)(c:i<a.length):(partly k a j).getD i 0=if i<j then(k+i) % 256 else a.getD i 0:=by
 unfold partly
 by_cases h:i<j
 ·rw[if_pos h,<-marks_at j k i h]
  simp only[List.getD];rw[List.getElem?_append_left (by rw[marks_len];exact h)]
 ·rw[if_neg h]
  simp only[List.getD];rw[List.getElem?_append_right (by rw[marks_len];omega),marks_len,List.getElem?_drop,show j+(i-j)=i by omega]
theorem markT_any (B:Nat)(p:Option Addr)(n c:Nat)(k:Int)(f:List Int)(w:World)(R:0<=k)(P:k<=1000000000000)(O:n<=1000000000)(a:OwnT w B p n c f) :
  Calls Tryz.prog 14 #[.slice p n c,.int .i64 k] w fun e C=>e = .returned (.int .i64 (k+n))/\OwnT C B p n c (marks k n)/\w.grownBy C (tb p n):=by
 by_cases G:n=0
 ·subst G
  clear a
  go_enter Tryz.func14,Tryz.ntmps14
  go_wp2
  refine wp_loop_rounds 1 ?_;rw[rounds_succ]
  go_wp2
  go_ret;exact⟨by simp,⟨rfl,fun h=>absurd h (Nat.lt_irrefl 0)⟩,⟨rfl,rfl,rfl,Nat.le_refl _,fun _ _ _=>rfl⟩⟩
 ·obtain⟨D,A⟩:=a
  obtain⟨g,rfl,J,l,H⟩:=A (by omega);have x:=hid D;have L:=hid H
  have v:tb (some (⟨g,0,none⟩:Addr)) n=some g:=by simp[tb,G]
  rw[v];clear D A H v
  go_enter Tryz.func14,Tryz.ntmps14
  go_wp2
  go_loopw [1,5] (fun q i wr=>∃ j:Nat,j<=n/\i = .int .i64 j/\q = .int .i64 (k+j)/\Hid (∀ i,i<n->wr.cell? ⟨g,i,none⟩=some (.int .u8 ((partly k f j).getD i 0))/\wr.frozen? ⟨g,i,none⟩=false)/\Hid (w.grownBy wr (some g))) (fun _ i _=>n-(intOf i).toNat)
  case atStart=>exact⟨0,Nat.zero_le _,rfl,by simp,by simpa [partly,marks] using L,⟨rfl,rfl,rfl,Nat.le_refl _,fun _ _ _=>rfl⟩⟩
  case round=>
   obtain⟨j,N,rfl,rfl,m,s⟩:=hrel
   by_cases r:j<n
   ·obtain⟨y,Q⟩:=m.o j r
    obtain⟨z,F⟩:∃ z,z=(partly k f j).getD j 0:=⟨_,rfl⟩
    rw[<-F] at y;clear F;have M:=wrap_byte (k+j) (by omega)
    have E:Hid ((∀ i,i<n->(wr.setCell ⟨g,j,none⟩ (.int .u8 ((k+j) % 256))).cell? ⟨g,i,none⟩=some (.int .u8 ((partly k f (j+1)).getD i 0))/\(wr.setCell ⟨g,j,none⟩ (.int .u8 ((k+j) % 256))).frozen? ⟨g,i,none⟩=false)/\w.grownBy (wr.setCell ⟨g,j,none⟩ (.int .u8 ((k+j) % 256))) (some g)):=by
     refine⟨fun i d=>⟨?_,by rw[World.frozen?_setCell];exact(m.o i d).2⟩,s.o.trans ⟨rfl,rfl,rfl,by simp,fun b _ K=>Below.heap_setCell _ _ _ _ (fun e=>K (by rw[e]))⟩⟩;have t:=x.o;rw[partly_at k f (j+1) i (by omega) (by omega)]
     by_cases e:i=j
     ·subst e
      rw[if_pos (by omega)];exact World.cell?_setCell_same _ _ _ y
     ·rw[World.cell?_setCell_other _ _ _ _ (fun I=>e (congrArg Addr.off I).symm),(m.o i d).1,partly_at k f j i (by omega) (by omega)]
      by_cases u:i<j
      ·rw[if_pos u,if_pos (by omega)]
      ·rw[if_neg u,if_neg (by omega)]
    go_wp2
    go_roundw
    case rel=>exact⟨j+1,by omega,by go_num,by simp;omega,E.o.1,E.o.2⟩
    case measure=>simp[intOf];omega
   ·obtain rfl:j=n:=by omega
    go_wp2
    go_ret;refine⟨rfl,⟨(marks_len _ _).symm,fun _=>⟨g,rfl,J,Nat.lt_of_lt_of_le l s.o.size,fun i d=>⟨?_,(m.o i d).2⟩⟩⟩,s.o⟩;have t:=x.o;rw[(m.o i d).1,partly_at k f j i (by omega) (by omega),if_pos d,marks_at j k i d]
structure Keep (B U:Nat)(w w':World):Prop where
 os:w'.os=w.os
 tape:w'.tape=w.tape
 output:w'.output=w.output
 size:w.heap.size<=w'.heap.size
 block:∀ k,k<w.heap.size->(k<B∨U<=k)->w'.heap[k]?=w.heap[k]?
theorem Keep.refl (B U:Nat)(w:World):Keep B U w w:=⟨rfl,rfl,rfl,Nat.le_refl _,fun _ _ _=>rfl⟩
theorem Keep.trans {B U:Nat}{a b c:World}(h:Keep B U a b)(k:Keep B U b c):Keep B U a c:=
 ⟨k.os.trans h.os,k.tape.trans h.tape,k.output.trans h.output,Nat.le_trans h.size k.size,fun i d e=>(k.block i (Nat.lt_of_lt_of_le d h.size) e).trans (h.block i d e)⟩
theorem Keep.below {B U:Nat}{w w':World}(h:Keep B U w w'){A:Nat}(a:A<=B)(b:A<=w.heap.size):Below A w w':=⟨h.os,h.tape,h.output,h.size,fun k c=>h.block k (by omega) (.inl (by omega))⟩
theorem Keep.of_grown {B U:Nat}{w b:World}{a:Option Nat}(h:w.grownBy b a)(d:∀ k,a=some k->B<=k/\k<U):Keep B U w b:=
 ⟨h.os,h.tape,h.output,h.size,fun k c f=>h.block k c (fun e=>by have:=d k e.symm;omega)⟩
theorem tb_of {g n:Nat}(h:0<n):tb (some ⟨g,0,none⟩) n=some g:=by unfold tb;rw[if_neg (by omega)];rfl
theorem tb_some {p:Option Addr}{n k:Nat}(h:tb p n=some k):0<n/\∃ a,p=some a/\a.block=k:=by
 unfold tb at h
 split at h
 ·cases h
 ·cases p with
  | none=>cases h
  | some a=>exact⟨by omega,a,rfl,Option.some.inj h⟩
theorem OwnT.tb {w:World}{B:Nat}{p:Option Addr}{n c:Nat}{j:List Int}(h:OwnT w B p n c j){k:Nat}(e:tb p n=some k):p=some ⟨k,0,none⟩/\B<=k/\k<w.heap.size:=by
 obtain⟨d,a,rfl,rfl⟩:=tb_some e;obtain⟨g,f,i,b,_⟩:=h.2 d;obtain rfl:=Option.some.inj f;exact⟨rfl,i,b⟩
def kAt (k:Int)(cs:List Cel)(j:Nat):Int:=k+2 * j+tl (cs.take j)
theorem kAt_zero (k:Int)(a:List Cel):kAt k a 0=k:=by simp[kAt,tl]
theorem kAt_succ (k:Int)(a:List Cel)(j:Nat)(h:j<a.length):kAt k a (j+1)=kAt k a j+1+1+(a.getD j Cel.none).2.2.length:=by
 have:=tl_take a j h;simp only[kAt,this];omega
theorem cs_set_at (a:List Cel)(i j:Nat)(r:Cel)(h:i<a.length):(a.set i r).getD j Cel.none=if j=i then r else a.getD j Cel.none:=by
 simp only[List.getD,List.getElem?_set]
 by_cases e:j=i
 ·subst e;simp[h]
 ·have:¬ i=j:=fun x=>e x.symm
  simp[this,e]
end Go.Proofs.YtlkhmmoimplokaaGreatDoor
