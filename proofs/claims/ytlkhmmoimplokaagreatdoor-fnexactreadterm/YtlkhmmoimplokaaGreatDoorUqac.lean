/- Texts of CopyT, Sz, Cell1, RegK. Own work of the verifier. -/
import Derived.Test.YtlkhmmoimplokaaGreatDoorUqaa
namespace Go.Proofs.YtlkhmmoimplokaaGreatDoor
set_option maxHeartbeats 2000000
section
open Go Go.RowKit
set_option linter.unusedVariables false
theorem vals_set (a:List Int)(k:Nat)(h:k<a.length) :
  ((a.take k).map (Value.int .u8) ++ List.replicate (a.length-k) (Value.int .u8 0)).set k (Value.int .u8 (a.getD k 0))=(a.take (k+1)).map (Value.int .u8) ++ List.replicate (a.length-(k+1)) (Value.int .u8 0):=by
 rw[List.set_append_right _ _ (by simp;omega),List.take_succ_eq_append_getElem h]
 have e:k-((a.take k).map (Value.int IntKind.u8)).length=0:=by simp;omega
 rw[e,show a.length-k=(a.length-(k+1))+1 by omega,List.replicate_succ,List.set_cons_zero,List.map_append,List.append_assoc];simp only[List.map_cons,List.map_nil,List.singleton_append,List.getD,List.getElem?_eq_getElem h,Option.getD_some]
theorem toByteS_any (p:Option Addr)(u:Nat)(a:List Int)(w:World)(I:a.length<=1048576)(B:BIn w p a) :
  Calls Tryz.prog 8 #[.slice p a.length u] w fun e v=>e = .returned (.slice (some ⟨w.heap.size,0,none⟩) a.length a.length)/\
   v.ownsRow w.heap.size 5 1 (.slice (some ⟨w.heap.size,0,none⟩) a.length a.length) a.length (a.map (Value.int .u8))/\Below w.heap.size w v:=by
 obtain⟨E,C,r,t,s⟩:=info_parts infoByte
 have n:a.length<=maxLen:=by unfold maxLen;omega
 go_enter Tryz.func8,Tryz.ntmps8
 go_wp2_with (at_make;refine wpList_make_full _ rfl _ _ 23 rfl w.heap.size 5 E (.int .u8 0) 1 Tryz.underlying23 C r t _ _ _ _ a.length rfl rfl rfl rfl (by rw[s];omega) n (Nat.le_refl _) ?_;intro z f c);have l:Below w.heap.size w z:=(Below.refl _ _).grown c (Nat.le_refl _) (fun k h=>by cases h)
 have A:Hid (z.ownsRow w.heap.size 5 1 (.slice (some ⟨w.heap.size,0,none⟩) a.length a.length) a.length (List.replicate a.length (Value.int .u8 0))):=by
  have:=f;simp[Value.cells,toList_madeCells_one] at this;exact this
 clear f c
 go_loopw [4] (fun i wr=>∃ k:Nat,k<=a.length/\i = .int .i64 k/\Hid (wr.ownsRow w.heap.size 5 1 (.slice (some ⟨w.heap.size,0,none⟩) a.length a.length) a.length ((a.take k).map (Value.int .u8) ++ List.replicate (a.length-k) (Value.int .u8 0)))/\Below w.heap.size w wr)
  (fun i _=>a.length-(intOf i).toNat)
 case atStart=>exact⟨0,Nat.zero_le _,rfl,by simpa using A,l⟩
 case round=>
  obtain⟨k,G,rfl,m,d⟩:=hrel
  by_cases g:k<a.length
  ·obtain⟨b,o,rfl,j⟩:=B (by omega)
   have D:wr.cell? ⟨b,o+k,none⟩=some (.int .u8 (a.getD k 0)):=(d.cell (World.block_lt_of_cell? _ _ (j k g))).trans (j k g)
   have H:wr.cell? ⟨w.heap.size,k,none⟩=some (.int .u8 0):=by
    rw[m.o.cellAt k (by omega),List.getElem?_append_right (by simp;omega),List.getElem?_replicate,if_pos (by simp;omega)]
   have J:=m.o.frozenAt k
   obtain⟨x,q⟩:∃ x,x=a.getD k 0:=⟨_,rfl⟩
   rw[<-q] at D;have y:=hid q;have F:=hid d;clear q j B l A d
   go_wp2
   go_roundw
   case rel=>exact⟨k+1,by omega,by go_num,by
    have:=m.o.stored k (.int .u8 x);rw[y.o,vals_set a k g] at this;rw[y.o]
    exact this.1,F.o.setCell (p:=⟨w.heap.size,k,none⟩) (Nat.le_refl _) _⟩
   case measure=>simp[intOf];omega
  ·obtain rfl:k=a.length:=by omega
   go_wp2
   go_ret;exact⟨rfl,by simpa using m.o,d⟩
theorem szByteS_any (p:Option Addr)(n a L:Nat)(w:World)(f:L<=1048576)(d:n<=9223372036854775807) :
  Calls Tryz.prog 48 #[.slice p n a,.int .i64 L] w fun e c=>e = .returned (.int .i64 (szR L n))/\c=w:=by
 by_cases h:n<=L
 ·have e:szR L n=(L:Int)-n:=by simp[szR,h]
  rw[e]
  have b:¬ ((L:Int)-n<0):=by omega
  go_enter Tryz.func48,Tryz.ntmps48
  go_wp2
  go_ret;exact⟨rfl,rfl⟩
 ·have e:szR L n = -1:=by simp[szR,h]
  rw[e]
  have b:(L:Int)-n<0:=by omega
  go_enter Tryz.func48,Tryz.ntmps48
  go_wp2
  go_ret;exact⟨rfl,rfl⟩
def CAt (w:World)(b o:Nat)(c:Cel):Prop:=
 ∃ p cap,w.cell? ⟨b,o,none⟩=some (.int .i64 c.1)/\w.cell? ⟨b,o+1,none⟩=some (.int .i64 c.2.1)/\w.cell? ⟨b,o+2,none⟩=some (.slice p c.2.2.length cap)/\BIn w p c.2.2
def CIn (w:World)(p:Option Addr)(cs:List Cel):Prop:=
 0<cs.length->∃ b o,p=some ⟨b,o,none⟩/\∀ i,i<cs.length->CAt w b (o+i * 3) (cs.getD i Cel.none)
theorem CAt.below {W g:World}{b o:Nat}{c:Cel}(h:CAt W b o c)(a:Below W.heap.size W g):CAt g b o c:=by
 obtain⟨p,d,f,i,e,j⟩:=h;exact⟨p,d,(a.cell (World.block_lt_of_cell? _ _ f)).trans f,(a.cell (World.block_lt_of_cell? _ _ i)).trans i,(a.cell (World.block_lt_of_cell? _ _ e)).trans e,j.below a⟩
theorem CIn.below {W a:World}{p:Option Addr}{c:List Cel}(h:CIn W p c)(g:Below W.heap.size W a):CIn a p c:=fun d=>by
 obtain⟨b,o,rfl,f⟩:=h d;exact⟨b,o,rfl,fun i e=>(f i e).below g⟩
theorem CIn.drewN {W:World}{p:Option Addr}{a:List Cel}(h:CIn W p a)(m:Nat):CIn (W.drewN m) p a:=h
end
section
open Go
section
variable {P:Program}{ops:Array Oper}{Q:Exit->Act->World->Prop}{md:Region.Mode}{S:World->Prop}
theorem hTake {i:Nat}{v:Value}{fuel:Nat}{b:Array Bool}{a:Act}{w:World}(d:Option Tmp)(k:(ops[i]?).map (·.dst)=some d)
  (p:Region.noSelect ops=true) (q:Region.free md ops b i=true) (r:(Region.ready md ops b).contains i=true) (n:(ops[i]?).map (fun o=>Region.wanted o (yielded ops a.tmps))=some true)
  (l:∀ c a w,Q (.panic c) (a.put d v) w->Q (.panic c) a w) (f:∀ o,ops[i]?=some o->∀ w,S w->(execOp a.eval o).run P w = .ok (.value v) w) (m:S w)
  (h:wpAnyH P md ops Q S fuel (b.setIfInBounds i true) (a.put d v) w):wpAnyH P md ops Q S (fuel+1) b a w:=by
 cases e:ops[i]? with
 | none=>simp[e] at k
 | some o=>
   have j:o.dst=d:=by simpa [e] using k
   have g:Region.wanted o (yielded ops a.tmps)=true:=by simpa [e] using n
   subst j;exact wpAnyH_take e p q r l (.inl ⟨g,f o e⟩) m h
theorem hSkip {i:Nat}{fuel:Nat}{b:Array Bool}{a:Act}{w:World}(d:Option Tmp)(j:(ops[i]?).map (·.dst)=some d)
  (n:Region.noSelect ops=true) (p:Region.free md ops b i=true) (q:(Region.ready md ops b).contains i=true) (m:(ops[i]?).map (fun o=>Region.wanted o (yielded ops a.tmps))=some false)
  (k:∀ c a w,Q (.panic c) (a.put d undef) w->Q (.panic c) a w) (l:S w)
  (h:wpAnyH P md ops Q S fuel (b.setIfInBounds i true) (a.put d undef) w):wpAnyH P md ops Q S (fuel+1) b a w:=by
 cases e:ops[i]? with
 | none=>simp[e] at j
 | some o=>
   have g:o.dst=d:=by simpa [e] using j
   have f:Region.wanted o (yielded ops a.tmps)=false:=by simpa [e] using m
   subst g;exact wpAnyH_take e n p q k (.inr ⟨f,rfl⟩) l h
theorem hTk {i:Nat}{v:Value}{fuel:Nat}{b:Array Bool}{a:Act}{w:World}(d:Option Tmp)(e:∀ o,ops[i]?=some o->∀ w,S w->(execOp a.eval o).run P w = .ok (.value v) w)(j:S w)
  (h:wpAnyH P md ops Q S fuel (b.setIfInBounds i true) (a.put d v) w) (g:∀ c a w,Q (.panic c) (a.put d v) w->Q (.panic c) a w:=by exact fun _ _ _ h=>h) (f:(ops[i]?).map (·.dst)=some d:=by kernel_rfl)
  (l:Region.noSelect ops=true:=by kernel_rfl) (m:Region.free md ops b i=true:=by kernel_rfl) (n:(Region.ready md ops b).contains i=true:=by kernel_rfl) (k:(ops[i]?).map (fun o=>Region.wanted o (yielded ops a.tmps))=some true:=by kernel_rfl):wpAnyH P md ops Q S (fuel+1) b a w:=hTake d f l m n k g e j h
theorem hSk {i:Nat}{fuel:Nat}{b:Array Bool}{a:Act}{w:World}(d:Option Tmp)(m:S w)
  (h:wpAnyH P md ops Q S fuel (b.setIfInBounds i true) (a.put d undef) w) (l:∀ c a w,Q (.panic c) (a.put d undef) w->Q (.panic c) a w:=by exact fun _ _ _ h=>h) (k:(ops[i]?).map (·.dst)=some d:=by kernel_rfl)
  (g:Region.noSelect ops=true:=by kernel_rfl) (e:Region.free md ops b i=true:=by kernel_rfl) (j:(Region.ready md ops b).contains i=true:=by kernel_rfl) (f:(ops[i]?).map (fun o=>Region.wanted o (yielded ops a.tmps))=some false:=by kernel_rfl):wpAnyH P md ops Q S (fuel+1) b a w:=hSkip d k g e j f l m h
theorem hTq {fuel:Nat}{b:Array Bool}{a:Act}{w:World}(i:Nat)(v:Value)(d:Tmp)(h:wpAnyH P md ops Q S fuel (b.setIfInBounds i true) (a.put (some d) v) w) (e:∀ o,ops[i]?=some o->∀ w,S w->(execOp a.eval o).run P w = .ok (.value v) w:=by intro o m W p;cases m;simp[execOp,go_sem,Act.eval]) (j:S w:=by assumption)
 (g:∀ c a w,Q (.panic c) (a.put (some d) v) w->Q (.panic c) a w:=by exact fun _ _ _ h=>h) (f:(ops[i]?).map (·.dst)=some (some d):=by kernel_rfl) (l:Region.noSelect ops=true:=by kernel_rfl) (n:Region.free md ops b i=true:=by kernel_rfl) (q:(Region.ready md ops b).contains i=true:=by kernel_rfl) (k:(ops[i]?).map (fun o=>Region.wanted o (yielded ops a.tmps))=some true:=by kernel_rfl):wpAnyH P md ops Q S (fuel+1) b a w:=hTake _ f l n q k g e j h
theorem hTr {fuel:Nat}{b:Array Bool}{a:Act}{w:World}(i:Nat)(v:Value)(d:Tmp)(e:∀ o,ops[i]?=some o->∀ w,S w->(execOp a.eval o).run P w = .ok (.value v) w)(h:wpAnyH P md ops Q S fuel (b.setIfInBounds i true) (a.put (some d) v) w) (j:S w:=by assumption)
 (g:∀ c a w,Q (.panic c) (a.put (some d) v) w->Q (.panic c) a w:=by exact fun _ _ _ h=>h) (f:(ops[i]?).map (·.dst)=some (some d):=by kernel_rfl) (l:Region.noSelect ops=true:=by kernel_rfl) (m:Region.free md ops b i=true:=by kernel_rfl) (n:(Region.ready md ops b).contains i=true:=by kernel_rfl) (k:(ops[i]?).map (fun o=>Region.wanted o (yielded ops a.tmps))=some true:=by kernel_rfl):wpAnyH P md ops Q S (fuel+1) b a w:=hTake _ f l m n k g e j h
theorem hSq {fuel:Nat}{b:Array Bool}{a:Act}{w:World}(i:Nat)(d:Tmp)(h:wpAnyH P md ops Q S fuel (b.setIfInBounds i true) (a.put (some d) undef) w) (m:S w:=by assumption)
 (l:∀ c a w,Q (.panic c) (a.put (some d) undef) w->Q (.panic c) a w:=by exact fun _ _ _ h=>h) (k:(ops[i]?).map (·.dst)=some (some d):=by kernel_rfl) (g:Region.noSelect ops=true:=by kernel_rfl) (e:Region.free md ops b i=true:=by kernel_rfl) (j:(Region.ready md ops b).contains i=true:=by kernel_rfl) (f:(ops[i]?).map (fun o=>Region.wanted o (yielded ops a.tmps))=some false:=by kernel_rfl):wpAnyH P md ops Q S (fuel+1) b a w:=hSkip _ k g e j f l m h
theorem hCall {i:Nat}{f:FuncId}{c:Array Value}{v:Value}{T:World->Prop}{fuel:Nat}{b:Array Bool}{a:Act}{w:World}(d:Option Tmp)(n:(ops[i]?).map (·.dst)=some d)
  (x:Region.ready md ops b = [i]) (u:(ops[i]?).map (fun o=>Region.wanted o (yielded ops a.tmps))=some true)
  (h:∀ o,ops[i]?=some o->(execOp a.eval o).run P w = .ok (.enter f c) w) (s:Calls P f c w fun e k=>e = .returned v/\T k)
  (q:∀ k,T k->S k/\wpAnyH P md ops Q S fuel (b.setIfInBounds i true) (a.put d v) k):wpAnyH P md ops Q S (fuel+1) b a w:=by
 refine wpAnyH_all x (by simp) ?_
 intro j r
 obtain rfl:j=i:=by simpa using r
 cases g:ops[j]? with
 | none=>simp[g] at n
 | some o=>
   have m:o.dst=d:=by simpa [g] using n
   have l:Region.wanted o (yielded ops a.tmps)=true:=by simpa [g] using u
   subst m
   unfold wpOp
   simp only[g,l,if_true,Oper.wp,h o g,Oper.upon];refine .inl (s.mono fun e t y=>?_);obtain⟨rfl,p⟩:=y;exact q _ p
end
end
end Go.Proofs.YtlkhmmoimplokaaGreatDoor
