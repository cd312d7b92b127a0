/- Texts of Scan3, Scan4, Scan5, Scan6, Scan7, Scan8. Own work of the verifier. -/
import Derived.Test.YtlkhmmoimplokaaGreatDoorUqas
namespace Go.Proofs.YtlkhmmoimplokaaGreatDoor
set_option maxHeartbeats 2000000
set_option maxRecDepth 100000
open Go Go.RowKit
set_option linter.unusedVariables false
set_option linter.unusedSimpArgs false
abbrev tokV (kind at_ len:Int)(p:Option Addr)(n c:Nat)(v:Int):Value:=.agg #[.int .i64 kind,.int .i64 at_,.int .i64 len,.slice p n c,.int .i64 v]
abbrev tokO:Obj:=.cells #[.int .i64 0,.int .i64 0,.int .i64 0,.slice none 0 0,.int .i64 0] 86
theorem single_any (S b n c a:Nat)(kind:Int)(y:List Int)(w:World)(hb:Bytes y)(hn:n=y.length)(hm:n<=100000)(hp:a<y.length)
  (P:w.cell? ⟨S,0,none⟩=some (.slice (some ⟨b,0,none⟩) n c)) (N:w.cell? ⟨S,1,none⟩=some (.int .i64 a)) (hf:w.frozen? ⟨S,1,none⟩=false) (T:S<w.heap.size)
  (hc:∀ i,i<y.length->w.cell? ⟨b,i,none⟩=some (.int .u8 (y.getD i 0))) :
  Calls Tryz.prog 190 #[.pointer (some ⟨S,0,none⟩),.int .i64 kind] w fun e p=>∃ V W c',e = .returned (tokV kind a 1 V W c' 0)/\OwnS p w.heap.size V W c' [y.getD a 0]/\Moved w p S (a+1):=by
 have F:=hc a hp
 obtain⟨x,U⟩:∃ x,x=y.getD a 0:=⟨_,rfl⟩
 rw[<-U] at F ⊢
 have z:(a:Int)<n:=by omega
 have J:(a:Int)+1<=1000000:=by omega
 have E:IntKind.i64.wrap ((a:Int)+1)=(a:Int)+1:=by rw[IntKind.wrap_i64];omega
 clear U hc hn
 go_enter Tryz.func190,Tryz.ntmps190
 go_wp2
 refine wp_region_noPanic ?_;refine wp_region_until (S:=fun p=>p.cell? ⟨S,0,none⟩=some (.slice (some ⟨b,0,none⟩) n c)/\p.cell? ⟨S,1,none⟩=some (.int .i64 a)/\p.cell? ⟨b,a,none⟩=some (.int .u8 x)) (c:=18) (by kernel_rfl) ?_
 have l:∀ o,((w.alloc o).drew.cell? ⟨S,0,none⟩=some (.slice (some ⟨b,0,none⟩) n c)/\(w.alloc o).drew.cell? ⟨S,1,none⟩=some (.int .i64 a)/\(w.alloc o).drew.cell? ⟨b,a,none⟩=some (.int .u8 x)):=fun o=>⟨Lib.cell?_alloc_marked o P,Lib.cell?_alloc_marked o N,Lib.cell?_alloc_marked o F⟩
 refine wpAnyU_take (i:=0) (v:=.pointer (some ⟨S,0,none⟩)) (D:=[18,19]) (some 5) (by kernel_rfl) (by kernel_rfl) (by kernel_rfl) (by kernel_rfl) (by kernel_rfl) (by rfl) (by kernel_rfl) (fun _ _ _ h=>h) (fun o d=>?y0) (l _) ?_
 case y0=>
  cases d
  refine .inl ⟨by kernel_rfl,fun p m=>?_⟩
  simp[execOp,go_sem,Act.eval,Act.put]
 refine wpAnyU_take (i:=1) (v:=.int .i64 kind) (D:=[18,19]) (some 6) (by kernel_rfl) (by kernel_rfl) (by kernel_rfl) (by kernel_rfl) (by kernel_rfl) (by rfl) (by kernel_rfl) (fun _ _ _ h=>h) (fun o d=>?y1) (l _) ?_
 case y1=>
  cases d
  refine .inl ⟨by kernel_rfl,fun p m=>?_⟩
  simp[execOp,go_sem,Act.eval,Act.put]
 refine wpAnyU_take (i:=2) (v:=.pointer (some ⟨S,0,none⟩)) (D:=[3,4,5,6,18,19]) (some 7) (by kernel_rfl) (by kernel_rfl) (by kernel_rfl) (by kernel_rfl) (by kernel_rfl) (by rfl) (by kernel_rfl) (fun _ _ _ h=>h) (fun o d=>?y2) (l _) ?_
 case y2=>
  cases d
  refine .inl ⟨by kernel_rfl,fun p m=>?_⟩
  simp[execOp,go_sem,Act.eval,Act.put]
 refine wpAnyU_take (i:=3) (v:=.pointer (some ⟨S,0,none⟩)) (D:=[4,5,6,18,19]) (some 8) (by kernel_rfl) (by kernel_rfl) (by kernel_rfl) (by kernel_rfl) (by kernel_rfl) (by rfl) (by kernel_rfl) (fun _ _ _ h=>h) (fun o d=>?y3) (l _) ?_
 case y3=>
  cases d
  refine .inl ⟨by kernel_rfl,fun p m=>?_⟩
  simp[execOp,go_sem,Act.eval,Act.put]
 refine wpAnyU_take (i:=4) (v:=.pointer (some ⟨S,1,none⟩)) (D:=[5,6,18,19]) (some 9) (by kernel_rfl) (by kernel_rfl) (by kernel_rfl) (by kernel_rfl) (by kernel_rfl) (by rfl) (by kernel_rfl) (fun _ _ _ h=>h) (fun o d=>?y4) (l _) ?_
 case y4=>
  cases d
  refine .inl ⟨by kernel_rfl,fun p m=>?_⟩
  simp[execOp,go_sem,Act.eval,Act.put]
 refine wpAnyU_take (i:=5) (v:=.int .i64 a) (D:=[6,18,19]) (some 10) (by kernel_rfl) (by kernel_rfl) (by kernel_rfl) (by kernel_rfl) (by kernel_rfl) (by rfl) (by kernel_rfl) (fun _ _ _ h=>h) (fun o d=>?y5) (l _) ?_
 case y5=>
  cases d
  refine .inl ⟨by kernel_rfl,fun p m=>?_⟩
  simp[execOp,go_sem,m.1,m.2.1,m.2.2,Act.eval,Act.put]
 refine wpAnyU_take (i:=6) (v:=.int .i64 (a+1)) (D:=[18,19]) (some 11) (by kernel_rfl) (by kernel_rfl) (by kernel_rfl) (by kernel_rfl) (by kernel_rfl) (by rfl) (by kernel_rfl) (fun _ _ _ h=>h) (fun o d=>?y6) (l _) ?_
 case y6=>
  cases d
  refine .inl ⟨by kernel_rfl,fun p m=>?_⟩
  simp[execOp,go_sem,Act.eval,Act.put,E]
 refine wpAnyU_take (i:=7) (v:=.pointer (some ⟨S,0,none⟩)) (D:=[8,9,10,15,16,17,18,19]) (some 12) (by kernel_rfl) (by kernel_rfl) (by kernel_rfl) (by kernel_rfl) (by kernel_rfl) (by rfl) (by kernel_rfl) (fun _ _ _ h=>h) (fun o d=>?y7) (l _) ?_
 case y7=>
  cases d
  refine .inl ⟨by kernel_rfl,fun p m=>?_⟩
  simp[execOp,go_sem,Act.eval,Act.put]
 refine wpAnyU_take (i:=8) (v:=.pointer (some ⟨S,0,none⟩)) (D:=[9,10,15,16,17,18,19]) (some 13) (by kernel_rfl) (by kernel_rfl) (by kernel_rfl) (by kernel_rfl) (by kernel_rfl) (by rfl) (by kernel_rfl) (fun _ _ _ h=>h) (fun o d=>?y8) (l _) ?_
 case y8=>
  cases d
  refine .inl ⟨by kernel_rfl,fun p m=>?_⟩
  simp[execOp,go_sem,Act.eval,Act.put]
 refine wpAnyU_take (i:=9) (v:=.pointer (some ⟨S,0,none⟩)) (D:=[10,15,16,17,18,19]) (some 14) (by kernel_rfl) (by kernel_rfl) (by kernel_rfl) (by kernel_rfl) (by kernel_rfl) (by rfl) (by kernel_rfl) (fun _ _ _ h=>h) (fun o d=>?y9) (l _) ?_
 case y9=>
  cases d
  refine .inl ⟨by kernel_rfl,fun p m=>?_⟩
  simp[execOp,go_sem,Act.eval,Act.put]
 refine wpAnyU_take (i:=10) (v:=.slice (some ⟨b,0,none⟩) n c) (D:=[15,16,17,18,19]) (some 15) (by kernel_rfl) (by kernel_rfl) (by kernel_rfl) (by kernel_rfl) (by kernel_rfl) (by rfl) (by kernel_rfl) (fun _ _ _ h=>h) (fun o d=>?y10) (l _) ?_
 case y10=>
  cases d
  refine .inl ⟨by kernel_rfl,fun p m=>?_⟩
  simp[execOp,go_sem,m.1,m.2.1,m.2.2,Act.eval,Act.put]
 refine wpAnyU_take (i:=11) (v:=.pointer (some ⟨S,0,none⟩)) (D:=[12,13,14,15,16,17,18,19]) (some 16) (by kernel_rfl) (by kernel_rfl) (by kernel_rfl) (by kernel_rfl) (by kernel_rfl) (by rfl) (by kernel_rfl) (fun _ _ _ h=>h) (fun o d=>?y11) (l _) ?_
 case y11=>
  cases d
  refine .inl ⟨by kernel_rfl,fun p m=>?_⟩
  simp[execOp,go_sem,Act.eval,Act.put]
 refine wpAnyU_take (i:=12) (v:=.pointer (some ⟨S,0,none⟩)) (D:=[13,14,15,16,17,18,19]) (some 17) (by kernel_rfl) (by kernel_rfl) (by kernel_rfl) (by kernel_rfl) (by kernel_rfl) (by rfl) (by kernel_rfl) (fun _ _ _ h=>h) (fun o d=>?y12) (l _) ?_
 case y12=>
  cases d
  refine .inl ⟨by kernel_rfl,fun p m=>?_⟩
  simp[execOp,go_sem,Act.eval,Act.put]
 refine wpAnyU_take (i:=13) (v:=.pointer (some ⟨S,1,none⟩)) (D:=[14,15,16,17,18,19]) (some 18) (by kernel_rfl) (by kernel_rfl) (by kernel_rfl) (by kernel_rfl) (by kernel_rfl) (by rfl) (by kernel_rfl) (fun _ _ _ h=>h) (fun o d=>?y13) (l _) ?_
 case y13=>
  cases d
  refine .inl ⟨by kernel_rfl,fun p m=>?_⟩
  simp[execOp,go_sem,Act.eval,Act.put]
 refine wpAnyU_take (i:=14) (v:=.int .i64 a) (D:=[15,16,17,18,19]) (some 19) (by kernel_rfl) (by kernel_rfl) (by kernel_rfl) (by kernel_rfl) (by kernel_rfl) (by rfl) (by kernel_rfl) (fun _ _ _ h=>h) (fun o d=>?y14) (l _) ?_
 case y14=>
  cases d
  refine .inl ⟨by kernel_rfl,fun p m=>?_⟩
  simp[execOp,go_sem,m.1,m.2.1,m.2.2,Act.eval,Act.put]
 refine wpAnyU_take (i:=15) (v:=.pointer (some ⟨b,a,none⟩)) (D:=[16,17,18,19]) (some 20) (by kernel_rfl) (by kernel_rfl) (by kernel_rfl) (by kernel_rfl) (by kernel_rfl) (by rfl) (by kernel_rfl) (fun _ _ _ h=>h) (fun o d=>?y15) (l _) ?_
 case y15=>
  cases d
  refine .inl ⟨by kernel_rfl,fun p m=>?_⟩
  simp[execOp,go_sem,Act.eval,Act.put,z]
 refine wpAnyU_take (i:=16) (v:=.int .u8 x) (D:=[17,18,19]) (some 21) (by kernel_rfl) (by kernel_rfl) (by kernel_rfl) (by kernel_rfl) (by kernel_rfl) (by rfl) (by kernel_rfl) (fun _ _ _ h=>h) (fun o d=>?y16) (l _) ?_
 case y16=>
  cases d
  refine .inl ⟨by kernel_rfl,fun p m=>?_⟩
  simp[execOp,go_sem,m.1,m.2.1,m.2.2,Act.eval,Act.put]
 have A:S<(w.alloc tokO).heap.size:=by simp;omega
 have K:(((w.alloc tokO).alloc (.cells #[.int .u8 x] 5)).drew).cell? ⟨S,1,none⟩=some (.int .i64 a):=Lib.cell?_alloc_marked _ (Lib.cell?_alloc_marked _ N);have k0:(((w.alloc tokO).alloc (.cells #[.int .u8 x] 5)).drew).cell? ⟨S,0,none⟩=some (.slice (some ⟨b,0,none⟩) n c):=Lib.cell?_alloc_marked _ (Lib.cell?_alloc_marked _ P);have Y:(((w.alloc tokO).alloc (.cells #[.int .u8 x] 5)).drew).cell? ⟨b,a,none⟩=some (.int .u8 x):=Lib.cell?_alloc_marked _ (Lib.cell?_alloc_marked _ F)
 have X:(((w.alloc tokO).alloc (.cells #[.int .u8 x] 5)).drew).frozen? ⟨S,1,none⟩=false:=by
  show((w.alloc tokO).alloc _).frozen? _=_
  rw[World.frozen?_alloc_past (hn:=A),World.frozen?_alloc_past (hn:=T)];exact hf
 refine wpAnyU_all (rs:=[17]) (by kernel_rfl) (by decide) ?_
 intro i s
 obtain rfl:i=17:=by simpa using s
 clear s;refine wpOp_value (some 22) (by kernel_rfl) (by kernel_rfl) (v:=.slice (some ⟨w.heap.size+1,0,none⟩) 1 1) (w':=((w.alloc tokO).alloc (.cells #[.int .u8 x] 5)).drew) (fun o d=>?r17) ⟨fun _=>⟨k0,K,Y⟩,?_⟩
 case r17=>
  cases d
  simp[execOp,go_sem,Act.eval,Act.put,tokO]
  rfl
 refine wpAnyU_all (rs:=[18]) (by kernel_rfl) (by decide) ?_
 intro i s
 obtain rfl:i=18:=by simpa using s
 clear s;refine wpOp_enter (some 23) (by kernel_rfl) (by kernel_rfl) (f:=189) (args:=#[.pointer (some ⟨S,0,none⟩),.int .i64 kind,.int .i64 ((a+1:Nat):Int),.slice (some ⟨w.heap.size+1,0,none⟩) 1 1]) (w':=((w.alloc tokO).alloc (.cells #[.int .u8 x] 5)).drew) (fun o d=>?r18)
  (take_fits S a kind (a+1) (some ⟨w.heap.size+1,0,none⟩) 1 1 _ K X (by show S<((w.alloc tokO).alloc _).heap.size;simp;omega) (by decide) (by omega) (by omega)) ?k18 (fun ch L h=>by cases h.1) (fun L h=>by cases h.1)
 case r18=>cases d;simp[execOp,go_sem,Act.eval,Act.put]
 case k18=>
  rintro u t ⟨hu,M⟩
  cases hu
  refine⟨(fun h=>by cases h),?_⟩;refine wpAnyU_all (rs:=[19]) (by kernel_rfl) (by decide) ?_
  intro i s
  obtain rfl:i=19:=by simpa using s
  clear s
  have hN:S≠w.heap.size:=by omega
  have q:t.heap[w.heap.size]?=some tokO:=by
   rw[M.grown.block w.heap.size (by show _<((w.alloc tokO).alloc _).heap.size;simp;omega) (by simp;omega)]
   show((w.heap.push tokO).push _)[w.heap.size]?=_
   simp[Array.getElem?_push]
  have R:∀ j,t.cell? ⟨w.heap.size,j,none⟩=(#[.int .i64 0,.int .i64 0,.int .i64 0,.slice none 0 0,.int .i64 0]:Array Value)[j]?:=fun j=>cell_of_row t w.heap.size j _ _ (0,0) q
  have f0:∀ j,t.frozen? ⟨w.heap.size,j,none⟩=false:=fun j=>frozen_of_row t w.heap.size j _ _ q
  refine wpOp_skip none (by kernel_rfl) (by kernel_rfl) (w':=t.setCells w.heap.size 0 [.int .i64 kind,.int .i64 a,.int .i64 (((a+1:Nat):Int)-a),.slice (some ⟨w.heap.size+1,0,none⟩) 1 1,.int .i64 0]) (fun o d=>?r19) ⟨(fun h=>by cases h),?_⟩
  case r19=>
   cases d
   simp[execOp,go_sem,Act.eval,Act.put,R,f0]
   rfl
  refine wpAnyU_done (by kernel_rfl) ?_ _;refine NoPanic.normal ?_;have Q:=grown_set5 t w.heap.size (.int .i64 kind) (.int .i64 a) (.int .i64 (((a+1:Nat):Int)-a)) (.slice (some ⟨w.heap.size+1,0,none⟩) 1 1) (.int .i64 0)
  have r:w.heap.size<=t.heap.size:=by have:=M.grown.size;simp at this;omega
  have Z:Moved w _ S (a+1):=Moved.onto (((Below.refl _ w).alloc (Nat.le_refl _) tokO).alloc (by simp) (.cells #[.int .u8 x] 5)).drew M (Below.of_grown Q r (fun k e=>by cases e;exact Nat.le_refl _)) T
  have B:OwnS ((w.alloc tokO).alloc (.cells #[.int .u8 x] 5)).drew w.heap.size (some ⟨w.heap.size+1,0,none⟩) 1 1 [x]:=by
   have:=own1 (w.alloc tokO) x;simp only[World.size_alloc] at this;exact⟨this.1,this.2.1,this.2.2.imp id fun ⟨g,c,G,a1,a2,a3⟩=>⟨g,c,G,a1,by omega,a3⟩⟩
  have C:=(B.kept M.grown (fun g e H=>by simp only[Option.some.injEq,Addr.mk.injEq,and_true] at e;simp only[Option.some.injEq] at H;omega)).kept Q (fun g e H=>by simp only[Option.some.injEq,Addr.mk.injEq,and_true] at e;simp only[Option.some.injEq] at H;omega);have I:=hid R;have O:=hid C;have HM:=hid Z;clear B M Q C Z R f0 q k0 K Y X l P N F hf z J E hN A r;simp only[Act.put,zzA,zzB,zzC]
  go_wp2
  exact bodyPost_ret (v:=tokV kind a 1 (some ⟨w.heap.size+1,0,none⟩) 1 1 0) (by simp[results,Tryz.results190,go_sem,World.setCells,I.o];omega) rfl ⟨_,_,_,rfl,O.o,HM.o⟩
def runI (k:Int)(xs:List Int)(pos:Nat):Nat:=runLen (isOfB · k) (xs.drop pos)
theorem runI_le (k:Int)(b:List Int)(a:Nat)(h:a<=b.length):a+runI k b a<=b.length:=by
 have:=runLen_le (isOfB · k) (b.drop a)
 unfold runI
 simp at this
 omega
theorem byteI_drop {b:List Int}{a j:Nat}(h:a+j<b.length):byteI b (a+j)=(b.drop a).getD j 0:=by
 rw[byteI_lt h];simp[List.getD,List.getElem?_drop]
def Taken (w:World)(S:Nat)(kind:Int)(pos len:Nat)(ys:List Int)(e:Ending)(w':World):Prop:=
 (ys.length<=100/\∃ p n c,e = .returned (tokV kind pos len p n c 0)/\OwnS w' w.heap.size p n c ys/\Moved w w' S (pos+len))∨
 (100<ys.length/\Faults 3 pos e/\w.grownBy w' (some S))
theorem run_any (S b n c a:Nat)(kind k:Int)(r:List Int)(w:World)(hb:Bytes r)(hn:n=r.length)(e7:n<=c)(e4:n<=100000)(hp:a<r.length)(hk:isOfB (byteI r a) k=true)
  (h0:w.cell? ⟨S,0,none⟩=some (.slice (some ⟨b,0,none⟩) n c)) (h1:w.cell? ⟨S,1,none⟩=some (.int .i64 a)) (hf:w.frozen? ⟨S,1,none⟩=false) (hS:S<w.heap.size)
  (hc:∀ i,i<r.length->w.cell? ⟨b,i,none⟩=some (.int .u8 (r.getD i 0))) (hT:Tab w) :
  Calls Tryz.prog 186 #[.pointer (some ⟨S,0,none⟩),.int .i64 kind,.int .u8 k] w fun e s=>Taken w S kind a (runI k r a) ((r.drop a).take (runI k r a)) e s:=by
 have HC:Hid (∀ o i,i<r.length->(w.alloc o).cell? ⟨b,i,none⟩=some (.int .u8 (r.getD i 0))):=fun o i t=>Lib.cell?_alloc_marked o (hc i t)
 have HT:Hid (∀ o,Tab (w.alloc o)):=fun o i t=>Lib.cell?_alloc_marked o (hT i t)
 have O:=hid hn;have HK:=hid hk;have Y:(w.alloc tokO).cell? ⟨S,0,none⟩=some (.slice (some ⟨b,0,none⟩) n c):=Lib.cell?_alloc_marked _ h0;have Z:(w.alloc tokO).cell? ⟨S,1,none⟩=some (.int .i64 a):=Lib.cell?_alloc_marked _ h1
 have e6:a<n:=by omega
 clear hc hT hn hk
 go_enter Tryz.func186,Tryz.ntmps186
 go_wp2
 go_loop [7] (fun i=>∃ m:Nat,a+m<=n/\i = .int .i64 ((a+m:Nat):Int)/\Hid (∀ j,j<m->isOfB ((r.drop a).getD j 0) k=true)) (fun i=>n-(intOf i).toNat)
 case atStart=>exact⟨0,by omega,by simp,fun _ h=>absurd h (Nat.not_lt_zero _)⟩
 case round=>
  obtain⟨m,hm,rfl,HM⟩:=hrel;have hr:=byteI_rng hb (a+m)
  obtain⟨x,ex⟩:∃ x,x=byteI r (a+m):=⟨_,rfl⟩
  rw[<-ex] at hr;have T:=hid ex.symm;clear ex
  cases U:isOfB x k
  ·have HE:Hid (runI k r a=m):=runLen_stop _ _ _ (by simp;have:=O.o;omega) HM.o (by
    by_cases h:a+m<r.length
    ·right;have:=byteI_drop h;rw[T.o] at this;rw[<-this];exact U
    ·left;simp;have:=O.o;omega)
   have HP:Hid (0<m):=by
    rcases Nat.eq_zero_or_pos m with h | h
    ·subst h;have h2:=T.o;rw[Nat.add_zero] at h2;have:=HK.o;rw[h2,U] at this;cases this
    ·exact h
   have e5:0<m:=HP.o;go_wp2_with (first | (go_at_call 182;refine(byteAt_any S b n c r (a+m) _ hb O.o (by omega) (by omega) Y (HC.o _)).mono ?_;rintro e s ⟨rfl,rfl⟩;rw[T.o]) | (go_at_call 183;refine(isOf_any _ _ _ (by omega) (by omega) (HT.o _)).mono ?_;rintro e s ⟨rfl,rfl⟩))
   have l:((w.alloc tokO).drew.cell? ⟨S,0,none⟩=some (.slice (some ⟨b,0,none⟩) n c)/\(w.alloc tokO).drew.cell? ⟨S,1,none⟩=some (.int .i64 a)):=⟨Y,Z⟩
   have b1:¬ c=a:=by omega
   have b2:a+m<=c:=by omega
   have b3:(0:Int)<=(a:Int):=by omega
   have b4:(a:Int)+m<=c:=by omega
   have b5:a+m-a=m:=by omega
   have b6:(0:Int)<=(a:Int)+m:=by omega
   have b7:((a:Int)+m).toNat=a+m:=by omega
   have hZ:n<=100000:=e4;refine wp_region_until (S:=fun s=>s.cell? ⟨S,0,none⟩=some (.slice (some ⟨b,0,none⟩) n c)/\s.cell? ⟨S,1,none⟩=some (.int .i64 a)) (c:=14) (by kernel_rfl) ?_;refine wpAnyU_take (i:=0) (v:=.pointer (some ⟨S,0,none⟩)) (D:=[14,15]) (some 19) (by kernel_rfl) (by kernel_rfl) (by kernel_rfl) (by kernel_rfl) (by kernel_rfl) (by rfl) (by kernel_rfl) (fun _ _ _ h=>h) (fun o d=>?y0) (l) ?_
   case y0=>
    cases d
    refine .inl ⟨by kernel_rfl,fun s A=>?_⟩
    simp[execOp,go_sem,Act.eval,Act.put]
   refine wpAnyU_take (i:=1) (v:=.int .i64 kind) (D:=[14,15]) (some 20) (by kernel_rfl) (by kernel_rfl) (by kernel_rfl) (by kernel_rfl) (by kernel_rfl) (by rfl) (by kernel_rfl) (fun _ _ _ h=>h) (fun o d=>?y1) (l) ?_
   case y1=>
    cases d
    refine .inl ⟨by kernel_rfl,fun s A=>?_⟩
    simp[execOp,go_sem,Act.eval,Act.put]
   refine wpAnyU_take (i:=2) (v:=.int .i64 ((a+m:Nat):Int)) (D:=[14,15]) (some 21) (by kernel_rfl) (by kernel_rfl) (by kernel_rfl) (by kernel_rfl) (by kernel_rfl) (by rfl) (by kernel_rfl) (fun _ _ _ h=>h) (fun o d=>?y2) (l) ?_
   case y2=>
    cases d
    refine .inl ⟨by kernel_rfl,fun s A=>?_⟩
    simp[execOp,go_sem,Act.eval,Act.put]
   refine wpAnyU_take (i:=3) (v:=.pointer (some ⟨S,0,none⟩)) (D:=[4,5,6,12,13,14,15]) (some 22) (by kernel_rfl) (by kernel_rfl) (by kernel_rfl) (by kernel_rfl) (by kernel_rfl) (by rfl) (by kernel_rfl) (fun _ _ _ h=>h) (fun o d=>?y3) (l) ?_
   case y3=>
    cases d
    refine .inl ⟨by kernel_rfl,fun s A=>?_⟩
    simp[execOp,go_sem,Act.eval,Act.put]
   refine wpAnyU_take (i:=4) (v:=.pointer (some ⟨S,0,none⟩)) (D:=[5,6,12,13,14,15]) (some 23) (by kernel_rfl) (by kernel_rfl) (by kernel_rfl) (by kernel_rfl) (by kernel_rfl) (by rfl) (by kernel_rfl) (fun _ _ _ h=>h) (fun o d=>?y4) (l) ?_
   case y4=>
    cases d
    refine .inl ⟨by kernel_rfl,fun s A=>?_⟩
    simp[execOp,go_sem,Act.eval,Act.put]
   refine wpAnyU_take (i:=5) (v:=.pointer (some ⟨S,0,none⟩)) (D:=[6,12,13,14,15]) (some 24) (by kernel_rfl) (by kernel_rfl) (by kernel_rfl) (by kernel_rfl) (by kernel_rfl) (by rfl) (by kernel_rfl) (fun _ _ _ h=>h) (fun o d=>?y5) (l) ?_
   case y5=>
    cases d
    refine .inl ⟨by kernel_rfl,fun s A=>?_⟩
    simp[execOp,go_sem,Act.eval,Act.put]
   refine wpAnyU_take (i:=6) (v:=.slice (some ⟨b,0,none⟩) n c) (D:=[12,13,14,15]) (some 25) (by kernel_rfl) (by kernel_rfl) (by kernel_rfl) (by kernel_rfl) (by kernel_rfl) (by rfl) (by kernel_rfl) (fun _ _ _ h=>h) (fun o d=>?y6) (l) ?_
   case y6=>
    cases d
    refine .inl ⟨by kernel_rfl,fun s A=>?_⟩
    simp[execOp,go_sem,Act.eval,Act.put,A.1]
   refine wpAnyU_take (i:=7) (v:=.pointer (some ⟨S,0,none⟩)) (D:=[8,9,10,12,13,14,15]) (some 26) (by kernel_rfl) (by kernel_rfl) (by kernel_rfl) (by kernel_rfl) (by kernel_rfl) (by rfl) (by kernel_rfl) (fun _ _ _ h=>h) (fun o d=>?y7) (l) ?_
   case y7=>
    cases d
    refine .inl ⟨by kernel_rfl,fun s A=>?_⟩
    simp[execOp,go_sem,Act.eval,Act.put]
   refine wpAnyU_take (i:=8) (v:=.pointer (some ⟨S,0,none⟩)) (D:=[9,10,12,13,14,15]) (some 27) (by kernel_rfl) (by kernel_rfl) (by kernel_rfl) (by kernel_rfl) (by kernel_rfl) (by rfl) (by kernel_rfl) (fun _ _ _ h=>h) (fun o d=>?y8) (l) ?_
   case y8=>
    cases d
    refine .inl ⟨by kernel_rfl,fun s A=>?_⟩
    simp[execOp,go_sem,Act.eval,Act.put]
   refine wpAnyU_take (i:=9) (v:=.pointer (some ⟨S,1,none⟩)) (D:=[10,12,13,14,15]) (some 28) (by kernel_rfl) (by kernel_rfl) (by kernel_rfl) (by kernel_rfl) (by kernel_rfl) (by rfl) (by kernel_rfl) (fun _ _ _ h=>h) (fun o d=>?y9) (l) ?_
   case y9=>
    cases d
    refine .inl ⟨by kernel_rfl,fun s A=>?_⟩
    simp[execOp,go_sem,Act.eval,Act.put]
   refine wpAnyU_take (i:=10) (v:=.int .i64 a) (D:=[12,13,14,15]) (some 29) (by kernel_rfl) (by kernel_rfl) (by kernel_rfl) (by kernel_rfl) (by kernel_rfl) (by rfl) (by kernel_rfl) (fun _ _ _ h=>h) (fun o d=>?y10) (l) ?_
   case y10=>
    cases d
    refine .inl ⟨by kernel_rfl,fun s A=>?_⟩
    simp[execOp,go_sem,Act.eval,Act.put,A.2]
   refine wpAnyU_take (i:=11) (v:=.int .i64 ((a+m:Nat):Int)) (D:=[12,13,14,15]) (some 30) (by kernel_rfl) (by kernel_rfl) (by kernel_rfl) (by kernel_rfl) (by kernel_rfl) (by rfl) (by kernel_rfl) (fun _ _ _ h=>h) (fun o d=>?y11) (l) ?_
   case y11=>
    cases d
    refine .inl ⟨by kernel_rfl,fun s A=>?_⟩
    simp[execOp,go_sem,Act.eval,Act.put]
   refine wpAnyU_take (i:=12) (v:=.slice (some ⟨b,a,none⟩) m (c-a)) (D:=[13,14,15]) (some 31) (by kernel_rfl) (by kernel_rfl) (by kernel_rfl) (by kernel_rfl) (by kernel_rfl) (by rfl) (by kernel_rfl) (fun _ _ _ h=>h) (fun o d=>?y12) (l) ?_
   case y12=>
    cases d
    refine .inl ⟨by kernel_rfl,fun s A=>?_⟩
    simp[execOp,go_sem,Act.eval,Act.put,b1,b2,b3,b4,b5,b6,b7]
   have X:∀ i,i<((r.drop a).take m).length->(w.alloc tokO).drew.cell? ⟨b,a+i,none⟩=some (.int .u8 (((r.drop a).take m).getD i 0)):=fun i t=>by
    have h2:i<m:=by simp at t;omega
    have:=HC.o tokO (a+i) (by have:=O.o;omega);rw[show(w.alloc tokO).drew.cell? ⟨b,a+i,none⟩=(w.alloc tokO).cell? ⟨b,a+i,none⟩ from rfl,this]
    simp[List.getD,List.getElem?_take,h2,List.getElem?_drop]
   have F:m=((r.drop a).take m).length:=by simp;have:=O.o;omega
   have E:(w.alloc tokO).drew.heap[w.heap.size]?=some tokO:=by show(w.heap.push tokO)[w.heap.size]?=_;simp
   refine wpAnyU_all (rs:=[13]) (by kernel_rfl) (by decide) ?_
   intro i t
   obtain rfl:i=13:=by simpa using t
   clear t;refine wpOp_enter (some 32) (by kernel_rfl) (by kernel_rfl) (f:=205) (args:=#[.slice (some ⟨b,a,none⟩) m (c-a)]) (w':=(w.alloc tokO).drew) (fun o d=>?r13)
    (clone_any b a m (c-a) ((r.drop a).take m) (w.alloc tokO).drew F e5 (by omega) X) ?k13 (fun ch I h=>by obtain⟨_,_,_,h,_⟩:=h;cases h) (fun I h=>by obtain⟨_,_,_,h,_⟩:=h;cases h)
   case r13=>
    cases d
    simp[execOp,go_sem,Act.eval,Act.put]
    rfl
   case k13=>
    rintro u B ⟨K,J,L,hu,q,y⟩
    cases hu
    have e0:B.cell? ⟨S,0,none⟩=some (.slice (some ⟨b,0,none⟩) n c):=cell_later y Y;have e1:B.cell? ⟨S,1,none⟩=some (.int .i64 a):=cell_later y Z
    have ef:B.frozen? ⟨S,1,none⟩=false:=by
     rw[y.frozen (p:=⟨S,1,none⟩) (by show S<(w.alloc tokO).heap.size;simp;omega)]
     show(w.alloc tokO).frozen? _=_
     rw[World.frozen?_alloc_past (hn:=hS)];exact hf
    have eS:S<B.heap.size:=Nat.lt_of_lt_of_le (by show S<(w.alloc tokO).heap.size;simp;omega) y.size
    have h6:J=m:=by rw[q.1,<-F]
    have G:B.heap[w.heap.size]?=some tokO:=(y.block w.heap.size (by show _<(w.alloc tokO).heap.size;simp)).trans E
    have V:w.heap.size+1<=B.heap.size:=by have:=y.size;simp at this;omega
    have P:Below w.heap.size w B:=(((Below.refl _ w).alloc (Nat.le_refl _) tokO).drew).trans (y.mono (by simp));refine⟨fun _=>⟨e0,e1⟩,?_⟩
    by_cases Q:100<m
    ·refine wpAnyU_all (rs:=[14]) (by kernel_rfl) (by decide) ?_
     intro i t
     obtain rfl:i=14:=by simpa using t
     clear t;refine wpOp_enter (some 33) (by kernel_rfl) (by kernel_rfl) (f:=189) (args:=#[.pointer (some ⟨S,0,none⟩),.int .i64 kind,.int .i64 ((a+m:Nat):Int),.slice K J L]) (w':=B) (fun o d=>?r14)
      (take_long S a kind (a+m) K J L B e1 eS (by omega) (by omega)) (fun u H h=>by cases h.1) ?k14 (fun I h=>by cases h.1)
     case r14=>cases d;simp[execOp,go_sem,Act.eval,Act.put]
     case k14=>
      rintro ch H ⟨e2,h8⟩;exact⟨rfl,.inr ⟨by rw[HE.o,<-F];exact Q,e2,grown_of_below (Below.on P h8) _⟩⟩
    ·refine wpAnyU_all (rs:=[14]) (by kernel_rfl) (by decide) ?_
     intro i t
     obtain rfl:i=14:=by simpa using t
     clear t;refine wpOp_enter (some 33) (by kernel_rfl) (by kernel_rfl) (f:=189) (args:=#[.pointer (some ⟨S,0,none⟩),.int .i64 kind,.int .i64 ((a+m:Nat):Int),.slice K J L]) (w':=B) (fun o d=>?r14)
      (take_fits S a kind (a+m) K J L B e1 ef eS (by omega) (by omega) (by omega)) ?k14 (fun ch I h=>by cases h.1) (fun I h=>by cases h.1)
     case r14=>cases d;simp[execOp,go_sem,Act.eval,Act.put]
     case k14=>
      rintro u H ⟨hu,M⟩
      cases hu
      refine⟨(fun h=>by cases h),?_⟩;refine wpAnyU_all (rs:=[15]) (by kernel_rfl) (by decide) ?_
      intro i t
      obtain rfl:i=15:=by simpa using t
      clear t;have C:H.heap[w.heap.size]?=some tokO:=(M.grown.block w.heap.size (by omega) (by simp;omega)).trans G
      have c0:∀ j,H.cell? ⟨w.heap.size,j,none⟩=(#[.int .i64 0,.int .i64 0,.int .i64 0,.slice none 0 0,.int .i64 0]:Array Value)[j]?:=fun j=>cell_of_row H w.heap.size j _ _ (0,0) C
      have f0:∀ j,H.frozen? ⟨w.heap.size,j,none⟩=false:=fun j=>frozen_of_row H w.heap.size j _ _ C
      refine wpOp_skip none (by kernel_rfl) (by kernel_rfl) (w':=H.setCells w.heap.size 0 [.int .i64 kind,.int .i64 a,.int .i64 (((a+m:Nat):Int)-a),.slice K J L,.int .i64 0]) (fun o d=>?r15) ⟨(fun h=>by cases h),?_⟩
      case r15=>
       cases d
       simp[execOp,go_sem,Act.eval,Act.put,c0,f0]
       rfl
      refine wpAnyU_done (by kernel_rfl) ?_ _;have hG:=grown_set5 H w.heap.size (.int .i64 kind) (.int .i64 a) (.int .i64 (((a+m:Nat):Int)-a)) (.slice K J L) (.int .i64 0)
      have N:w.heap.size<=H.heap.size:=by have:=M.grown.size;omega
      have hM:Moved w _ S (a+m):=Moved.onto P M (Below.of_grown hG N (fun k e=>by cases e;exact Nat.le_refl _)) hS
      have z:∀ g,K=some ⟨g,0,none⟩->w.heap.size+1<=g:=fun g e=>by
       rcases q.form with ⟨R,_⟩ | ⟨g',R,h,_⟩
       ·rw[R] at e;cases e
       ·rw[R] at e;cases e;simp at h;exact h
      have h3:OwnS B w.heap.size K J L ((r.drop a).take m):=⟨q.1,q.2.1,q.2.2.imp id fun ⟨g,c,h4,Z,a2,a3⟩=>⟨g,c,h4,Z,by simp at a2;omega,a3⟩⟩
      have W:=(h3.kept M.grown (fun g e R=>by have:=z g e;simp only[Option.some.injEq] at R;omega)).kept hG (fun g e R=>by have:=z g e;simp only[Option.some.injEq] at R;omega);have h5:=hid c0;have h9:=hid W;have e3:=hid hM
      have h7:Hid (((r.drop a).take m).length<=100):=by rw[<-F];show _<=_;omega
      clear h3 M hG W hM c0 f0 C E G l e0 e1 ef eS Y Z h0 h1 hf V N P y q X b1 b2 b3 b4 b5 b6 b7 z F h6;simp only[Act.put,zzA,zzB,zzC]
      go_wp2
      refine bodyPost_ret (v:=tokV kind a m K J L 0) (by simp[results,Tryz.results186,go_sem,World.setCells,h5.o];omega) rfl ?_
      unfold Taken
      rw[HE.o];exact .inl ⟨h7.o,_,_,_,rfl,h9.o,e3.o⟩
  ·have HL:Hid (a+m<n):=by
    rcases Nat.lt_or_ge (a+m) n with h | h
    ·exact h
    ·have:=T.o;rw[byteI_ge (by have:=O.o;omega)] at this;rw[<-this,isOf_lo (by decide)] at U;cases U
   have e8:a+m<n:=HL.o;go_wp2_with (first | (go_at_call 182;refine(byteAt_any S b n c r (a+m) _ hb O.o (by omega) (by omega) Y (HC.o _)).mono ?_;rintro e s ⟨rfl,rfl⟩;rw[T.o]) | (go_at_call 183;refine(isOf_any _ _ _ (by omega) (by omega) (HT.o _)).mono ?_;rintro e s ⟨rfl,rfl⟩))
   go_round
   case rel=>exact⟨m+1,by omega,by go_num,fun j hj=>by
    by_cases e:j=m
    ·subst e;rw[<-byteI_drop (by have:=O.o;omega),T.o];exact U
    ·exact HM.o j (by omega)⟩
   case measure=>simp[intOf];omega
structure Env (w:World)(S b n c pos:Nat)(xs:List Int):Prop where
 bytes:Bytes xs
 len:n=xs.length
 cap:n<=c
 small:n<=10000
 src:w.cell? ⟨S,0,none⟩=some (.slice (some ⟨b,0,none⟩) n c)
 at1:w.cell? ⟨S,1,none⟩=some (.int .i64 pos)
 fz:∀ j,w.frozen? ⟨S,j,none⟩=false
 inH:S<w.heap.size
 row:∀ i,i<xs.length->w.cell? ⟨b,i,none⟩=some (.int .u8 (xs.getD i 0))
 tab:Tab w
theorem Env.below {w w':World}{S b n c d:Nat}{xs:List Int}(h:Env w S b n c d xs)(a:Below w.heap.size w w'):Env w' S b n c d xs:=
 ⟨h.bytes,h.len,h.cap,h.small,(a.cell (p:=⟨S,0,none⟩) h.inH).trans h.src,(a.cell (p:=⟨S,1,none⟩) h.inH).trans h.at1,fun j=>(a.frozen (p:=⟨S,j,none⟩) h.inH).trans (h.fz j),Nat.lt_of_lt_of_le h.inH a.size,
  fun i e=>cell_later a (h.row i e),h.tab.below a⟩
theorem Env.alloc {w:World}{S b n c a:Nat}{xs:List Int}(h:Env w S b n c a xs)(o:Obj):Env (w.alloc o) S b n c a xs:=h.below ((Below.refl _ _).alloc (Nat.le_refl _) o)
theorem Env.drew {w:World}{S b n c a:Nat}{xs:List Int}(h:Env w S b n c a xs):Env w.drew S b n c a xs:=h.below (Below.refl _ _).drew
theorem Env.moved {w m:World}{S b n c f q:Nat}{l:List Int}(h:Env w S b n c f l)(M:Moved w m S q):Env m S b n c q l:=by
 have d:S≠3:=fun e=>by have:=h.tab 0 (by decide);have k:=h.src;rw[e] at k;rw[k] at this;cases this
 refine⟨h.bytes,h.len,h.cap,h.small,(M.other 0 (by decide)).trans h.src,M.at1,fun j=>(M.frozen j).trans (h.fz j),Nat.lt_of_lt_of_le h.inH M.grown.size,fun i a=>?_,fun i a=>?_⟩
 ·have g:b≠S:=fun e=>by have:=h.row 0 (by omega);rw[e,h.src] at this;cases this
  rw[World.cell?_of_block (w:=w) (M.grown.block b (World.block_lt_of_cell? _ _ (h.row i a)) (by simpa using g))];exact h.row i a
 ·rw[World.cell?_of_block (w:=w) (M.grown.block 3 (World.block_lt_of_cell? _ _ (h.tab i a)) (by simpa using Ne.symm d))]
  exact h.tab i a
def OrFault (w:World)(pos:Nat)(r:Option (Int×Nat))(e:Ending)(w':World):Prop:=
 match r with
 | some (v,q)=>e = .returned (.tuple #[.int .i64 v,.int .i64 q])/\w'=w
 | none=>Faults 2 pos e/\Below w.heap.size w w'
def hexI (xs:List Int)(at_:Nat):Option (Int×Nat):=
 let r:=digsB xs 16 xs.length at_ 0
 if r.2=at_∨at_+2<r.2∨byteI xs r.2≠92 then none else some (r.1,r.2+1)
theorem digs_le (b:List Int)(a:Int):∀ (f i:Nat) (v:Int),(digsB b a f i v).2<=i+f
 | 0,i,v=>Nat.le_refl _
 | f+1,i,v=>by
   unfold digsB
   split
   ·have:=digs_le b a f (i+1) (min (v * a+digI (byteI b i)) 1000000000000001);omega
   ·simp
theorem digs_rng (c:List Int)(a:Int)(b:0<=a):∀ (f i:Nat) (v:Int),0<=v->v<=1000000000000001->0<=(digsB c a f i v).1/\(digsB c a f i v).1<=1000000000000001
 | 0,i,v,h0,h1=>⟨h0,h1⟩
 | f+1,i,v,h0,h1=>by
   unfold digsB
   split
   ·refine digs_rng c a b f (i+1) _ ?_ ?_
    ·have:=digI_rng (byteI c i);have:=Int.mul_nonneg h0 b;omega
    ·omega
   ·exact⟨h0,h1⟩
theorem hexEscape_any (S b n c h:Nat)(f:List Int)(a:Nat)(w:World)(E:Env w S b n c h f)(ha:a<=10010) :
  Calls Tryz.prog 219 #[.pointer (some ⟨S,0,none⟩),.int .i64 a] w fun e j=>OrFault w h (hexI f a) e j:=by
 have d:=hid E;have k:=digs_le f 16 f.length a 0;have i:=digs_rng f 16 (by decide) f.length a 0 (by decide) (by decide);have D:=E.small;have A:=E.len
 obtain⟨v,q,s⟩:∃ v q,digsB f 16 f.length a 0=(v,q):=⟨_,_,rfl⟩
 have u:=hid s;rw[s] at k i
 have K:q<=20010:=by simp at k;omega
 have I:0<=v:=i.1;have H:v<=1000000000000001:=i.2
 have y:Hid (hexI f a=if q=a∨a+2<q∨byteI f q≠92 then none else some (v,q+1)):=by unfold hexI;rw[s];rfl
 have J:=byteI_rng E.bytes q
 obtain⟨x,C⟩:∃ x,x=byteI f q:=⟨_,rfl⟩
 rw[<-C] at J;have t:=hid C.symm;clear E s k i D A C
 by_cases p:q=a
 ·have l:Hid (hexI f a=none):=by show _=_;rw[y.o,if_pos (.inl p)]
  have r:((q:Int) == (a:Int))=true:=by simp;omega
  clear p
  go_enter Tryz.func219,Tryz.ntmps219
  go_wp2_with (first | (go_at_call 215;refine(digits_any S b n c f a 16 _ d.o.bytes d.o.len (by have:=d.o.small;omega) (by omega) (by decide) (by decide) d.o.src d.o.row).mono ?_;rintro e j ⟨rfl,rfl⟩;rw[u.o]) | (go_at_call 193;refine(fault_any S h 2 _ d.o.at1 d.o.inH).mono ?_;rintro e G ⟨rfl,g⟩));refine⟨rfl,?_⟩
  unfold OrFault
  rw[l.o];exact⟨rfl,g⟩
 by_cases z:a+2<q
 ·have l:Hid (hexI f a=none):=by show _=_;rw[y.o,if_pos (.inr (.inl z))]
  have r:((q:Int) == (a:Int))=false:=by simp;omega
  have F:decide ((a:Int)+2<(q:Int))=true:=by simp;omega
  clear p z
  go_enter Tryz.func219,Tryz.ntmps219
  go_wp2_with (first | (go_at_call 215;refine(digits_any S b n c f a 16 _ d.o.bytes d.o.len (by have:=d.o.small;omega) (by omega) (by decide) (by decide) d.o.src d.o.row).mono ?_;rintro e j ⟨rfl,rfl⟩;rw[u.o]) | (go_at_call 193;refine(fault_any S h 2 _ d.o.at1 d.o.inH).mono ?_;rintro e G ⟨rfl,g⟩));refine⟨rfl,?_⟩
  unfold OrFault
  rw[l.o];exact⟨rfl,g⟩
 have r:((q:Int) == (a:Int))=false:=by simp;omega
 have F:decide ((a:Int)+2<(q:Int))=false:=by simp;omega
 by_cases m:x=92
 ·have l:Hid (hexI f a=some (v,q+1)):=by show _=_;rw[y.o,if_neg (by rw[t.o];omega)]
  have B:(x != 92)=false:=by simp[m]
  subst m;clear p z
  go_enter Tryz.func219,Tryz.ntmps219
  go_wp2_with (first | (go_at_call 215;refine(digits_any S b n c f a 16 _ d.o.bytes d.o.len (by have:=d.o.small;omega) (by omega) (by decide) (by decide) d.o.src d.o.row).mono ?_;rintro e j ⟨rfl,rfl⟩;rw[u.o]) | (go_at_call 182;refine(byteAt_any S b n c f q _ d.o.bytes d.o.len (by have:=d.o.small;omega) (by omega) d.o.src d.o.row).mono ?_;rintro e j ⟨rfl,rfl⟩;rw[t.o]))
  go_ret2
  unfold OrFault
  rw[l.o];exact⟨by simp,rfl⟩
 ·have l:Hid (hexI f a=none):=by show _=_;rw[y.o,if_pos (.inr (.inr (by rw[t.o];exact m)))]
  have B:(x != 92)=true:=by simp[m]
  clear p z m
  go_enter Tryz.func219,Tryz.ntmps219
  go_wp2_with (first | (go_at_call 215;refine(digits_any S b n c f a 16 _ d.o.bytes d.o.len (by have:=d.o.small;omega) (by omega) (by decide) (by decide) d.o.src d.o.row).mono ?_;rintro e j ⟨rfl,rfl⟩;rw[u.o]) | (go_at_call 182;refine(byteAt_any S b n c f q _ d.o.bytes d.o.len (by have:=d.o.small;omega) (by omega) d.o.src d.o.row).mono ?_;rintro e j ⟨rfl,rfl⟩;rw[t.o]) | (go_at_call 193;refine(fault_any S h 2 _ d.o.at1 d.o.inH).mono ?_;rintro e G ⟨rfl,g⟩));refine⟨rfl,?_⟩
  unfold OrFault
  rw[l.o];exact⟨rfl,g⟩
def escF (x:Int)(xs:List Int)(at_:Nat):Option (Int×Nat):=
 if x=92 then some (92,at_+2) else if x=39 then some (39,at_+2) else if x=34 then some (34,at_+2) else if x=110 then some (10,at_+2) else if x=116 then some (9,at_+2)
 else if x=114 then some (13,at_+2) else if x=120 then hexI xs (at_+2) else none
def escI (xs:List Int)(at_:Nat):Option (Int×Nat):=escF (byteI xs (at_+1)) xs at_
theorem orFault_of {w b:World}{a:Nat}{e:Ending}{r c:Option (Int×Nat)}(h:OrFault w a r e b)(d:c=r):OrFault w a c e b:=d▸h
theorem escape_any (S b n c p:Nat)(f:List Int)(a:Nat)(w:World)(E:Env w S b n c p f)(ha:a<=10005) :
  Calls Tryz.prog 207 #[.pointer (some ⟨S,0,none⟩),.int .i64 a] w fun e j=>OrFault w p (escI f a) e j:=by
 have d:=hid E;have M:=byteI_rng E.bytes (a+1)
 obtain⟨x,D⟩:∃ x,x=byteI f (a+1):=⟨_,rfl⟩
 rw[<-D] at M
 have h:Hid (escI f a=escF x f a):=by show _=_;rw[D];rfl
 have m:=hid D.symm;clear E D
 by_cases i:x=92
 ·have g:Hid (escI f a=some (92,a+2)):=by show _=_;rw[h.o];unfold escF;simp[i]
  subst i;clear h
  go_enter Tryz.func207,Tryz.ntmps207
  go_wp2_with (go_at_call 182;refine(byteAt_any S b n c f (a+1) _ d.o.bytes d.o.len (by have:=d.o.small;omega) (by omega) d.o.src d.o.row).mono ?_;rintro e j ⟨rfl,rfl⟩;rw[m.o])
  go_ret2
  refine orFault_of ?_ g.o;exact⟨by simp,rfl⟩
 have y:(x == 92)=false:=by simpa using i
 by_cases k:x=39
 ·have g:Hid (escI f a=some (39,a+2)):=by show _=_;rw[h.o];unfold escF;simp[k]
  subst k;clear h i y
  go_enter Tryz.func207,Tryz.ntmps207
  go_wp2_with (go_at_call 182;refine(byteAt_any S b n c f (a+1) _ d.o.bytes d.o.len (by have:=d.o.small;omega) (by omega) d.o.src d.o.row).mono ?_;rintro e j ⟨rfl,rfl⟩;rw[m.o])
  go_ret2
  refine orFault_of ?_ g.o;exact⟨by simp,rfl⟩
 have B:(x == 39)=false:=by simpa using k
 by_cases l:x=34
 ·have g:Hid (escI f a=some (34,a+2)):=by show _=_;rw[h.o];unfold escF;simp[l]
  subst l;clear h i y k B
  go_enter Tryz.func207,Tryz.ntmps207
  go_wp2_with (go_at_call 182;refine(byteAt_any S b n c f (a+1) _ d.o.bytes d.o.len (by have:=d.o.small;omega) (by omega) d.o.src d.o.row).mono ?_;rintro e j ⟨rfl,rfl⟩;rw[m.o])
  go_ret2
  refine orFault_of ?_ g.o;exact⟨by simp,rfl⟩
 have G:(x == 34)=false:=by simpa using l
 by_cases s:x=110
 ·have g:Hid (escI f a=some (10,a+2)):=by show _=_;rw[h.o];unfold escF;simp[s]
  subst s;clear h i y k B l G
  go_enter Tryz.func207,Tryz.ntmps207
  go_wp2_with (go_at_call 182;refine(byteAt_any S b n c f (a+1) _ d.o.bytes d.o.len (by have:=d.o.small;omega) (by omega) d.o.src d.o.row).mono ?_;rintro e j ⟨rfl,rfl⟩;rw[m.o])
  go_ret2
  refine orFault_of ?_ g.o;exact⟨by simp,rfl⟩
 have I:(x == 110)=false:=by simpa using s
 by_cases u:x=116
 ·have g:Hid (escI f a=some (9,a+2)):=by show _=_;rw[h.o];unfold escF;simp[u]
  subst u;clear h i y k B l G s I
  go_enter Tryz.func207,Tryz.ntmps207
  go_wp2_with (go_at_call 182;refine(byteAt_any S b n c f (a+1) _ d.o.bytes d.o.len (by have:=d.o.small;omega) (by omega) d.o.src d.o.row).mono ?_;rintro e j ⟨rfl,rfl⟩;rw[m.o])
  go_ret2
  refine orFault_of ?_ g.o;exact⟨by simp,rfl⟩
 have J:(x == 116)=false:=by simpa using u
 by_cases A:x=114
 ·have g:Hid (escI f a=some (13,a+2)):=by show _=_;rw[h.o];unfold escF;simp[A]
  subst A;clear h i y k B l G s I u J
  go_enter Tryz.func207,Tryz.ntmps207
  go_wp2_with (go_at_call 182;refine(byteAt_any S b n c f (a+1) _ d.o.bytes d.o.len (by have:=d.o.small;omega) (by omega) d.o.src d.o.row).mono ?_;rintro e j ⟨rfl,rfl⟩;rw[m.o])
  go_ret2
  refine orFault_of ?_ g.o;exact⟨by simp,rfl⟩
 have L:(x == 114)=false:=by simpa using A
 by_cases C:x=120
 ·have g:Hid (escI f a=hexI f (a+2)):=by show _=_;rw[h.o];unfold escF;simp[C]
  subst C;clear h i y k B l G s I u J A L;have F:=hexEscape_any S b n c p f (a+2) w d.o (by omega)
  cases z:hexI f (a+2) with
  | none=>
    rw[z] at F;have H:=hid (g.o.trans z);clear z g
    go_enter Tryz.func207,Tryz.ntmps207
    go_wp2_with (first | (go_at_call 182;refine(byteAt_any S b n c f (a+1) _ d.o.bytes d.o.len (by have:=d.o.small;omega) (by omega) d.o.src d.o.row).mono ?_;rintro e j ⟨rfl,rfl⟩;rw[m.o]) | (go_at_call 219;refine F.mono ?_;rintro e K ⟨rfl,t⟩));refine⟨rfl,orFault_of ?_ H.o⟩;exact⟨rfl,t⟩
  | some r=>
    obtain⟨v,q⟩:=r;rw[z] at F;have H:=hid (g.o.trans z);clear z g
    go_enter Tryz.func207,Tryz.ntmps207
    go_wp2_with (first | (go_at_call 182;refine(byteAt_any S b n c f (a+1) _ d.o.bytes d.o.len (by have:=d.o.small;omega) (by omega) d.o.src d.o.row).mono ?_;rintro e j ⟨rfl,rfl⟩;rw[m.o]) | (go_at_call 219;refine F.mono ?_;rintro e K ⟨rfl,rfl⟩))
    go_ret2
    refine orFault_of ?_ H.o;exact⟨rfl,rfl⟩
 have N:(x == 120)=false:=by simpa using C
 have g:Hid (escI f a=none):=by show _=_;rw[h.o];unfold escF;rw[if_neg i,if_neg k,if_neg l,if_neg s,if_neg u,if_neg A,if_neg C]
 clear h i k l s u A C
 go_enter Tryz.func207,Tryz.ntmps207
 go_wp2_with (first | (go_at_call 182;refine(byteAt_any S b n c f (a+1) _ d.o.bytes d.o.len (by have:=d.o.small;omega) (by omega) d.o.src d.o.row).mono ?_;rintro e j ⟨rfl,rfl⟩;rw[m.o]) | (go_at_call 193;refine(fault_any S p 2 _ d.o.at1 d.o.inH).mono ?_;rintro e K ⟨rfl,t⟩));refine⟨rfl,orFault_of ?_ g.o⟩;exact⟨rfl,t⟩
def chrF (x y:Int)(xs:List Int)(at_:Nat):Option (Int×Nat):=
 if x=39/\y=39 then some (39,at_+2) else if x=92 then escI xs at_ else if x=39∨¬ (32<=x/\x≠127) then none else some (x,at_+1)
def chrI (xs:List Int)(at_:Nat):Option (Int×Nat):=chrF (byteI xs at_) (byteI xs (at_+1)) xs at_
theorem character_any (S b n c l:Nat)(g:List Int)(a:Nat)(w:World)(E:Env w S b n c l g)(ha:a<=10004) :
  Calls Tryz.prog 216 #[.pointer (some ⟨S,0,none⟩),.int .i64 a] w fun e k=>OrFault w l (chrI g a) e k:=by
 have d:=hid E;have B:=byteI_rng E.bytes a;have K:=byteI_rng E.bytes (a+1)
 obtain⟨x,D⟩:∃ x,x=byteI g a:=⟨_,rfl⟩
 obtain⟨y,F⟩:∃ y,y=byteI g (a+1):=⟨_,rfl⟩
 have m:Hid (chrI g a=chrF x y g a):=by show _=_;rw[D,F];rfl
 rw[<-D] at B;rw[<-F] at K;have t:=hid D.symm;have L:=hid F.symm;clear E D F;have f:True:=trivial;have h:True:=trivial
 by_cases p:x=39
 ·by_cases G:y=39
  ·have i:Hid (chrI g a=some (39,a+2)):=by show _=_;rw[m.o];unfold chrF;rw[if_pos ⟨p,G⟩]
   subst p;subst G;clear m
   go_enter Tryz.func216,Tryz.ntmps216
   go_wp2_with (first | (go_at_call 182;have s:=f;refine(byteAt_any S b n c g a _ d.o.bytes d.o.len (by have:=d.o.small;omega) (by omega) d.o.src d.o.row).mono ?_;rintro e k ⟨rfl,rfl⟩;rw[t.o];clear f) | (go_at_call 182;have s:=h;refine(byteAt_any S b n c g (a+1) _ d.o.bytes d.o.len (by have:=d.o.small;omega) (by omega) d.o.src d.o.row).mono ?_;rintro e k ⟨rfl,rfl⟩;rw[L.o];clear h))
   go_ret2
   refine orFault_of ?_ i.o;exact⟨by simp,rfl⟩
  ·have i:Hid (chrI g a=none):=by show _=_;rw[m.o];unfold chrF;rw[if_neg (by omega),if_neg (by omega),if_pos (.inl p)]
   have N:(y == 39)=false:=by simpa using G
   subst p;clear m G
   go_enter Tryz.func216,Tryz.ntmps216
   go_wp2_with (first | (go_at_call 182;have s:=f;refine(byteAt_any S b n c g a _ d.o.bytes d.o.len (by have:=d.o.small;omega) (by omega) d.o.src d.o.row).mono ?_;rintro e k ⟨rfl,rfl⟩;rw[t.o];clear f) | (go_at_call 182;have s:=h;refine(byteAt_any S b n c g (a+1) _ d.o.bytes d.o.len (by have:=d.o.small;omega) (by omega) d.o.src d.o.row).mono ?_;rintro e k ⟨rfl,rfl⟩;rw[L.o];clear h) | (go_at_call 193;refine(fault_any S l 2 _ d.o.at1 d.o.inH).mono ?_;rintro e J ⟨rfl,j⟩));refine⟨rfl,orFault_of ?_ i.o⟩;exact⟨rfl,j⟩
 have M:(x == 39)=false:=by simpa using p
 by_cases z:x=92
 ·have i:Hid (chrI g a=escI g a):=by show _=_;rw[m.o];unfold chrF;rw[if_neg (by omega),if_pos z]
  have C:=escape_any S b n c l g a w d.o (by omega);subst z;clear m p M
  cases u:escI g a with
  | none=>
    rw[u] at C;have H:=hid (i.o.trans u);clear u i
    go_enter Tryz.func216,Tryz.ntmps216
    go_wp2_with (first | (go_at_call 182;have s:=f;refine(byteAt_any S b n c g a _ d.o.bytes d.o.len (by have:=d.o.small;omega) (by omega) d.o.src d.o.row).mono ?_;rintro e k ⟨rfl,rfl⟩;rw[t.o];clear f) | (go_at_call 207;refine C.mono ?_;rintro e J ⟨rfl,j⟩));refine⟨rfl,orFault_of ?_ H.o⟩;exact⟨rfl,j⟩
  | some r=>
    obtain⟨v,q⟩:=r;rw[u] at C;have H:=hid (i.o.trans u);clear u i
    go_enter Tryz.func216,Tryz.ntmps216
    go_wp2_with (first | (go_at_call 182;have s:=f;refine(byteAt_any S b n c g a _ d.o.bytes d.o.len (by have:=d.o.small;omega) (by omega) d.o.src d.o.row).mono ?_;rintro e k ⟨rfl,rfl⟩;rw[t.o];clear f) | (go_at_call 207;refine C.mono ?_;rintro e J ⟨rfl,rfl⟩))
    go_ret2
    refine orFault_of ?_ H.o;exact⟨rfl,rfl⟩
 have O:(x == 92)=false:=by simpa using z
 by_cases A:32<=x/\x≠127
 ·have i:Hid (chrI g a=some (x,a+1)):=by show _=_;rw[m.o];unfold chrF;rw[if_neg (by omega),if_neg (by omega),if_neg (by omega)]
  have I:Hid (decide (32<=x/\x≠127)=true):=by show _=_;rw[decide_eq_true_iff];exact A
  clear m p z A
  go_enter Tryz.func216,Tryz.ntmps216
  go_wp2_with (first | (go_at_call 182;have s:=f;refine(byteAt_any S b n c g a _ d.o.bytes d.o.len (by have:=d.o.small;omega) (by omega) d.o.src d.o.row).mono ?_;rintro e k ⟨rfl,rfl⟩;rw[t.o];clear f) | (go_at_call 208;go_must (refine(standsFor_any x _ B.1 B.2).mono ?_;rintro e k ⟨rfl,rfl⟩;rw[I.o])))
  go_ret2
  refine orFault_of ?_ i.o;exact⟨by simp,rfl⟩
 ·have i:Hid (chrI g a=none):=by show _=_;rw[m.o];unfold chrF;rw[if_neg (by omega),if_neg (by omega),if_pos (.inr A)]
  have I:Hid (decide (32<=x/\x≠127)=false):=by show _=_;rw[decide_eq_false_iff_not];exact A
  clear m p z A
  go_enter Tryz.func216,Tryz.ntmps216
  go_wp2_with (first | (go_at_call 182;have s:=f;refine(byteAt_any S b n c g a _ d.o.bytes d.o.len (by have:=d.o.small;omega) (by omega) d.o.src d.o.row).mono ?_;rintro e k ⟨rfl,rfl⟩;rw[t.o];clear f) | (go_at_call 208;go_must (refine(standsFor_any x _ B.1 B.2).mono ?_;rintro e k ⟨rfl,rfl⟩;rw[I.o])) | (go_at_call 193;refine(fault_any S l 2 _ d.o.at1 d.o.inH).mono ?_;rintro e J ⟨rfl,j⟩));refine⟨rfl,orFault_of ?_ i.o⟩;exact⟨rfl,j⟩
def numF (x0 mk z:Int)(xs:List Int)(pos:Nat):Option (Int×Nat):=
 if x0≠48 then some (digsB xs 10 xs.length pos 0) else if mk=39 then chrI xs (pos+2) else if digI z<baseI mk then some (digsB xs (baseI mk) xs.length (pos+2) 0) else some (digsB xs 10 xs.length pos 0)
def numI (xs:List Int)(pos:Nat):Option (Int×Nat):=numF (byteI xs pos) (byteI xs (pos+1)) (byteI xs (pos+2)) xs pos
theorem baseI_rng (m:Int):0<=baseI m/\baseI m<=16:=by
 unfold baseI
 repeat' split
 all_goals omega
theorem numeral_any (S b n c a:Nat)(g:List Int)(w:World)(E:Env w S b n c a g)(hp:a<=10000) :
  Calls Tryz.prog 206 #[.pointer (some ⟨S,0,none⟩)] w fun e j=>OrFault w a (numI g a) e j:=by
 have f:=hid E;have h1:=E.at1;have P:=byteI_rng E.bytes a;have l:=byteI_rng E.bytes (a+1);have m:=byteI_rng E.bytes (a+2)
 obtain⟨x,L⟩:∃ x,x=byteI g a:=⟨_,rfl⟩
 obtain⟨y,N⟩:∃ y,y=byteI g (a+1):=⟨_,rfl⟩
 obtain⟨z,M⟩:∃ z,z=byteI g (a+2):=⟨_,rfl⟩
 have t:Hid (numI g a=numF x y z g a):=by show _=_;rw[L,N,M];rfl
 rw[<-L] at P;rw[<-N] at l;rw[<-M] at m;have H:=hid L.symm;have J:=hid N.symm;have U:=hid M.symm
 obtain⟨v,q,V⟩:∃ v q,digsB g 10 g.length a 0=(v,q):=⟨_,_,rfl⟩
 have O:=hid V;clear E L N M V;have h:True:=trivial;have i:True:=trivial;have k:True:=trivial
 by_cases A:x=48
 ·by_cases C:y=39
  ·have s:Hid (numI g a=chrI g (a+2)):=by show _=_;rw[t.o];unfold numF;rw[if_neg (by omega),if_pos C]
   have K:=character_any S b n c a g (a+2) w f.o (by omega)
   have s0:(x != 48)=false:=by simp[A]
   subst A;subst C;clear t
   cases F:chrI g (a+2) with
   | none=>
     rw[F] at K;have Q:=hid (s.o.trans F);clear F s
     go_enter Tryz.func206,Tryz.ntmps206
     go_wp2_with (first | (go_at_call 182;have p:=h;refine(byteAt_any S b n c g a _ f.o.bytes f.o.len (by have:=f.o.small;omega) (by omega) f.o.src f.o.row).mono ?_;rintro e j ⟨rfl,rfl⟩;rw[H.o];clear h) | (go_at_call 182;have p:=i;refine(byteAt_any S b n c g (a+1) _ f.o.bytes f.o.len (by have:=f.o.small;omega) (by omega) f.o.src f.o.row).mono ?_;rintro e j ⟨rfl,rfl⟩;rw[J.o];clear i) | (go_at_call 216;refine K.mono ?_;rintro e w1 ⟨rfl,R⟩));refine⟨rfl,orFault_of ?_ Q.o⟩;exact⟨rfl,R⟩
   | some r=>
     obtain⟨v',q'⟩:=r;rw[F] at K;have Q:=hid (s.o.trans F);clear F s
     go_enter Tryz.func206,Tryz.ntmps206
     go_wp2_with (first | (go_at_call 182;have p:=h;refine(byteAt_any S b n c g a _ f.o.bytes f.o.len (by have:=f.o.small;omega) (by omega) f.o.src f.o.row).mono ?_;rintro e j ⟨rfl,rfl⟩;rw[H.o];clear h) | (go_at_call 182;have p:=i;refine(byteAt_any S b n c g (a+1) _ f.o.bytes f.o.len (by have:=f.o.small;omega) (by omega) f.o.src f.o.row).mono ?_;rintro e j ⟨rfl,rfl⟩;rw[J.o];clear i) | (go_at_call 216;refine K.mono ?_;rintro e w1 ⟨rfl,rfl⟩))
     go_ret2
     refine orFault_of ?_ Q.o;exact⟨rfl,rfl⟩
  have s1:(y == 39)=false:=by simpa using C
  have B:=baseI_rng y
  obtain⟨I,D⟩:∃ I,I=baseI y:=⟨_,rfl⟩
  obtain⟨d,G⟩:∃ d,d=digI z:=⟨_,rfl⟩
  have Z:=digI_rng z;rw[<-D] at B;rw[<-G] at Z;have X:=hid D.symm;have W:=hid G.symm
  by_cases Y:d<I
  ·obtain⟨v2,q2,u⟩:∃ v q,digsB g I g.length (a+2) 0=(v,q):=⟨_,_,rfl⟩
   have T:=hid u
   have s:Hid (numI g a=some (v2,q2)):=by show _=_;rw[t.o];unfold numF;rw[if_neg (by omega),if_neg C,<-D,<-G,if_pos Y,u]
   subst A;clear t C D G u
   go_enter Tryz.func206,Tryz.ntmps206
   go_wp2_with (first | (go_at_call 182;have p:=h;refine(byteAt_any S b n c g a _ f.o.bytes f.o.len (by have:=f.o.small;omega) (by omega) f.o.src f.o.row).mono ?_;rintro e j ⟨rfl,rfl⟩;rw[H.o];clear h) | (go_at_call 182;have p:=i;refine(byteAt_any S b n c g (a+1) _ f.o.bytes f.o.len (by have:=f.o.small;omega) (by omega) f.o.src f.o.row).mono ?_;rintro e j ⟨rfl,rfl⟩;rw[J.o];clear i) | (go_at_call 182;have p:=k;refine(byteAt_any S b n c g (a+2) _ f.o.bytes f.o.len (by have:=f.o.small;omega) (by omega) f.o.src f.o.row).mono ?_;rintro e j ⟨rfl,rfl⟩;rw[U.o];clear k) | (go_at_call 217;refine(baseOf_any _ _ l.1 l.2).mono ?_;rintro e j ⟨rfl,rfl⟩;rw[X.o]) | (go_at_call 218;refine(digitValue_any _ _ m.1 m.2).mono ?_;rintro e j ⟨rfl,rfl⟩;rw[W.o]) | (go_at_call 215;refine(digits_any S b n c g (a+2) I _ f.o.bytes f.o.len (by have:=f.o.small;omega) (by omega) B.1 B.2 f.o.src f.o.row).mono ?_;rintro e j ⟨rfl,rfl⟩;rw[T.o]))
   go_ret2
   refine orFault_of ?_ s.o;exact⟨rfl,rfl⟩
  ·have s:Hid (numI g a=some (v,q)):=by show _=_;rw[t.o];unfold numF;rw[if_neg (by omega),if_neg C,<-D,<-G,if_neg Y,O.o]
   subst A;clear t C D G
   go_enter Tryz.func206,Tryz.ntmps206
   go_wp2_with (first | (go_at_call 182;have p:=h;refine(byteAt_any S b n c g a _ f.o.bytes f.o.len (by have:=f.o.small;omega) (by omega) f.o.src f.o.row).mono ?_;rintro e j ⟨rfl,rfl⟩;rw[H.o];clear h) | (go_at_call 182;have p:=i;refine(byteAt_any S b n c g (a+1) _ f.o.bytes f.o.len (by have:=f.o.small;omega) (by omega) f.o.src f.o.row).mono ?_;rintro e j ⟨rfl,rfl⟩;rw[J.o];clear i) | (go_at_call 182;have p:=k;refine(byteAt_any S b n c g (a+2) _ f.o.bytes f.o.len (by have:=f.o.small;omega) (by omega) f.o.src f.o.row).mono ?_;rintro e j ⟨rfl,rfl⟩;rw[U.o];clear k) | (go_at_call 217;refine(baseOf_any _ _ l.1 l.2).mono ?_;rintro e j ⟨rfl,rfl⟩;rw[X.o]) | (go_at_call 218;refine(digitValue_any _ _ m.1 m.2).mono ?_;rintro e j ⟨rfl,rfl⟩;rw[W.o]) | (go_at_call 215;refine(digits_any S b n c g a 10 _ f.o.bytes f.o.len (by have:=f.o.small;omega) (by omega) (by decide) (by decide) f.o.src f.o.row).mono ?_;rintro e j ⟨rfl,rfl⟩;rw[O.o]))
   go_ret2
   refine orFault_of ?_ s.o;exact⟨rfl,rfl⟩
 ·have s:Hid (numI g a=some (v,q)):=by show _=_;rw[t.o];unfold numF;rw[if_pos A,O.o]
  have s0:(x != 48)=true:=by simp[A]
  clear t A
  go_enter Tryz.func206,Tryz.ntmps206
  go_wp2_with (first | (go_at_call 182;have p:=h;refine(byteAt_any S b n c g a _ f.o.bytes f.o.len (by have:=f.o.small;omega) (by omega) f.o.src f.o.row).mono ?_;rintro e j ⟨rfl,rfl⟩;rw[H.o];clear h) | (go_at_call 215;refine(digits_any S b n c g a 10 _ f.o.bytes f.o.len (by have:=f.o.small;omega) (by omega) (by decide) (by decide) f.o.src f.o.row).mono ?_;rintro e j ⟨rfl,rfl⟩;rw[O.o]))
  go_ret2
  refine orFault_of ?_ s.o;exact⟨rfl,rfl⟩
abbrev TokR:=Except Int (Int×Nat×List Int×Int)
def TokOut (w:World)(S pos:Nat)(r:TokR)(e:Ending)(w':World):Prop:=
 match r with
 | .ok (kind,len,ys,v)=>∃ p n c,e = .returned (tokV kind pos len p n c v)/\OwnS w' w.heap.size p n c ys/\Moved w w' S (pos+len)
 | .error code=>Faults code pos e/\w.grownBy w' (some S)
theorem tokOut_of {w b:World}{S a:Nat}{e:Ending}{r c:TokR}(h:TokOut w S a r e b)(d:c=r):TokOut w S a c e b:=d▸h
theorem digs_ge (xs:List Int)(a:Int):∀ (f i:Nat) (v:Int),i<=(digsB xs a f i v).2
 | 0,i,v=>Nat.le_refl _
 | f+1,i,v=>by
   unfold digsB
   split
   ·have:=digs_ge xs a f (i+1) (min (v * a+digI (byteI xs i)) 1000000000000001);omega
   ·simp
theorem hexI_rng {b:List Int}{a q:Nat}{v:Int}(h:hexI b a=some (v,q)):a<=q/\q<=a+b.length+1/\0<=v/\v<=1000000000000001:=by
 have d:=digs_ge b 16 b.length a 0;have c:=digs_le b 16 b.length a 0;have e:=digs_rng b 16 (by decide) b.length a 0 (by decide) (by decide)
 unfold hexI at h
 simp only at h
 split at h
 ·cases h
 ·simp only[Option.some.injEq,Prod.mk.injEq] at h
  omega
theorem escI_rng {b:List Int}{a q:Nat}{v:Int}(h:escI b a=some (v,q)):a+2<=q/\q<=a+b.length+3/\0<=v/\v<=1000000000000001:=by
 unfold escI escF at h
 repeat' (split at h)
 all_goals first | (simp only[Option.some.injEq,Prod.mk.injEq] at h;omega) | (have:=hexI_rng h;omega) | cases h
theorem chrI_rng {xs:List Int}{a q:Nat}{v:Int}(b:Bytes xs)(h:chrI xs a=some (v,q)):a<=q/\q<=a+xs.length+3/\0<=v/\v<=1000000000000001:=by
 have c:=byteI_rng b a
 unfold chrI chrF at h
 repeat' (split at h)
 all_goals first | (simp only[Option.some.injEq,Prod.mk.injEq] at h;omega) | (have:=escI_rng h;omega) | cases h
theorem numI_rng {c:List Int}{a q:Nat}{v:Int}(m:Bytes c)(h:numI c a=some (v,q)):a<=q/\q<=a+c.length+5/\0<=v/\v<=1000000000000001:=by
 unfold numI numF at h
 have f:∀ d:Int,0<=d->∀ b:Nat,a<=b->b<=a+2->some (digsB c d c.length b 0)=some (v,q)->a<=q/\q<=a+c.length+5/\0<=v/\v<=1000000000000001:=fun d l b ha k e=>by
  have i:=digs_ge c d c.length b 0;have g:=digs_le c d c.length b 0;have j:=digs_rng c d l c.length b 0 (by decide) (by decide);simp only[Option.some.injEq] at e;rw[e] at i g j;simp only at i g j
  omega
 repeat' (split at h)
 all_goals first | exact f 10 (by decide) a (Nat.le_refl _) (by omega) h | exact f _ (baseI_rng _).1 (a+2) (by omega) (Nat.le_refl _) h | (have:=chrI_rng m h;omega)
def numR (xs:List Int)(pos:Nat):TokR:=
 match numI xs pos with
 | none=>.error 2
 | some (v,q)=>if isOfB (byteI xs q) 7=true then .error 2 else if 1000000000000000<v then .error 3 else .ok (3,q-pos,[],v)
theorem five (w:World)(g:Nat)(a:w.heap[g]?=some tokO):w.cell? ⟨g,0,none⟩=some (.int .i64 0)/\w.cell? ⟨g,1,none⟩=some (.int .i64 0)/\w.cell? ⟨g,2,none⟩=some (.int .i64 0)/\w.cell? ⟨g,3,none⟩=some (.slice none 0 0)/\w.cell? ⟨g,4,none⟩=some (.int .i64 0):=
 ⟨cell_of_row w g 0 _ _ (0,0) a,cell_of_row w g 1 _ _ (0,0) a,cell_of_row w g 2 _ _ (0,0) a,cell_of_row w g 3 _ _ (0,0) a,cell_of_row w g 4 _ _ (0,0) a⟩
theorem fiveF (w:World)(g:Nat)(a:w.heap[g]?=some tokO):w.frozen? ⟨g,0,none⟩=false/\w.frozen? ⟨g,1,none⟩=false/\w.frozen? ⟨g,2,none⟩=false/\w.frozen? ⟨g,3,none⟩=false/\w.frozen? ⟨g,4,none⟩=false:=
 ⟨frozen_of_row w g 0 _ _ a,frozen_of_row w g 1 _ _ a,frozen_of_row w g 2 _ _ a,frozen_of_row w g 3 _ _ a,frozen_of_row w g 4 _ _ a⟩
theorem number_any (S b n c a:Nat)(g:List Int)(w:World)(E:Env w S b n c a g)(O:a<=10000) :
  Calls Tryz.prog 187 #[.pointer (some ⟨S,0,none⟩)] w fun e s=>TokOut w S a (numR g a) e s:=by
 have d:Hid (Env (w.alloc tokO) S b n c a g):=E.alloc _;have z:Below w.heap.size w (w.alloc tokO):=(Below.refl _ _).alloc (Nat.le_refl _) _;have k:=hid z;have F:=hid E.inH;have N:=E.small;have I:=E.len;have u:=numeral_any S b n c a g (w.alloc tokO) (E.alloc _) O;have f:=E.bytes;clear E z
 cases t:numI g a with
 | none=>
   rw[t] at u
   have m:Hid (numR g a = .error 2):=by show _=_;unfold numR;rw[t]
   clear t
   go_enter Tryz.func187,Tryz.ntmps187
   go_wp2_with (go_at_call 206;refine u.mono ?_;rintro e j ⟨rfl,h⟩);refine⟨rfl,tokOut_of ?_ m.o⟩;exact⟨rfl,grown_of_below (Below.on k.o h) _⟩
 | some r=>
   obtain⟨v,q⟩:=r;rw[t] at u;obtain⟨H,Y,W,Z⟩:=numI_rng f t;have R:=byteI_rng f q
   obtain⟨x,B⟩:∃ x,x=byteI g q:=⟨_,rfl⟩
   rw[<-B] at R;have D:=hid B.symm
   have y:Hid (numR g a=if isOfB x 7=true then .error 2 else if 1000000000000000<v then .error 3 else .ok (3,q-a,[],v)):=by show _=_;unfold numR;rw[t,B]
   clear t B
   cases C:isOfB x 7
   ·by_cases G:1000000000000000<v
    ·have m:Hid (numR g a = .error 3):=by show _=_;rw[y.o,if_neg (by rw[C];decide),if_pos G]
     clear y
     go_enter Tryz.func187,Tryz.ntmps187
     go_wp2_with (first | (go_at_call 206;refine u.mono ?_;rintro e j ⟨rfl,rfl⟩) | (go_at_call 182;refine(byteAt_any S b n c g q _ d.o.bytes d.o.len (by omega) (by omega) d.o.src d.o.row).mono ?_;rintro e s ⟨rfl,rfl⟩;rw[D.o]) | (go_at_call 183;refine(isOf_any _ _ _ (by omega) (by omega) d.o.tab).mono ?_;rintro e s ⟨rfl,rfl⟩) | (go_at_call 193;refine(fault_any S a 3 _ d.o.at1 d.o.inH).mono ?_;rintro e j ⟨rfl,h⟩));refine⟨rfl,tokOut_of ?_ m.o⟩;exact⟨rfl,grown_of_below (Below.on k.o h) _⟩
    ·have m:Hid (numR g a = .ok (3,q-a,[],v)):=by show _=_;rw[y.o,if_neg (by rw[C];decide),if_neg G]
     clear y
     go_enter Tryz.func187,Tryz.ntmps187
     go_wp2_with (first | (go_at_call 206;refine u.mono ?_;rintro e j ⟨rfl,rfl⟩) | (go_at_call 182;refine(byteAt_any S b n c g q _ d.o.bytes d.o.len (by omega) (by omega) d.o.src d.o.row).mono ?_;rintro e s ⟨rfl,rfl⟩;rw[D.o]) | (go_at_call 183;refine(isOf_any _ _ _ (by omega) (by omega) d.o.tab).mono ?_;rintro e s ⟨rfl,rfl⟩));refine(take_fits S a 3 q none 0 0 _ d.o.at1 (d.o.fz 1) d.o.inH (by decide) H (by omega)).mono ?_;rintro e j ⟨rfl,M⟩;have L:=hid M
     have A:w.heap.size<j.heap.size:=by have:=M.grown.size;simp only[World.size_alloc] at this;omega
     have i:j.heap[w.heap.size]?=some tokO:=(M.grown.block w.heap.size (by simp) (by have:=F.o;simp;omega)).trans (by show(w.heap.push tokO)[w.heap.size]?=_;simp);obtain⟨J,T,K,P,Q⟩:=five j w.heap.size i;obtain⟨X,U,V,g3,g4⟩:=fiveF j w.heap.size i;clear M i
     go_wp2
     have l:((q-a:Nat):Int)=(q:Int)-a:=by omega
     refine bodyPost_ret (v:=tokV 3 a ((q:Int)-a) none 0 0 v) (by simp[results,Tryz.results187,go_sem,J,T,K,P,Q,A]) rfl (tokOut_of ?_ m.o);refine⟨none,0,0,by rw[l],OwnS.nil _ _,?_⟩;rw[show a+(q-a)=q by omega];refine Moved.onto k.o L.o ?_ F.o;refine Below.alloc ?_ (by simp;omega) _;exact(((((Below.refl _ _).setCell (p:=⟨w.heap.size,0,none⟩) (Nat.le_refl _) _).setCell (p:=⟨w.heap.size,1,none⟩) (Nat.le_refl _) _).setCell (p:=⟨w.heap.size,2,none⟩) (Nat.le_refl _) _).setCell (p:=⟨w.heap.size,3,none⟩) (Nat.le_refl _) _).setCell (p:=⟨w.heap.size,4,none⟩) (Nat.le_refl _) _
   ·have m:Hid (numR g a = .error 2):=by show _=_;rw[y.o,if_pos C]
    clear y
    go_enter Tryz.func187,Tryz.ntmps187
    go_wp2_with (first | (go_at_call 206;refine u.mono ?_;rintro e j ⟨rfl,rfl⟩) | (go_at_call 182;refine(byteAt_any S b n c g q _ d.o.bytes d.o.len (by omega) (by omega) d.o.src d.o.row).mono ?_;rintro e s ⟨rfl,rfl⟩;rw[D.o]) | (go_at_call 183;refine(isOf_any _ _ _ (by omega) (by omega) d.o.tab).mono ?_;rintro e s ⟨rfl,rfl⟩) | (go_at_call 193;refine(fault_any S a 2 _ d.o.at1 d.o.inH).mono ?_;rintro e j ⟨rfl,h⟩));refine⟨rfl,tokOut_of ?_ m.o⟩;exact⟨rfl,grown_of_below (Below.on k.o h) _⟩
end Go.Proofs.YtlkhmmoimplokaaGreatDoor
