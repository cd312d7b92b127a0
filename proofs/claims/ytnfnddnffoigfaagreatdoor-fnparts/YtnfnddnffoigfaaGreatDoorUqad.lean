/- Texts of Scan2, Scan3, Scan4, Scan5, Scan6, Scan7, Scan8, Scan9. Own work of the verifier. -/
import Derived.Test.YtnfnddnffoigfaaGreatDoorUqac
namespace Go.Proofs.YtnfnddnffoigfaaGreatDoor
set_option maxHeartbeats 2000000
set_option linter.unusedVariables false
set_option maxRecDepth 100000
section
open Go Go.RowKit
structure Moved (w w':World)(S:Nat)(pos:Nat):Prop where
 grown:w.grownBy w' (some S)
 at1:w'.cell? ⟨S,1,none⟩=some (.int .i64 pos)
 other:∀ j,j≠1->w'.cell? ⟨S,j,none⟩=w.cell? ⟨S,j,none⟩
 frozen:∀ j,w'.frozen? ⟨S,j,none⟩=w.frozen? ⟨S,j,none⟩
theorem grown_of_below {w w':World}(h:Below w.heap.size w w')(a:Option Nat):w.grownBy w' a:=⟨h.os,h.tape,h.output,h.size,fun k b _=>h.block k b⟩
theorem Moved.of_below {w w':World}{S a:Nat}(h:Below w.heap.size w w')(b:S<w.heap.size)(c:w.cell? ⟨S,1,none⟩=some (.int .i64 a)):Moved w w' S a:=
 ⟨grown_of_below h _,(h.cell (p:=⟨S,1,none⟩) b).trans c,fun j _=>h.cell (p:=⟨S,j,none⟩) b,fun j=>h.frozen (p:=⟨S,j,none⟩) b⟩
theorem Moved.trans {a b c:World}{S p q:Nat}(h:Moved a b S p)(k:Moved b c S q):Moved a c S q:=
 ⟨h.grown.trans k.grown,k.at1,fun j d=>(k.other j d).trans (h.other j d),fun j=>(k.frozen j).trans (h.frozen j)⟩
theorem Moved.set {w:World}{S:Nat}(q a:Nat)(b:w.cell? ⟨S,1,none⟩=some (.int .i64 q)):Moved w (w.setCell ⟨S,1,none⟩ (.int .i64 a)) S a:=
 ⟨⟨rfl,rfl,rfl,by simp,fun k _ c=>heap_setCell_other w ⟨S,1,none⟩ k _ (fun e=>c (by simp[e]))⟩,World.cell?_setCell_same' _ _ _ (by rw[b];rfl),fun j d=>World.cell?_setCell_other _ _ _ _ (by intro e;simp only[Addr.mk.injEq] at e;omega),fun j=>World.frozen?_setCell _ _ _ _⟩
theorem Moved.onto {w W d e:World}{S p:Nat}(h:Below w.heap.size w W)(M:Moved W d S p)(k:Below w.heap.size d e)(a:S<w.heap.size):Moved w e S p:=
 ⟨⟨k.os.trans (M.grown.os.trans h.os),k.tape.trans (M.grown.tape.trans h.tape),k.output.trans (M.grown.output.trans h.output),Nat.le_trans h.size (Nat.le_trans M.grown.size k.size),fun j b c=>(k.block j b).trans ((M.grown.block j (Nat.lt_of_lt_of_le b h.size) c).trans (h.block j b))⟩,
  (k.cell (p:=⟨S,1,none⟩) a).trans M.at1,fun j b=>(k.cell (p:=⟨S,j,none⟩) a).trans ((M.other j b).trans (h.cell (p:=⟨S,j,none⟩) a)),fun j=>(k.frozen (p:=⟨S,j,none⟩) a).trans ((M.frozen j).trans (h.frozen (p:=⟨S,j,none⟩) a))⟩
theorem grown_setCell (w:World)(a:Addr)(v:Value):w.grownBy (w.setCell a v) (some a.block):=⟨rfl,rfl,rfl,by simp,fun k _ b=>heap_setCell_other w a k v (fun e=>b (by rw[e]))⟩
theorem grown_set5 (w:World)(g:Nat)(a b c d e:Value):w.grownBy (w.setCells g 0 [a,b,c,d,e]) (some g):=
 ((((grown_setCell w ⟨g,0,none⟩ a).trans (grown_setCell _ ⟨g,1,none⟩ b)).trans (grown_setCell _ ⟨g,2,none⟩ c)).trans (grown_setCell _ ⟨g,3,none⟩ d)).trans (grown_setCell _ ⟨g,4,none⟩ e)
theorem fault_any (S a:Nat)(code:Int)(w:World)(b:w.cell? ⟨S,1,none⟩=some (.int .i64 a))(f:S<w.heap.size) :
  Calls Tryz.prog 335 #[.pointer (some ⟨S,0,none⟩),.int .i64 code] w fun e c=>e = .returned (.agg #[.int .i64 code,.int .i64 a])/\Below w.heap.size w c:=by
 have d:∀ o,(w.alloc o).cell? ⟨S,1,none⟩=some (.int .i64 a):=fun o=>Lib.cell?_alloc_marked o b
 clear b
 go_enter Tryz.func335,Tryz.ntmps335
 go_wp2
 exact bodyPost_ret (v:=.agg #[.int .i64 code,.int .i64 a]) (by simp[results,Tryz.results335,go_sem]) rfl ⟨rfl,(Below.refl _ _).alloc (Nat.le_refl _) _⟩
def Faults (code:Int)(pos:Nat)(e:Ending):Prop:=e = .panicked [{ v:=.iface 334 (.agg #[.int .i64 code,.int .i64 pos]),recovered:=false }]
theorem take_long (S a:Nat)(kind:Int)(b:Nat)(p:Option Addr)(n c:Nat)(w:World)(f:w.cell? ⟨S,1,none⟩=some (.int .i64 a))(h:S<w.heap.size)(j:100<n)(i:n<=1000000) :
  Calls Tryz.prog 331 #[.pointer (some ⟨S,0,none⟩),.int .i64 kind,.int .i64 b,.slice p n c] w fun e w'=>Faults 3 a e/\Below w.heap.size w w':=by
 have g:Hid (∀ o,(w.alloc o).cell? ⟨S,1,none⟩=some (.int .i64 a)):=fun o=>Lib.cell?_alloc_marked o f
 clear f
 go_enter Tryz.func331,Tryz.ntmps331
 go_wp2_with (go_at_call 335;refine(fault_any S a 3 _ (g.o _) (by simp;omega)).mono ?_;rintro e k ⟨rfl,d⟩);exact⟨rfl,rfl,((Below.refl _ _).alloc (Nat.le_refl _) _).trans (d.mono (by simp))⟩
theorem take_fits (S b:Nat)(kind:Int)(a:Nat)(p:Option Addr)(n c:Nat)(w:World)(d:w.cell? ⟨S,1,none⟩=some (.int .i64 b))(j:w.frozen? ⟨S,1,none⟩=false)(f:S<w.heap.size)(k:n<=100)(l:b<=a)(i:a<=1000000) :
  Calls Tryz.prog 331 #[.pointer (some ⟨S,0,none⟩),.int .i64 kind,.int .i64 a,.slice p n c] w fun e w'=>e = .returned (.agg #[.int .i64 kind,.int .i64 b,.int .i64 (a-b),.slice p n c,.int .i64 0])/\Moved w w' S a:=by
 have h:∀ o,(w.alloc o).cell? ⟨S,1,none⟩=some (.int .i64 b):=fun o=>Lib.cell?_alloc_marked o d
 have g:IntKind.i64.wrap ((a:Int)-b)=(a:Int)-b:=by rw[IntKind.wrap_i64];omega
 go_enter Tryz.func331,Tryz.ntmps331
 go_wp2
 go_region_held3 (fun w'=>w'.cell? ⟨S,1,none⟩=some (.int .i64 b)) (go_keep) (fail)
 all_goals go_wp2
 have M:=(Moved.set b a d).trans (Moved.of_below (w':=((((w.setCell ⟨S,1,none⟩ (.int .i64 a)).alloc (.cells #[.int .i64 kind,.int .i64 b,.int .i64 (a-b),.slice p n c,.int .i64 0] 251)).alloc (.cells #[.int .i64 kind,.int .i64 b,.int .i64 (a-b),.slice p n c,.int .i64 0] 251)).drew))
  ((((Below.refl _ _).alloc (Nat.le_refl _) _).alloc (by simp) _).drew) (by simpa using f) (Moved.set b a d).at1)
 exact bodyPost_ret (v:=.agg #[.int .i64 kind,.int .i64 b,.int .i64 (a-b),.slice p n c,.int .i64 0]) (by simp[results,Tryz.results331,go_sem]) rfl ⟨rfl,M⟩
end
section
open Go Go.RowKit
set_option linter.unusedSimpArgs false
abbrev tokV (kind at_ len:Int)(p:Option Addr)(n c:Nat)(v:Int):Value:=.agg #[.int .i64 kind,.int .i64 at_,.int .i64 len,.slice p n c,.int .i64 v]
abbrev tokO:Obj:=.cells #[.int .i64 0,.int .i64 0,.int .i64 0,.slice none 0 0,.int .i64 0] 251
theorem single_any (S b n c a:Nat)(kind:Int)(y:List Int)(w:World)(hb:Bytes y)(hn:n=y.length)(hm:n<=100000)(hp:a<y.length)
  (L:w.cell? ⟨S,0,none⟩=some (.slice (some ⟨b,0,none⟩) n c)) (N:w.cell? ⟨S,1,none⟩=some (.int .i64 a)) (Z:w.frozen? ⟨S,1,none⟩=false) (X:S<w.heap.size)
  (Y:∀ i,i<y.length->w.cell? ⟨b,i,none⟩=some (.int .u8 (y.getD i 0))) :
  Calls Tryz.prog 332 #[.pointer (some ⟨S,0,none⟩),.int .i64 kind] w fun e p=>∃ p' n' T,e = .returned (tokV kind a 1 p' n' T 0)/\OwnS p w.heap.size p' n' T [y.getD a 0]/\Moved w p S (a+1):=by
 have F:=Y a hp
 obtain⟨x,U⟩:∃ x,x=y.getD a 0:=⟨_,rfl⟩
 rw[<-U] at F ⊢
 have C:(a:Int)<n:=by omega
 have P:(a:Int)+1<=1000000:=by omega
 have E:IntKind.i64.wrap ((a:Int)+1)=(a:Int)+1:=by rw[IntKind.wrap_i64];omega
 clear U Y hn
 go_enter Tryz.func332,Tryz.ntmps332
 go_wp2
 refine wp_region_noPanic ?_;refine wp_region_until (S:=fun p=>p.cell? ⟨S,0,none⟩=some (.slice (some ⟨b,0,none⟩) n c)/\p.cell? ⟨S,1,none⟩=some (.int .i64 a)/\p.cell? ⟨b,a,none⟩=some (.int .u8 x)) (c:=18) (by kernel_rfl) ?_
 have l:∀ o,((w.alloc o).drew.cell? ⟨S,0,none⟩=some (.slice (some ⟨b,0,none⟩) n c)/\(w.alloc o).drew.cell? ⟨S,1,none⟩=some (.int .i64 a)/\(w.alloc o).drew.cell? ⟨b,a,none⟩=some (.int .u8 x)):=fun o=>⟨Lib.cell?_alloc_marked o L,Lib.cell?_alloc_marked o N,Lib.cell?_alloc_marked o F⟩
 refine wpAnyU_take (i:=0) (v:=.pointer (some ⟨S,0,none⟩)) (D:=[18,19]) (some 5) (by kernel_rfl) (by kernel_rfl) (by kernel_rfl) (by kernel_rfl) (by kernel_rfl) (by rfl) (by kernel_rfl) (fun _ _ _ h=>h) (fun o d=>?y0) (l _) ?_
 case y0=>
  cases d
  refine .inl ⟨by kernel_rfl,fun p m=>?_⟩
  simp[execOp,go_sem,Act.eval,Act.put]
 refine wpAnyU_take (i:=1) (v:=.int .i64 kind) (D:=[18,19]) (some 6) (by kernel_rfl) (by kernel_rfl) (by kernel_rfl) (by kernel_rfl) (by kernel_rfl) (by rfl) (by kernel_rfl) (fun _ _ _ h=>h) (fun o d=>?y1) (l _) ?_
 case y1=>
  cases d
  refine .inl ⟨by kernel_rfl,fun p m=>?_⟩
  simp[execOp,go_sem,Act.eval,Act.put]
 refine wpAnyU_take (i:=2) (v:=.pointer (some ⟨S,0,none⟩)) (D:=[3,4,5,6,18,19]) (some 7) (by kernel_rfl) (by kernel_rfl) (by kernel_rfl) (by kernel_rfl) (by kernel_rfl) (by rfl) (by kernel_rfl) (fun _ _ _ h=>h) (fun o d=>?y2) (l _) ?_
 case y2=>
  cases d
  refine .inl ⟨by kernel_rfl,fun p m=>?_⟩
  simp[execOp,go_sem,Act.eval,Act.put]
 refine wpAnyU_take (i:=3) (v:=.pointer (some ⟨S,0,none⟩)) (D:=[4,5,6,18,19]) (some 8) (by kernel_rfl) (by kernel_rfl) (by kernel_rfl) (by kernel_rfl) (by kernel_rfl) (by rfl) (by kernel_rfl) (fun _ _ _ h=>h) (fun o d=>?y3) (l _) ?_
 case y3=>
  cases d
  refine .inl ⟨by kernel_rfl,fun p m=>?_⟩
  simp[execOp,go_sem,Act.eval,Act.put]
 refine wpAnyU_take (i:=4) (v:=.pointer (some ⟨S,1,none⟩)) (D:=[5,6,18,19]) (some 9) (by kernel_rfl) (by kernel_rfl) (by kernel_rfl) (by kernel_rfl) (by kernel_rfl) (by rfl) (by kernel_rfl) (fun _ _ _ h=>h) (fun o d=>?y4) (l _) ?_
 case y4=>
  cases d
  refine .inl ⟨by kernel_rfl,fun p m=>?_⟩
  simp[execOp,go_sem,Act.eval,Act.put]
 refine wpAnyU_take (i:=5) (v:=.int .i64 a) (D:=[6,18,19]) (some 10) (by kernel_rfl) (by kernel_rfl) (by kernel_rfl) (by kernel_rfl) (by kernel_rfl) (by rfl) (by kernel_rfl) (fun _ _ _ h=>h) (fun o d=>?y5) (l _) ?_
 case y5=>
  cases d
  refine .inl ⟨by kernel_rfl,fun p m=>?_⟩
  simp[execOp,go_sem,m.1,m.2.1,m.2.2,Act.eval,Act.put]
 refine wpAnyU_take (i:=6) (v:=.int .i64 (a+1)) (D:=[18,19]) (some 11) (by kernel_rfl) (by kernel_rfl) (by kernel_rfl) (by kernel_rfl) (by kernel_rfl) (by rfl) (by kernel_rfl) (fun _ _ _ h=>h) (fun o d=>?y6) (l _) ?_
 case y6=>
  cases d
  refine .inl ⟨by kernel_rfl,fun p m=>?_⟩
  simp[execOp,go_sem,Act.eval,Act.put,E]
 refine wpAnyU_take (i:=7) (v:=.pointer (some ⟨S,0,none⟩)) (D:=[8,9,10,15,16,17,18,19]) (some 12) (by kernel_rfl) (by kernel_rfl) (by kernel_rfl) (by kernel_rfl) (by kernel_rfl) (by rfl) (by kernel_rfl) (fun _ _ _ h=>h) (fun o d=>?y7) (l _) ?_
 case y7=>
  cases d
  refine .inl ⟨by kernel_rfl,fun p m=>?_⟩
  simp[execOp,go_sem,Act.eval,Act.put]
 refine wpAnyU_take (i:=8) (v:=.pointer (some ⟨S,0,none⟩)) (D:=[9,10,15,16,17,18,19]) (some 13) (by kernel_rfl) (by kernel_rfl) (by kernel_rfl) (by kernel_rfl) (by kernel_rfl) (by rfl) (by kernel_rfl) (fun _ _ _ h=>h) (fun o d=>?y8) (l _) ?_
 case y8=>
  cases d
  refine .inl ⟨by kernel_rfl,fun p m=>?_⟩
  simp[execOp,go_sem,Act.eval,Act.put]
 refine wpAnyU_take (i:=9) (v:=.pointer (some ⟨S,0,none⟩)) (D:=[10,15,16,17,18,19]) (some 14) (by kernel_rfl) (by kernel_rfl) (by kernel_rfl) (by kernel_rfl) (by kernel_rfl) (by rfl) (by kernel_rfl) (fun _ _ _ h=>h) (fun o d=>?y9) (l _) ?_
 case y9=>
  cases d
  refine .inl ⟨by kernel_rfl,fun p m=>?_⟩
  simp[execOp,go_sem,Act.eval,Act.put]
 refine wpAnyU_take (i:=10) (v:=.slice (some ⟨b,0,none⟩) n c) (D:=[15,16,17,18,19]) (some 15) (by kernel_rfl) (by kernel_rfl) (by kernel_rfl) (by kernel_rfl) (by kernel_rfl) (by rfl) (by kernel_rfl) (fun _ _ _ h=>h) (fun o d=>?y10) (l _) ?_
 case y10=>
  cases d
  refine .inl ⟨by kernel_rfl,fun p m=>?_⟩
  simp[execOp,go_sem,m.1,m.2.1,m.2.2,Act.eval,Act.put]
 refine wpAnyU_take (i:=11) (v:=.pointer (some ⟨S,0,none⟩)) (D:=[12,13,14,15,16,17,18,19]) (some 16) (by kernel_rfl) (by kernel_rfl) (by kernel_rfl) (by kernel_rfl) (by kernel_rfl) (by rfl) (by kernel_rfl) (fun _ _ _ h=>h) (fun o d=>?y11) (l _) ?_
 case y11=>
  cases d
  refine .inl ⟨by kernel_rfl,fun p m=>?_⟩
  simp[execOp,go_sem,Act.eval,Act.put]
 refine wpAnyU_take (i:=12) (v:=.pointer (some ⟨S,0,none⟩)) (D:=[13,14,15,16,17,18,19]) (some 17) (by kernel_rfl) (by kernel_rfl) (by kernel_rfl) (by kernel_rfl) (by kernel_rfl) (by rfl) (by kernel_rfl) (fun _ _ _ h=>h) (fun o d=>?y12) (l _) ?_
 case y12=>
  cases d
  refine .inl ⟨by kernel_rfl,fun p m=>?_⟩
  simp[execOp,go_sem,Act.eval,Act.put]
 refine wpAnyU_take (i:=13) (v:=.pointer (some ⟨S,1,none⟩)) (D:=[14,15,16,17,18,19]) (some 18) (by kernel_rfl) (by kernel_rfl) (by kernel_rfl) (by kernel_rfl) (by kernel_rfl) (by rfl) (by kernel_rfl) (fun _ _ _ h=>h) (fun o d=>?y13) (l _) ?_
 case y13=>
  cases d
  refine .inl ⟨by kernel_rfl,fun p m=>?_⟩
  simp[execOp,go_sem,Act.eval,Act.put]
 refine wpAnyU_take (i:=14) (v:=.int .i64 a) (D:=[15,16,17,18,19]) (some 19) (by kernel_rfl) (by kernel_rfl) (by kernel_rfl) (by kernel_rfl) (by kernel_rfl) (by rfl) (by kernel_rfl) (fun _ _ _ h=>h) (fun o d=>?y14) (l _) ?_
 case y14=>
  cases d
  refine .inl ⟨by kernel_rfl,fun p m=>?_⟩
  simp[execOp,go_sem,m.1,m.2.1,m.2.2,Act.eval,Act.put]
 refine wpAnyU_take (i:=15) (v:=.pointer (some ⟨b,a,none⟩)) (D:=[16,17,18,19]) (some 20) (by kernel_rfl) (by kernel_rfl) (by kernel_rfl) (by kernel_rfl) (by kernel_rfl) (by rfl) (by kernel_rfl) (fun _ _ _ h=>h) (fun o d=>?y15) (l _) ?_
 case y15=>
  cases d
  refine .inl ⟨by kernel_rfl,fun p m=>?_⟩
  simp[execOp,go_sem,Act.eval,Act.put,C]
 refine wpAnyU_take (i:=16) (v:=.int .u8 x) (D:=[17,18,19]) (some 21) (by kernel_rfl) (by kernel_rfl) (by kernel_rfl) (by kernel_rfl) (by kernel_rfl) (by rfl) (by kernel_rfl) (fun _ _ _ h=>h) (fun o d=>?y16) (l _) ?_
 case y16=>
  cases d
  refine .inl ⟨by kernel_rfl,fun p m=>?_⟩
  simp[execOp,go_sem,m.1,m.2.1,m.2.2,Act.eval,Act.put]
 have B:S<(w.alloc tokO).heap.size:=by simp;omega
 have Q:(((w.alloc tokO).alloc (.cells #[.int .u8 x] 5)).drew).cell? ⟨S,1,none⟩=some (.int .i64 a):=Lib.cell?_alloc_marked _ (Lib.cell?_alloc_marked _ N);have k0:(((w.alloc tokO).alloc (.cells #[.int .u8 x] 5)).drew).cell? ⟨S,0,none⟩=some (.slice (some ⟨b,0,none⟩) n c):=Lib.cell?_alloc_marked _ (Lib.cell?_alloc_marked _ L);have kx:(((w.alloc tokO).alloc (.cells #[.int .u8 x] 5)).drew).cell? ⟨b,a,none⟩=some (.int .u8 x):=Lib.cell?_alloc_marked _ (Lib.cell?_alloc_marked _ F)
 have kf:(((w.alloc tokO).alloc (.cells #[.int .u8 x] 5)).drew).frozen? ⟨S,1,none⟩=false:=by
  show((w.alloc tokO).alloc _).frozen? _=_
  rw[World.frozen?_alloc_past (hn:=B),World.frozen?_alloc_past (hn:=X)];exact Z
 refine wpAnyU_all (rs:=[17]) (by kernel_rfl) (by decide) ?_
 intro i r
 obtain rfl:i=17:=by simpa using r
 clear r;refine wpOp_value (some 22) (by kernel_rfl) (by kernel_rfl) (v:=.slice (some ⟨w.heap.size+1,0,none⟩) 1 1) (w':=((w.alloc tokO).alloc (.cells #[.int .u8 x] 5)).drew) (fun o d=>?r17) ⟨fun _=>⟨k0,Q,kx⟩,?_⟩
 case r17=>
  cases d
  simp[execOp,go_sem,Act.eval,Act.put,tokO]
  rfl
 refine wpAnyU_all (rs:=[18]) (by kernel_rfl) (by decide) ?_
 intro i r
 obtain rfl:i=18:=by simpa using r
 clear r;refine wpOp_enter (some 23) (by kernel_rfl) (by kernel_rfl) (f:=331) (args:=#[.pointer (some ⟨S,0,none⟩),.int .i64 kind,.int .i64 ((a+1:Nat):Int),.slice (some ⟨w.heap.size+1,0,none⟩) 1 1]) (w':=((w.alloc tokO).alloc (.cells #[.int .u8 x] 5)).drew) (fun o d=>?r18)
  (take_fits S a kind (a+1) (some ⟨w.heap.size+1,0,none⟩) 1 1 _ Q kf (by show S<((w.alloc tokO).alloc _).heap.size;simp;omega) (by decide) (by omega) (by omega)) ?k18 (fun ch R h=>by cases h.1) (fun R h=>by cases h.1)
 case r18=>cases d;simp[execOp,go_sem,Act.eval,Act.put]
 case k18=>
  rintro u t ⟨hu,M⟩
  cases hu
  refine⟨(fun h=>by cases h),?_⟩;refine wpAnyU_all (rs:=[19]) (by kernel_rfl) (by decide) ?_
  intro i r
  obtain rfl:i=19:=by simpa using r
  clear r
  have hN:S≠w.heap.size:=by omega
  have q:t.heap[w.heap.size]?=some tokO:=by
   rw[M.grown.block w.heap.size (by show _<((w.alloc tokO).alloc _).heap.size;simp;omega) (by simp;omega)]
   show((w.heap.push tokO).push _)[w.heap.size]?=_
   simp[Array.getElem?_push]
  have I:∀ j,t.cell? ⟨w.heap.size,j,none⟩=(#[.int .i64 0,.int .i64 0,.int .i64 0,.slice none 0 0,.int .i64 0]:Array Value)[j]?:=fun j=>cell_of_row t w.heap.size j _ _ (0,0) q
  have V:∀ j,t.frozen? ⟨w.heap.size,j,none⟩=false:=fun j=>frozen_of_row t w.heap.size j _ _ q
  refine wpOp_skip none (by kernel_rfl) (by kernel_rfl) (w':=t.setCells w.heap.size 0 [.int .i64 kind,.int .i64 a,.int .i64 (((a+1:Nat):Int)-a),.slice (some ⟨w.heap.size+1,0,none⟩) 1 1,.int .i64 0]) (fun o d=>?r19) ⟨(fun h=>by cases h),?_⟩
  case r19=>
   cases d
   simp[execOp,go_sem,Act.eval,Act.put,I,V]
   rfl
  refine wpAnyU_done (by kernel_rfl) ?_ _;refine NoPanic.normal ?_;have O:=grown_set5 t w.heap.size (.int .i64 kind) (.int .i64 a) (.int .i64 (((a+1:Nat):Int)-a)) (.slice (some ⟨w.heap.size+1,0,none⟩) 1 1) (.int .i64 0)
  have s:w.heap.size<=t.heap.size:=by have:=M.grown.size;simp at this;omega
  have W:Moved w _ S (a+1):=Moved.onto (((Below.refl _ w).alloc (Nat.le_refl _) tokO).alloc (by simp) (.cells #[.int .u8 x] 5)).drew M (Below.of_grown O s (fun k e=>by cases e;exact Nat.le_refl _)) X
  have z:OwnS ((w.alloc tokO).alloc (.cells #[.int .u8 x] 5)).drew w.heap.size (some ⟨w.heap.size+1,0,none⟩) 1 1 [x]:=by
   have:=own1 (w.alloc tokO) x;simp only[World.size_alloc] at this;exact⟨this.1,this.2.1,this.2.2.imp id fun ⟨g,c,J,a1,a2,a3⟩=>⟨g,c,J,a1,by omega,a3⟩⟩
  have A:=(z.kept M.grown (fun g e K=>by simp only[Option.some.injEq,Addr.mk.injEq,and_true] at e;simp only[Option.some.injEq] at K;omega)).kept O (fun g e K=>by simp only[Option.some.injEq,Addr.mk.injEq,and_true] at e;simp only[Option.some.injEq] at K;omega);have G:=hid I;have H:=hid A;have HM:=hid W;clear z M O A W I V q k0 Q kx kf l L N F Z C P E hN B s;simp only[Act.put,zzA,zzB,zzC]
  go_wp2
  exact bodyPost_ret (v:=tokV kind a 1 (some ⟨w.heap.size+1,0,none⟩) 1 1 0) (by simp[results,Tryz.results332,go_sem,World.setCells,G.o];omega) rfl ⟨_,_,_,rfl,H.o,HM.o⟩
def runI (k:Int)(xs:List Int)(pos:Nat):Nat:=runLen (isOfB · k) (xs.drop pos)
theorem runI_le (k:Int)(b:List Int)(a:Nat)(h:a<=b.length):a+runI k b a<=b.length:=by
 have:=runLen_le (isOfB · k) (b.drop a)
 unfold runI
 simp at this
 omega
theorem byteI_drop {b:List Int}{a j:Nat}(h:a+j<b.length):byteI b (a+j)=(b.drop a).getD j 0:=by
 rw[byteI_lt h];simp[List.getD,List.getElem?_drop]
def Taken (w:World)(S:Nat)(kind:Int)(pos len:Nat)(ys:List Int)(e:Ending)(w':World):Prop:=
 (ys.length<=100/\∃ p n c,e = .returned (tokV kind pos len p n c 0)/\OwnS w' w.heap.size p n c ys/\Moved w w' S (pos+len))∨
 (100<ys.length/\Faults 3 pos e/\w.grownBy w' (some S))
theorem run_any (S b n c a:Nat)(kind k:Int)(r:List Int)(w:World)(hb:Bytes r)(hn:n=r.length)(e7:n<=c)(e2:n<=100000)(hp:a<r.length)(hk:isOfB (byteI r a) k=true)
  (h0:w.cell? ⟨S,0,none⟩=some (.slice (some ⟨b,0,none⟩) n c)) (h1:w.cell? ⟨S,1,none⟩=some (.int .i64 a)) (hf:w.frozen? ⟨S,1,none⟩=false) (hS:S<w.heap.size)
  (hc:∀ i,i<r.length->w.cell? ⟨b,i,none⟩=some (.int .u8 (r.getD i 0))) (hT:Tab w) :
  Calls Tryz.prog 328 #[.pointer (some ⟨S,0,none⟩),.int .i64 kind,.int .u8 k] w fun e s=>Taken w S kind a (runI k r a) ((r.drop a).take (runI k r a)) e s:=by
 have HC:Hid (∀ o i,i<r.length->(w.alloc o).cell? ⟨b,i,none⟩=some (.int .u8 (r.getD i 0))):=fun o i y=>Lib.cell?_alloc_marked o (hc i y)
 have HT:Hid (∀ o,Tab (w.alloc o)):=fun o i y=>Lib.cell?_alloc_marked o (hT i y)
 have L:=hid hn;have HK:=hid hk;have U:(w.alloc tokO).cell? ⟨S,0,none⟩=some (.slice (some ⟨b,0,none⟩) n c):=Lib.cell?_alloc_marked _ h0;have V:(w.alloc tokO).cell? ⟨S,1,none⟩=some (.int .i64 a):=Lib.cell?_alloc_marked _ h1
 have e5:a<n:=by omega
 clear hc hT hn hk
 go_enter Tryz.func328,Tryz.ntmps328
 go_wp2
 go_loop [7] (fun i=>∃ m:Nat,a+m<=n/\i = .int .i64 ((a+m:Nat):Int)/\Hid (∀ j,j<m->isOfB ((r.drop a).getD j 0) k=true)) (fun i=>n-(intOf i).toNat)
 case atStart=>exact⟨0,by omega,by simp,fun _ h=>absurd h (Nat.not_lt_zero _)⟩
 case round=>
  obtain⟨m,hm,rfl,HM⟩:=hrel;have hr:=byteI_rng hb (a+m)
  obtain⟨x,ex⟩:∃ x,x=byteI r (a+m):=⟨_,rfl⟩
  rw[<-ex] at hr;have T:=hid ex.symm;clear ex
  cases ht:isOfB x k
  ·have HE:Hid (runI k r a=m):=runLen_stop _ _ _ (by simp;have:=L.o;omega) HM.o (by
    by_cases h:a+m<r.length
    ·right;have:=byteI_drop h;rw[T.o] at this;rw[<-this];exact ht
    ·left;simp;have:=L.o;omega)
   have HP:Hid (0<m):=by
    rcases Nat.eq_zero_or_pos m with h | h
    ·subst h;have h2:=T.o;rw[Nat.add_zero] at h2;have:=HK.o;rw[h2,ht] at this;cases this
    ·exact h
   have e3:0<m:=HP.o;go_wp2_with (first | (go_at_call 324;refine(byteAt_any S b n c r (a+m) _ hb L.o (by omega) (by omega) U (HC.o _)).mono ?_;rintro e s ⟨rfl,rfl⟩;rw[T.o]) | (go_at_call 325;refine(isOf_any _ _ _ (by omega) (by omega) (HT.o _)).mono ?_;rintro e s ⟨rfl,rfl⟩))
   have l:((w.alloc tokO).drew.cell? ⟨S,0,none⟩=some (.slice (some ⟨b,0,none⟩) n c)/\(w.alloc tokO).drew.cell? ⟨S,1,none⟩=some (.int .i64 a)):=⟨U,V⟩
   have b1:¬ c=a:=by omega
   have b2:a+m<=c:=by omega
   have b3:(0:Int)<=(a:Int):=by omega
   have b4:(a:Int)+m<=c:=by omega
   have b5:a+m-a=m:=by omega
   have b6:(0:Int)<=(a:Int)+m:=by omega
   have b7:((a:Int)+m).toNat=a+m:=by omega
   have hZ:n<=100000:=e2;refine wp_region_until (S:=fun s=>s.cell? ⟨S,0,none⟩=some (.slice (some ⟨b,0,none⟩) n c)/\s.cell? ⟨S,1,none⟩=some (.int .i64 a)) (c:=14) (by kernel_rfl) ?_;refine wpAnyU_take (i:=0) (v:=.pointer (some ⟨S,0,none⟩)) (D:=[14,15]) (some 19) (by kernel_rfl) (by kernel_rfl) (by kernel_rfl) (by kernel_rfl) (by kernel_rfl) (by rfl) (by kernel_rfl) (fun _ _ _ h=>h) (fun o d=>?y0) (l) ?_
   case y0=>
    cases d
    refine .inl ⟨by kernel_rfl,fun s A=>?_⟩
    simp[execOp,go_sem,Act.eval,Act.put]
   refine wpAnyU_take (i:=1) (v:=.int .i64 kind) (D:=[14,15]) (some 20) (by kernel_rfl) (by kernel_rfl) (by kernel_rfl) (by kernel_rfl) (by kernel_rfl) (by rfl) (by kernel_rfl) (fun _ _ _ h=>h) (fun o d=>?y1) (l) ?_
   case y1=>
    cases d
    refine .inl ⟨by kernel_rfl,fun s A=>?_⟩
    simp[execOp,go_sem,Act.eval,Act.put]
   refine wpAnyU_take (i:=2) (v:=.int .i64 ((a+m:Nat):Int)) (D:=[14,15]) (some 21) (by kernel_rfl) (by kernel_rfl) (by kernel_rfl) (by kernel_rfl) (by kernel_rfl) (by rfl) (by kernel_rfl) (fun _ _ _ h=>h) (fun o d=>?y2) (l) ?_
   case y2=>
    cases d
    refine .inl ⟨by kernel_rfl,fun s A=>?_⟩
    simp[execOp,go_sem,Act.eval,Act.put]
   refine wpAnyU_take (i:=3) (v:=.pointer (some ⟨S,0,none⟩)) (D:=[4,5,6,12,13,14,15]) (some 22) (by kernel_rfl) (by kernel_rfl) (by kernel_rfl) (by kernel_rfl) (by kernel_rfl) (by rfl) (by kernel_rfl) (fun _ _ _ h=>h) (fun o d=>?y3) (l) ?_
   case y3=>
    cases d
    refine .inl ⟨by kernel_rfl,fun s A=>?_⟩
    simp[execOp,go_sem,Act.eval,Act.put]
   refine wpAnyU_take (i:=4) (v:=.pointer (some ⟨S,0,none⟩)) (D:=[5,6,12,13,14,15]) (some 23) (by kernel_rfl) (by kernel_rfl) (by kernel_rfl) (by kernel_rfl) (by kernel_rfl) (by rfl) (by kernel_rfl) (fun _ _ _ h=>h) (fun o d=>?y4) (l) ?_
   case y4=>
    cases d
    refine .inl ⟨by kernel_rfl,fun s A=>?_⟩
    simp[execOp,go_sem,Act.eval,Act.put]
   refine wpAnyU_take (i:=5) (v:=.pointer (some ⟨S,0,none⟩)) (D:=[6,12,13,14,15]) (some 24) (by kernel_rfl) (by kernel_rfl) (by kernel_rfl) (by kernel_rfl) (by kernel_rfl) (by rfl) (by kernel_rfl) (fun _ _ _ h=>h) (fun o d=>?y5) (l) ?_
   case y5=>
    cases d
    refine .inl ⟨by kernel_rfl,fun s A=>?_⟩
    simp[execOp,go_sem,Act.eval,Act.put]
   refine wpAnyU_take (i:=6) (v:=.slice (some ⟨b,0,none⟩) n c) (D:=[12,13,14,15]) (some 25) (by kernel_rfl) (by kernel_rfl) (by kernel_rfl) (by kernel_rfl) (by kernel_rfl) (by rfl) (by kernel_rfl) (fun _ _ _ h=>h) (fun o d=>?y6) (l) ?_
   case y6=>
    cases d
    refine .inl ⟨by kernel_rfl,fun s A=>?_⟩
    simp[execOp,go_sem,Act.eval,Act.put,A.1]
   refine wpAnyU_take (i:=7) (v:=.pointer (some ⟨S,0,none⟩)) (D:=[8,9,10,12,13,14,15]) (some 26) (by kernel_rfl) (by kernel_rfl) (by kernel_rfl) (by kernel_rfl) (by kernel_rfl) (by rfl) (by kernel_rfl) (fun _ _ _ h=>h) (fun o d=>?y7) (l) ?_
   case y7=>
    cases d
    refine .inl ⟨by kernel_rfl,fun s A=>?_⟩
    simp[execOp,go_sem,Act.eval,Act.put]
   refine wpAnyU_take (i:=8) (v:=.pointer (some ⟨S,0,none⟩)) (D:=[9,10,12,13,14,15]) (some 27) (by kernel_rfl) (by kernel_rfl) (by kernel_rfl) (by kernel_rfl) (by kernel_rfl) (by rfl) (by kernel_rfl) (fun _ _ _ h=>h) (fun o d=>?y8) (l) ?_
   case y8=>
    cases d
    refine .inl ⟨by kernel_rfl,fun s A=>?_⟩
    simp[execOp,go_sem,Act.eval,Act.put]
   refine wpAnyU_take (i:=9) (v:=.pointer (some ⟨S,1,none⟩)) (D:=[10,12,13,14,15]) (some 28) (by kernel_rfl) (by kernel_rfl) (by kernel_rfl) (by kernel_rfl) (by kernel_rfl) (by rfl) (by kernel_rfl) (fun _ _ _ h=>h) (fun o d=>?y9) (l) ?_
   case y9=>
    cases d
    refine .inl ⟨by kernel_rfl,fun s A=>?_⟩
    simp[execOp,go_sem,Act.eval,Act.put]
   refine wpAnyU_take (i:=10) (v:=.int .i64 a) (D:=[12,13,14,15]) (some 29) (by kernel_rfl) (by kernel_rfl) (by kernel_rfl) (by kernel_rfl) (by kernel_rfl) (by rfl) (by kernel_rfl) (fun _ _ _ h=>h) (fun o d=>?y10) (l) ?_
   case y10=>
    cases d
    refine .inl ⟨by kernel_rfl,fun s A=>?_⟩
    simp[execOp,go_sem,Act.eval,Act.put,A.2]
   refine wpAnyU_take (i:=11) (v:=.int .i64 ((a+m:Nat):Int)) (D:=[12,13,14,15]) (some 30) (by kernel_rfl) (by kernel_rfl) (by kernel_rfl) (by kernel_rfl) (by kernel_rfl) (by rfl) (by kernel_rfl) (fun _ _ _ h=>h) (fun o d=>?y11) (l) ?_
   case y11=>
    cases d
    refine .inl ⟨by kernel_rfl,fun s A=>?_⟩
    simp[execOp,go_sem,Act.eval,Act.put]
   refine wpAnyU_take (i:=12) (v:=.slice (some ⟨b,a,none⟩) m (c-a)) (D:=[13,14,15]) (some 31) (by kernel_rfl) (by kernel_rfl) (by kernel_rfl) (by kernel_rfl) (by kernel_rfl) (by rfl) (by kernel_rfl) (fun _ _ _ h=>h) (fun o d=>?y12) (l) ?_
   case y12=>
    cases d
    refine .inl ⟨by kernel_rfl,fun s A=>?_⟩
    simp[execOp,go_sem,Act.eval,Act.put,b1,b2,b3,b4,b5,b6,b7]
   have Y:∀ i,i<((r.drop a).take m).length->(w.alloc tokO).drew.cell? ⟨b,a+i,none⟩=some (.int .u8 (((r.drop a).take m).getD i 0)):=fun i y=>by
    have h2:i<m:=by simp at y;omega
    have:=HC.o tokO (a+i) (by have:=L.o;omega);rw[show(w.alloc tokO).drew.cell? ⟨b,a+i,none⟩=(w.alloc tokO).cell? ⟨b,a+i,none⟩ from rfl,this]
    simp[List.getD,List.getElem?_take,h2,List.getElem?_drop]
   have G:m=((r.drop a).take m).length:=by simp;have:=L.o;omega
   have E:(w.alloc tokO).drew.heap[w.heap.size]?=some tokO:=by show(w.heap.push tokO)[w.heap.size]?=_;simp
   refine wpAnyU_all (rs:=[13]) (by kernel_rfl) (by decide) ?_
   intro i y
   obtain rfl:i=13:=by simpa using y
   clear y;refine wpOp_enter (some 32) (by kernel_rfl) (by kernel_rfl) (f:=370) (args:=#[.slice (some ⟨b,a,none⟩) m (c-a)]) (w':=(w.alloc tokO).drew) (fun o d=>?r13)
    (clone_any b a m (c-a) ((r.drop a).take m) (w.alloc tokO).drew G e3 (by omega) Y) ?k13 (fun ch K h=>by obtain⟨_,_,_,h,_⟩:=h;cases h) (fun K h=>by obtain⟨_,_,_,h,_⟩:=h;cases h)
   case r13=>
    cases d
    simp[execOp,go_sem,Act.eval,Act.put]
    rfl
   case k13=>
    rintro u B ⟨J,I,N,hu,q,t⟩
    cases hu
    have e0:B.cell? ⟨S,0,none⟩=some (.slice (some ⟨b,0,none⟩) n c):=cell_later t U;have e1:B.cell? ⟨S,1,none⟩=some (.int .i64 a):=cell_later t V
    have ef:B.frozen? ⟨S,1,none⟩=false:=by
     rw[t.frozen (p:=⟨S,1,none⟩) (by show S<(w.alloc tokO).heap.size;simp;omega)]
     show(w.alloc tokO).frozen? _=_
     rw[World.frozen?_alloc_past (hn:=hS)];exact hf
    have eS:S<B.heap.size:=Nat.lt_of_lt_of_le (by show S<(w.alloc tokO).heap.size;simp;omega) t.size
    have e4:I=m:=by rw[q.1,<-G]
    have F:B.heap[w.heap.size]?=some tokO:=(t.block w.heap.size (by show _<(w.alloc tokO).heap.size;simp)).trans E
    have Z:w.heap.size+1<=B.heap.size:=by have:=t.size;simp at this;omega
    have Q:Below w.heap.size w B:=(((Below.refl _ w).alloc (Nat.le_refl _) tokO).drew).trans (t.mono (by simp));refine⟨fun _=>⟨e0,e1⟩,?_⟩
    by_cases R:100<m
    ·refine wpAnyU_all (rs:=[14]) (by kernel_rfl) (by decide) ?_
     intro i y
     obtain rfl:i=14:=by simpa using y
     clear y;refine wpOp_enter (some 33) (by kernel_rfl) (by kernel_rfl) (f:=331) (args:=#[.pointer (some ⟨S,0,none⟩),.int .i64 kind,.int .i64 ((a+m:Nat):Int),.slice J I N]) (w':=B) (fun o d=>?r14)
      (take_long S a kind (a+m) J I N B e1 eS (by omega) (by omega)) (fun u H h=>by cases h.1) ?k14 (fun K h=>by cases h.1)
     case r14=>cases d;simp[execOp,go_sem,Act.eval,Act.put]
     case k14=>
      rintro ch H ⟨h9,h8⟩;exact⟨rfl,.inr ⟨by rw[HE.o,<-G];exact R,h9,grown_of_below (Below.on Q h8) _⟩⟩
    ·refine wpAnyU_all (rs:=[14]) (by kernel_rfl) (by decide) ?_
     intro i y
     obtain rfl:i=14:=by simpa using y
     clear y;refine wpOp_enter (some 33) (by kernel_rfl) (by kernel_rfl) (f:=331) (args:=#[.pointer (some ⟨S,0,none⟩),.int .i64 kind,.int .i64 ((a+m:Nat):Int),.slice J I N]) (w':=B) (fun o d=>?r14)
      (take_fits S a kind (a+m) J I N B e1 ef eS (by omega) (by omega) (by omega)) ?k14 (fun ch K h=>by cases h.1) (fun K h=>by cases h.1)
     case r14=>cases d;simp[execOp,go_sem,Act.eval,Act.put]
     case k14=>
      rintro u H ⟨hu,M⟩
      cases hu
      refine⟨(fun h=>by cases h),?_⟩;refine wpAnyU_all (rs:=[15]) (by kernel_rfl) (by decide) ?_
      intro i y
      obtain rfl:i=15:=by simpa using y
      clear y;have C:H.heap[w.heap.size]?=some tokO:=(M.grown.block w.heap.size (by omega) (by simp;omega)).trans F
      have c0:∀ j,H.cell? ⟨w.heap.size,j,none⟩=(#[.int .i64 0,.int .i64 0,.int .i64 0,.slice none 0 0,.int .i64 0]:Array Value)[j]?:=fun j=>cell_of_row H w.heap.size j _ _ (0,0) C
      have f0:∀ j,H.frozen? ⟨w.heap.size,j,none⟩=false:=fun j=>frozen_of_row H w.heap.size j _ _ C
      refine wpOp_skip none (by kernel_rfl) (by kernel_rfl) (w':=H.setCells w.heap.size 0 [.int .i64 kind,.int .i64 a,.int .i64 (((a+m:Nat):Int)-a),.slice J I N,.int .i64 0]) (fun o d=>?r15) ⟨(fun h=>by cases h),?_⟩
      case r15=>
       cases d
       simp[execOp,go_sem,Act.eval,Act.put,c0,f0]
       rfl
      refine wpAnyU_done (by kernel_rfl) ?_ _;have hG:=grown_set5 H w.heap.size (.int .i64 kind) (.int .i64 a) (.int .i64 (((a+m:Nat):Int)-a)) (.slice J I N) (.int .i64 0)
      have O:w.heap.size<=H.heap.size:=by have:=M.grown.size;omega
      have hM:Moved w _ S (a+m):=Moved.onto Q M (Below.of_grown hG O (fun k e=>by cases e;exact Nat.le_refl _)) hS
      have z:∀ g,J=some ⟨g,0,none⟩->w.heap.size+1<=g:=fun g e=>by
       rcases q.form with ⟨P,_⟩ | ⟨g',P,h,_⟩
       ·rw[P] at e;cases e
       ·rw[P] at e;cases e;simp at h;exact h
      have W:OwnS B w.heap.size J I N ((r.drop a).take m):=⟨q.1,q.2.1,q.2.2.imp id fun ⟨g,c,h7,V,a2,a3⟩=>⟨g,c,h7,V,by simp at a2;omega,a3⟩⟩
      have X:=(W.kept M.grown (fun g e P=>by have:=z g e;simp only[Option.some.injEq] at P;omega)).kept hG (fun g e P=>by have:=z g e;simp only[Option.some.injEq] at P;omega);have h3:=hid c0;have h6:=hid X;have h5:=hid hM
      have h4:Hid (((r.drop a).take m).length<=100):=by rw[<-G];show _<=_;omega
      clear W M hG X hM c0 f0 C E F l e0 e1 ef eS U V h0 h1 hf Z O Q t q Y b1 b2 b3 b4 b5 b6 b7 z G e4;simp only[Act.put,zzA,zzB,zzC]
      go_wp2
      refine bodyPost_ret (v:=tokV kind a m J I N 0) (by simp[results,Tryz.results328,go_sem,World.setCells,h3.o];omega) rfl ?_
      unfold Taken
      rw[HE.o];exact .inl ⟨h4.o,_,_,_,rfl,h6.o,h5.o⟩
  ·have HL:Hid (a+m<n):=by
    rcases Nat.lt_or_ge (a+m) n with h | h
    ·exact h
    ·have:=T.o;rw[byteI_ge (by have:=L.o;omega)] at this;rw[<-this,isOf_lo (by decide)] at ht;cases ht
   have e6:a+m<n:=HL.o;go_wp2_with (first | (go_at_call 324;refine(byteAt_any S b n c r (a+m) _ hb L.o (by omega) (by omega) U (HC.o _)).mono ?_;rintro e s ⟨rfl,rfl⟩;rw[T.o]) | (go_at_call 325;refine(isOf_any _ _ _ (by omega) (by omega) (HT.o _)).mono ?_;rintro e s ⟨rfl,rfl⟩))
   go_round
   case rel=>exact⟨m+1,by omega,by go_num,fun j hj=>by
    by_cases e:j=m
    ·subst e;rw[<-byteI_drop (by have:=L.o;omega),T.o];exact ht
    ·exact HM.o j (by omega)⟩
   case measure=>simp[intOf];omega
structure Env (w:World)(S b n c pos:Nat)(xs:List Int):Prop where
 bytes:Bytes xs
 len:n=xs.length
 cap:n<=c
 small:n<=10000
 src:w.cell? ⟨S,0,none⟩=some (.slice (some ⟨b,0,none⟩) n c)
 at1:w.cell? ⟨S,1,none⟩=some (.int .i64 pos)
 fz:∀ j,w.frozen? ⟨S,j,none⟩=false
 inH:S<w.heap.size
 row:∀ i,i<xs.length->w.cell? ⟨b,i,none⟩=some (.int .u8 (xs.getD i 0))
 tab:Tab w
theorem Env.below {w w':World}{S b n c d:Nat}{e:List Int}(h:Env w S b n c d e)(a:Below w.heap.size w w'):Env w' S b n c d e:=
 ⟨h.bytes,h.len,h.cap,h.small,(a.cell (p:=⟨S,0,none⟩) h.inH).trans h.src,(a.cell (p:=⟨S,1,none⟩) h.inH).trans h.at1,fun j=>(a.frozen (p:=⟨S,j,none⟩) h.inH).trans (h.fz j),Nat.lt_of_lt_of_le h.inH a.size,
  fun i f=>cell_later a (h.row i f),h.tab.below a⟩
theorem Env.alloc {w:World}{S b n c a:Nat}{d:List Int}(h:Env w S b n c a d)(o:Obj):Env (w.alloc o) S b n c a d:=h.below ((Below.refl _ _).alloc (Nat.le_refl _) o)
theorem Env.drew {w:World}{S b n c a:Nat}{d:List Int}(h:Env w S b n c a d):Env w.drew S b n c a d:=h.below (Below.refl _ _).drew
theorem Env.moved {w l:World}{S b n c g q:Nat}{m:List Int}(h:Env w S b n c g m)(M:Moved w l S q):Env l S b n c q m:=by
 have f:S≠7:=fun e=>by have:=h.tab 0 (by decide);have k:=h.src;rw[e] at k;rw[k] at this;cases this
 refine⟨h.bytes,h.len,h.cap,h.small,(M.other 0 (by decide)).trans h.src,M.at1,fun j=>(M.frozen j).trans (h.fz j),Nat.lt_of_lt_of_le h.inH M.grown.size,fun i a=>?_,fun i a=>?_⟩
 ·have d:b≠S:=fun e=>by have:=h.row 0 (by omega);rw[e,h.src] at this;cases this
  rw[World.cell?_of_block (w:=w) (M.grown.block b (World.block_lt_of_cell? _ _ (h.row i a)) (by simpa using d))];exact h.row i a
 ·rw[World.cell?_of_block (w:=w) (M.grown.block 7 (World.block_lt_of_cell? _ _ (h.tab i a)) (by simpa using Ne.symm f))]
  exact h.tab i a
def OrFault (w:World)(pos:Nat)(r:Option (Int×Nat))(e:Ending)(w':World):Prop:=
 match r with
 | some (v,q)=>e = .returned (.tuple #[.int .i64 v,.int .i64 q])/\w'=w
 | none=>Faults 2 pos e/\Below w.heap.size w w'
def hexI (xs:List Int)(at_:Nat):Option (Int×Nat):=
 let r:=digsB xs 16 xs.length at_ 0
 if r.2=at_∨at_+2<r.2∨byteI xs r.2≠92 then none else some (r.1,r.2+1)
theorem digs_le (b:List Int)(a:Int):∀ (f i:Nat) (v:Int),(digsB b a f i v).2<=i+f
 | 0,i,v=>Nat.le_refl _
 | f+1,i,v=>by
   unfold digsB
   split
   ·have:=digs_le b a f (i+1) (min (v * a+digI (byteI b i)) 1000000000000001);omega
   ·simp
theorem digs_rng (c:List Int)(a:Int)(b:0<=a):∀ (f i:Nat) (v:Int),0<=v->v<=1000000000000001->0<=(digsB c a f i v).1/\(digsB c a f i v).1<=1000000000000001
 | 0,i,v,h0,h1=>⟨h0,h1⟩
 | f+1,i,v,h0,h1=>by
   unfold digsB
   split
   ·refine digs_rng c a b f (i+1) _ ?_ ?_
    ·have:=digI_rng (byteI c i);have:=Int.mul_nonneg h0 b;omega
    ·omega
   ·exact⟨h0,h1⟩
theorem hexEscape_any (S b n c h:Nat)(f:List Int)(a:Nat)(w:World)(E:Env w S b n c h f)(ha:a<=10010) :
  Calls Tryz.prog 397 #[.pointer (some ⟨S,0,none⟩),.int .i64 a] w fun e l=>OrFault w h (hexI f a) e l:=by
 have d:=hid E;have k:=digs_le f 16 f.length a 0;have i:=digs_rng f 16 (by decide) f.length a 0 (by decide) (by decide);have C:=E.small;have B:=E.len
 obtain⟨v,q,y⟩:∃ v q,digsB f 16 f.length a 0=(v,q):=⟨_,_,rfl⟩
 have t:=hid y;rw[y] at k i
 have K:q<=20010:=by simp at k;omega
 have I:0<=v:=i.1;have J:v<=1000000000000001:=i.2
 have s:Hid (hexI f a=if q=a∨a+2<q∨byteI f q≠92 then none else some (v,q+1)):=by unfold hexI;rw[y];rfl
 have H:=byteI_rng E.bytes q
 obtain⟨x,A⟩:∃ x,x=byteI f q:=⟨_,rfl⟩
 rw[<-A] at H;have u:=hid A.symm;clear E y k i C B A
 by_cases m:q=a
 ·have j:Hid (hexI f a=none):=by show _=_;rw[s.o,if_pos (.inl m)]
  have p:((q:Int) == (a:Int))=true:=by simp;omega
  clear m
  go_enter Tryz.func397,Tryz.ntmps397
  go_wp2_with (first | (go_at_call 393;refine(digits_any S b n c f a 16 _ d.o.bytes d.o.len (by have:=d.o.small;omega) (by omega) (by decide) (by decide) d.o.src d.o.row).mono ?_;rintro e l ⟨rfl,rfl⟩;rw[t.o]) | (go_at_call 335;refine(fault_any S h 2 _ d.o.at1 d.o.inH).mono ?_;rintro e G ⟨rfl,g⟩));refine⟨rfl,?_⟩
  unfold OrFault
  rw[j.o];exact⟨rfl,g⟩
 by_cases z:a+2<q
 ·have j:Hid (hexI f a=none):=by show _=_;rw[s.o,if_pos (.inr (.inl z))]
  have p:((q:Int) == (a:Int))=false:=by simp;omega
  have D:decide ((a:Int)+2<(q:Int))=true:=by simp;omega
  clear m z
  go_enter Tryz.func397,Tryz.ntmps397
  go_wp2_with (first | (go_at_call 393;refine(digits_any S b n c f a 16 _ d.o.bytes d.o.len (by have:=d.o.small;omega) (by omega) (by decide) (by decide) d.o.src d.o.row).mono ?_;rintro e l ⟨rfl,rfl⟩;rw[t.o]) | (go_at_call 335;refine(fault_any S h 2 _ d.o.at1 d.o.inH).mono ?_;rintro e G ⟨rfl,g⟩));refine⟨rfl,?_⟩
  unfold OrFault
  rw[j.o];exact⟨rfl,g⟩
 have p:((q:Int) == (a:Int))=false:=by simp;omega
 have D:decide ((a:Int)+2<(q:Int))=false:=by simp;omega
 by_cases r:x=92
 ·have j:Hid (hexI f a=some (v,q+1)):=by show _=_;rw[s.o,if_neg (by rw[u.o];omega)]
  have F:(x != 92)=false:=by simp[r]
  subst r;clear m z
  go_enter Tryz.func397,Tryz.ntmps397
  go_wp2_with (first | (go_at_call 393;refine(digits_any S b n c f a 16 _ d.o.bytes d.o.len (by have:=d.o.small;omega) (by omega) (by decide) (by decide) d.o.src d.o.row).mono ?_;rintro e l ⟨rfl,rfl⟩;rw[t.o]) | (go_at_call 324;refine(byteAt_any S b n c f q _ d.o.bytes d.o.len (by have:=d.o.small;omega) (by omega) d.o.src d.o.row).mono ?_;rintro e l ⟨rfl,rfl⟩;rw[u.o]))
  go_ret2
  unfold OrFault
  rw[j.o];exact⟨by simp,rfl⟩
 ·have j:Hid (hexI f a=none):=by show _=_;rw[s.o,if_pos (.inr (.inr (by rw[u.o];exact r)))]
  have F:(x != 92)=true:=by simp[r]
  clear m z r
  go_enter Tryz.func397,Tryz.ntmps397
  go_wp2_with (first | (go_at_call 393;refine(digits_any S b n c f a 16 _ d.o.bytes d.o.len (by have:=d.o.small;omega) (by omega) (by decide) (by decide) d.o.src d.o.row).mono ?_;rintro e l ⟨rfl,rfl⟩;rw[t.o]) | (go_at_call 324;refine(byteAt_any S b n c f q _ d.o.bytes d.o.len (by have:=d.o.small;omega) (by omega) d.o.src d.o.row).mono ?_;rintro e l ⟨rfl,rfl⟩;rw[u.o]) | (go_at_call 335;refine(fault_any S h 2 _ d.o.at1 d.o.inH).mono ?_;rintro e G ⟨rfl,g⟩));refine⟨rfl,?_⟩
  unfold OrFault
  rw[j.o];exact⟨rfl,g⟩
def escF (x:Int)(xs:List Int)(at_:Nat):Option (Int×Nat):=
 if x=92 then some (92,at_+2) else if x=39 then some (39,at_+2) else if x=34 then some (34,at_+2) else if x=110 then some (10,at_+2) else if x=116 then some (9,at_+2)
 else if x=114 then some (13,at_+2) else if x=120 then hexI xs (at_+2) else none
def escI (xs:List Int)(at_:Nat):Option (Int×Nat):=escF (byteI xs (at_+1)) xs at_
theorem orFault_of {w c:World}{a:Nat}{e:Ending}{r b:Option (Int×Nat)}(h:OrFault w a r e c)(d:b=r):OrFault w a b e c:=d▸h
theorem escape_any (S b n c m:Nat)(f:List Int)(a:Nat)(w:World)(E:Env w S b n c m f)(ha:a<=10005) :
  Calls Tryz.prog 372 #[.pointer (some ⟨S,0,none⟩),.int .i64 a] w fun e k=>OrFault w m (escI f a) e k:=by
 have d:=hid E;have L:=byteI_rng E.bytes (a+1)
 obtain⟨x,F⟩:∃ x,x=byteI f (a+1):=⟨_,rfl⟩
 rw[<-F] at L
 have h:Hid (escI f a=escF x f a):=by show _=_;rw[F];rfl
 have l:=hid F.symm;clear E F
 by_cases i:x=92
 ·have g:Hid (escI f a=some (92,a+2)):=by show _=_;rw[h.o];unfold escF;simp[i]
  subst i;clear h
  go_enter Tryz.func372,Tryz.ntmps372
  go_wp2_with (go_at_call 324;refine(byteAt_any S b n c f (a+1) _ d.o.bytes d.o.len (by have:=d.o.small;omega) (by omega) d.o.src d.o.row).mono ?_;rintro e k ⟨rfl,rfl⟩;rw[l.o])
  go_ret2
  refine orFault_of ?_ g.o;exact⟨by simp,rfl⟩
 have z:(x == 92)=false:=by simpa using i
 by_cases j:x=39
 ·have g:Hid (escI f a=some (39,a+2)):=by show _=_;rw[h.o];unfold escF;simp[j]
  subst j;clear h i z
  go_enter Tryz.func372,Tryz.ntmps372
  go_wp2_with (go_at_call 324;refine(byteAt_any S b n c f (a+1) _ d.o.bytes d.o.len (by have:=d.o.small;omega) (by omega) d.o.src d.o.row).mono ?_;rintro e k ⟨rfl,rfl⟩;rw[l.o])
  go_ret2
  refine orFault_of ?_ g.o;exact⟨by simp,rfl⟩
 have B:(x == 39)=false:=by simpa using j
 by_cases p:x=34
 ·have g:Hid (escI f a=some (34,a+2)):=by show _=_;rw[h.o];unfold escF;simp[p]
  subst p;clear h i z j B
  go_enter Tryz.func372,Tryz.ntmps372
  go_wp2_with (go_at_call 324;refine(byteAt_any S b n c f (a+1) _ d.o.bytes d.o.len (by have:=d.o.small;omega) (by omega) d.o.src d.o.row).mono ?_;rintro e k ⟨rfl,rfl⟩;rw[l.o])
  go_ret2
  refine orFault_of ?_ g.o;exact⟨by simp,rfl⟩
 have G:(x == 34)=false:=by simpa using p
 by_cases s:x=110
 ·have g:Hid (escI f a=some (10,a+2)):=by show _=_;rw[h.o];unfold escF;simp[s]
  subst s;clear h i z j B p G
  go_enter Tryz.func372,Tryz.ntmps372
  go_wp2_with (go_at_call 324;refine(byteAt_any S b n c f (a+1) _ d.o.bytes d.o.len (by have:=d.o.small;omega) (by omega) d.o.src d.o.row).mono ?_;rintro e k ⟨rfl,rfl⟩;rw[l.o])
  go_ret2
  refine orFault_of ?_ g.o;exact⟨by simp,rfl⟩
 have I:(x == 110)=false:=by simpa using s
 by_cases u:x=116
 ·have g:Hid (escI f a=some (9,a+2)):=by show _=_;rw[h.o];unfold escF;simp[u]
  subst u;clear h i z j B p G s I
  go_enter Tryz.func372,Tryz.ntmps372
  go_wp2_with (go_at_call 324;refine(byteAt_any S b n c f (a+1) _ d.o.bytes d.o.len (by have:=d.o.small;omega) (by omega) d.o.src d.o.row).mono ?_;rintro e k ⟨rfl,rfl⟩;rw[l.o])
  go_ret2
  refine orFault_of ?_ g.o;exact⟨by simp,rfl⟩
 have J:(x == 116)=false:=by simpa using u
 by_cases A:x=114
 ·have g:Hid (escI f a=some (13,a+2)):=by show _=_;rw[h.o];unfold escF;simp[A]
  subst A;clear h i z j B p G s I u J
  go_enter Tryz.func372,Tryz.ntmps372
  go_wp2_with (go_at_call 324;refine(byteAt_any S b n c f (a+1) _ d.o.bytes d.o.len (by have:=d.o.small;omega) (by omega) d.o.src d.o.row).mono ?_;rintro e k ⟨rfl,rfl⟩;rw[l.o])
  go_ret2
  refine orFault_of ?_ g.o;exact⟨by simp,rfl⟩
 have M:(x == 114)=false:=by simpa using A
 by_cases C:x=120
 ·have g:Hid (escI f a=hexI f (a+2)):=by show _=_;rw[h.o];unfold escF;simp[C]
  subst C;clear h i z j B p G s I u J A M;have D:=hexEscape_any S b n c m f (a+2) w d.o (by omega)
  cases y:hexI f (a+2) with
  | none=>
    rw[y] at D;have H:=hid (g.o.trans y);clear y g
    go_enter Tryz.func372,Tryz.ntmps372
    go_wp2_with (first | (go_at_call 324;refine(byteAt_any S b n c f (a+1) _ d.o.bytes d.o.len (by have:=d.o.small;omega) (by omega) d.o.src d.o.row).mono ?_;rintro e k ⟨rfl,rfl⟩;rw[l.o]) | (go_at_call 397;refine D.mono ?_;rintro e K ⟨rfl,t⟩));refine⟨rfl,orFault_of ?_ H.o⟩;exact⟨rfl,t⟩
  | some r=>
    obtain⟨v,q⟩:=r;rw[y] at D;have H:=hid (g.o.trans y);clear y g
    go_enter Tryz.func372,Tryz.ntmps372
    go_wp2_with (first | (go_at_call 324;refine(byteAt_any S b n c f (a+1) _ d.o.bytes d.o.len (by have:=d.o.small;omega) (by omega) d.o.src d.o.row).mono ?_;rintro e k ⟨rfl,rfl⟩;rw[l.o]) | (go_at_call 397;refine D.mono ?_;rintro e K ⟨rfl,rfl⟩))
    go_ret2
    refine orFault_of ?_ H.o;exact⟨rfl,rfl⟩
 have N:(x == 120)=false:=by simpa using C
 have g:Hid (escI f a=none):=by show _=_;rw[h.o];unfold escF;rw[if_neg i,if_neg j,if_neg p,if_neg s,if_neg u,if_neg A,if_neg C]
 clear h i j p s u A C
 go_enter Tryz.func372,Tryz.ntmps372
 go_wp2_with (first | (go_at_call 324;refine(byteAt_any S b n c f (a+1) _ d.o.bytes d.o.len (by have:=d.o.small;omega) (by omega) d.o.src d.o.row).mono ?_;rintro e k ⟨rfl,rfl⟩;rw[l.o]) | (go_at_call 335;refine(fault_any S m 2 _ d.o.at1 d.o.inH).mono ?_;rintro e K ⟨rfl,t⟩));refine⟨rfl,orFault_of ?_ g.o⟩;exact⟨rfl,t⟩
def chrF (x y:Int)(xs:List Int)(at_:Nat):Option (Int×Nat):=
 if x=39/\y=39 then some (39,at_+2) else if x=92 then escI xs at_ else if x=39∨¬ (32<=x/\x≠127) then none else some (x,at_+1)
def chrI (xs:List Int)(at_:Nat):Option (Int×Nat):=chrF (byteI xs at_) (byteI xs (at_+1)) xs at_
theorem character_any (S b n c k:Nat)(g:List Int)(a:Nat)(w:World)(E:Env w S b n c k g)(ha:a<=10004) :
  Calls Tryz.prog 394 #[.pointer (some ⟨S,0,none⟩),.int .i64 a] w fun e l=>OrFault w k (chrI g a) e l:=by
 have d:=hid E;have z:=byteI_rng E.bytes a;have J:=byteI_rng E.bytes (a+1)
 obtain⟨x,D⟩:∃ x,x=byteI g a:=⟨_,rfl⟩
 obtain⟨y,F⟩:∃ y,y=byteI g (a+1):=⟨_,rfl⟩
 have m:Hid (chrI g a=chrF x y g a):=by show _=_;rw[D,F];rfl
 rw[<-D] at z;rw[<-F] at J;have t:=hid D.symm;have L:=hid F.symm;clear E D F;have f:True:=trivial;have h:True:=trivial
 by_cases p:x=39
 ·by_cases G:y=39
  ·have i:Hid (chrI g a=some (39,a+2)):=by show _=_;rw[m.o];unfold chrF;rw[if_pos ⟨p,G⟩]
   subst p;subst G;clear m
   go_enter Tryz.func394,Tryz.ntmps394
   go_wp2_with (first | (go_at_call 324;have s:=f;refine(byteAt_any S b n c g a _ d.o.bytes d.o.len (by have:=d.o.small;omega) (by omega) d.o.src d.o.row).mono ?_;rintro e l ⟨rfl,rfl⟩;rw[t.o];clear f) | (go_at_call 324;have s:=h;refine(byteAt_any S b n c g (a+1) _ d.o.bytes d.o.len (by have:=d.o.small;omega) (by omega) d.o.src d.o.row).mono ?_;rintro e l ⟨rfl,rfl⟩;rw[L.o];clear h))
   go_ret2
   refine orFault_of ?_ i.o;exact⟨by simp,rfl⟩
  ·have i:Hid (chrI g a=none):=by show _=_;rw[m.o];unfold chrF;rw[if_neg (by omega),if_neg (by omega),if_pos (.inl p)]
   have N:(y == 39)=false:=by simpa using G
   subst p;clear m G
   go_enter Tryz.func394,Tryz.ntmps394
   go_wp2_with (first | (go_at_call 324;have s:=f;refine(byteAt_any S b n c g a _ d.o.bytes d.o.len (by have:=d.o.small;omega) (by omega) d.o.src d.o.row).mono ?_;rintro e l ⟨rfl,rfl⟩;rw[t.o];clear f) | (go_at_call 324;have s:=h;refine(byteAt_any S b n c g (a+1) _ d.o.bytes d.o.len (by have:=d.o.small;omega) (by omega) d.o.src d.o.row).mono ?_;rintro e l ⟨rfl,rfl⟩;rw[L.o];clear h) | (go_at_call 335;refine(fault_any S k 2 _ d.o.at1 d.o.inH).mono ?_;rintro e K ⟨rfl,j⟩));refine⟨rfl,orFault_of ?_ i.o⟩;exact⟨rfl,j⟩
 have M:(x == 39)=false:=by simpa using p
 by_cases A:x=92
 ·have i:Hid (chrI g a=escI g a):=by show _=_;rw[m.o];unfold chrF;rw[if_neg (by omega),if_pos A]
  have C:=escape_any S b n c k g a w d.o (by omega);subst A;clear m p M
  cases u:escI g a with
  | none=>
    rw[u] at C;have H:=hid (i.o.trans u);clear u i
    go_enter Tryz.func394,Tryz.ntmps394
    go_wp2_with (first | (go_at_call 324;have s:=f;refine(byteAt_any S b n c g a _ d.o.bytes d.o.len (by have:=d.o.small;omega) (by omega) d.o.src d.o.row).mono ?_;rintro e l ⟨rfl,rfl⟩;rw[t.o];clear f) | (go_at_call 372;refine C.mono ?_;rintro e K ⟨rfl,j⟩));refine⟨rfl,orFault_of ?_ H.o⟩;exact⟨rfl,j⟩
  | some r=>
    obtain⟨v,q⟩:=r;rw[u] at C;have H:=hid (i.o.trans u);clear u i
    go_enter Tryz.func394,Tryz.ntmps394
    go_wp2_with (first | (go_at_call 324;have s:=f;refine(byteAt_any S b n c g a _ d.o.bytes d.o.len (by have:=d.o.small;omega) (by omega) d.o.src d.o.row).mono ?_;rintro e l ⟨rfl,rfl⟩;rw[t.o];clear f) | (go_at_call 372;refine C.mono ?_;rintro e K ⟨rfl,rfl⟩))
    go_ret2
    refine orFault_of ?_ H.o;exact⟨rfl,rfl⟩
 have O:(x == 92)=false:=by simpa using A
 by_cases B:32<=x/\x≠127
 ·have i:Hid (chrI g a=some (x,a+1)):=by show _=_;rw[m.o];unfold chrF;rw[if_neg (by omega),if_neg (by omega),if_neg (by omega)]
  have I:Hid (decide (32<=x/\x≠127)=true):=by show _=_;rw[decide_eq_true_iff];exact B
  clear m p A B
  go_enter Tryz.func394,Tryz.ntmps394
  go_wp2_with (first | (go_at_call 324;have s:=f;refine(byteAt_any S b n c g a _ d.o.bytes d.o.len (by have:=d.o.small;omega) (by omega) d.o.src d.o.row).mono ?_;rintro e l ⟨rfl,rfl⟩;rw[t.o];clear f) | (go_at_call 373;go_must (refine(standsFor_any x _ z.1 z.2).mono ?_;rintro e l ⟨rfl,rfl⟩;rw[I.o])))
  go_ret2
  refine orFault_of ?_ i.o;exact⟨by simp,rfl⟩
 ·have i:Hid (chrI g a=none):=by show _=_;rw[m.o];unfold chrF;rw[if_neg (by omega),if_neg (by omega),if_pos (.inr B)]
  have I:Hid (decide (32<=x/\x≠127)=false):=by show _=_;rw[decide_eq_false_iff_not];exact B
  clear m p A B
  go_enter Tryz.func394,Tryz.ntmps394
  go_wp2_with (first | (go_at_call 324;have s:=f;refine(byteAt_any S b n c g a _ d.o.bytes d.o.len (by have:=d.o.small;omega) (by omega) d.o.src d.o.row).mono ?_;rintro e l ⟨rfl,rfl⟩;rw[t.o];clear f) | (go_at_call 373;go_must (refine(standsFor_any x _ z.1 z.2).mono ?_;rintro e l ⟨rfl,rfl⟩;rw[I.o])) | (go_at_call 335;refine(fault_any S k 2 _ d.o.at1 d.o.inH).mono ?_;rintro e K ⟨rfl,j⟩));refine⟨rfl,orFault_of ?_ i.o⟩;exact⟨rfl,j⟩
def numF (x0 mk z:Int)(xs:List Int)(pos:Nat):Option (Int×Nat):=
 if x0≠48 then some (digsB xs 10 xs.length pos 0) else if mk=39 then chrI xs (pos+2) else if digI z<baseI mk then some (digsB xs (baseI mk) xs.length (pos+2) 0) else some (digsB xs 10 xs.length pos 0)
def numI (xs:List Int)(pos:Nat):Option (Int×Nat):=numF (byteI xs pos) (byteI xs (pos+1)) (byteI xs (pos+2)) xs pos
theorem baseI_rng (m:Int):0<=baseI m/\baseI m<=16:=by
 unfold baseI
 repeat' split
 all_goals omega
theorem numeral_any (S b n c a:Nat)(h:List Int)(w:World)(E:Env w S b n c a h)(hp:a<=10000) :
  Calls Tryz.prog 371 #[.pointer (some ⟨S,0,none⟩)] w fun e j=>OrFault w a (numI h a) e j:=by
 have f:=hid E;have h1:=E.at1;have T:=byteI_rng E.bytes a;have l:=byteI_rng E.bytes (a+1);have m:=byteI_rng E.bytes (a+2)
 obtain⟨x,M⟩:∃ x,x=byteI h a:=⟨_,rfl⟩
 obtain⟨y,N⟩:∃ y,y=byteI h (a+1):=⟨_,rfl⟩
 obtain⟨z,O⟩:∃ z,z=byteI h (a+2):=⟨_,rfl⟩
 have t:Hid (numI h a=numF x y z h a):=by show _=_;rw[M,N,O];rfl
 rw[<-M] at T;rw[<-N] at l;rw[<-O] at m;have H:=hid M.symm;have L:=hid N.symm;have W:=hid O.symm
 obtain⟨v,q,X⟩:∃ v q,digsB h 10 h.length a 0=(v,q):=⟨_,_,rfl⟩
 have K:=hid X;clear E M N O X;have g:True:=trivial;have i:True:=trivial;have k:True:=trivial
 by_cases B:x=48
 ·by_cases C:y=39
  ·have p:Hid (numI h a=chrI h (a+2)):=by show _=_;rw[t.o];unfold numF;rw[if_neg (by omega),if_pos C]
   have J:=character_any S b n c a h (a+2) w f.o (by omega)
   have s0:(x != 48)=false:=by simp[B]
   subst B;subst C;clear t
   cases G:chrI h (a+2) with
   | none=>
     rw[G] at J;have P:=hid (p.o.trans G);clear G p
     go_enter Tryz.func371,Tryz.ntmps371
     go_wp2_with (first | (go_at_call 324;have s:=g;refine(byteAt_any S b n c h a _ f.o.bytes f.o.len (by have:=f.o.small;omega) (by omega) f.o.src f.o.row).mono ?_;rintro e j ⟨rfl,rfl⟩;rw[H.o];clear g) | (go_at_call 324;have s:=i;refine(byteAt_any S b n c h (a+1) _ f.o.bytes f.o.len (by have:=f.o.small;omega) (by omega) f.o.src f.o.row).mono ?_;rintro e j ⟨rfl,rfl⟩;rw[L.o];clear i) | (go_at_call 394;refine J.mono ?_;rintro e w1 ⟨rfl,R⟩));refine⟨rfl,orFault_of ?_ P.o⟩;exact⟨rfl,R⟩
   | some r=>
     obtain⟨v',q'⟩:=r;rw[G] at J;have P:=hid (p.o.trans G);clear G p
     go_enter Tryz.func371,Tryz.ntmps371
     go_wp2_with (first | (go_at_call 324;have s:=g;refine(byteAt_any S b n c h a _ f.o.bytes f.o.len (by have:=f.o.small;omega) (by omega) f.o.src f.o.row).mono ?_;rintro e j ⟨rfl,rfl⟩;rw[H.o];clear g) | (go_at_call 324;have s:=i;refine(byteAt_any S b n c h (a+1) _ f.o.bytes f.o.len (by have:=f.o.small;omega) (by omega) f.o.src f.o.row).mono ?_;rintro e j ⟨rfl,rfl⟩;rw[L.o];clear i) | (go_at_call 394;refine J.mono ?_;rintro e w1 ⟨rfl,rfl⟩))
     go_ret2
     refine orFault_of ?_ P.o;exact⟨rfl,rfl⟩
  have s1:(y == 39)=false:=by simpa using C
  have A:=baseI_rng y
  obtain⟨I,D⟩:∃ I,I=baseI y:=⟨_,rfl⟩
  obtain⟨d,F⟩:∃ d,d=digI z:=⟨_,rfl⟩
  have Z:=digI_rng z;rw[<-D] at A;rw[<-F] at Z;have U:=hid D.symm;have V:=hid F.symm
  by_cases Y:d<I
  ·obtain⟨v2,q2,u⟩:∃ v q,digsB h I h.length (a+2) 0=(v,q):=⟨_,_,rfl⟩
   have Q:=hid u
   have p:Hid (numI h a=some (v2,q2)):=by show _=_;rw[t.o];unfold numF;rw[if_neg (by omega),if_neg C,<-D,<-F,if_pos Y,u]
   subst B;clear t C D F u
   go_enter Tryz.func371,Tryz.ntmps371
   go_wp2_with (first | (go_at_call 324;have s:=g;refine(byteAt_any S b n c h a _ f.o.bytes f.o.len (by have:=f.o.small;omega) (by omega) f.o.src f.o.row).mono ?_;rintro e j ⟨rfl,rfl⟩;rw[H.o];clear g) | (go_at_call 324;have s:=i;refine(byteAt_any S b n c h (a+1) _ f.o.bytes f.o.len (by have:=f.o.small;omega) (by omega) f.o.src f.o.row).mono ?_;rintro e j ⟨rfl,rfl⟩;rw[L.o];clear i) | (go_at_call 324;have s:=k;refine(byteAt_any S b n c h (a+2) _ f.o.bytes f.o.len (by have:=f.o.small;omega) (by omega) f.o.src f.o.row).mono ?_;rintro e j ⟨rfl,rfl⟩;rw[W.o];clear k) | (go_at_call 395;refine(baseOf_any _ _ l.1 l.2).mono ?_;rintro e j ⟨rfl,rfl⟩;rw[U.o]) | (go_at_call 396;refine(digitValue_any _ _ m.1 m.2).mono ?_;rintro e j ⟨rfl,rfl⟩;rw[V.o]) | (go_at_call 393;refine(digits_any S b n c h (a+2) I _ f.o.bytes f.o.len (by have:=f.o.small;omega) (by omega) A.1 A.2 f.o.src f.o.row).mono ?_;rintro e j ⟨rfl,rfl⟩;rw[Q.o]))
   go_ret2
   refine orFault_of ?_ p.o;exact⟨rfl,rfl⟩
  ·have p:Hid (numI h a=some (v,q)):=by show _=_;rw[t.o];unfold numF;rw[if_neg (by omega),if_neg C,<-D,<-F,if_neg Y,K.o]
   subst B;clear t C D F
   go_enter Tryz.func371,Tryz.ntmps371
   go_wp2_with (first | (go_at_call 324;have s:=g;refine(byteAt_any S b n c h a _ f.o.bytes f.o.len (by have:=f.o.small;omega) (by omega) f.o.src f.o.row).mono ?_;rintro e j ⟨rfl,rfl⟩;rw[H.o];clear g) | (go_at_call 324;have s:=i;refine(byteAt_any S b n c h (a+1) _ f.o.bytes f.o.len (by have:=f.o.small;omega) (by omega) f.o.src f.o.row).mono ?_;rintro e j ⟨rfl,rfl⟩;rw[L.o];clear i) | (go_at_call 324;have s:=k;refine(byteAt_any S b n c h (a+2) _ f.o.bytes f.o.len (by have:=f.o.small;omega) (by omega) f.o.src f.o.row).mono ?_;rintro e j ⟨rfl,rfl⟩;rw[W.o];clear k) | (go_at_call 395;refine(baseOf_any _ _ l.1 l.2).mono ?_;rintro e j ⟨rfl,rfl⟩;rw[U.o]) | (go_at_call 396;refine(digitValue_any _ _ m.1 m.2).mono ?_;rintro e j ⟨rfl,rfl⟩;rw[V.o]) | (go_at_call 393;refine(digits_any S b n c h a 10 _ f.o.bytes f.o.len (by have:=f.o.small;omega) (by omega) (by decide) (by decide) f.o.src f.o.row).mono ?_;rintro e j ⟨rfl,rfl⟩;rw[K.o]))
   go_ret2
   refine orFault_of ?_ p.o;exact⟨rfl,rfl⟩
 ·have p:Hid (numI h a=some (v,q)):=by show _=_;rw[t.o];unfold numF;rw[if_pos B,K.o]
  have s0:(x != 48)=true:=by simp[B]
  clear t B
  go_enter Tryz.func371,Tryz.ntmps371
  go_wp2_with (first | (go_at_call 324;have s:=g;refine(byteAt_any S b n c h a _ f.o.bytes f.o.len (by have:=f.o.small;omega) (by omega) f.o.src f.o.row).mono ?_;rintro e j ⟨rfl,rfl⟩;rw[H.o];clear g) | (go_at_call 393;refine(digits_any S b n c h a 10 _ f.o.bytes f.o.len (by have:=f.o.small;omega) (by omega) (by decide) (by decide) f.o.src f.o.row).mono ?_;rintro e j ⟨rfl,rfl⟩;rw[K.o]))
  go_ret2
  refine orFault_of ?_ p.o;exact⟨rfl,rfl⟩
abbrev TokR:=Except Int (Int×Nat×List Int×Int)
def TokOut (w:World)(S pos:Nat)(r:TokR)(e:Ending)(w':World):Prop:=
 match r with
 | .ok (kind,len,ys,v)=>∃ p n c,e = .returned (tokV kind pos len p n c v)/\OwnS w' w.heap.size p n c ys/\Moved w w' S (pos+len)
 | .error code=>Faults code pos e/\w.grownBy w' (some S)
theorem tokOut_of {w c:World}{S a:Nat}{e:Ending}{r b:TokR}(h:TokOut w S a r e c)(d:b=r):TokOut w S a b e c:=d▸h
theorem digs_ge (xs:List Int)(a:Int):∀ (f i:Nat) (v:Int),i<=(digsB xs a f i v).2
 | 0,i,v=>Nat.le_refl _
 | f+1,i,v=>by
   unfold digsB
   split
   ·have:=digs_ge xs a f (i+1) (min (v * a+digI (byteI xs i)) 1000000000000001);omega
   ·simp
theorem hexI_rng {b:List Int}{a q:Nat}{v:Int}(h:hexI b a=some (v,q)):a<=q/\q<=a+b.length+1/\0<=v/\v<=1000000000000001:=by
 have c:=digs_ge b 16 b.length a 0;have d:=digs_le b 16 b.length a 0;have e:=digs_rng b 16 (by decide) b.length a 0 (by decide) (by decide)
 unfold hexI at h
 simp only at h
 split at h
 ·cases h
 ·simp only[Option.some.injEq,Prod.mk.injEq] at h
  omega
theorem escI_rng {b:List Int}{a q:Nat}{v:Int}(h:escI b a=some (v,q)):a+2<=q/\q<=a+b.length+3/\0<=v/\v<=1000000000000001:=by
 unfold escI escF at h
 repeat' (split at h)
 all_goals first | (simp only[Option.some.injEq,Prod.mk.injEq] at h;omega) | (have:=hexI_rng h;omega) | cases h
theorem chrI_rng {xs:List Int}{a q:Nat}{v:Int}(b:Bytes xs)(h:chrI xs a=some (v,q)):a<=q/\q<=a+xs.length+3/\0<=v/\v<=1000000000000001:=by
 have c:=byteI_rng b a
 unfold chrI chrF at h
 repeat' (split at h)
 all_goals first | (simp only[Option.some.injEq,Prod.mk.injEq] at h;omega) | (have:=escI_rng h;omega) | cases h
theorem numI_rng {c:List Int}{a q:Nat}{v:Int}(l:Bytes c)(h:numI c a=some (v,q)):a<=q/\q<=a+c.length+5/\0<=v/\v<=1000000000000001:=by
 unfold numI numF at h
 have f:∀ d:Int,0<=d->∀ b:Nat,a<=b->b<=a+2->some (digsB c d c.length b 0)=some (v,q)->a<=q/\q<=a+c.length+5/\0<=v/\v<=1000000000000001:=fun d k b ha m e=>by
  have g:=digs_ge c d c.length b 0;have i:=digs_le c d c.length b 0;have j:=digs_rng c d k c.length b 0 (by decide) (by decide);simp only[Option.some.injEq] at e;rw[e] at g i j;simp only at g i j
  omega
 repeat' (split at h)
 all_goals first | exact f 10 (by decide) a (Nat.le_refl _) (by omega) h | exact f _ (baseI_rng _).1 (a+2) (by omega) (Nat.le_refl _) h | (have:=chrI_rng l h;omega)
def numR (xs:List Int)(pos:Nat):TokR:=
 match numI xs pos with
 | none=>.error 2
 | some (v,q)=>if isOfB (byteI xs q) 7=true then .error 2 else if 1000000000000000<v then .error 3 else .ok (3,q-pos,[],v)
theorem five (w:World)(g:Nat)(a:w.heap[g]?=some tokO):w.cell? ⟨g,0,none⟩=some (.int .i64 0)/\w.cell? ⟨g,1,none⟩=some (.int .i64 0)/\w.cell? ⟨g,2,none⟩=some (.int .i64 0)/\w.cell? ⟨g,3,none⟩=some (.slice none 0 0)/\w.cell? ⟨g,4,none⟩=some (.int .i64 0):=
 ⟨cell_of_row w g 0 _ _ (0,0) a,cell_of_row w g 1 _ _ (0,0) a,cell_of_row w g 2 _ _ (0,0) a,cell_of_row w g 3 _ _ (0,0) a,cell_of_row w g 4 _ _ (0,0) a⟩
theorem fiveF (w:World)(g:Nat)(a:w.heap[g]?=some tokO):w.frozen? ⟨g,0,none⟩=false/\w.frozen? ⟨g,1,none⟩=false/\w.frozen? ⟨g,2,none⟩=false/\w.frozen? ⟨g,3,none⟩=false/\w.frozen? ⟨g,4,none⟩=false:=
 ⟨frozen_of_row w g 0 _ _ a,frozen_of_row w g 1 _ _ a,frozen_of_row w g 2 _ _ a,frozen_of_row w g 3 _ _ a,frozen_of_row w g 4 _ _ a⟩
theorem numberQ_any (S b n c a:Nat)(g:List Int)(w:World)(E:Env w S b n c a g)(P:a<=10000) :
  Calls Tryz.prog 329 #[.pointer (some ⟨S,0,none⟩)] w fun e t=>TokOut w S a (numR g a) e t:=by
 have d:Hid (Env (w.alloc tokO) S b n c a g):=E.alloc _;have z:Below w.heap.size w (w.alloc tokO):=(Below.refl _ _).alloc (Nat.le_refl _) _;have k:=hid z;have F:=hid E.inH;have R:=E.small;have O:=E.len;have u:=numeral_any S b n c a g (w.alloc tokO) (E.alloc _) P;have f:=E.bytes;clear E z
 cases s:numI g a with
 | none=>
   rw[s] at u
   have l:Hid (numR g a = .error 2):=by show _=_;unfold numR;rw[s]
   clear s
   go_enter Tryz.func329,Tryz.ntmps329
   go_wp2_with (go_at_call 371;refine u.mono ?_;rintro e j ⟨rfl,h⟩);refine⟨rfl,tokOut_of ?_ l.o⟩;exact⟨rfl,grown_of_below (Below.on k.o h) _⟩
 | some r=>
   obtain⟨v,q⟩:=r;rw[s] at u;obtain⟨T,Z,r3,r4⟩:=numI_rng f s;have Q:=byteI_rng f q
   obtain⟨x,B⟩:∃ x,x=byteI g q:=⟨_,rfl⟩
   rw[<-B] at Q;have C:=hid B.symm
   have y:Hid (numR g a=if isOfB x 7=true then .error 2 else if 1000000000000000<v then .error 3 else .ok (3,q-a,[],v)):=by show _=_;unfold numR;rw[s,B]
   clear s B
   cases D:isOfB x 7
   ·by_cases G:1000000000000000<v
    ·have l:Hid (numR g a = .error 3):=by show _=_;rw[y.o,if_neg (by rw[D];decide),if_pos G]
     clear y
     go_enter Tryz.func329,Tryz.ntmps329
     go_wp2_with (first | (go_at_call 371;refine u.mono ?_;rintro e j ⟨rfl,rfl⟩) | (go_at_call 324;refine(byteAt_any S b n c g q _ d.o.bytes d.o.len (by omega) (by omega) d.o.src d.o.row).mono ?_;rintro e t ⟨rfl,rfl⟩;rw[C.o]) | (go_at_call 325;refine(isOf_any _ _ _ (by omega) (by omega) d.o.tab).mono ?_;rintro e t ⟨rfl,rfl⟩) | (go_at_call 335;refine(fault_any S a 3 _ d.o.at1 d.o.inH).mono ?_;rintro e j ⟨rfl,h⟩));refine⟨rfl,tokOut_of ?_ l.o⟩;exact⟨rfl,grown_of_below (Below.on k.o h) _⟩
    ·have l:Hid (numR g a = .ok (3,q-a,[],v)):=by show _=_;rw[y.o,if_neg (by rw[D];decide),if_neg G]
     clear y
     go_enter Tryz.func329,Tryz.ntmps329
     go_wp2_with (first | (go_at_call 371;refine u.mono ?_;rintro e j ⟨rfl,rfl⟩) | (go_at_call 324;refine(byteAt_any S b n c g q _ d.o.bytes d.o.len (by omega) (by omega) d.o.src d.o.row).mono ?_;rintro e t ⟨rfl,rfl⟩;rw[C.o]) | (go_at_call 325;refine(isOf_any _ _ _ (by omega) (by omega) d.o.tab).mono ?_;rintro e t ⟨rfl,rfl⟩));refine(take_fits S a 3 q none 0 0 _ d.o.at1 (d.o.fz 1) d.o.inH (by decide) T (by omega)).mono ?_;rintro e j ⟨rfl,M⟩;have H:=hid M
     have A:w.heap.size<j.heap.size:=by have:=M.grown.size;simp only[World.size_alloc] at this;omega
     have i:j.heap[w.heap.size]?=some tokO:=(M.grown.block w.heap.size (by simp) (by have:=F.o;simp;omega)).trans (by show(w.heap.push tokO)[w.heap.size]?=_;simp);obtain⟨I,J,K,L,N⟩:=five j w.heap.size i;obtain⟨U,V,W,X,Y⟩:=fiveF j w.heap.size i;clear M i
     go_wp2
     have m:((q-a:Nat):Int)=(q:Int)-a:=by omega
     refine bodyPost_ret (v:=tokV 3 a ((q:Int)-a) none 0 0 v) (by simp[results,Tryz.results329,go_sem,I,J,K,L,N,A]) rfl (tokOut_of ?_ l.o);refine⟨none,0,0,by rw[m],OwnS.nil _ _,?_⟩;rw[show a+(q-a)=q by omega];refine Moved.onto k.o H.o ?_ F.o;refine Below.alloc ?_ (by simp;omega) _;exact(((((Below.refl _ _).setCell (p:=⟨w.heap.size,0,none⟩) (Nat.le_refl _) _).setCell (p:=⟨w.heap.size,1,none⟩) (Nat.le_refl _) _).setCell (p:=⟨w.heap.size,2,none⟩) (Nat.le_refl _) _).setCell (p:=⟨w.heap.size,3,none⟩) (Nat.le_refl _) _).setCell (p:=⟨w.heap.size,4,none⟩) (Nat.le_refl _) _
   ·have l:Hid (numR g a = .error 2):=by show _=_;rw[y.o,if_pos D]
    clear y
    go_enter Tryz.func329,Tryz.ntmps329
    go_wp2_with (first | (go_at_call 371;refine u.mono ?_;rintro e j ⟨rfl,rfl⟩) | (go_at_call 324;refine(byteAt_any S b n c g q _ d.o.bytes d.o.len (by omega) (by omega) d.o.src d.o.row).mono ?_;rintro e t ⟨rfl,rfl⟩;rw[C.o]) | (go_at_call 325;refine(isOf_any _ _ _ (by omega) (by omega) d.o.tab).mono ?_;rintro e t ⟨rfl,rfl⟩) | (go_at_call 335;refine(fault_any S a 2 _ d.o.at1 d.o.inH).mono ?_;rintro e j ⟨rfl,h⟩));refine⟨rfl,tokOut_of ?_ l.o⟩;exact⟨rfl,grown_of_below (Below.on k.o h) _⟩
def txtF (xs:List Int)(q:Int):Nat->Nat->List Int->Option (List Int×Nat)
 | 0,_,_=>none
 | f+1,i,ys=>
   if byteI xs i=q then(if byteI xs (i+1)=q then txtF xs q f (i+2) (ys ++ [q]) else some (ys,i+1))
   else if byteI xs i=92 then(if byteI xs (i+1)=10 then txtF xs q f (i+2) ys else match escI xs i with
    | none=>none
    | some (v,j)=>txtF xs q f j (ys ++ [v % 256]))
   else if 32<=byteI xs i/\byteI xs i≠127 then txtF xs q f (i+1) (ys ++ [byteI xs i]) else none
theorem txt_more (a:List Int)(q:Int)(c:0<=q):∀ (f i:Nat) (b:List Int),a.length+1<=i+f->∀ g,txtF a q (f+g) i b=txtF a q f i b
 | 0,i,b,h,0=>rfl
 | 0,i,b,h,g+1=>by
   have e:byteI a i = -1:=byteI_ge (by omega);rw[Nat.zero_add]
   show(if byteI a i=q then _ else _)=none
   rw[e,if_neg (by omega),if_neg (by decide),if_neg (by omega)]
 | f+1,i,b,h,g=>by
   rw[show f+1+g=(f+g)+1 by omega]
   unfold txtF
   split
   ·split
    ·exact txt_more a q c f (i+2) _ (by omega) g
    ·rfl
   ·split
    ·split
     ·exact txt_more a q c f (i+2) _ (by omega) g
     ·cases d:escI a i with
      | none=>rfl
      | some r=>
        obtain⟨v,j⟩:=r;have:=escI_rng d;exact txt_more a q c f j _ (by omega) g
    ·split
     ·exact txt_more a q c f (i+1) _ (by omega) g
     ·rfl
def txtI (xs:List Int)(q:Int)(i:Nat)(ys:List Int):Option (List Int×Nat):=txtF xs q (xs.length+1) i ys
theorem txt_step (a:List Int)(q:Int)(f:0<=q)(i:Nat)(c:List Int):txtI a q i c =
  if byteI a i=q then(if byteI a (i+1)=q then txtI a q (i+2) (c ++ [q]) else some (c,i+1))
  else if byteI a i=92 then(if byteI a (i+1)=10 then txtI a q (i+2) c else match escI a i with
   | none=>none
   | some (v,j)=>txtI a q j (c ++ [v % 256]))
  else if 32<=byteI a i/\byteI a i≠127 then txtI a q (i+1) (c ++ [byteI a i]) else none:=by
 have b:∀ j d,1<=j->txtF a q a.length j d=txtI a q j d:=fun j d g=>(txt_more a q f a.length j d (by omega) 1).symm
 conv=>lhs;unfold txtI txtF
 rw[b (i+2) _ (by omega),b (i+2) _ (by omega),b (i+1) _ (by omega)]
 split
 ·rfl
 ·split
  ·split
   ·rfl
   ·cases e:escI a i with
    | none=>rfl
    | some r=>
      obtain⟨v,j⟩:=r;have:=escI_rng e;exact b j _ (by omega)
  ·rfl
def quoR (xs:List Int)(kind:Int)(pos:Nat):TokR:=
 match txtI xs (byteI xs pos) (pos+1) [] with
 | none=>.error 2
 | some (ys,j)=>if 100<ys.length then .error 3 else .ok (kind,j-pos,ys,0)
theorem quoted_any (S b n c d:Nat)(kind:Int)(l:List Int)(w:World)(E:Env w S b n c d l)(hp:d<l.length)(h5:byteI l d=39∨byteI l d=34) :
  Calls Tryz.prog 333 #[.pointer (some ⟨S,0,none⟩),.int .i64 kind] w fun e F=>TokOut w S d (quoR l kind d) e F:=by
 have Q:Hid (Env (w.alloc tokO) S b n c d l):=E.alloc _;have W:Hid (Below w.heap.size w (w.alloc tokO)):=(Below.refl _ _).alloc (Nat.le_refl _) _;have HS:=hid E.inH;have k3:=E.small;have h8:=hid E.len
 have k2:d<n:=by rw[E.len];exact hp
 have K:=E.bytes;have h1:(w.alloc tokO).cell? ⟨S,1,none⟩=some (.int .i64 d):=(E.alloc tokO).at1
 obtain⟨D,eq⟩:∃ D,D=byteI l d:=⟨_,rfl⟩
 rw[<-eq] at h5
 have h4:0<=D:=by omega
 have e5:D<256:=by omega
 have e7:(D == 92)=false:=by rw[beq_eq_false_iff_ne];omega
 have HQ:=hid eq.symm
 have V:Hid (quoR l kind d=match txtI l D (d+1) [] with | none=>.error 2 | some (G,j)=>if 100<G.length then .error 3 else .ok (kind,j-d,G,0)):=by show _=_;rw[eq];rfl
 have e8:=hid h5;clear E eq h5 hp
 go_enter Tryz.func333,Tryz.ntmps333
 go_wp2_with (go_at_call 324;refine(byteAt_any S b n c l d _ Q.o.bytes Q.o.len (by omega) (by omega) Q.o.src Q.o.row).mono ?_;rintro e F ⟨rfl,rfl⟩;rw[HQ.o])
 go_loopw [6,7] (fun t a wr=>∃ (i:Nat) (p:Option Addr) (m N:Nat) (G:List Int),t = .slice p m N/\a = .int .i64 i/\i<=20010/\m<=i/\d<=i/\Hid (OwnS wr (w.heap.size+1) p m N G)/\Hid (Below (w.heap.size+1) (w.alloc tokO) wr)/\Hid (txtI l D (d+1) []=txtI l D i G)) (fun _ a _=>30000-(intOf a).toNat)
 case atStart=>exact⟨d+1,none,0,0,[],rfl,by go_num,by omega,by omega,by omega,OwnS.nil _ _,Below.refl _ _,rfl⟩
 case round=>
  obtain⟨i,p,m,N,G,rfl,rfl,hi,e9,k1,HO,HB,J⟩:=hrel
  have C:Hid (Below (w.alloc tokO).heap.size (w.alloc tokO) wr):=by
   have:=HB.o
   show Below _ _ _
   simpa using this
  have f:=hid (Q.o.below C.o)
  have h6:w.heap.size+1<=wr.heap.size:=by have:=HB.o.size;simpa using this
  have hr:=byteI_rng K i;have e6:=byteI_rng K (i+1);have u:=hid (txt_step l D h4 i G)
  obtain⟨x,ex⟩:∃ x,x=byteI l i:=⟨_,rfl⟩
  obtain⟨y,ey⟩:∃ y,y=byteI l (i+1):=⟨_,rfl⟩
  rw[<-ex,<-ey] at u;rw[<-ex] at hr;rw[<-ey] at e6;have HX:=hid ex.symm;have HY:=hid ey.symm
  have B:0<=x->i<n:=fun h=>by
   rcases Nat.lt_or_ge i l.length with h' | h'
   ·rw[h8.o];exact h'
   ·rw[byteI_ge h'] at ex;omega
  clear ex ey;have q:True:=trivial;have s:True:=trivial
  by_cases O:x=D
  ·subst O
   have Z:=B h4
   by_cases t2:y=x
   ·subst t2
    have I:Hid (txtI l y (d+1) []=txtI l y (i+2) (G ++ [y])):=by show _=_;rw[J.o,u.o];simp
    have h9:=wrap_u8_in h4 e5
    have s2:(y != y)=false:=by simp
    clear u J B;go_wp2_with (first | (go_at_call 324;have L:=q;refine(byteAt_any S b n c l i _ (f.o).bytes (f.o).len (by have:=(f.o).small;omega) (by omega) (f.o).src (f.o).row).mono ?_;rintro e F ⟨rfl,rfl⟩;rw[HX.o];clear q) | (go_at_call 324;have L:=s;refine(byteAt_any S b n c l (i+1) _ (f.o).bytes (f.o).len (by have:=(f.o).small;omega) (by omega) (f.o).src (f.o).row).mono ?_;rintro e F ⟨rfl,rfl⟩;rw[HY.o];clear s) | (at_builtin;refine app_bytes _ rfl _ _ rfl (w.heap.size+1) p m N G [y] 1 rfl rfl (HO.o.alloc _) _ 1 rfl (news1 _ _) (by decide) (by omega) (by simp;omega) ?_;intro g n1 Y P A z U));go_roundw
    case rel=>exact⟨i+2,_,_,_,_,rfl,by go_num,by omega,by have:=U.o;omega,by omega,A,(HB.o.alloc h6 _).trans z,I⟩
    case measure=>simp[intOf];omega
   ·have I:Hid (txtI l x (d+1) []=some (G,i+1)):=by show _=_;rw[J.o,u.o];simp[t2]
    have s2:(y != x)=true:=by simpa using t2
    clear u J B t2;go_wp2_with (first | (go_at_call 324;have L:=q;refine(byteAt_any S b n c l i _ (f.o).bytes (f.o).len (by have:=(f.o).small;omega) (by omega) (f.o).src (f.o).row).mono ?_;rintro e F ⟨rfl,rfl⟩;rw[HX.o];clear q) | (go_at_call 324;have L:=s;refine(byteAt_any S b n c l (i+1) _ (f.o).bytes (f.o).len (by have:=(f.o).small;omega) (by omega) (f.o).src (f.o).row).mono ?_;rintro e F ⟨rfl,rfl⟩;rw[HY.o];clear s));have HL:=hid HO.o.1
    by_cases T:100<m
    ·refine(take_long S d kind (i+1) p m N _ f.o.at1 f.o.inH T (by omega)).mono ?_
     rintro e P ⟨e4,z⟩
     cases e4
     refine⟨rfl,tokOut_of ?_ (show quoR l kind d = .error 3 by rw[V.o,I.o];simp only;rw[if_pos (by rw[<-HL.o];exact T)])⟩;exact⟨rfl,grown_of_below (Below.on W.o (C.o.trans (z.mono C.o.size))) _⟩
    ·refine(take_fits S d kind (i+1) p m N _ f.o.at1 (f.o.fz 1) f.o.inH (by omega) (by omega) (by omega)).mono ?_
     rintro e P ⟨rfl,M⟩;have HM:=hid M
     have h2:w.heap.size<P.heap.size:=by have:=M.grown.size;omega
     have R:P.heap[w.heap.size]?=some tokO:=(M.grown.block w.heap.size (by omega) (by have:=HS.o;simp;omega)).trans ((C.o.block w.heap.size (by simp)).trans (by show(w.heap.push tokO)[w.heap.size]?=_;simp));obtain⟨d0,d1,d2,d3,d4⟩:=five P w.heap.size R;obtain⟨g0,g1,g2,g3,g4⟩:=fiveF P w.heap.size R
     have h3:((i+1:Nat):Int)-d=((i+1-d:Nat):Int):=by omega
     have H:∀ g,p=some ⟨g,0,none⟩->w.heap.size+1<=g:=fun g e=>by
      rcases HO.o.form with ⟨e',_⟩ | ⟨g',e',h,_⟩
      ·rw[e'] at e;cases e
      ·rw[e'] at e;cases e;exact h
     have h7:=HO.o.kept M.grown (fun g e e'=>by have:=H g e;have:=HS.o;simp only[Option.some.injEq] at e';omega);have hG:=grown_set5 P w.heap.size (.int .i64 kind) (.int .i64 d) (.int .i64 (((i+1:Nat):Int)-d)) (.slice p m N) (.int .i64 0);have X:=h7.kept hG (fun g e e'=>by have:=H g e;simp only[Option.some.injEq] at e';omega)
     have e2:Hid (OwnS _ w.heap.size p m N G):=⟨X.1,X.2.1,X.2.2.imp id fun ⟨g,c,e3,a1,a2,a3⟩=>⟨g,c,e3,a1,by omega,a3⟩⟩
     have e1:Hid (Moved w _ S (i+1)):=Moved.onto (Below.on W.o C.o) M (Below.of_grown hG (Nat.le_of_lt h2) (fun k e=>by cases e;exact Nat.le_refl _)) HS.o;clear M R h7 X hG H
     go_wp2
     refine bodyPost_ret (v:=tokV kind d (((i+1:Nat):Int)-d) p m N 0) (by simp[results,Tryz.results333,go_sem,d0,d1,d2,d3,d4,h2]) rfl (tokOut_of ?_ (show quoR l kind d = .ok (kind,i+1-d,G,0) by rw[V.o,I.o];simp only;rw[if_neg (by rw[<-HL.o];omega)]));refine⟨p,m,N,by rw[h3],e2.o,?_⟩;rw[show d+(i+1-d)=i+1 by omega];exact e1.o
  have s1:(x == D)=false:=by simpa using O
  by_cases t3:x=92
  ·subst t3
   have Z:=B (by decide)
   by_cases t4:y=10
   ·subst t4
    have I:Hid (txtI l D (d+1) []=txtI l D (i+2) G):=by show _=_;rw[J.o,u.o,if_neg O];simp
    clear u J B O;go_wp2_with (first | (go_at_call 324;have L:=q;refine(byteAt_any S b n c l i _ (f.o).bytes (f.o).len (by have:=(f.o).small;omega) (by omega) (f.o).src (f.o).row).mono ?_;rintro e F ⟨rfl,rfl⟩;rw[HX.o];clear q) | (go_at_call 324;have L:=s;refine(byteAt_any S b n c l (i+1) _ (f.o).bytes (f.o).len (by have:=(f.o).small;omega) (by omega) (f.o).src (f.o).row).mono ?_;rintro e F ⟨rfl,rfl⟩;rw[HY.o];clear s));go_roundw
    case rel=>exact⟨i+2,_,_,_,_,rfl,by go_num,by omega,by omega,by omega,HO,HB,I⟩
    case measure=>simp[intOf];omega
   ·have s4:(y == 10)=false:=by simpa using t4
    have HH:=escape_any S b n c d l i wr f.o (by omega)
    cases hh:escI l i with
    | none=>
      rw[hh] at HH
      have I:Hid (txtI l D (d+1) []=none):=by show _=_;rw[J.o,u.o,if_neg O,hh];simp[t4]
      clear u J B O t4 hh;go_wp2_with (first | (go_at_call 324;have L:=q;refine(byteAt_any S b n c l i _ (f.o).bytes (f.o).len (by have:=(f.o).small;omega) (by omega) (f.o).src (f.o).row).mono ?_;rintro e F ⟨rfl,rfl⟩;rw[HX.o];clear q) | (go_at_call 324;have L:=s;refine(byteAt_any S b n c l (i+1) _ (f.o).bytes (f.o).len (by have:=(f.o).small;omega) (by omega) (f.o).src (f.o).row).mono ?_;rintro e F ⟨rfl,rfl⟩;rw[HY.o];clear s) | (go_at_call 372;refine HH.mono ?_;rintro e P ⟨rfl,z⟩));refine⟨rfl,tokOut_of ?_ (show quoR l kind d = .error 2 by rw[V.o,I.o])⟩;exact⟨rfl,grown_of_below (Below.on W.o (C.o.trans (z.mono C.o.size))) _⟩
    | some r=>
      obtain⟨v,j⟩:=r;rw[hh] at HH;obtain⟨r1,r2,r3,r4⟩:=escI_rng hh
      have I:Hid (txtI l D (d+1) []=txtI l D j (G ++ [v % 256])):=by show _=_;rw[J.o,u.o,if_neg O,hh];simp[t4]
      have h9:=wrap_byte v r3
      have hj:j<=20010:=by have:=h8.o;omega
      clear u J B O t4 hh;go_wp2_with (first | (go_at_call 324;have L:=q;refine(byteAt_any S b n c l i _ (f.o).bytes (f.o).len (by have:=(f.o).small;omega) (by omega) (f.o).src (f.o).row).mono ?_;rintro e F ⟨rfl,rfl⟩;rw[HX.o];clear q) | (go_at_call 324;have L:=s;refine(byteAt_any S b n c l (i+1) _ (f.o).bytes (f.o).len (by have:=(f.o).small;omega) (by omega) (f.o).src (f.o).row).mono ?_;rintro e F ⟨rfl,rfl⟩;rw[HY.o];clear s) | (go_at_call 372;refine HH.mono ?_;rintro e P ⟨rfl,rfl⟩) | (at_builtin;refine app_bytes _ rfl _ _ rfl (w.heap.size+1) p m N G [v % 256] 1 rfl rfl (HO.o.alloc _) _ 1 rfl (news1 _ _) (by decide) (by omega) (by simp;omega) ?_;intro g n1 Y P A z U));go_roundw
      case rel=>exact⟨j,_,_,_,_,rfl,rfl,hj,by have:=U.o;omega,by omega,A,(HB.o.alloc h6 _).trans z,I⟩
      case measure=>simp[intOf];omega
  have s3:(x == 92)=false:=by simpa using t3
  by_cases t5:32<=x/\x≠127
  ·have I:Hid (txtI l D (d+1) []=txtI l D (i+1) (G ++ [x])):=by show _=_;rw[J.o,u.o,if_neg O,if_neg t3,if_pos t5]
   have TS:Hid (decide (32<=x/\x≠127)=true):=by show _=_;rw[decide_eq_true_iff];exact t5
   have h9:=wrap_u8_in (x:=x) (by omega) (by omega);have Z:=B (by omega);clear u J B O t3 t5;go_wp2_with (first | (go_at_call 324;have L:=q;refine(byteAt_any S b n c l i _ (f.o).bytes (f.o).len (by have:=(f.o).small;omega) (by omega) (f.o).src (f.o).row).mono ?_;rintro e F ⟨rfl,rfl⟩;rw[HX.o];clear q) | (go_at_call 324;have L:=s;refine(byteAt_any S b n c l (i+1) _ (f.o).bytes (f.o).len (by have:=(f.o).small;omega) (by omega) (f.o).src (f.o).row).mono ?_;rintro e F ⟨rfl,rfl⟩;rw[HY.o];clear s) | (go_at_call 373;refine(standsFor_any x _ hr.1 hr.2).mono ?_;rintro e F ⟨rfl,rfl⟩;rw[TS.o]) | (at_builtin;refine app_bytes _ rfl _ _ rfl (w.heap.size+1) p m N G [x] 1 rfl rfl (HO.o.alloc _) _ 1 rfl (news1 _ _) (by decide) (by omega) (by simp;omega) ?_;intro g n1 Y P A z U))
   go_roundw
   case rel=>exact⟨i+1,_,_,_,_,rfl,by go_num,by omega,by have:=U.o;omega,by omega,A,(HB.o.alloc h6 _).trans z,I⟩
   case measure=>simp[intOf];omega
  ·have I:Hid (txtI l D (d+1) []=none):=by show _=_;rw[J.o,u.o,if_neg O,if_neg t3,if_neg t5]
   have TS:Hid (decide (32<=x/\x≠127)=false):=by show _=_;rw[decide_eq_false_iff_not];exact t5
   clear u J B O t3 t5;go_wp2_with (first | (go_at_call 324;have L:=q;refine(byteAt_any S b n c l i _ (f.o).bytes (f.o).len (by have:=(f.o).small;omega) (by omega) (f.o).src (f.o).row).mono ?_;rintro e F ⟨rfl,rfl⟩;rw[HX.o];clear q) | (go_at_call 324;have L:=s;refine(byteAt_any S b n c l (i+1) _ (f.o).bytes (f.o).len (by have:=(f.o).small;omega) (by omega) (f.o).src (f.o).row).mono ?_;rintro e F ⟨rfl,rfl⟩;rw[HY.o];clear s) | (go_at_call 373;refine(standsFor_any x _ hr.1 hr.2).mono ?_;rintro e F ⟨rfl,rfl⟩;rw[TS.o]) | (go_at_call 335;refine(fault_any S d 2 _ (f.o).at1 (f.o).inH).mono ?_;rintro e P ⟨rfl,z⟩));refine⟨rfl,tokOut_of ?_ (show quoR l kind d = .error 2 by rw[V.o,I.o])⟩
   exact⟨rfl,grown_of_below (Below.on W.o (C.o.trans (z.mono C.o.size))) _⟩
end
end Go.Proofs.YtnfnddnffoigfaaGreatDoor
