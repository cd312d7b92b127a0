/- Texts of MdJ, MdO. Own work of the verifier. -/
import Derived.Test.YtlkhmmoimplokaaGreatDoorUqbm
import Derived.Test.YtlkhmmoimplokaaGreatDoorUqbt
namespace Go.Proofs.YtlkhmmoimplokaaGreatDoor
set_option maxRecDepth 100000
set_option maxHeartbeats 4000000
open Go Go.RowKit
set_option linter.unusedVariables false
set_option linter.unusedSimpArgs false
theorem conv_semi (w:World):(convert 23 23 (.slice (some ⟨w.heap.size,0,none⟩) 1 1)).run Tryz.prog (w.alloc (.cells #[.int .u8 59] 5)) = .ok (.slice (some ⟨w.heap.size,0,none⟩) 1 1) (w.alloc (.cells #[.int .u8 59] 5 (1,2))):=Lib.run_convert_bytes_const (P:=Tryz.prog) w 23 5 #[.int .u8 59] 1 1 Tryz.underlying23 Tryz.underlying5
theorem semi_text (w:World):OwnT (w.alloc (.cells #[.int .u8 59] 5 (1,2))) w.heap.size (some ⟨w.heap.size,0,none⟩) 1 1 [59]:=⟨rfl,fun _=>⟨w.heap.size,rfl,Nat.le_refl _,by simp,fun i c=>by
 have a:i=0:=by omega
 subst a;refine⟨cell_of_row _ _ 0 _ _ _ (heap_alloc_new _ _),?_⟩;simp only[World.frozen?,heap_alloc_new]
 simp⟩⟩
theorem res3 {V:World}{R:Nat}{a b c:Value}{t:TypeId}(h:V.heap[R]?=some (.cells #[a,b,c] t)):V.cell? ⟨R,0,none⟩=some a/\V.cell? ⟨R,1,none⟩=some b/\V.cell? ⟨R,2,none⟩=some c/\V.frozen? ⟨R,0,none⟩=false/\V.frozen? ⟨R,1,none⟩=false/\V.frozen? ⟨R,2,none⟩=false:=
 ⟨by unfold World.cell?;rw[h];rfl,by unfold World.cell?;rw[h];rfl,by unfold World.cell?;rw[h];rfl,by unfold World.frozen?;rw[h];simp,by unfold World.frozen?;rw[h];simp,by unfold World.frozen?;rw[h];simp⟩
theorem below_set {B:Nat}{w w':World}(h:Below B w w'){q:Nat}(c:B<=q)(o:Nat)(v:Value):Below B w (w'.setCell ⟨q,o,none⟩ v):=⟨h.os,h.tape,h.output,by simpa using h.size,fun j a=>(Below.heap_setCell _ _ _ _ (by show j≠q;omega)).trans (h.block j a)⟩
def put3 (w:World)(R:Nat)(a b c:Value):World:=((w.setCell ⟨R,0,none⟩ a).setCell ⟨R,1,none⟩ b).setCell ⟨R,2,none⟩ c
theorem put3_below {B:Nat}{w w':World}(h:Below B w w'){R:Nat}(d:B<=R)(a b c:Value):Below B w (put3 w' R a b c):=below_set (below_set (below_set h d _ _) d _ _) d _ _
theorem put3_heap (w:World)(R:Nat)(a b c:Value){j:Nat}(d:j≠R):(put3 w R a b c).heap[j]?=w.heap[j]?:=by
 unfold put3
 rw[Below.heap_setCell _ _ _ _ d,Below.heap_setCell _ _ _ _ d,Below.heap_setCell _ _ _ _ d]
theorem put3_size (w:World)(R:Nat)(a b c:Value):(put3 w R a b c).heap.size=w.heap.size:=by simp[put3]
theorem set3 {W:World}{R:Nat}{x y z:Value}(d:W.cell? ⟨R,0,none⟩=some x)(e:W.cell? ⟨R,1,none⟩=some y)(f:W.cell? ⟨R,2,none⟩=some z)(a b c:Value):(W.setCell ⟨R,0,none⟩ a).cell? ⟨R,0,none⟩=some a/\((W.setCell ⟨R,0,none⟩ a).setCell ⟨R,1,none⟩ b).cell? ⟨R,1,none⟩=some b/\(((W.setCell ⟨R,0,none⟩ a).setCell ⟨R,1,none⟩ b).setCell ⟨R,2,none⟩ c).cell? ⟨R,2,none⟩=some c:=
 ⟨World.cell?_setCell_same' _ _ _ (by rw[d];rfl),World.cell?_setCell_same' _ _ _ (by rw[World.cell?_setCell_other _ _ _ _ (by simp),e];rfl),World.cell?_setCell_same' _ _ _ (by rw[World.cell?_setCell_other _ _ _ _ (by simp),World.cell?_setCell_other _ _ _ _ (by simp),f];rfl)⟩
theorem OwnT.put3 {w:World}{B n c R:Nat}{p:Option Addr}{d:List Int}(h:OwnT w B p n c d)(l:R<B)(x y z:Value):OwnT (put3 w R x y z) B p n c d:=h.other (by rw[put3_size];exact Nat.le_refl _) fun g f e=>put3_heap _ _ _ _ _ (by
 obtain⟨i,a,j,_⟩:=h.2 f
 rw[e] at a;cases a
 omega)
def okN (T:List Cel)(s:RS)(left most:Int):Bool:=match opB T s with
 | none=>false
 | some o=>decide (o.1<=most) && decide (left<=leftP o)
def NxO (T:List Cel)(s:RS)(left most:Int)(pb:Nat)(w:World)(e:Ending)(w':World):Prop:=
 ∃ q n cq p1 t1,e = .returned (.tuple #[.agg #[.slice q n cq,.int .i64 p1,.int .i64 t1],.bool (okN T s left most)])/\Below w.heap.size w w'/\(okN T s left most=true->∃ o,opB T s=some o/\n=o.2.2.length/\p1=o.1/\t1=o.2.1/\BK w' pb q o.2.2)
section
variable {w0:World}{pb:Nat}{po:Option Addr}{co:Nat}{kp:Option Addr}{kc:Nat}{T:List Cel}{L:Int}{all:List Tok}{s:RS}{k:Nat}{b:Int}{w:World}
theorem l4next_any (E:MEnv w0 pb po co kp kc T L all)(h:MS w0 pb po co kp kc T L all s k b w)(left r:Int):Calls Tryz.prog 94 #[ptrM pb,.int .i64 left,.int .i64 r] w (NxO T s left r pb w):=by
 have HK:Hid (∀ W,Below w.heap.size w W->Calls Tryz.prog 54 #[ptrM pb,.int .i64 0] W fun e w'=>e = .returned (.int .i64 s.kd)/\Below W.heap.size W w'):=l4kind0 E h
 have HP:Hid (∀ W (m:List Int) (S:ByteArray),strOfNums m=S->Byte m->Below w.heap.size w W->Calls Tryz.prog 143 #[ptrM pb,.string S] W fun e w'=>e = .returned (.bool (s.isP m))/\Below W.heap.size W w'):=fun W m S hS hm hB=>l4punct_any E (h.below hB) m S hS hm
 have w4:pb<w.heap.size:=Nat.lt_of_lt_of_le E.lt h.mf.size;have x8:=h.kdr E;have w8:Hid (pb<w.heap.size):=w4
 by_cases N:s.isP [124]=true
 ·have U:Hid (opB T s=some (1100,1,[59])):=by show _=_;unfold opB;rw[if_pos N]
  have e2:Hid (okN T s left r=(decide (1100<=r) && decide (left<=1099))):=by show _=_;unfold okN;rw[U.o];rfl
  have b8:=conv_semi
  have w9:Hid (∀ W:World,OwnT (W.alloc (.cells #[.int .u8 59] 5 (1,2))) W.heap.size (some ⟨W.heap.size,0,none⟩) 1 1 [59]):=fun W=>semi_text W
  have Y:Hid (∀ W,Below w.heap.size w W->Calls Tryz.prog 143 #[ptrM pb,.string ⟨#[124]⟩] W fun e w'=>e = .returned (.bool true)/\Below W.heap.size W w'):=fun W hB=>by
   have:=HP.o W [124] ⟨#[124]⟩ rfl (byte_small (by decide)) hB;rw[N] at this;exact this
  clear h E HP N x8 w4
  generalize s.kd=x at HK
  by_cases hm:1100<=r
  rotate_right
  case' _=>
   have HE:Hid (okN T s left r=false):=by show _=_;rw[e2.o];simp[hm]
  rotate_right
  case' _=>
   by_cases hl:left<=1099
   ·have HE:Hid (okN T s left r=true):=by show _=_;rw[e2.o];simp[hm,hl]
    skip
    clear e2
    go_enter Tryz.func94,Tryz.ntmps94
    go_wp2_with fail;refine(HK.o _ ((Below.refl _ _).alloc (Nat.le_refl _) _)).mono ?_;rintro e W1 ⟨rfl,I⟩;have r0:W1.heap[w.heap.size]?=some (.cells #[.slice none 0 0,.int .i64 0,.int .i64 0] 60):=(I.block _ (by simp)).trans (heap_alloc_new _ _);have z:Below w.heap.size w W1:=Below.on ((Below.refl _ _).alloc (Nat.le_refl _) _) I;clear HK I;go_wp2_with fail;refine(Y.o _ z).mono ?_;rintro e D ⟨rfl,H⟩;have r2:D.heap[w.heap.size]?=some (.cells #[.slice none 0 0,.int .i64 0,.int .i64 0] 60):=(H.block _ (Array.getElem?_eq_some_iff.1 r0).1).trans r0;have y:Below w.heap.size w D:=Below.on z H;clear Y H r0 z
    obtain⟨V,eV⟩:∃ V,V=(D.alloc (.cells #[.int .u8 59] 5 (1,2))).alloc (.cells #[.slice (some ⟨D.heap.size,0,none⟩) 1 1,.int .i64 1100,.int .i64 1] 60):=⟨_,rfl⟩
    have h8:w.heap.size<D.heap.size:=(Array.getElem?_eq_some_iff.1 r2).1
    have Z:Below D.heap.size D V:=by rw[eV];exact Below.on ((Below.refl _ _).alloc (Nat.le_refl _) _) ((Below.refl _ _).alloc (Nat.le_refl _) _)
    obtain⟨g0,g1,g2,z0,z1,z2⟩:=res3 ((Z.block _ h8).trans r2)
    have e3:Hid (OwnT V D.heap.size (some ⟨D.heap.size,0,none⟩) 1 1 [59]):=by rw[eV];exact(w9.o D).below ((Below.refl _ _).alloc (Nat.le_refl _) _)
    have P:Hid (Below w.heap.size w V):=Below.on y Z;have x3:Hid (w.heap.size<D.heap.size):=h8
    have HF:Hid (NxO T s left r pb w (.returned (.tuple #[.agg #[.slice (some ⟨D.heap.size,0,none⟩) 1 1,.int .i64 1100,.int .i64 1],.bool true])) (put3 V w.heap.size (.slice (some ⟨D.heap.size,0,none⟩) 1 1) (.int .i64 1100) (.int .i64 1))):=
     ⟨some ⟨D.heap.size,0,none⟩,1,1,1100,1,by rw[HE.o],put3_below P.o (Nat.le_refl _) _ _ _,fun _=>⟨_,U.o,rfl,rfl,rfl,(e3.o.put3 x3.o _ _ _).bk fun g h1 h2=>by have:=w8.o;omega⟩⟩
    rw[eV] at g0 g1 g2 z0 z1 z2 HF;clear eV h8 Z e3 P y r2;go_wp2_with fail;obtain⟨a0,a1,a2⟩:=set3 g0 g1 g2 (.slice (some ⟨D.heap.size,0,none⟩) 1 1) (.int .i64 1100) (.int .i64 1);refine bodyPost_ret (v:=.tuple #[.agg #[.slice (some ⟨D.heap.size,0,none⟩) 1 1,.int .i64 1100,.int .i64 1],.bool true]) (by simp[results,Tryz.results94,go_sem,a0,a1,a2] <;> omega) rfl ?_;exact HF.o
   have HE:Hid (okN T s left r=false):=by show _=_;rw[e2.o];simp[hm,hl]
  all_goals
   skip
   clear e2
   go_enter Tryz.func94,Tryz.ntmps94
   go_wp2_with fail;refine(HK.o _ ((Below.refl _ _).alloc (Nat.le_refl _) _)).mono ?_;rintro e W1 ⟨rfl,I⟩;have r0:W1.heap[w.heap.size]?=some (.cells #[.slice none 0 0,.int .i64 0,.int .i64 0] 60):=(I.block _ (by simp)).trans (heap_alloc_new _ _);have z:Below w.heap.size w W1:=Below.on ((Below.refl _ _).alloc (Nat.le_refl _) _) I;clear HK I;go_wp2_with fail;refine(Y.o _ z).mono ?_;rintro e D ⟨rfl,H⟩;have r2:D.heap[w.heap.size]?=some (.cells #[.slice none 0 0,.int .i64 0,.int .i64 0] 60):=(H.block _ (Array.getElem?_eq_some_iff.1 r0).1).trans r0;have y:Below w.heap.size w D:=Below.on z H;clear Y H r0 z
   obtain⟨V,eV⟩:∃ V,V=(D.alloc (.cells #[.int .u8 59] 5 (1,2))).alloc (.cells #[.slice (some ⟨D.heap.size,0,none⟩) 1 1,.int .i64 1100,.int .i64 1] 60):=⟨_,rfl⟩
   have h8:w.heap.size<D.heap.size:=(Array.getElem?_eq_some_iff.1 r2).1
   have Z:Below D.heap.size D V:=by rw[eV];exact Below.on ((Below.refl _ _).alloc (Nat.le_refl _) _) ((Below.refl _ _).alloc (Nat.le_refl _) _)
   obtain⟨g0,g1,g2,z0,z1,z2⟩:=res3 ((Z.block _ h8).trans r2)
   have e3:Hid (OwnT V D.heap.size (some ⟨D.heap.size,0,none⟩) 1 1 [59]):=by rw[eV];exact(w9.o D).below ((Below.refl _ _).alloc (Nat.le_refl _) _)
   have P:Hid (Below w.heap.size w V):=Below.on y Z;have x3:Hid (w.heap.size<D.heap.size):=h8
   have HF:Hid (NxO T s left r pb w (.returned (.tuple #[.agg #[.slice (some ⟨D.heap.size,0,none⟩) 1 1,.int .i64 1100,.int .i64 1],.bool false])) (put3 V w.heap.size (.slice (some ⟨D.heap.size,0,none⟩) 1 1) (.int .i64 1100) (.int .i64 1))):=
    ⟨some ⟨D.heap.size,0,none⟩,1,1,1100,1,by rw[HE.o],put3_below P.o (Nat.le_refl _) _ _ _,fun _=>⟨_,U.o,rfl,rfl,rfl,(e3.o.put3 x3.o _ _ _).bk fun g h1 h2=>by have:=w8.o;omega⟩⟩
   rw[eV] at g0 g1 g2 z0 z1 z2 HF;clear eV h8 Z e3 P y r2;go_wp2_with fail;obtain⟨a0,a1,a2⟩:=set3 g0 g1 g2 (.slice (some ⟨D.heap.size,0,none⟩) 1 1) (.int .i64 1100) (.int .i64 1);refine bodyPost_ret (v:=.tuple #[.agg #[.slice (some ⟨D.heap.size,0,none⟩) 1 1,.int .i64 1100,.int .i64 1],.bool false]) (by simp[results,Tryz.results94,go_sem,a0,a1,a2] <;> omega) rfl ?_;exact HF.o
 ·have h6:s.isP [124]=false:=by simpa using N
  have Y:Hid (∀ W,Below w.heap.size w W->Calls Tryz.prog 143 #[ptrM pb,.string ⟨#[124]⟩] W fun e w'=>e = .returned (.bool false)/\Below W.heap.size W w'):=fun W hB=>by
   have:=HP.o W [124] ⟨#[124]⟩ rfl (byte_small (by decide)) hB;rw[h6] at this;exact this
  have h4:Hid (∀ W,Below w.heap.size w W->Calls Tryz.prog 143 #[ptrM pb,.string ⟨#[44]⟩] W fun e w'=>e = .returned (.bool (s.isP [44]))/\Below W.heap.size W w'):=fun W hB=>HP.o W [44] ⟨#[44]⟩ rfl (byte_small (by decide)) hB
  by_cases h7:s.kd≠1/\s.isP [44]=false
  rotate_right
  case' _=>
   have k4:s.ts≠[]:=by
    by_cases h1:s.kd=1
    ·exact kd_ne h1 (by decide)
    ·have:s.isP [44]=true:=by
      cases hc:s.isP [44] with
      | true=>rfl
      | false=>exact absurd ⟨h1,hc⟩ h7
     exact isP_ne this
   obtain⟨_,_,t,x6,k4⟩:=h.head k4;obtain⟨kb,p,c,rfl,hW⟩:=E.tok _ _ x6
   have hx:s.tx=t.2:=by unfold RS.tx;rw[k4]
   have e1:Hid (∀ W,Below w.heap.size w W->Calls Tryz.prog 120 #[.slice po T.length co,.slice p t.2.length c,.bool false] W fun e w'=>e = .returned (.int .i64 (findW T t.2 false))/\Below W.heap.size W w'):=fun W hB=>l3findM E p t.2.length c t.2 false rfl W (h.mfw hB) ((hW W (h.mfw hB)).2.2.2.2.2)
   have hf:=findM_rng T t.2 false;have b7:=E.tln
   have U:Hid (opB T s=if 0<=findW T t.2 false then some (opW T (findW T t.2 false)) else none):=by show _=_;unfold opB;rw[if_neg N,if_neg h7,hx]
   have d3:=(hW w h.mf.sf).2.2.2.1;have c0:=h.c0;have c1:=h.c1;have c2:=h.c2;have hk:=h.kl;have hl:=E.len;have e7:=E.cap
   obtain⟨n,en⟩:∃ n,n=all.length:=⟨_,rfl⟩
   have hn:k<n:=by rw[en];exact(List.getElem?_eq_some_iff.1 x6).1
   rw[<-en] at c1 hl hk e7
   have c5:(0:Int)<=(k:Int):=by omega
   have c6:(k:Int)<(n:Int):=by omega
   have k3:Hid (∀ i:Nat,findW T t.2 false=(i:Int)->∃ b0 o0 q F,po=some ⟨b0,o0,none⟩/\(∀ W,Below w.heap.size w W->W.cell? ⟨b0,o0+i * 3,none⟩=some (.slice q (opW T (findW T t.2 false)).2.2.length F)/\W.cell? ⟨b0,o0+i * 3+1,none⟩=some (.int .i64 (opW T (findW T t.2 false)).1)/\W.cell? ⟨b0,o0+i * 3+2,none⟩=some (.int .i64 (opW T (findW T t.2 false)).2.1)/\BK W pb q (opW T (findW T t.2 false)).2.2)/\0<=(opW T (findW T t.2 false)).1/\(opW T (findW T t.2 false)).1<=1200):=fun i hi=>by
    have x7:i<T.length:=by rcases hf with h' | ⟨_,h'⟩ <;> omega
    have e:opW T (findW T t.2 false)=T[i]:=by unfold opW;rw[hi];simp[List.getD,x7]
    rw[e];obtain⟨b0,o0,q,F,e0,hq⟩:=E.ops i T[i] (List.getElem?_eq_getElem x7);have hb:=(E.tab T[i] (List.getElem_mem x7)).1;exact⟨b0,o0,q,F,e0,fun W hB=>⟨(hq W (h.mfw hB)).1,(hq W (h.mfw hB)).2.1,(hq W (h.mfw hB)).2.2.1,fun W' b2=>(hq W' ((h.mfw hB).trans b2)).2.2.2⟩,by omega,hb.2⟩
   generalize opW T (findW T t.2 false)=op at U k3
   obtain⟨l,el⟩:∃ l,l=t.2.length:=⟨_,rfl⟩
   rw[<-el] at d3 e1
   generalize findW T t.2 false=f at hf e1 U k3
   generalize b1:T.length=O at c0 hf b7 e1
   clear h E HP N x8 x6 k4 hW hx el en h6 b1
   by_cases h1:s.kd=1
   rotate_right
   case' _=>
    have e4:s.isP [44]=true:=by
     cases hc:s.isP [44] with
     | true=>rfl
     | false=>exact absurd ⟨h1,hc⟩ h7
    rw[e4] at h4
    generalize s.kd=x at HK h1
    have b4:(x != 1)=true:=by simpa using h1
    have b5:(x == 1)=false:=by simpa using h1
    clear h7 e4
    go_enter Tryz.func94,Tryz.ntmps94
    go_wp2_with fail;refine(HK.o _ ((Below.refl _ _).alloc (Nat.le_refl _) _)).mono ?_;rintro e W1 ⟨rfl,I⟩;have r0:W1.heap[w.heap.size]?=some (.cells #[.slice none 0 0,.int .i64 0,.int .i64 0] 60):=(I.block _ (by simp)).trans (heap_alloc_new _ _);have z:Below w.heap.size w W1:=Below.on ((Below.refl _ _).alloc (Nat.le_refl _) _) I;clear HK I;go_wp2_with fail;refine(Y.o _ z).mono ?_;rintro e D ⟨rfl,H⟩;have r2:D.heap[w.heap.size]?=some (.cells #[.slice none 0 0,.int .i64 0,.int .i64 0] 60):=(H.block _ (Array.getElem?_eq_some_iff.1 r0).1).trans r0;have y:Below w.heap.size w D:=Below.on z H;clear Y H r0 z;go_wp2_with fail;refine(h4.o _ y).mono ?_;rintro e W3 ⟨rfl,h5⟩;have r3:W3.heap[w.heap.size]?=some (.cells #[.slice none 0 0,.int .i64 0,.int .i64 0] 60):=(h5.block _ (Array.getElem?_eq_some_iff.1 r2).1).trans r2
    have M:Below w.heap.size w W3:=Below.on y h5;clear h4 h5 r2 y;have v0:W3.cell? ⟨pb,0,none⟩=some (.slice po O co):=(M.cell (World.block_lt_of_cell? _ _ c0)).trans c0;have v1:W3.cell? ⟨pb,1,none⟩=some (.slice (some ⟨kb,0,none⟩) n kc):=(M.cell (World.block_lt_of_cell? _ _ c1)).trans c1;have v2:W3.cell? ⟨pb,2,none⟩=some (.int .i64 k):=(M.cell (World.block_lt_of_cell? _ _ c2)).trans c2;have v3:W3.cell? ⟨kb,k * 5+3,none⟩=some (.slice p l c):=(M.cell (World.block_lt_of_cell? _ _ d3)).trans d3;have e9:Hid (Below w.heap.size w W3):=M;have k9:Hid (W3.heap[w.heap.size]?=some (.cells #[.slice none 0 0,.int .i64 0,.int .i64 0] 60)):=r3;clear M r3;go_wp2_with fail
    go_region_held3 (fun W=>W.cell? ⟨pb,0,none⟩=some (.slice po O co)/\W.cell? ⟨pb,1,none⟩=some (.slice (some ⟨kb,0,none⟩) n kc)/\W.cell? ⟨pb,2,none⟩=some (.int .i64 k)/\W.cell? ⟨kb,k * 5+3,none⟩=some (.slice p l c)) (first | exact e8 | go_keep)
     ((go_at_call 120;refine(e1.o _ e9.o.drew).mono ?_;rintro e w1 ⟨rfl,I⟩;have Q:Below W3.heap.size W3 w1:=((Below.refl W3.heap.size W3).drew).trans I;have e8:w1.cell? ⟨pb,0,none⟩=some (.slice po O co)/\w1.cell? ⟨pb,1,none⟩=some (.slice (some ⟨kb,0,none⟩) n kc)/\w1.cell? ⟨pb,2,none⟩=some (.int .i64 k)/\w1.cell? ⟨kb,k * 5+3,none⟩=some (.slice p l c):=⟨(Q.cell (World.block_lt_of_cell? _ _ v0)).trans v0,(Q.cell (World.block_lt_of_cell? _ _ v1)).trans v1,(Q.cell (World.block_lt_of_cell? _ _ v2)).trans v2,(Q.cell (World.block_lt_of_cell? _ _ v3)).trans v3⟩))
   rotate_right
   case' _=>
    rw[h1] at HK;clear h4 h7 h1
    go_enter Tryz.func94,Tryz.ntmps94
    go_wp2_with fail;refine(HK.o _ ((Below.refl _ _).alloc (Nat.le_refl _) _)).mono ?_;rintro e W1 ⟨rfl,I⟩;have r0:W1.heap[w.heap.size]?=some (.cells #[.slice none 0 0,.int .i64 0,.int .i64 0] 60):=(I.block _ (by simp)).trans (heap_alloc_new _ _);have z:Below w.heap.size w W1:=Below.on ((Below.refl _ _).alloc (Nat.le_refl _) _) I;clear HK I;go_wp2_with fail;refine(Y.o _ z).mono ?_;rintro e D ⟨rfl,H⟩;have r2:D.heap[w.heap.size]?=some (.cells #[.slice none 0 0,.int .i64 0,.int .i64 0] 60):=(H.block _ (Array.getElem?_eq_some_iff.1 r0).1).trans r0;have y:Below w.heap.size w D:=Below.on z H;clear Y H r0 z;go_wp2_with fail;have v0:D.cell? ⟨pb,0,none⟩=some (.slice po O co):=(y.cell (World.block_lt_of_cell? _ _ c0)).trans c0;have v1:D.cell? ⟨pb,1,none⟩=some (.slice (some ⟨kb,0,none⟩) n kc):=(y.cell (World.block_lt_of_cell? _ _ c1)).trans c1
    have v2:D.cell? ⟨pb,2,none⟩=some (.int .i64 k):=(y.cell (World.block_lt_of_cell? _ _ c2)).trans c2;have v3:D.cell? ⟨kb,k * 5+3,none⟩=some (.slice p l c):=(y.cell (World.block_lt_of_cell? _ _ d3)).trans d3;have e9:Hid (Below w.heap.size w D):=y;have k9:Hid (D.heap[w.heap.size]?=some (.cells #[.slice none 0 0,.int .i64 0,.int .i64 0] 60)):=r2;clear y r2
    go_region_held3 (fun W=>W.cell? ⟨pb,0,none⟩=some (.slice po O co)/\W.cell? ⟨pb,1,none⟩=some (.slice (some ⟨kb,0,none⟩) n kc)/\W.cell? ⟨pb,2,none⟩=some (.int .i64 k)/\W.cell? ⟨kb,k * 5+3,none⟩=some (.slice p l c)) (first | exact e8 | go_keep)
     ((go_at_call 120;refine(e1.o _ e9.o.drew).mono ?_;rintro e w1 ⟨rfl,I⟩;have Q:Below D.heap.size D w1:=((Below.refl D.heap.size D).drew).trans I;have e8:w1.cell? ⟨pb,0,none⟩=some (.slice po O co)/\w1.cell? ⟨pb,1,none⟩=some (.slice (some ⟨kb,0,none⟩) n kc)/\w1.cell? ⟨pb,2,none⟩=some (.int .i64 k)/\w1.cell? ⟨kb,k * 5+3,none⟩=some (.slice p l c):=⟨(Q.cell (World.block_lt_of_cell? _ _ v0)).trans v0,(Q.cell (World.block_lt_of_cell? _ _ v1)).trans v1,(Q.cell (World.block_lt_of_cell? _ _ v2)).trans v2,(Q.cell (World.block_lt_of_cell? _ _ v3)).trans v3⟩))
   all_goals
    have h3:Below w.heap.size w w1:=Below.on e9.o Q;have r4:w1.heap[w.heap.size]?=some (.cells #[.slice none 0 0,.int .i64 0,.int .i64 0] 60):=(Q.block _ (Array.getElem?_eq_some_iff.1 k9.o).1).trans k9.o;have u0:w1.cell? ⟨pb,0,none⟩=some (.slice po O co):=e8.1;clear I Q e8 v0 v1 v2 v3 e1
    rcases hf with hf | ⟨hf,b9⟩
    rotate_left
    ·obtain⟨i,rfl⟩:∃ i:Nat,f=(i:Int):=⟨f.toNat,by omega⟩
     obtain⟨A,G,ox⟩:=op;obtain⟨b0,o0,q,F,rfl,w3,w5,w6⟩:=k3.o i rfl;obtain⟨y0,y1,y2,y3⟩:=w3 w1 h3;simp only at y0 y1 y2 y3 w5 w6
     have k5:Hid (∀ W,Below w.heap.size w W->BK W pb q ox):=fun W hW=>(w3 W hW).2.2.2
     have w7:Hid (opB T s=some (A,G,ox)):=by show _=_;rw[U.o,if_pos hf]
     have k1:Hid (okN T s left r=(decide (A<=r) && decide (left<=leftP (A,G,ox)))):=by show _=_;unfold okN;rw[w7.o]
     have k2:Hid (∀ W,Calls Tryz.prog 148 #[.agg #[.slice q ox.length F,.int .i64 A,.int .i64 G]] W fun e w'=>e = .returned (.int .i64 (leftP (A,G,ox)))/\Below W.heap.size W w'):=fun W=>leftW_any (A,G,ox) q ox.length F W ⟨w5,w6⟩
     have k7:Hid (∀ B,B=ox.length->∀ d W,okN T s left r=d->Below w.heap.size w W->BK W pb q ox->NxO T s left r pb w (.returned (.tuple #[.agg #[.slice q B F,.int .i64 A,.int .i64 G],.bool d])) W):=fun B b6 d W hd hW b3=>by
      subst b6;subst hd;exact⟨q,ox.length,F,A,G,rfl,hW,fun _=>⟨_,w7.o,rfl,rfl,rfl,b3⟩⟩
     obtain⟨B,x4⟩:∃ B,B=ox.length:=⟨_,rfl⟩
     have k6:Hid (B=ox.length):=x4;rw[<-x4] at y0 k2
     generalize leftP (A,G,ox)=lf at k1 k2
     have c3:(0:Int)<=(i:Int):=by omega
     have c4:(i:Int)<(O:Int):=by omega
     have h9:w.heap.size≠w1.heap.size:=by have:=(Array.getElem?_eq_some_iff.1 r4).1;omega
     clear k3 U w3 y3 x4 w5 w6;go_wp2_with fail
     obtain⟨V,eV⟩:∃ V,V=w1.alloc (.cells #[.slice q B F,.int .i64 A,.int .i64 G] 60):=⟨_,rfl⟩
     rw[<-eV]
     have Z:Below w1.heap.size w1 V:=by rw[eV];exact(Below.refl _ _).alloc (Nat.le_refl _) _
     obtain⟨x0,x1,x2,_,_,_⟩:=res3 (V:=V) (by rw[eV];exact heap_alloc_new _ _);have rV:V.heap[w.heap.size]?=some (.cells #[.slice none 0 0,.int .i64 0,.int .i64 0] 60):=(Z.block _ (Array.getElem?_eq_some_iff.1 r4).1).trans r4;have P:Hid (Below w.heap.size w V):=Below.on h3 Z
     obtain⟨X,eX⟩:∃ X,X=w1.heap.size:=⟨_,rfl⟩
     rw[<-eX] at x0 x1 x2 h9 ⊢;clear eV eX Z u0 y0 y1 y2 r4 h3
     by_cases hm:A<=r
     rotate_right
     case' _=>
      have HE:Hid (okN T s left r=false):=by show _=_;rw[k1.o];simp[hm]
      refine wp_region_held_drew (S:=fun W=>W.cell? ⟨X,0,none⟩=some (.slice q B F)/\W.cell? ⟨X,1,none⟩=some (.int .i64 A)/\W.cell? ⟨X,2,none⟩=some (.int .i64 G)) (by kernel_rfl) ?_ (fun e5=>?_)
      ·exact⟨x0,x1,x2⟩
      refine hTr 0 (.agg #[.slice q B F,.int .i64 A,.int .i64 G]) 60 (fun o K W J=>?y0) ?_
      case y0=>cases K;obtain⟨s0,s1,s2⟩:=J;simp[execOp,go_sem,Act.eval,s0,s1,s2]
      simp only[Act.put,zzA,zzB,zzC];refine hTq 1 (.pointer (some ⟨X,1,none⟩)) 61 ?_
      simp only[Act.put,zzA,zzB,zzC];refine hTr 2 (.int .i64 A) 62 (fun o K W J=>?y2) ?_
      case y2=>cases K;obtain⟨s0,s1,s2⟩:=J;simp[execOp,go_sem,Act.eval,s1]
      simp only[Act.put,zzA,zzB,zzC];refine hTq 3 (.int .i64 r) 63 ?_
      simp only[Act.put,zzA,zzB,zzC];refine hTr 4 (.bool false) 64 (fun o K W J=>?y4) ?_
      case y4=>cases K;simp[execOp,go_sem,Act.eval];omega
      simp only[Act.put,zzA,zzB,zzC];refine hTq 5 (.bool false) 65 ?_
      simp only[Act.put,zzA,zzB,zzC];have C:Below V.heap.size V V.drew:=(Below.refl V.heap.size V).drew;refine hSq 6 66 ?_;refine hSq 7 67 ?_;refine hSq 8 68 ?_;refine hSq 9 69 ?_;simp only[Act.put,zzA,zzB,zzC];refine hTq 10 (.bool false) 70 ?_
      simp only[Act.put,zzA,zzB,zzC];have rY:V.drew.heap[w.heap.size]?=some (.cells #[.slice none 0 0,.int .i64 0,.int .i64 0] 60):=(C.block _ (Array.getElem?_eq_some_iff.1 rV).1).trans rV;obtain⟨g0,g1,g2,z0,z1,z2⟩:=res3 rV
      have e6:(put3 V.drew w.heap.size (.slice q B F) (.int .i64 A) (.int .i64 G)).cell? ⟨X,0,none⟩=some (.slice q B F)/\(put3 V.drew w.heap.size (.slice q B F) (.int .i64 A) (.int .i64 G)).cell? ⟨X,1,none⟩=some (.int .i64 A)/\(put3 V.drew w.heap.size (.slice q B F) (.int .i64 A) (.int .i64 G)).cell? ⟨X,2,none⟩=some (.int .i64 G):=by
       have hh:=put3_heap V.drew w.heap.size (.slice q B F) (.int .i64 A) (.int .i64 G) (j:=X) (Ne.symm h9);exact⟨(World.cell?_of_block (a:=⟨X,0,none⟩) (hh.trans (C.block _ (World.block_lt_of_cell? _ _ x0)))).trans x0,(World.cell?_of_block (a:=⟨X,1,none⟩) (hh.trans (C.block _ (World.block_lt_of_cell? _ _ x0)))).trans x1,(World.cell?_of_block (a:=⟨X,2,none⟩) (hh.trans (C.block _ (World.block_lt_of_cell? _ _ x0)))).trans x2⟩
      refine hStore (i:=11) (w':=put3 V.drew w.heap.size (.slice q B F) (.int .i64 A) (.int .i64 G)) (by kernel_rfl) (by kernel_rfl) (by kernel_rfl) (fun o K=>?ys) e6 ?_
      case ys=>cases K;simp[execOp,go_sem,Act.eval,g0,g1,g2,z0,z1,z2,put3]
      refine hTq 12 (.bool false) 7 ?_
      simp only[Act.put,zzA,zzB,zzC];refine wpAnyH_done (by kernel_rfl) ?_ _
      change Exit.then _ _ _ _ (put3 V.drew w.heap.size (.slice q B F) (.int .i64 A) (.int .i64 G))
      have HF:Hid (NxO T s left r pb w (.returned (.tuple #[.agg #[.slice q B F,.int .i64 A,.int .i64 G],.bool false])) (put3 V.drew w.heap.size (.slice q B F) (.int .i64 A) (.int .i64 G))):=k7.o B k6.o false _ HE.o (put3_below (Below.on P.o C) (Nat.le_refl _) _ _ _) (k5.o _ (put3_below (Below.on P.o C) (Nat.le_refl _) _ _ _))
     rotate_right
     case' _=>
      by_cases x9:left<=lf
      ·have HE:Hid (okN T s left r=true):=by show _=_;rw[k1.o];simp[hm,x9]
       refine wp_region_held_drew (S:=fun W=>W.cell? ⟨X,0,none⟩=some (.slice q B F)/\W.cell? ⟨X,1,none⟩=some (.int .i64 A)/\W.cell? ⟨X,2,none⟩=some (.int .i64 G)) (by kernel_rfl) ?_ (fun e5=>?_)
       ·exact⟨x0,x1,x2⟩
       refine hTr 0 (.agg #[.slice q B F,.int .i64 A,.int .i64 G]) 60 (fun o K W J=>?y0) ?_
       case y0=>cases K;obtain⟨s0,s1,s2⟩:=J;simp[execOp,go_sem,Act.eval,s0,s1,s2]
       simp only[Act.put,zzA,zzB,zzC];refine hTq 1 (.pointer (some ⟨X,1,none⟩)) 61 ?_
       simp only[Act.put,zzA,zzB,zzC];refine hTr 2 (.int .i64 A) 62 (fun o K W J=>?y2) ?_
       case y2=>cases K;obtain⟨s0,s1,s2⟩:=J;simp[execOp,go_sem,Act.eval,s1]
       simp only[Act.put,zzA,zzB,zzC];refine hTq 3 (.int .i64 r) 63 ?_
       simp only[Act.put,zzA,zzB,zzC];refine hTr 4 (.bool true) 64 (fun o K W J=>?y4) ?_
       case y4=>cases K;simp[execOp,go_sem,Act.eval,hm]
       simp only[Act.put,zzA,zzB,zzC];refine hTq 5 (.bool true) 65 ?_
       simp only[Act.put,zzA,zzB,zzC];refine hTq 6 (.int .i64 left) 66 ?_
       simp only[Act.put,zzA,zzB,zzC];refine hTr 7 (.agg #[.slice q B F,.int .i64 A,.int .i64 G]) 67 (fun o K W J=>?y7) ?_
       case y7=>cases K;obtain⟨s0,s1,s2⟩:=J;simp[execOp,go_sem,Act.eval,s0,s1,s2]
       simp only[Act.put,zzA,zzB,zzC];refine hCallE (i:=8) (f:=148) (args:=#[.agg #[.slice q B F,.int .i64 A,.int .i64 G]]) (some 68) (by kernel_rfl) (by kernel_rfl) (by kernel_rfl) (fun o K=>?c8) (k2.o V.drew) ?k8 (fun ch w' hh=>by cases hh.1) (fun w' hh=>by cases hh.1)
       case c8=>cases K;simp[execOp,go_sem,Act.eval]
       case k8=>
        rintro u R ⟨hu,H⟩;obtain rfl:=Ending.returned.inj hu;have C:Below V.heap.size V R:=((Below.refl V.heap.size V).drew).trans H;clear hu H
        have x5:R.cell? ⟨X,0,none⟩=some (.slice q B F)/\R.cell? ⟨X,1,none⟩=some (.int .i64 A)/\R.cell? ⟨X,2,none⟩=some (.int .i64 G):=⟨(C.cell (World.block_lt_of_cell? _ _ x0)).trans x0,(C.cell (World.block_lt_of_cell? _ _ x1)).trans x1,(C.cell (World.block_lt_of_cell? _ _ x2)).trans x2⟩
        refine⟨x5,?_⟩;simp only[Act.put,zzA,zzB,zzC];refine hTr 9 (.bool true) 69 (fun o K W J=>?y9) ?_
        case y9=>cases K;simp[execOp,go_sem,Act.eval,x9]
        simp only[Act.put,zzA,zzB,zzC];refine hTq 10 (.bool true) 70 ?_
        simp only[Act.put,zzA,zzB,zzC];have rY:R.heap[w.heap.size]?=some (.cells #[.slice none 0 0,.int .i64 0,.int .i64 0] 60):=(C.block _ (Array.getElem?_eq_some_iff.1 rV).1).trans rV;obtain⟨g0,g1,g2,z0,z1,z2⟩:=res3 rY
        have e6:(put3 R w.heap.size (.slice q B F) (.int .i64 A) (.int .i64 G)).cell? ⟨X,0,none⟩=some (.slice q B F)/\(put3 R w.heap.size (.slice q B F) (.int .i64 A) (.int .i64 G)).cell? ⟨X,1,none⟩=some (.int .i64 A)/\(put3 R w.heap.size (.slice q B F) (.int .i64 A) (.int .i64 G)).cell? ⟨X,2,none⟩=some (.int .i64 G):=by
         have hh:=put3_heap R w.heap.size (.slice q B F) (.int .i64 A) (.int .i64 G) (j:=X) (Ne.symm h9);exact⟨(World.cell?_of_block (a:=⟨X,0,none⟩) (hh.trans (C.block _ (World.block_lt_of_cell? _ _ x0)))).trans x0,(World.cell?_of_block (a:=⟨X,1,none⟩) (hh.trans (C.block _ (World.block_lt_of_cell? _ _ x0)))).trans x1,(World.cell?_of_block (a:=⟨X,2,none⟩) (hh.trans (C.block _ (World.block_lt_of_cell? _ _ x0)))).trans x2⟩
        refine hStore (i:=11) (w':=put3 R w.heap.size (.slice q B F) (.int .i64 A) (.int .i64 G)) (by kernel_rfl) (by kernel_rfl) (by kernel_rfl) (fun o K=>?ys) e6 ?_
        case ys=>cases K;simp[execOp,go_sem,Act.eval,g0,g1,g2,z0,z1,z2,put3]
        refine hTq 12 (.bool true) 7 ?_
        simp only[Act.put,zzA,zzB,zzC];refine wpAnyH_done (by kernel_rfl) ?_ _
        change Exit.then _ _ _ _ (put3 R w.heap.size (.slice q B F) (.int .i64 A) (.int .i64 G))
        have HF:Hid (NxO T s left r pb w (.returned (.tuple #[.agg #[.slice q B F,.int .i64 A,.int .i64 G],.bool true])) (put3 R w.heap.size (.slice q B F) (.int .i64 A) (.int .i64 G))):=k7.o B k6.o true _ HE.o (put3_below (Below.on P.o C) (Nat.le_refl _) _ _ _) (k5.o _ (put3_below (Below.on P.o C) (Nat.le_refl _) _ _ _));obtain⟨a0,a1,a2⟩:=set3 g0 g1 g2 (.slice q B F) (.int .i64 A) (.int .i64 G)
        unfold put3 at HF ⊢
        go_wp2_with fail;refine bodyPost_ret (v:=.tuple #[.agg #[.slice q B F,.int .i64 A,.int .i64 G],.bool true]) (by simp[results,Tryz.results94,go_sem,a0,a1,a2]) rfl ?_;exact HF.o
      have HE:Hid (okN T s left r=false):=by show _=_;rw[k1.o];simp[hm,x9]
      refine wp_region_held_drew (S:=fun W=>W.cell? ⟨X,0,none⟩=some (.slice q B F)/\W.cell? ⟨X,1,none⟩=some (.int .i64 A)/\W.cell? ⟨X,2,none⟩=some (.int .i64 G)) (by kernel_rfl) ?_ (fun e5=>?_)
      ·exact⟨x0,x1,x2⟩
      refine hTr 0 (.agg #[.slice q B F,.int .i64 A,.int .i64 G]) 60 (fun o K W J=>?y0) ?_
      case y0=>cases K;obtain⟨s0,s1,s2⟩:=J;simp[execOp,go_sem,Act.eval,s0,s1,s2]
      simp only[Act.put,zzA,zzB,zzC];refine hTq 1 (.pointer (some ⟨X,1,none⟩)) 61 ?_
      simp only[Act.put,zzA,zzB,zzC];refine hTr 2 (.int .i64 A) 62 (fun o K W J=>?y2) ?_
      case y2=>cases K;obtain⟨s0,s1,s2⟩:=J;simp[execOp,go_sem,Act.eval,s1]
      simp only[Act.put,zzA,zzB,zzC];refine hTq 3 (.int .i64 r) 63 ?_
      simp only[Act.put,zzA,zzB,zzC];refine hTr 4 (.bool true) 64 (fun o K W J=>?y4) ?_
      case y4=>cases K;simp[execOp,go_sem,Act.eval,hm]
      simp only[Act.put,zzA,zzB,zzC];refine hTq 5 (.bool true) 65 ?_
      simp only[Act.put,zzA,zzB,zzC];refine hTq 6 (.int .i64 left) 66 ?_
      simp only[Act.put,zzA,zzB,zzC];refine hTr 7 (.agg #[.slice q B F,.int .i64 A,.int .i64 G]) 67 (fun o K W J=>?y7) ?_
      case y7=>cases K;obtain⟨s0,s1,s2⟩:=J;simp[execOp,go_sem,Act.eval,s0,s1,s2]
      simp only[Act.put,zzA,zzB,zzC];refine hCallE (i:=8) (f:=148) (args:=#[.agg #[.slice q B F,.int .i64 A,.int .i64 G]]) (some 68) (by kernel_rfl) (by kernel_rfl) (by kernel_rfl) (fun o K=>?c8) (k2.o V.drew) ?k8 (fun ch w' hh=>by cases hh.1) (fun w' hh=>by cases hh.1)
      case c8=>cases K;simp[execOp,go_sem,Act.eval]
      case' k8=>
       rintro u R ⟨hu,H⟩;obtain rfl:=Ending.returned.inj hu;have C:Below V.heap.size V R:=((Below.refl V.heap.size V).drew).trans H;clear hu H
       have x5:R.cell? ⟨X,0,none⟩=some (.slice q B F)/\R.cell? ⟨X,1,none⟩=some (.int .i64 A)/\R.cell? ⟨X,2,none⟩=some (.int .i64 G):=⟨(C.cell (World.block_lt_of_cell? _ _ x0)).trans x0,(C.cell (World.block_lt_of_cell? _ _ x1)).trans x1,(C.cell (World.block_lt_of_cell? _ _ x2)).trans x2⟩
       refine⟨x5,?_⟩;simp only[Act.put,zzA,zzB,zzC];refine hTr 9 (.bool false) 69 (fun o K W J=>?y9) ?_
       case y9=>cases K;simp[execOp,go_sem,Act.eval];omega
       simp only[Act.put,zzA,zzB,zzC];refine hTq 10 (.bool false) 70 ?_
       simp only[Act.put,zzA,zzB,zzC];have rY:R.heap[w.heap.size]?=some (.cells #[.slice none 0 0,.int .i64 0,.int .i64 0] 60):=(C.block _ (Array.getElem?_eq_some_iff.1 rV).1).trans rV;obtain⟨g0,g1,g2,z0,z1,z2⟩:=res3 rY
       have e6:(put3 R w.heap.size (.slice q B F) (.int .i64 A) (.int .i64 G)).cell? ⟨X,0,none⟩=some (.slice q B F)/\(put3 R w.heap.size (.slice q B F) (.int .i64 A) (.int .i64 G)).cell? ⟨X,1,none⟩=some (.int .i64 A)/\(put3 R w.heap.size (.slice q B F) (.int .i64 A) (.int .i64 G)).cell? ⟨X,2,none⟩=some (.int .i64 G):=by
        have hh:=put3_heap R w.heap.size (.slice q B F) (.int .i64 A) (.int .i64 G) (j:=X) (Ne.symm h9);exact⟨(World.cell?_of_block (a:=⟨X,0,none⟩) (hh.trans (C.block _ (World.block_lt_of_cell? _ _ x0)))).trans x0,(World.cell?_of_block (a:=⟨X,1,none⟩) (hh.trans (C.block _ (World.block_lt_of_cell? _ _ x0)))).trans x1,(World.cell?_of_block (a:=⟨X,2,none⟩) (hh.trans (C.block _ (World.block_lt_of_cell? _ _ x0)))).trans x2⟩
       refine hStore (i:=11) (w':=put3 R w.heap.size (.slice q B F) (.int .i64 A) (.int .i64 G)) (by kernel_rfl) (by kernel_rfl) (by kernel_rfl) (fun o K=>?ys) e6 ?_
       case ys=>cases K;simp[execOp,go_sem,Act.eval,g0,g1,g2,z0,z1,z2,put3]
       refine hTq 12 (.bool false) 7 ?_
       simp only[Act.put,zzA,zzB,zzC];refine wpAnyH_done (by kernel_rfl) ?_ _
       change Exit.then _ _ _ _ (put3 R w.heap.size (.slice q B F) (.int .i64 A) (.int .i64 G))
       have HF:Hid (NxO T s left r pb w (.returned (.tuple #[.agg #[.slice q B F,.int .i64 A,.int .i64 G],.bool false])) (put3 R w.heap.size (.slice q B F) (.int .i64 A) (.int .i64 G))):=k7.o B k6.o false _ HE.o (put3_below (Below.on P.o C) (Nat.le_refl _) _ _ _) (k5.o _ (put3_below (Below.on P.o C) (Nat.le_refl _) _ _ _))
     all_goals
      obtain⟨a0,a1,a2⟩:=set3 g0 g1 g2 (.slice q B F) (.int .i64 A) (.int .i64 G)
      unfold put3 at HF ⊢
      go_wp2_with fail;refine bodyPost_ret (v:=.tuple #[.agg #[.slice q B F,.int .i64 A,.int .i64 G],.bool false]) (by simp[results,Tryz.results94,go_sem,a0,a1,a2]) rfl ?_;exact HF.o
    subst hf
    have HE:Hid (okN T s left r=false):=by show _=_;unfold okN;rw[U.o];rfl
    have HF:Hid (NxO T s left r pb w (.returned (.tuple #[.agg #[.slice none 0 0,.int .i64 0,.int .i64 0],.bool false])) (put3 w1 w.heap.size (.slice none 0 0) (.int .i64 0) (.int .i64 0))):=
     ⟨none,0,0,0,0,by rw[HE.o],put3_below h3 (Nat.le_refl _) _ _ _,fun h=>by rw[HE.o] at h;cases h⟩
    obtain⟨g0,g1,g2,z0,z1,z2⟩:=res3 r4;clear h3 r4
  rotate_right
  case' _=>
   have U:Hid (opB T s=none):=by show _=_;unfold opB;rw[if_neg N,if_pos h7]
   have HE:Hid (okN T s left r=false):=by show _=_;unfold okN;rw[U.o]
   obtain⟨e7,e4⟩:=h7;rw[e4] at h4
   generalize s.kd=x at HK e7
   have b4:(x != 1)=true:=by simpa using e7
   have b5:(x == 1)=false:=by simpa using e7
   clear h E HP N h6 x8 w4 e4
   go_enter Tryz.func94,Tryz.ntmps94
   go_wp2_with fail;refine(HK.o _ ((Below.refl _ _).alloc (Nat.le_refl _) _)).mono ?_;rintro e W1 ⟨rfl,I⟩;have r0:W1.heap[w.heap.size]?=some (.cells #[.slice none 0 0,.int .i64 0,.int .i64 0] 60):=(I.block _ (by simp)).trans (heap_alloc_new _ _);have z:Below w.heap.size w W1:=Below.on ((Below.refl _ _).alloc (Nat.le_refl _) _) I;clear HK I;go_wp2_with fail;refine(Y.o _ z).mono ?_;rintro e D ⟨rfl,H⟩;have r2:D.heap[w.heap.size]?=some (.cells #[.slice none 0 0,.int .i64 0,.int .i64 0] 60):=(H.block _ (Array.getElem?_eq_some_iff.1 r0).1).trans r0;have y:Below w.heap.size w D:=Below.on z H;clear Y H r0 z;go_wp2_with fail;refine(h4.o _ y).mono ?_;rintro e W3 ⟨rfl,h5⟩;have r3:W3.heap[w.heap.size]?=some (.cells #[.slice none 0 0,.int .i64 0,.int .i64 0] 60):=(h5.block _ (Array.getElem?_eq_some_iff.1 r2).1).trans r2
   have M:Below w.heap.size w W3:=Below.on y h5;clear h4 h5 r2 y
   have HF:Hid (NxO T s left r pb w (.returned (.tuple #[.agg #[.slice none 0 0,.int .i64 0,.int .i64 0],.bool false])) (put3 W3 w.heap.size (.slice none 0 0) (.int .i64 0) (.int .i64 0))):=
    ⟨none,0,0,0,0,by rw[HE.o],put3_below M (Nat.le_refl _) _ _ _,fun h=>by rw[HE.o] at h;cases h⟩
   obtain⟨g0,g1,g2,z0,z1,z2⟩:=res3 r3;clear M r3
  all_goals
   go_wp2_with fail;obtain⟨a0,a1,a2⟩:=set3 g0 g1 g2 (.slice none 0 0) (.int .i64 0) (.int .i64 0);refine bodyPost_ret (v:=.tuple #[.agg #[.slice none 0 0,.int .i64 0,.int .i64 0],.bool false]) (by simp[results,Tryz.results94,go_sem,a0,a1,a2]) rfl ?_;exact HF.o
end
abbrev prtO (a b:Value):Obj:=.cells #[a,b] 96
def put2 (w:World)(R:Nat)(a b:Value):World:=(w.setCell ⟨R,0,none⟩ a).setCell ⟨R,1,none⟩ b
theorem put2_heap (w:World)(R:Nat)(a b:Value){j:Nat}(c:j≠R):(put2 w R a b).heap[j]?=w.heap[j]?:=by
 unfold put2
 rw[Below.heap_setCell _ _ _ _ c,Below.heap_setCell _ _ _ _ c]
theorem put2_size (w:World)(R:Nat)(a b:Value):(put2 w R a b).heap.size=w.heap.size:=by simp[put2]
theorem res2 {V:World}{R:Nat}{a b:Value}{t:TypeId}(h:V.heap[R]?=some (.cells #[a,b] t)):V.cell? ⟨R,0,none⟩=some a/\V.cell? ⟨R,1,none⟩=some b/\V.frozen? ⟨R,0,none⟩=false/\V.frozen? ⟨R,1,none⟩=false:=
 ⟨by unfold World.cell?;rw[h];rfl,by unfold World.cell?;rw[h];rfl,by unfold World.frozen?;rw[h];simp,by unfold World.frozen?;rw[h];simp⟩
theorem set2 {W:World}{R:Nat}{x y:Value}(c:W.cell? ⟨R,0,none⟩=some x)(d:W.cell? ⟨R,1,none⟩=some y)(a b:Value):(W.setCell ⟨R,0,none⟩ a).cell? ⟨R,0,none⟩=some a/\((W.setCell ⟨R,0,none⟩ a).setCell ⟨R,1,none⟩ b).cell? ⟨R,1,none⟩=some b:=
 ⟨World.cell?_setCell_same' _ _ _ (by rw[c];rfl),World.cell?_setCell_same' _ _ _ (by rw[World.cell?_setCell_other _ _ _ _ (by simp),d];rfl)⟩
theorem prt_sl {w:World}{R:Nat}{q:Option Addr}{n c:Nat}{b:Value}(h:w.heap[R]?=some (prtO (.slice q n c) b)):SlRow w R/\¬ NmRow w R:=
 ⟨⟨⟨_,.inr (.inr h)⟩,q,n,c,(res2 h).1⟩,nm_tag h (by decide)⟩
theorem sf_put2 {pb:Nat}{w:World}{R:Nat}(d:SlRow w R)(a b:Value):SF pb w (put2 w R a b):=⟨rfl,rfl,rfl,by rw[put2_size];exact Nat.le_refl _,fun k g f c=>put2_heap _ _ _ _ (fun e=>c (by rw[e];exact d))⟩
theorem MF.put2 {pb:Nat}{w c:World}(h:MF pb w c){R:Nat}(g:w.heap.size<=R)(a b:Value):MF pb w (put2 c R a b):=⟨h.os,h.tape,h.output,by rw[put2_size];exact h.size,fun k f d e=>(put2_heap _ _ _ _ (by omega)).trans (h.block k f d e)⟩
theorem MF.tag {pb:Nat}{w e:World}(h:MF pb w e){k:Nat}{a:Array Value}{t:TypeId}(c:w.heap[k]?=some (.cells a t))(g:t≠23)(d:k≠pb):e.heap[k]?=some (.cells a t):=(h.block k (Array.getElem?_eq_some_iff.1 c).1 d (fun f=>nm_tag c g f.2)).trans c
section
variable {w0:World}{pb:Nat}{po:Option Addr}{co:Nat}{kp:Option Addr}{kc:Nat}{T:List Cel}{L:Int}{all:List Tok}{s:RS}{k:Nat}{b:Int}{w:World}
theorem MS.put2 (h:MS w0 pb po co kp kc T L all s k b w)(r:pb<w0.heap.size){R:Nat}(q:w0.heap.size<=R)(l:SlRow w R/\¬ NmRow w R)(x y:Value):MS w0 pb po co kp kc T L all s k b (put2 w R x y):=by
 obtain⟨p,n,c,m,j⟩:=h.c4;have f:(Go.Proofs.YtlkhmmoimplokaaGreatDoor.put2 w R x y).heap[pb]?=w.heap[pb]?:=put2_heap _ _ _ _ (by omega)
 have d:∀ o v,w.cell? ⟨pb,o,none⟩=some v->(Go.Proofs.YtlkhmmoimplokaaGreatDoor.put2 w R x y).cell? ⟨pb,o,none⟩=some v:=fun o v d=>(World.cell?_of_block (a:=⟨pb,o,none⟩) f).trans d
 exact⟨h.mf.put2 q _ _,d _ _ h.c0,d _ _ h.c1,d _ _ h.c2,d _ _ h.c3,⟨p,n,c,d _ _ m,j.of (sf_put2 l.1 _ _) fun g i=>put2_heap _ _ _ _ (fun e=>l.2 (by rw[<-e];exact(j.lt g i).2.2))⟩,fun o=>(World.frozen?_of_block (a:=⟨pb,o,none⟩) f).trans (h.fz o),h.kl,h.rel,h.nb⟩
theorem mst_put (d:pb<w0.heap.size){W:World}{R:Nat}(i:w0.heap.size<=R/\w.heap.size<=R){v:Option Addr}{u m:Nat}{y:Value}(j:W.heap[R]?=some (prtO (.slice v u m) y)){q:Option Addr}{n c:Nat}{t:List Cel}(a:CT W pb q n c t)(r:t.length<=2001){x:Tr}{p:Int}{g:RS}(o:g.ft=none->Cut t (itC x)){l:Nat}{h:Int}(f:MS w0 pb po co kp kc T L all g l h W)(e:MF pb w W) :
  MSt w0 pb po co kp kc T L all w ((x,p),g) (.returned (.agg #[.slice q n c,.int .i64 p])) (put2 W R (.slice q n c) (.int .i64 p)):=
 ⟨q,n,c,t,rfl,a.move (sf_put2 (prt_sl j).1 _ _),r,o,⟨l,h,f.put2 d i.1 (prt_sl j) _ _⟩,e.put2 i.2 _ _⟩
theorem join_cut {tss:List (List Cel)}{xs:List Tr}{c:List Int}{n:Nat}(e:n=tss.length)(h:Cuts tss (xs.map itC)):Cut (((3,(n:Int),c) :: tss.flatten).take 2001) (itC (cmpT c xs)):=by
 refine Cut.cut ?_;have d:=h.len;rw[List.length_map] at d;rw[cmpT_cells,<-d,<-e];exact Cut.cat (a:=[(3,(n:Int),c)]) (b:=[(3,(n:Int),c)]) rfl h.flat
theorem arow_one {W:World}{pb:Nat}{q:Option Addr}{n c:Nat}{t:List Cel}(h:CT W pb q n c t):ARow (W.alloc (.cells #[.slice q n c] 25)) pb (some ⟨W.heap.size,0,none⟩) [t]:=by
 refine⟨_,rfl,fun i u a=>?_⟩
 have d:i=0:=by have:=(List.getElem?_eq_some_iff.1 a).1;simp at this;omega
 subst d
 simp at a
 subst a;have e:=h.move (SF.of pb ((Below.refl W.heap.size W).alloc (Nat.le_refl _) (.cells #[.slice q n c] 25)));rw[<-h.1];exact⟨q,c,by simp[World.cell?_alloc_new],e⟩
theorem leaf_ct {W:World}{g:Nat}{f n:Int}{h:Option Addr}{j:Nat}{a:List Int}(c:pb<W.heap.size)(d:BK W pb h a)(e:a.length<=100):CT (W.alloc (.cells #[.int .i64 f,.int .i64 n,.slice h a.length j] 102)) pb (some ⟨W.heap.size,0,none⟩) 1 1 [(f,n,a)]:=
 (rw_one (W0:=W) (heap_alloc_new _ _) (Nat.le_refl _) (.inl d)).ct c (SF.of pb ((Below.refl _ _).alloc (Nat.le_refl _) _)) (by decide) (fun x i=>by rw[List.mem_singleton.1 i];exact e)
end
end Go.Proofs.YtlkhmmoimplokaaGreatDoor
