/- Texts of TermG, EvI1, AsE, AsE2, RecE, EvI2, EvI3, EvI4, EvI5, EvM, EvO, FunG, EvV1, CellG, FeA, RowK, CArg, Rd1, Rd2, Tk1, TkA. Own work of the verifier. -/
import Derived.Test.YtnfnddnffoigfaaGreatDoorUqae
import Derived.Test.YtnfnddnffoigfaaGreatDoorUqac
import Derived.Laws.CopyOwn
import Derived.Recover
import Derived.TacticsInMore
import Derived.RegionIn
import Derived.LoopNIn
import Derived.RecoverIn
import Derived.OwnWalkIn
namespace Go.Proofs.YtnfnddnffoigfaaGreatDoor
set_option maxHeartbeats 2000000
set_option linter.unusedVariables false
set_option linter.unusedSimpArgs false
set_option maxRecDepth 100000
section
open Go Go.RowKit
theorem tree_of {e:List Cel}(l:∀ i,i<e.length->Byte (e.getD i Cel.none).2.2)(f:validB e=true):∃ c k,e=c :: k.cells/\(Fo.node c k .nil).ok/\e.length<=2000:=by
 simp only[validB,Bool.and_eq_true,decide_eq_true_eq] at f;obtain⟨F,g,h,j⟩:=forest_of e 1 l f.2
 cases F with
 | nil=>simp[Fo.count] at g
 | node c k r=>
   cases r with
   | nil=>exact⟨c,k,by rw[<-h];simp[Fo.cells],j,f.1⟩
   | node a b d=>simp[Fo.count] at g
theorem termOf_any (c:Cel)(k:Fo)(p:Option Addr)(n a:Nat)(w:World)(f:(Fo.node c k .nil).ok)(j:n=k.cells.length+1)(s:n<=a)(t:a<=9223372036854775807)(d:CIn w p (c :: k.cells)) :
  Calls Tryz.prog 21 #[.slice p n a] w fun e m=>∃ v,e = .returned v/\FoIn m w.heap.size (.node c k .nil) [v]/\Below w.heap.size w m:=by
 have h:Calls Tryz.prog 42 #[.slice p n a] w (FirstOut w w c k [] a):=firstTerm_any k.cells.length c k p n a [] w w (Below.refl _ _) (Nat.le_refl _) f (by rw[j];rfl) s t (by rw[List.append_nil];exact d);clear f d j
 go_enter Tryz.func21,Tryz.ntmps21
 go_wp2_with fail;refine h.mono ?_;rintro e z ⟨v,q,l,u,rfl,_,_,_,b,i⟩;obtain⟨x,y,rfl⟩:=b.iface;have g:=hid b;have r:=hid i;clear b i h;go_wp2_with fail;go_ret;exact⟨_,rfl,g.o,r.o⟩
end
section
open Go Go.RowKit Go.Extern.Stop Go.Stop Go.Extern
end
section
open Go Go.RowKit
end
section
open Go Go.RowKit Go.Maps
end
section
open Go Go.RowKit
theorem isAtom (w:World)(x:Value):(Instr.typeAssert (.iface 55 x) 48 55 true).run Tryz.prog w = .ok (.tuple #[x,.bool true]) w:=by kernel_rfl
theorem functor_any (b g q:Nat)(str:ByteArray)(w:World)(a:w.cell? ⟨b,0,none⟩=some (.string str))(c:w.cell? ⟨b,1,none⟩=some (.slice (some ⟨g,0,none⟩) q q)) :
  Calls Tryz.prog 44 #[.pointer (some ⟨b,0,none⟩)] w fun e d=>e = .returned (.agg #[.string str,.int .i64 q])/\Below w.heap.size w d:=by
 have f:∀ x,(w.alloc x).cell? ⟨b,0,none⟩=some (.string str):=fun x=>Lib.cell?_alloc_marked x a
 have h:∀ x,(w.alloc x).cell? ⟨b,1,none⟩=some (.slice (some ⟨g,0,none⟩) q q):=fun x=>Lib.cell?_alloc_marked x c
 go_enter Tryz.func44,Tryz.ntmps44
 go_wp2_with fail
 go_region
 all_goals go_wp2_with fail
 all_goals exact bodyPost_ret (v:=.agg #[.string str,.int .i64 q]) (by simp[results,Tryz.results44,go_sem]) rfl ⟨rfl,((Below.refl _ _).alloc (Nat.le_refl _) _).drew⟩
end
section
open Go Go.RowKit Go.Maps
theorem cellsOf_any (c:Cel)(k:Fo)(v:Value)(F:Nat)(w:World)(d:(Fo.node c k .nil).ok)(E:FoIn w F (.node c k .nil) [v])(N:k.cells.length<=10000) :
  Calls Tryz.prog 24 #[v] w fun e r=>∃ p n l,e = .returned (.slice p n l)/\OwnC r w.heap.size p n l (c :: k.cells)/\Below w.heap.size w r:=by
 have nil:=OwnC.nil w w.heap.size
 have u:∀ {e:Ending} {r:World},AppOut w w.heap.size [] (c :: k.cells) e r->∃ p n l,e = .returned (.slice p n l)/\OwnC r w.heap.size p n l (c :: k.cells)/\Below w.heap.size w r:=fun ⟨p,n,l,z,A,J⟩=>⟨p,n,l,z,by simpa using A,J⟩
 have B:Hid _:=@u;clear u;obtain⟨O,P,e,m,_⟩:=E;obtain⟨rfl,rfl⟩:=List.cons.inj e;have a:=d.1;have f:=d.2.1
 rcases m with ⟨h,rfl⟩ | ⟨h,rfl⟩ | ⟨h,rfl⟩ | ⟨h,b,g,M,rfl,i⟩
 rotate_right
 case' _=>
  have x:=d.2.2.1 h;obtain⟨D,q,j⟩:=c;simp only at h a f x i;subst h x;have s:=appComp_any k.cells.length j k b g M none 0 0 [] F w.heap.size w w (Nat.le_refl _) d.2.2.2.2.1 f i (Below.refl _ _) (Nat.le_refl _) (Nat.le_refl _) nil (by omega);clear d a f e nil i
 rotate_right
 case' _=>
  have y:k = .nil:=d.2.2.2.1 (by rw[h];decide);obtain⟨D,q,j⟩:=c;simp only at h a f;subst h y
  have t:q=0:=by simp[cellB] at a;exact a.2
  subst t;have s:=appAtom_any j f none 0 0 [] w.heap.size w (Nat.le_refl _) (by decide) nil
  obtain⟨str,H⟩:∃ str,str=strOfNums j:=⟨_,rfl⟩
  simp only;rw[<-H] at s ⊢;clear d a f e nil H
 rotate_right
 case' _=>
  have y:k = .nil:=d.2.2.2.1 (by rw[h];decide);obtain⟨D,q,j⟩:=c;simp only at h a;subst h y
  have t:j = []:=by simp[cellB] at a;exact a.2.2
  subst t;have s:=appNum_any q none 0 0 [] w.heap.size w (Nat.le_refl _) (by decide) nil;clear d a f e nil
 rotate_right
 case' _=>
  have y:k = .nil:=d.2.2.2.1 (by rw[h];decide);obtain⟨D,q,j⟩:=c;simp only at h a;subst h y
  have t:j = []:=by simp[cellB] at a;exact a.2.2
  subst t;have s:=appVar_any q none 0 0 [] w.heap.size w (Nat.le_refl _) (by decide) nil;clear d a f e nil
 all_goals
  go_enter Tryz.func24,Tryz.ntmps24
  go_wp2_with fail;refine s.mono ?_;rintro e Q ⟨L,K,I,rfl,z,A⟩;have G:=B.o ⟨L,K,I,rfl,z,A⟩;have C:Hid _:=G;clear G z A;go_wp2_with fail;go_ret;exact C.o
end
section
open Go Go.RowKit Go.Extern
theorem is_nil (a:Addr)(w:World) :
  Calls Tryz.prog 90 #[.nilIface,.iface 459 (.pointer (some a))] w fun e c=>e = .returned (.bool false)/\c=w:=by
 have b:=run_eql_iface_nil_left (P:=Tryz.prog) w 459 (.pointer (some a)) Tryz.underlying113
 go_enter Tryz.func90,Tryz.ntmps90
 go_wp2
 go_ret;exact⟨rfl,rfl⟩
theorem as_nilE (v:Value)(w:World) :
  Calls Tryz.prog 91 #[.nilIface,v] w fun e a=>e = .returned (.bool false)/\a=w:=by
 go_enter Tryz.func91,Tryz.ntmps91
 go_wp2
 go_ret;exact⟨rfl,rfl⟩
end
section
open Go Go.RowKit
def rdI (xs:List Int)(i:Nat):Int:=if i<xs.length then xs.getD i 0 else 0
def rdN (xs:List Int)(i:Nat):Nat:=if i<xs.length then i+1 else i
theorem rdI_rng {a:List Int}(b:Bytes a)(i:Nat):0<=rdI a i/\rdI a i<256:=by
 unfold rdI;split
 ·have:=b.at i;omega
 ·omega
theorem rdN_le {a:List Int}{i:Nat}(h:i<=a.length):rdN a i<=a.length:=by unfold rdN;split <;> omega
structure RdIn (w:World)(R:Nat)(p:Option Addr)(c:Nat)(xs:List Int)(i:Nat):Prop where
 at0:w.cell? ⟨R,0,none⟩=some (.slice p xs.length c)
 at1:w.cell? ⟨R,1,none⟩=some (.int .i64 i)
 fz:w.frozen? ⟨R,1,none⟩=false
 lt:R<w.heap.size
 bytes:Bytes xs
 small:xs.length<=500
 le:i<=xs.length
 text:BIn w p xs
 low:0<xs.length->∀ a,p=some a->a.block<R
theorem RdIn.keep {w d:World}{R:Nat}{p:Option Addr}{c:Nat}{f:List Int}{i B U:Nat}(h:RdIn w R p c f i)(k:Keep B U w d)(g:R<B):RdIn d R p c f i:=by
 have a:Below (R+1) w d:=k.below g (by have:=h.lt;omega);refine⟨(a.cell (p:=⟨R,0,none⟩) (Nat.lt_succ_self _)).trans h.at0,(a.cell (p:=⟨R,1,none⟩) (Nat.lt_succ_self _)).trans h.at1,(a.frozen (p:=⟨R,1,none⟩) (Nat.lt_succ_self _)).trans h.fz,Nat.lt_of_lt_of_le h.lt a.size,h.bytes,h.small,h.le,?_,h.low⟩
 intro e
 obtain⟨b,o,rfl,l⟩:=h.text e;exact⟨b,o,rfl,fun j m=>(a.cell (p:=⟨b,o+j,none⟩) (Nat.lt_succ_of_lt (h.low e ⟨b,o,none⟩ rfl))).trans (l j m)⟩
theorem RdIn.below {w w':World}{R:Nat}{p:Option Addr}{c:Nat}{a:List Int}{i B:Nat}(h:RdIn w R p c a i)(k:Below B w w')(b:R<B):RdIn w' R p c a i:=
 h.keep (B:=B) (U:=w.heap.size) ⟨k.os,k.tape,k.output,k.size,fun j d e=>k.block j (by omega)⟩ b
theorem next_any (R c i:Nat)(p:Option Addr)(a:List Int)(w:World)(h:RdIn w R p c a i) :
  Calls Tryz.prog 33 #[.pointer (some ⟨R,0,none⟩)] w fun e q=>e = .returned (.int .i64 (rdI a i))/\Keep R (R+1) w q/\q.heap.size=w.heap.size/\RdIn q R p c a (rdN a i):=by
 have s:=h.at0;have y:=h.at1;have z:=h.fz;have u:=h.small;have f:=hid h
 by_cases d:i<a.length
 ·rw[show rdI a i=a.getD i 0 by unfold rdI;rw[if_pos d],show rdN a i=i+1 by unfold rdN;rw[if_pos d]]
  obtain⟨b,o,rfl,m⟩:=h.text (by omega);have F:=m i d;have E:=h.bytes.at i
  obtain⟨x,r⟩:∃ x,x=a.getD i 0:=⟨_,rfl⟩
  rw[<-r] at F E ⊢
  obtain⟨n,g⟩:∃ n,n=a.length:=⟨_,rfl⟩
  rw[<-g] at s u d;have v:=hid g
  have l:Hid (∀ k,Keep R (R+1) w ((w.drewN k).setCell ⟨R,1,none⟩ (.int .i64 (i+1:Nat)))/\((w.drewN k).setCell ⟨R,1,none⟩ (.int .i64 (i+1:Nat))).heap.size=w.heap.size/\RdIn ((w.drewN k).setCell ⟨R,1,none⟩ (.int .i64 (i+1:Nat))) R (some ⟨b,o,none⟩) c a (i+1)):=by
   intro k
   have C:Keep R (R+1) w ((w.drewN k).setCell ⟨R,1,none⟩ (.int .i64 (i+1:Nat))):=⟨rfl,rfl,rfl,by simp,fun j _ G=>by rw[heap_setCell_other _ _ _ _ (by simp;omega)];rfl⟩
   refine⟨C,by simp,?_⟩;refine⟨?_,World.cell?_setCell_same' _ _ _ (by show(w.cell? _).isSome=true;rw[y];rfl),?_,by have:=f.o.lt;simpa using this,f.o.bytes,f.o.small,by omega,?_,f.o.low⟩
   ·rw[World.cell?_setCell_other _ _ _ _ (by intro e;simp only[Addr.mk.injEq] at e;omega)];exact f.o.at0
   ·rw[World.frozen?_setCell];exact z
   ·intro D
    refine⟨b,o,rfl,fun j A=>?_⟩;rw[World.cell?_setCell_other _ _ _ _ (by intro e;simp only[Addr.mk.injEq] at e;have:=f.o.low D _ rfl;simp only at this;omega)];exact m j A
  clear r m h g
  go_enter Tryz.func33,Tryz.ntmps33
  go_wp2
  go_region
  all_goals go_wp2
  go_region
  all_goals go_wp2
  all_goals go_ret
  exact⟨rfl,l.o 2⟩
 ·rw[show rdI a i=0 by unfold rdI;rw[if_neg d],show rdN a i=i by unfold rdN;rw[if_neg d]]
  have t:i=a.length:=by have:=h.le;omega
  obtain⟨n,g⟩:∃ n,n=a.length:=⟨_,rfl⟩
  rw[<-g] at s u t;subst t;have v:=hid g;clear h g
  go_enter Tryz.func33,Tryz.ntmps33
  go_wp2
  go_region
  all_goals go_wp2
  all_goals go_ret
  exact⟨rfl,Keep.of_grown (row:=none) ⟨rfl,rfl,rfl,Nat.le_refl _,fun _ _ _=>rfl⟩ (by intro k e;cases e),rfl,f.o.below (B:=w.heap.size) (below_drewN (Below.refl _ _) 1) f.o.lt⟩
theorem take_bin {w:World}{p:Option Addr}{a:List Int}(h:BIn w p a)(n:Nat):BIn w p (a.take n):=by
 intro e
 rw[List.length_take] at e;obtain⟨b,o,rfl,c⟩:=h (by omega);refine⟨b,o,rfl,fun i d=>?_⟩;rw[List.length_take] at d;rw[c i (by omega),List.getD,List.getD,List.getElem?_take_of_lt (by omega)]
theorem l4open_any (p:Option Addr)(c:Nat)(d:List Int)(w:World)(r:Bytes d)(y:d.length<=1048576)(u:d.length<=c)(h:BIn w p d) :
  Calls Tryz.prog 16 #[.slice p d.length c] w fun e s=>e = .returned (.pointer (some ⟨w.heap.size,0,none⟩))/\Below w.heap.size w s/\s.heap.size=w.heap.size+1/\RdIn s w.heap.size p c (d.take 500) 0:=by
 have R:∀ m:Nat,m=(d.take 500).length->Hid (Below w.heap.size w (w.alloc (Obj.cells #[.slice p m c,.int .i64 0] 87))/\(w.alloc (Obj.cells #[.slice p m c,.int .i64 0] 87)).heap.size=w.heap.size+1/\RdIn (w.alloc (Obj.cells #[.slice p m c,.int .i64 0] 87)) w.heap.size p c (d.take 500) 0):=by
  intro m B
  have i:=(Below.refl w.heap.size w).alloc (Nat.le_refl _) (Obj.cells #[.slice p m c,.int .i64 0] 87);have f:=heap_alloc_new w (Obj.cells #[.slice p m c,.int .i64 0] 87);refine⟨i,by simp,?_⟩;refine⟨?_,?_,?_,by simp,fun x h=>r x (List.mem_of_mem_take h),by simp;omega,by omega,?_,fun l a A=>?_⟩
  ·rw[<-B];unfold World.cell?;simp only[f];rfl
  ·unfold World.cell?;simp only[f];rfl
  ·exact frozen_of_row _ _ _ _ _ f
  ·intro l
   obtain⟨b,o,rfl,q⟩:=take_bin h 500 l;exact⟨b,o,rfl,fun j v=>(i.cell (p:=⟨b,o+j,none⟩) (World.block_lt_of_cell? _ _ (q j v))).trans (q j v)⟩
  ·obtain⟨b,o,rfl,q⟩:=take_bin h 500 l
   obtain rfl:=Option.some.inj A;exact World.block_lt_of_cell? _ _ (q 0 l)
 by_cases t:500<d.length
 ·have k:=R 500 (by rw[List.length_take];omega)
  clear R h r
  obtain⟨n,g⟩:∃ n,n=d.length:=⟨_,rfl⟩
  rw[<-g] at y u t ⊢;have z:=hid g;clear g
  go_enter Tryz.func16,Tryz.ntmps16
  go_wp2
  go_ret;exact⟨rfl,k.o⟩
 ·have k:=R d.length (by rw[List.length_take];omega)
  clear R h r
  obtain⟨n,g⟩:∃ n,n=d.length:=⟨_,rfl⟩
  rw[<-g] at y u t k ⊢;have z:=hid g;clear g
  go_enter Tryz.func16,Tryz.ntmps16
  go_wp2
  go_ret;exact⟨rfl,k.o⟩
theorem Keep.cell {B U:Nat}{w w':World}(h:Keep B U w w'){a:Addr}{v:Value}(b:w.cell? a=some v)(ha:a.block<B∨U<=a.block):w'.cell? a=some v:=by
 have c:=h.block a.block (World.block_lt_of_cell? _ _ b) ha
 unfold World.cell? at b ⊢
 rw[c];exact b
theorem Keep.of_below {B U:Nat}{w w':World}(h:Below w.heap.size w w'):Keep B U w w':=⟨h.os,h.tape,h.output,h.size,fun k a _=>h.block k a⟩
def nmU:List (List UInt8):=[[97],[102,111,111],[98,49],[91,93],[45],[43],[61],[58,45],[44],[105,115],[],[88,32,121],[92,43],[123,125],[33],[59],[46],[47,42],[105,116,39,115],[10,128],[120,111,114],[109,111,100],[124],[42],[100,121,110,97,109,105,99],[64],[64,64],[104,101,108,108,111,95,87,111,114,108,100]]
def nmV:List Value:=nmU.map strV
theorem nm_made (w:World)(t:TypeId)(i:Nat)(h:i<28):(w.alloc (.cells nmV.toArray t)).cell? ⟨w.heap.size,i,none⟩=some (.string (bOf (nmU.getD i []))):=by
 rw[cell_lit w nmV t i h];simp only[nmV,List.getElem_map,List.getD,List.getElem?_eq_getElem (show i<nmU.length from h)];rfl
def nameAt (x:Nat):List UInt8:=nmU.getD (if x<180 then x % 6 else x % 28) []
def NameOut (w:World)(R:Nat)(p:Option Addr)(c:Nat)(xs:List Int)(i:Nat)(e:Ending)(w':World):Prop:=
 ∃ g n cap,e = .returned (.slice (some ⟨g,0,none⟩) n cap)/\n=(numsU (nameAt (rdI xs i).toNat)).length/\Keep R (R+1) w w'/\RdIn w' R p c xs (rdN xs i)/\w.heap.size<=g/\OwnT w' w.heap.size (some ⟨g,0,none⟩) n cap (numsU (nameAt (rdI xs i).toNat))
theorem l4name_any (R c i:Nat)(p:Option Addr)(v:List Int)(w:World)(h:RdIn w R p c v i) :
  Calls Tryz.prog 104 #[.pointer (some ⟨R,0,none⟩)] w (NameOut w R p c v i):=by
 have P:=hid h;have hr:=rdI_rng h.bytes i
 obtain⟨u,F⟩:∃ u,u=w.alloc (.cells nmV.toArray 9):=⟨_,rfl⟩
 have B:Hid (∀ j,j<28->u.cell? ⟨w.heap.size,j,none⟩=some (.string (bOf (nmU.getD j [])))):=fun j O=>by rw[F];exact nm_made w _ j O
 have z:Hid (Below w.heap.size w u):=by rw[F];exact(Below.refl _ _).alloc (Nat.le_refl _) _
 have V:Hid (w.heap.size<u.heap.size):=by show _<_;rw[F];simp
 clear h
 go_enter Tryz.func104,Tryz.ntmps104
 go_wp2_with fail
 have G:u=w.alloc (Obj.cells #[.string ⟨#[97]⟩,.string ⟨#[102,111,111]⟩,.string ⟨#[98,49]⟩,.string ⟨#[91,93]⟩,.string ⟨#[45]⟩,.string ⟨#[43]⟩,.string ⟨#[61]⟩,.string ⟨#[58,45]⟩,.string ⟨#[44]⟩,.string ⟨#[105,115]⟩,.string ⟨#[]⟩,.string ⟨#[88,32,121]⟩,.string ⟨#[92,43]⟩,.string ⟨#[123,125]⟩,.string ⟨#[33]⟩,.string ⟨#[59]⟩,.string ⟨#[46]⟩,.string ⟨#[47,42]⟩,.string ⟨#[105,116,39,115]⟩,.string ⟨#[10,128]⟩,.string ⟨#[120,111,114]⟩,.string ⟨#[109,111,100]⟩,.string ⟨#[124]⟩,.string ⟨#[42]⟩,.string ⟨#[100,121,110,97,109,105,99]⟩,.string ⟨#[64]⟩,.string ⟨#[64,64]⟩,.string ⟨#[104,101,108,108,111,95,87,111,114,108,100]⟩] 9):=by rw[F];rfl
 rw[<-G];clear F G;have D:=P.o.below z.o P.o.lt;refine(next_any R c i p v u D).mono ?_;rintro e m ⟨rfl,t,U,I⟩;have C:=hid I;have A:Hid (Keep R (R+1) w m):=(Keep.of_below z.o).trans t
 obtain⟨x,S⟩:∃ x:Nat,rdI v i=x:=⟨(rdI v i).toNat,by omega⟩
 rw[S] at hr ⊢
 have E:Hid ((rdI v i).toNat=x):=by show _=_;rw[S];rfl
 have f:Hid (∀ j s,nameAt x=nmU.getD j []->j<28->s=bOf (nmU.getD j [])->m.cell? ⟨w.heap.size,j,none⟩=some (.string s)/\∃ y n b,(convert 9 22 (.string s)).run Tryz.prog m = .ok (.slice (some ⟨m.heap.size,0,none⟩) n b) y/\NameOut w R p c v i (.returned (.slice (some ⟨m.heap.size,0,none⟩) n b)) y):=by
  intro j s O J rfl
  refine⟨t.cell (B.o j J) (.inr P.o.lt),?_⟩;obtain⟨y,b,l,d,M⟩:=conv_bytes m (numsU (nmU.getD j [])) (byte_numsU _) 9 Tryz.underlying9;rw[strOf_numsU] at l;have N:w.heap.size<=m.heap.size:=A.o.size;refine⟨y,_,b,l,m.heap.size,_,b,rfl,by rw[E.o,O],Keep.trans A.o ⟨d.os,d.tape,d.output,d.size,fun k Z _=>d.block k Z⟩,C.o.below d C.o.lt,N,?_⟩;rw[E.o,O];refine⟨M.1,fun hn=>?_⟩;obtain⟨g,W,X,Y⟩:=M.2 hn;exact⟨g,W,Nat.le_trans N X,Y⟩
 clear I t B S D U
 by_cases K:x<180
 ·obtain⟨j,q⟩:∃ j,j=x % 6:=⟨_,rfl⟩
  have T:j<6:=by omega
  obtain⟨s,H⟩:∃ s,s=bOf (nmU.getD j []):=⟨_,rfl⟩
  obtain⟨r,y,n,b,l,a⟩:=f.o j s (by unfold nameAt;rw[if_pos K,q]) (by omega) H;have Q:Hid _:=a
  have L:(x:Int).tmod 6=(j:Int):=by rw[q,Int.tmod_eq_emod_of_nonneg (by omega)];rfl
  clear f H q a;go_wp2_with fail;go_ret;exact Q.o
 ·obtain⟨j,q⟩:∃ j,j=x % 28:=⟨_,rfl⟩
  have T:j<28:=by omega
  obtain⟨s,H⟩:∃ s,s=bOf (nmU.getD j []):=⟨_,rfl⟩
  obtain⟨r,y,n,b,l,a⟩:=f.o j s (by unfold nameAt;rw[if_neg K,q]) (by omega) H;have Q:Hid _:=a
  have L:(x:Int).tmod 28=(j:Int):=by rw[q,Int.tmod_eq_emod_of_nonneg (by omega)];rfl
  clear f H q a;go_wp2_with fail;go_ret;exact Q.o
abbrev Tok:=(Int×Int×Int×Int)×List Int
def Tok.none:Tok:=((0,0,0,0),[])
abbrev RT:=(Int×Int×Int×Int)×Option Addr×Nat×Nat
def RT.zero:RT:=((0,0,0,0),Option.none,0,0)
theorem rt_append_at (a:List RT)(r:RT)(i:Nat)(h:i<=a.length):(a ++ [r]).getD i RT.zero=if i=a.length then r else a.getD i RT.zero:=by
 simp only[List.getD,List.getElem?_append]
 by_cases e:i=a.length
 ·subst e;simp
 ·rw[if_pos (by omega),if_neg e]
theorem ts_append_at (a:List Tok)(t:Tok)(i:Nat)(h:i<=a.length):(a ++ [t]).getD i Tok.none=if i=a.length then t else a.getD i Tok.none:=by
 simp only[List.getD,List.getElem?_append]
 by_cases e:i=a.length
 ·subst e;simp
 ·rw[if_pos (by omega),if_neg e]
def TAt (w:World)(b o:Nat)(t:Tok):Prop:=
 ∃ p cap,w.cell? ⟨b,o,none⟩=some (.int .i64 t.1.1)/\w.cell? ⟨b,o+1,none⟩=some (.int .i64 t.1.2.1)/\w.cell? ⟨b,o+2,none⟩=some (.int .i64 t.1.2.2.1)/\w.cell? ⟨b,o+3,none⟩=some (.slice p t.2.length cap)/\w.cell? ⟨b,o+4,none⟩=some (.int .i64 t.1.2.2.2)/\BIn w p t.2
def TIn (w:World)(p:Option Addr)(ts:List Tok):Prop:=
 0<ts.length->∃ b o,p=some ⟨b,o,none⟩/\∀ i,i<ts.length->TAt w b (o+i * 5) (ts.getD i Tok.none)
theorem TAt.below {W d:World}{b o:Nat}{t:Tok}(h:TAt W b o t)(a:Below W.heap.size W d):TAt d b o t:=by
 obtain⟨p,c,e,f,g,i,j,k⟩:=h;exact⟨p,c,(a.cell (World.block_lt_of_cell? _ _ e)).trans e,(a.cell (World.block_lt_of_cell? _ _ f)).trans f,(a.cell (World.block_lt_of_cell? _ _ g)).trans g,(a.cell (World.block_lt_of_cell? _ _ i)).trans i,(a.cell (World.block_lt_of_cell? _ _ j)).trans j,k.below a⟩
theorem TIn.below {W a:World}{p:Option Addr}{c:List Tok}(h:TIn W p c)(d:Below W.heap.size W a):TIn a p c:=fun g=>by
 obtain⟨b,o,rfl,e⟩:=h g;exact⟨b,o,rfl,fun i f=>(e i f).below d⟩
theorem infoTok:(Tryz.prog.info? 251).map (fun i=>(i.zero,i.size,i.bytes))=some (some (.agg #[.int .i64 0,.int .i64 0,.int .i64 0,.slice none 0 0,.int .i64 0]),5,56):=by kernel_rfl
def rtV (r:RT):List Value:=[.int .i64 r.1.1,.int .i64 r.1.2.1,.int .i64 r.1.2.2.1,.slice r.2.1 r.2.2.1 r.2.2.2,.int .i64 r.1.2.2.2]
def flatT (rs:List RT):List Value:=rs.flatMap rtV
theorem flatT_cons (r:RT)(a:List RT):flatT (r :: a) = .int .i64 r.1.1 :: .int .i64 r.1.2.1 :: .int .i64 r.1.2.2.1 :: .slice r.2.1 r.2.2.1 r.2.2.2 :: .int .i64 r.1.2.2.2 :: flatT a:=rfl
theorem flatT_append (a b:List RT):flatT (a ++ b)=flatT a ++ flatT b:=List.flatMap_append
theorem flatT_one (r:RT):flatT [r]=rtV r:=by simp[flatT]
theorem flatT_at:∀ (a:List RT) (i:Nat),i<a.length->(flatT a)[i * 5]?=some (.int .i64 (a.getD i RT.zero).1.1)/\(flatT a)[i * 5+1]?=some (.int .i64 (a.getD i RT.zero).1.2.1)/\(flatT a)[i * 5+2]?=some (.int .i64 (a.getD i RT.zero).1.2.2.1)/\
  (flatT a)[i * 5+3]?=some (.slice (a.getD i RT.zero).2.1 (a.getD i RT.zero).2.2.1 (a.getD i RT.zero).2.2.2)/\(flatT a)[i * 5+4]?=some (.int .i64 (a.getD i RT.zero).1.2.2.2)
 | [],i,h=>by simp at h
 | r :: a,0,_=>by simp[flatT_cons]
 | r :: a,i+1,h=>by
   have:=flatT_at a i (by simpa using h);rw[flatT_cons,show(i+1) * 5=(i * 5)+1+1+1+1+1 by omega,show(i * 5)+1+1+1+1+1+1=(i * 5+1)+1+1+1+1+1 by omega,show(i * 5)+1+1+1+1+1+2=(i * 5+2)+1+1+1+1+1 by omega,show(i * 5)+1+1+1+1+1+3=(i * 5+3)+1+1+1+1+1 by omega,show(i * 5)+1+1+1+1+1+4=(i * 5+4)+1+1+1+1+1 by omega]
   simpa using this
def FitsT (w:World)(B:Nat)(r:RT)(t:Tok):Prop:=r.1=t.1/\OwnT w B r.2.1 r.2.2.1 r.2.2.2 t.2
def ApartT (p:Option Addr)(rs:List RT):Prop:=
 (∀ i,i<rs.length->0<(rs.getD i RT.zero).2.2.1->(rs.getD i RT.zero).2.1≠p)/\
 (∀ i j,i<rs.length->j<rs.length->i≠j->0<(rs.getD i RT.zero).2.2.1->0<(rs.getD j RT.zero).2.2.1->(rs.getD i RT.zero).2.1≠(rs.getD j RT.zero).2.1)
def OwnK (w:World)(B:Nat)(p:Option Addr)(n c:Nat)(ts:List Tok):Prop:=
 n=ts.length/\∃ rs:List RT,rs.length=ts.length/\w.ownsRow B 251 5 (.slice p n c) n (flatT rs)/\(∀ i,i<ts.length->FitsT w B (rs.getD i RT.zero) (ts.getD i Tok.none))/\ApartT p rs
theorem OwnK.nil (w:World)(B:Nat):OwnK w B none 0 0 []:=⟨rfl,[],rfl,World.ownsRow_nil _ _ _ _,fun i h=>by simp at h,fun i h=>by simp at h,fun i j h=>by simp at h⟩
theorem OwnK.tin {w:World}{B:Nat}{p:Option Addr}{n c:Nat}{j:List Tok}(h:OwnK w B p n c j):TIn w p j:=fun u=>by
 obtain⟨rfl,d,y,a,s,_⟩:=h;obtain⟨g,r,f,v,x⟩:=a.form u;simp only[Value.slice.injEq,true_and] at f;obtain⟨rfl,rfl⟩:=f;refine⟨g,0,rfl,fun i t=>?_⟩;obtain⟨b,e⟩:=s i t;obtain⟨k,l,m,o,q⟩:=flatT_at d i (by omega);rw[Nat.zero_add];refine⟨(d.getD i RT.zero).2.1,(d.getD i RT.zero).2.2.2,?_,?_,?_,?_,?_,e.bin⟩
 ·rw[a.cellAt _ (by omega),k,b]
 ·rw[a.cellAt _ (by omega),l,b]
 ·rw[a.cellAt _ (by omega),m,b]
 ·rw[a.cellAt _ (by omega),o,e.len]
 ·rw[a.cellAt _ (by omega),q,b]
theorem OwnK.below {w w':World}{B:Nat}{p:Option Addr}{n c:Nat}{e:List Tok}(h:OwnK w B p n c e)(a:Below w.heap.size w w'):OwnK w' B p n c e:=by
 obtain⟨rfl,j,f,g,b,ha⟩:=h;exact⟨rfl,j,f,row_below g a,fun i d=>⟨(b i d).1,(b i d).2.below a⟩,ha⟩
theorem OwnK.mono {w:World}{B B':Nat}{p:Option Addr}{n c:Nat}{e:List Tok}(h:OwnK w B p n c e)(a:B'<=B):OwnK w B' p n c e:=by
 obtain⟨g,rs,f,j,b,ha⟩:=h;exact⟨g,rs,f,ownsRow_down j a,fun i d=>⟨(b i d).1,(b i d).2.mono a⟩,ha⟩
theorem ownK_grew {r w X:World}{B g n H M:Nat}{p:Option Addr}{u:List Tok}{d:List RT}(hn:n=u.length)(hl:d.length=u.length)(W:r.ownsRow B 251 5 (.slice p n M) n (flatT d))
  (P:∀ i,i<u.length->FitsT r B (d.getD i RT.zero) (u.getD i Tok.none)) (ha:ApartT p d) (C:Below r.heap.size r w) (hB:B<=r.heap.size)
  {F:Int×Int×Int×Int} {s:Option Addr} {E G:Nat} {t:List Int} (Z:OwnT w r.heap.size s E G t)
  (hr:X.ownsRow B 251 5 (.slice (some ⟨g,0,none⟩) (n+1) H) (n+1) (flatT d ++ rtV (F,s,E,G))) (N:w.grownBy X (Value.ownBlock (.slice p n M))) (J:Value.ownBlock (.slice p n M)=some g∨g=w.heap.size) :
  OwnK X B (some ⟨g,0,none⟩) (n+1) H (u ++ [(F,t)]):=by
 have m:∀ k,Value.ownBlock (.slice p n M)=some k->p=some ⟨k,0,none⟩/\k<r.heap.size:=fun k x=>by
  rcases W.2 with ⟨L,_⟩ | ⟨g',Y,h4,L,hb,Q,_⟩
  ·simp only[Value.slice.injEq] at L;rw[L.1] at x;simp[Value.ownBlock] at x
  ·simp only[Value.slice.injEq] at L
   rw[L.1] at x ⊢
   simp[Value.ownBlock] at x
   subst x;exact⟨rfl,(Array.getElem?_eq_some_iff.1 Q).1⟩
 have K:∀ i,i<u.length->OwnT w B (d.getD i RT.zero).2.1 (d.getD i RT.zero).2.2.1 (d.getD i RT.zero).2.2.2 (u.getD i Tok.none).2:=fun i v=>(P i v).2.below C
 have l:∀ i,i<u.length->0<(d.getD i RT.zero).2.2.1->∃ k,(d.getD i RT.zero).2.1=some ⟨k,0,none⟩/\k<r.heap.size:=fun i v o=>by
  obtain⟨k,e,_,U,_⟩:=(P i v).2.2 o;exact⟨k,e,U⟩
 have b:0<E->∃ k,s=some ⟨k,0,none⟩/\r.heap.size<=k/\k<w.heap.size:=fun o=>by
  obtain⟨k,e,A,I,_⟩:=Z.2 o;exact⟨k,e,A,I⟩
 have V:g<r.heap.size∨g=w.heap.size:=by
  rcases J with h | h
  ·exact .inl (m g h).2
  ·exact .inr h
 refine⟨by simp;omega,d ++ [(F,s,E,G)],by simp;omega,by rw[flatT_append,flatT_one];exact hr,fun i v=>?_,fun i v o=>?_,fun i j v hj R c f=>?_⟩
 ·have q:i<=u.length:=by simp at v;omega
  rw[rt_append_at _ _ _ (by omega),ts_append_at _ _ _ q]
  by_cases e:i=u.length
  ·rw[if_pos (by omega),if_pos e]
   refine⟨rfl,(Z.mono hB).other N.size (fun k y z=>?_)⟩;obtain⟨D,a,A,I⟩:=b y
   have T:k=D:=by
    have:=z.symm.trans a;exact congrArg Addr.block (Option.some.inj this)
   refine N.block k (by omega) (fun x=>?_);have:=(m k x.symm).2
   omega
  ·rw[if_neg (by omega),if_neg e]
   refine⟨(P i (by omega)).1,(K i (by omega)).other N.size (fun k y z=>?_)⟩;obtain⟨D,a,A⟩:=l i (by omega) y;have T:k=D:=congrArg Addr.block (Option.some.inj (z.symm.trans a));refine N.block k (by have:=C.size;omega) (fun x=>?_);exact ha.1 i (by omega) y (by rw[z,(m k x.symm).1])
 ·have q:i<=d.length:=by simp at v;omega
  rw[rt_append_at _ _ _ q] at o ⊢
  by_cases e:i=d.length
  ·rw[if_pos e] at o ⊢
   obtain⟨D,a,A,I⟩:=b o;rw[show((F,s,E,G):RT).2.1=s from rfl,a];exact ne_block (by omega) o
  ·rw[if_neg e] at o ⊢
   obtain⟨D,a,A⟩:=l i (by omega) o
   rcases J with h | h
   ·rw[<-(m g h).1]
    exact ha.1 i (by omega) o
   ·rw[a]
    exact ne_block (by have:=C.size;omega) o
 ·have q:i<=d.length:=by simp at v;omega
  have S:j<=d.length:=by simp at hj;omega
  rw[rt_append_at _ _ _ q] at c ⊢;rw[rt_append_at _ _ _ S] at f ⊢
  by_cases e:i=d.length
  ·rw[if_pos e] at c ⊢
   rw[if_neg (by omega)] at f ⊢;obtain⟨D,a,A,I⟩:=b c;obtain⟨k2,O,h3⟩:=l j (by omega) f;rw[show((F,s,E,G):RT).2.1=s from rfl,a,O];exact ne_block (by omega) c
  ·rw[if_neg e] at c ⊢
   by_cases z:j=d.length
   ·rw[if_pos z] at f ⊢
    obtain⟨D,a,A,I⟩:=b f;obtain⟨k2,O,h3⟩:=l i (by omega) c;rw[show((F,s,E,G):RT).2.1=s from rfl,a,O];exact ne_block (by omega) c
   ·rw[if_neg z] at f ⊢
    exact ha.2 i j (by omega) (by omega) R c f
theorem rtV_one (r:RT):∀ u ∈ rtV r,u.oneCell'=true:=fun u a=>by
 simp[rtV] at a
 rcases a with rfl | rfl | rfl | rfl | rfl <;> rfl
end
section
open Go Go.RowKit Go.Maps
theorem app_tok (q w:World){v:Array Oper}{f:List Oper}{o:Oper}{a:Act}{Q:Exit->Act->World->Prop}(D:o.guard=none)(s x:Operand)
  (W:o.op = .call { callee:=.builtin .append,args:=#[s,x],argTypes:=#[247,247] }) (B:Nat) (p:Option Addr) (n c:Nat) (O:List Tok)
  (X:a.eval s = .slice p n c) (r:OwnK q B p n c O) (e:Below q.heap.size q w) (z:B<=q.heap.size) (y:Addr) (M:Nat) (Z:a.eval x = .slice (some y) 1 M) (C:Int×Int×Int×Int) (L:Option Addr) (K J:Nat) (t:List Int)
  (Y:OwnT w q.heap.size L K J t) (i:∀ j u,(rtV (C,L,K,J))[j]?=some u->w.cell? (y.add j)=some u) (N:n+1<=1000000000)
  (h:∀ g I d m,OwnK m B (some ⟨g,0,none⟩) I d (O ++ [(C,t)])->Below B w m->w.grownBy m (Value.ownBlock (.slice p n c))->Hid (I=n+1)->wpList Tryz.prog v Q f (a.put o.dst (.slice (some ⟨g,0,none⟩) I d)) m):wpList Tryz.prog v Q (o :: f) a w:=by
 obtain⟨i0,R,F,G,H⟩:=info_parts infoTok;obtain⟨V,rs,T,E,P,ha⟩:=r;refine wpList_append_lies w D s x 247 W B 251 i0 (.agg #[.int .i64 0,.int .i64 0,.int .i64 0,.slice none 0 0,.int .i64 0]) 5 56 Tryz.underlying247 R F G H rfl (by decide) (.slice p n c) n (flatT rs) X (row_below E e) y 1 M (rtV (C,L,K,J)) Z rfl i (rtV_one _) (by decide) (by unfold maxLen;omega) (by omega) (Nat.le_trans z e.size) w.heap.size rfl ?_
 intro g d m l b A U
 refine h g _ d m (ownK_grew V T E P ha e z Y l b A) ((Below.refl _ _).grown b (Nat.le_trans z e.size) (fun k S=>?_)) b rfl;exact(E.lt k S).1
theorem news_rt {w:World}{g:Nat}{r:RT}(h:w.heap[g]?=some (.cells #[.int .i64 r.1.1,.int .i64 r.1.2.1,.int .i64 r.1.2.2.1,.slice r.2.1 r.2.2.1 r.2.2.2,.int .i64 r.1.2.2.2] 251)):∀ j u,(rtV r)[j]?=some u->w.cell? ((⟨g,0,none⟩:Addr).add j)=some u:=fun j u a=>
 World.news_of_block h j u a
end
end Go.Proofs.YtnfnddnffoigfaaGreatDoor
