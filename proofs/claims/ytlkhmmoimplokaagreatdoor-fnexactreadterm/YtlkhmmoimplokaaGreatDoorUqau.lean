/- Texts of Scan9, Lx1, Lx2. Own work of the verifier. -/
import Derived.Test.YtlkhmmoimplokaaGreatDoorUqat
namespace Go.Proofs.YtlkhmmoimplokaaGreatDoor
set_option maxHeartbeats 4000000
set_option linter.unusedVariables false
set_option maxRecDepth 100000
section
open Go Go.RowKit
set_option linter.unusedSimpArgs false
def txtF (xs:List Int)(q:Int):Nat->Nat->List Int->Option (List Int×Nat)
 | 0,_,_=>none
 | f+1,i,ys=>
   if byteI xs i=q then(if byteI xs (i+1)=q then txtF xs q f (i+2) (ys ++ [q]) else some (ys,i+1))
   else if byteI xs i=92 then(if byteI xs (i+1)=10 then txtF xs q f (i+2) ys else match escI xs i with
    | none=>none
    | some (v,j)=>txtF xs q f j (ys ++ [v % 256]))
   else if 32<=byteI xs i/\byteI xs i≠127 then txtF xs q f (i+1) (ys ++ [byteI xs i]) else none
theorem txt_more (a:List Int)(q:Int)(c:0<=q):∀ (f i:Nat) (b:List Int),a.length+1<=i+f->∀ g,txtF a q (f+g) i b=txtF a q f i b
 | 0,i,b,h,0=>rfl
 | 0,i,b,h,g+1=>by
   have d:byteI a i = -1:=byteI_ge (by omega);rw[Nat.zero_add]
   show(if byteI a i=q then _ else _)=none
   rw[d,if_neg (by omega),if_neg (by decide),if_neg (by omega)]
 | f+1,i,b,h,g=>by
   rw[show f+1+g=(f+g)+1 by omega]
   unfold txtF
   split
   ·split
    ·exact txt_more a q c f (i+2) _ (by omega) g
    ·rfl
   ·split
    ·split
     ·exact txt_more a q c f (i+2) _ (by omega) g
     ·cases e:escI a i with
      | none=>rfl
      | some r=>
        obtain⟨v,j⟩:=r;have:=escI_rng e;exact txt_more a q c f j _ (by omega) g
    ·split
     ·exact txt_more a q c f (i+1) _ (by omega) g
     ·rfl
def txtI (xs:List Int)(q:Int)(i:Nat)(ys:List Int):Option (List Int×Nat):=txtF xs q (xs.length+1) i ys
theorem txt_step (a:List Int)(q:Int)(e:0<=q)(i:Nat)(c:List Int):txtI a q i c =
  if byteI a i=q then(if byteI a (i+1)=q then txtI a q (i+2) (c ++ [q]) else some (c,i+1))
  else if byteI a i=92 then(if byteI a (i+1)=10 then txtI a q (i+2) c else match escI a i with
   | none=>none
   | some (v,j)=>txtI a q j (c ++ [v % 256]))
  else if 32<=byteI a i/\byteI a i≠127 then txtI a q (i+1) (c ++ [byteI a i]) else none:=by
 have b:∀ j d,1<=j->txtF a q a.length j d=txtI a q j d:=fun j d g=>(txt_more a q e a.length j d (by omega) 1).symm
 conv=>lhs;unfold txtI txtF
 rw[b (i+2) _ (by omega),b (i+2) _ (by omega),b (i+1) _ (by omega)]
 split
 ·rfl
 ·split
  ·split
   ·rfl
   ·cases f:escI a i with
    | none=>rfl
    | some r=>
      obtain⟨v,j⟩:=r;have:=escI_rng f;exact b j _ (by omega)
  ·rfl
def quoR (xs:List Int)(kind:Int)(pos:Nat):TokR:=
 match txtI xs (byteI xs pos) (pos+1) [] with
 | none=>.error 2
 | some (ys,j)=>if 100<ys.length then .error 3 else .ok (kind,j-pos,ys,0)
theorem quoted_any (S b n c d:Nat)(kind:Int)(l:List Int)(w:World)(E:Env w S b n c d l)(hp:d<l.length)(h4:byteI l d=39∨byteI l d=34) :
  Calls Tryz.prog 191 #[.pointer (some ⟨S,0,none⟩),.int .i64 kind] w fun e F=>TokOut w S d (quoR l kind d) e F:=by
 have T:Hid (Env (w.alloc tokO) S b n c d l):=E.alloc _;have V:Hid (Below w.heap.size w (w.alloc tokO)):=(Below.refl _ _).alloc (Nat.le_refl _) _;have HS:=hid E.inH;have e8:=E.small;have h9:=hid E.len
 have e9:d<n:=by rw[E.len];exact hp
 have K:=E.bytes;have h1:(w.alloc tokO).cell? ⟨S,1,none⟩=some (.int .i64 d):=(E.alloc tokO).at1
 obtain⟨D,eq⟩:∃ D,D=byteI l d:=⟨_,rfl⟩
 rw[<-eq] at h4
 have h6:0<=D:=by omega
 have e2:D<256:=by omega
 have e7:(D == 92)=false:=by rw[beq_eq_false_iff_ne];omega
 have HQ:=hid eq.symm
 have W:Hid (quoR l kind d=match txtI l D (d+1) [] with | none=>.error 2 | some (G,j)=>if 100<G.length then .error 3 else .ok (kind,j-d,G,0)):=by show _=_;rw[eq];rfl
 have k3:=hid h4;clear E eq h4 hp
 go_enter Tryz.func191,Tryz.ntmps191
 go_wp2_with (go_at_call 182;refine(byteAt_any S b n c l d _ T.o.bytes T.o.len (by omega) (by omega) T.o.src T.o.row).mono ?_;rintro e F ⟨rfl,rfl⟩;rw[HQ.o])
 go_loopw [6,7] (fun t a wr=>∃ (i:Nat) (p:Option Addr) (m O:Nat) (G:List Int),t = .slice p m O/\a = .int .i64 i/\i<=20010/\m<=i/\d<=i/\Hid (OwnS wr (w.heap.size+1) p m O G)/\Hid (Below (w.heap.size+1) (w.alloc tokO) wr)/\Hid (txtI l D (d+1) []=txtI l D i G)) (fun _ a _=>30000-(intOf a).toNat)
 case atStart=>exact⟨d+1,none,0,0,[],rfl,by go_num,by omega,by omega,by omega,OwnS.nil _ _,Below.refl _ _,rfl⟩
 case round=>
  obtain⟨i,p,m,O,G,rfl,rfl,hi,k1,k2,HO,HB,J⟩:=hrel
  have C:Hid (Below (w.alloc tokO).heap.size (w.alloc tokO) wr):=by
   have:=HB.o
   show Below _ _ _
   simpa using this
  have f:=hid (T.o.below C.o)
  have h3:w.heap.size+1<=wr.heap.size:=by have:=HB.o.size;simpa using this
  have hr:=byteI_rng K i;have e5:=byteI_rng K (i+1);have u:=hid (txt_step l D h6 i G)
  obtain⟨x,ex⟩:∃ x,x=byteI l i:=⟨_,rfl⟩
  obtain⟨y,ey⟩:∃ y,y=byteI l (i+1):=⟨_,rfl⟩
  rw[<-ex,<-ey] at u;rw[<-ex] at hr;rw[<-ey] at e5;have HX:=hid ex.symm;have HY:=hid ey.symm
  have B:0<=x->i<n:=fun h=>by
   rcases Nat.lt_or_ge i l.length with h' | h'
   ·rw[h9.o];exact h'
   ·rw[byteI_ge h'] at ex;omega
  clear ex ey;have q:True:=trivial;have s:True:=trivial
  by_cases N:x=D
  ·subst N
   have Z:=B h6
   by_cases t2:y=x
   ·subst t2
    have I:Hid (txtI l y (d+1) []=txtI l y (i+2) (G ++ [y])):=by show _=_;rw[J.o,u.o];simp
    have h7:=wrap_u8_in h6 e2
    have s2:(y != y)=false:=by simp
    clear u J B;go_wp2_with (first | (go_at_call 182;have L:=q;refine(byteAt_any S b n c l i _ (f.o).bytes (f.o).len (by have:=(f.o).small;omega) (by omega) (f.o).src (f.o).row).mono ?_;rintro e F ⟨rfl,rfl⟩;rw[HX.o];clear q) | (go_at_call 182;have L:=s;refine(byteAt_any S b n c l (i+1) _ (f.o).bytes (f.o).len (by have:=(f.o).small;omega) (by omega) (f.o).src (f.o).row).mono ?_;rintro e F ⟨rfl,rfl⟩;rw[HY.o];clear s) | (at_builtin;refine app_bytes _ rfl _ _ rfl (w.heap.size+1) p m O G [y] 1 rfl rfl (HO.o.alloc _) _ 1 rfl (news1 _ _) (by decide) (by omega) (by simp;omega) ?_;intro g n1 Y P z A R));go_roundw
    case rel=>exact⟨i+2,_,_,_,_,rfl,by go_num,by omega,by have:=R.o;omega,by omega,z,(HB.o.alloc h3 _).trans A,I⟩
    case measure=>simp[intOf];omega
   ·have I:Hid (txtI l x (d+1) []=some (G,i+1)):=by show _=_;rw[J.o,u.o];simp[t2]
    have s2:(y != x)=true:=by simpa using t2
    clear u J B t2;go_wp2_with (first | (go_at_call 182;have L:=q;refine(byteAt_any S b n c l i _ (f.o).bytes (f.o).len (by have:=(f.o).small;omega) (by omega) (f.o).src (f.o).row).mono ?_;rintro e F ⟨rfl,rfl⟩;rw[HX.o];clear q) | (go_at_call 182;have L:=s;refine(byteAt_any S b n c l (i+1) _ (f.o).bytes (f.o).len (by have:=(f.o).small;omega) (by omega) (f.o).src (f.o).row).mono ?_;rintro e F ⟨rfl,rfl⟩;rw[HY.o];clear s));have HL:=hid HO.o.1
    by_cases U:100<m
    ·refine(take_long S d kind (i+1) p m O _ f.o.at1 f.o.inH U (by omega)).mono ?_
     rintro e P ⟨e4,A⟩
     cases e4
     refine⟨rfl,tokOut_of ?_ (show quoR l kind d = .error 3 by rw[W.o,I.o];simp only;rw[if_pos (by rw[<-HL.o];exact U)])⟩;exact⟨rfl,grown_of_below (Below.on V.o (C.o.trans (A.mono C.o.size))) _⟩
    ·refine(take_fits S d kind (i+1) p m O _ f.o.at1 (f.o.fz 1) f.o.inH (by omega) (by omega) (by omega)).mono ?_
     rintro e P ⟨rfl,M⟩;have HM:=hid M
     have h2:w.heap.size<P.heap.size:=by have:=M.grown.size;omega
     have Q:P.heap[w.heap.size]?=some tokO:=(M.grown.block w.heap.size (by omega) (by have:=HS.o;simp;omega)).trans ((C.o.block w.heap.size (by simp)).trans (by show(w.heap.push tokO)[w.heap.size]?=_;simp));obtain⟨d0,d1,d2,d3,d4⟩:=five P w.heap.size Q;obtain⟨g0,g1,g2,g3,g4⟩:=fiveF P w.heap.size Q
     have h5:((i+1:Nat):Int)-d=((i+1-d:Nat):Int):=by omega
     have H:∀ g,p=some ⟨g,0,none⟩->w.heap.size+1<=g:=fun g e=>by
      rcases HO.o.form with ⟨e',_⟩ | ⟨g',e',h,_⟩
      ·rw[e'] at e;cases e
      ·rw[e'] at e;cases e;exact h
     have h8:=HO.o.kept M.grown (fun g e e'=>by have:=H g e;have:=HS.o;simp only[Option.some.injEq] at e';omega);have hG:=grown_set5 P w.heap.size (.int .i64 kind) (.int .i64 d) (.int .i64 (((i+1:Nat):Int)-d)) (.slice p m O) (.int .i64 0);have X:=h8.kept hG (fun g e e'=>by have:=H g e;simp only[Option.some.injEq] at e';omega)
     have e6:Hid (OwnS _ w.heap.size p m O G):=⟨X.1,X.2.1,X.2.2.imp id fun ⟨g,c,e1,a1,a2,a3⟩=>⟨g,c,e1,a1,by omega,a3⟩⟩
     have e3:Hid (Moved w _ S (i+1)):=Moved.onto (Below.on V.o C.o) M (Below.of_grown hG (Nat.le_of_lt h2) (fun k e=>by cases e;exact Nat.le_refl _)) HS.o;clear M Q h8 X hG H
     go_wp2
     refine bodyPost_ret (v:=tokV kind d (((i+1:Nat):Int)-d) p m O 0) (by simp[results,Tryz.results191,go_sem,d0,d1,d2,d3,d4,h2]) rfl (tokOut_of ?_ (show quoR l kind d = .ok (kind,i+1-d,G,0) by rw[W.o,I.o];simp only;rw[if_neg (by rw[<-HL.o];omega)]));refine⟨p,m,O,by rw[h5],e6.o,?_⟩;rw[show d+(i+1-d)=i+1 by omega];exact e3.o
  have s1:(x == D)=false:=by simpa using N
  by_cases t3:x=92
  ·subst t3
   have Z:=B (by decide)
   by_cases t4:y=10
   ·subst t4
    have I:Hid (txtI l D (d+1) []=txtI l D (i+2) G):=by show _=_;rw[J.o,u.o,if_neg N];simp
    clear u J B N;go_wp2_with (first | (go_at_call 182;have L:=q;refine(byteAt_any S b n c l i _ (f.o).bytes (f.o).len (by have:=(f.o).small;omega) (by omega) (f.o).src (f.o).row).mono ?_;rintro e F ⟨rfl,rfl⟩;rw[HX.o];clear q) | (go_at_call 182;have L:=s;refine(byteAt_any S b n c l (i+1) _ (f.o).bytes (f.o).len (by have:=(f.o).small;omega) (by omega) (f.o).src (f.o).row).mono ?_;rintro e F ⟨rfl,rfl⟩;rw[HY.o];clear s));go_roundw
    case rel=>exact⟨i+2,_,_,_,_,rfl,by go_num,by omega,by omega,by omega,HO,HB,I⟩
    case measure=>simp[intOf];omega
   ·have s4:(y == 10)=false:=by simpa using t4
    have HH:=escape_any S b n c d l i wr f.o (by omega)
    cases hh:escI l i with
    | none=>
      rw[hh] at HH
      have I:Hid (txtI l D (d+1) []=none):=by show _=_;rw[J.o,u.o,if_neg N,hh];simp[t4]
      clear u J B N t4 hh;go_wp2_with (first | (go_at_call 182;have L:=q;refine(byteAt_any S b n c l i _ (f.o).bytes (f.o).len (by have:=(f.o).small;omega) (by omega) (f.o).src (f.o).row).mono ?_;rintro e F ⟨rfl,rfl⟩;rw[HX.o];clear q) | (go_at_call 182;have L:=s;refine(byteAt_any S b n c l (i+1) _ (f.o).bytes (f.o).len (by have:=(f.o).small;omega) (by omega) (f.o).src (f.o).row).mono ?_;rintro e F ⟨rfl,rfl⟩;rw[HY.o];clear s) | (go_at_call 207;refine HH.mono ?_;rintro e P ⟨rfl,A⟩));refine⟨rfl,tokOut_of ?_ (show quoR l kind d = .error 2 by rw[W.o,I.o])⟩;exact⟨rfl,grown_of_below (Below.on V.o (C.o.trans (A.mono C.o.size))) _⟩
    | some r=>
      obtain⟨v,j⟩:=r;rw[hh] at HH;obtain⟨r1,r2,r3,r4⟩:=escI_rng hh
      have I:Hid (txtI l D (d+1) []=txtI l D j (G ++ [v % 256])):=by show _=_;rw[J.o,u.o,if_neg N,hh];simp[t4]
      have h7:=wrap_byte v r3
      have hj:j<=20010:=by have:=h9.o;omega
      clear u J B N t4 hh;go_wp2_with (first | (go_at_call 182;have L:=q;refine(byteAt_any S b n c l i _ (f.o).bytes (f.o).len (by have:=(f.o).small;omega) (by omega) (f.o).src (f.o).row).mono ?_;rintro e F ⟨rfl,rfl⟩;rw[HX.o];clear q) | (go_at_call 182;have L:=s;refine(byteAt_any S b n c l (i+1) _ (f.o).bytes (f.o).len (by have:=(f.o).small;omega) (by omega) (f.o).src (f.o).row).mono ?_;rintro e F ⟨rfl,rfl⟩;rw[HY.o];clear s) | (go_at_call 207;refine HH.mono ?_;rintro e P ⟨rfl,rfl⟩) | (at_builtin;refine app_bytes _ rfl _ _ rfl (w.heap.size+1) p m O G [v % 256] 1 rfl rfl (HO.o.alloc _) _ 1 rfl (news1 _ _) (by decide) (by omega) (by simp;omega) ?_;intro g n1 Y P z A R));go_roundw
      case rel=>exact⟨j,_,_,_,_,rfl,rfl,hj,by have:=R.o;omega,by omega,z,(HB.o.alloc h3 _).trans A,I⟩
      case measure=>simp[intOf];omega
  have s3:(x == 92)=false:=by simpa using t3
  by_cases t5:32<=x/\x≠127
  ·have I:Hid (txtI l D (d+1) []=txtI l D (i+1) (G ++ [x])):=by show _=_;rw[J.o,u.o,if_neg N,if_neg t3,if_pos t5]
   have TS:Hid (decide (32<=x/\x≠127)=true):=by show _=_;rw[decide_eq_true_iff];exact t5
   have h7:=wrap_u8_in (x:=x) (by omega) (by omega);have Z:=B (by omega);clear u J B N t3 t5;go_wp2_with (first | (go_at_call 182;have L:=q;refine(byteAt_any S b n c l i _ (f.o).bytes (f.o).len (by have:=(f.o).small;omega) (by omega) (f.o).src (f.o).row).mono ?_;rintro e F ⟨rfl,rfl⟩;rw[HX.o];clear q) | (go_at_call 182;have L:=s;refine(byteAt_any S b n c l (i+1) _ (f.o).bytes (f.o).len (by have:=(f.o).small;omega) (by omega) (f.o).src (f.o).row).mono ?_;rintro e F ⟨rfl,rfl⟩;rw[HY.o];clear s) | (go_at_call 208;refine(standsFor_any x _ hr.1 hr.2).mono ?_;rintro e F ⟨rfl,rfl⟩;rw[TS.o]) | (at_builtin;refine app_bytes _ rfl _ _ rfl (w.heap.size+1) p m O G [x] 1 rfl rfl (HO.o.alloc _) _ 1 rfl (news1 _ _) (by decide) (by omega) (by simp;omega) ?_;intro g n1 Y P z A R))
   go_roundw
   case rel=>exact⟨i+1,_,_,_,_,rfl,by go_num,by omega,by have:=R.o;omega,by omega,z,(HB.o.alloc h3 _).trans A,I⟩
   case measure=>simp[intOf];omega
  ·have I:Hid (txtI l D (d+1) []=none):=by show _=_;rw[J.o,u.o,if_neg N,if_neg t3,if_neg t5]
   have TS:Hid (decide (32<=x/\x≠127)=false):=by show _=_;rw[decide_eq_false_iff_not];exact t5
   clear u J B N t3 t5;go_wp2_with (first | (go_at_call 182;have L:=q;refine(byteAt_any S b n c l i _ (f.o).bytes (f.o).len (by have:=(f.o).small;omega) (by omega) (f.o).src (f.o).row).mono ?_;rintro e F ⟨rfl,rfl⟩;rw[HX.o];clear q) | (go_at_call 182;have L:=s;refine(byteAt_any S b n c l (i+1) _ (f.o).bytes (f.o).len (by have:=(f.o).small;omega) (by omega) (f.o).src (f.o).row).mono ?_;rintro e F ⟨rfl,rfl⟩;rw[HY.o];clear s) | (go_at_call 208;refine(standsFor_any x _ hr.1 hr.2).mono ?_;rintro e F ⟨rfl,rfl⟩;rw[TS.o]) | (go_at_call 193;refine(fault_any S d 2 _ (f.o).at1 (f.o).inH).mono ?_;rintro e P ⟨rfl,A⟩));refine⟨rfl,tokOut_of ?_ (show quoR l kind d = .error 2 by rw[W.o,I.o])⟩
   exact⟨rfl,grown_of_below (Below.on V.o (C.o.trans (A.mono C.o.size))) _⟩
end
section
open Go Go.RowKit
def hexS (c:Int):Int:=if 48<=c/\c<=57 then c-48 else if 97<=c/\c<=102 then c-87 else if 65<=c/\c<=70 then c-55 else 99
theorem hex_dig (c:Int){a:Int}(h:a<=16):hexS c<a↔digI c<a:=by unfold hexS digI;repeat' split <;> omega
theorem hex_same {c:Int}(h:digI c<16):hexS c=digI c:=by unfold hexS;unfold digI at h ⊢;repeat' split <;> first | rfl | omega
theorem hexS_rng {c:Int}(a:0<=c)(b:c<256):0<=hexS c/\hexS c<=99:=by unfold hexS;repeat' split <;> omega
theorem hex_any (c:Int)(w:World)(f:0<=c)(g:c<256):Calls Tryz.prog 136 #[.int .u8 c] w fun e d=>e = .returned (.int .i64 (hexS c))/\d=w:=by
 by_cases a:48<=c/\c<=57
 rotate_right
 case' _=>
  have l:digitB c=false:=by simp[digitB];omega
  by_cases k:97<=c
  rotate_right
  case' _=>
   by_cases i:65<=c
   rotate_right
   case' _=>
    have b:Hid (hexS c=99):=by show _=_;rw[hexS,if_neg a,if_neg (by omega),if_neg (by omega)]
   rotate_right
   case' _=>
    by_cases h:c<=70
    ·have b:Hid (hexS c=c-55):=by show _=_;rw[hexS,if_neg a,if_neg (by omega),if_pos ⟨i,h⟩]
     clear a
     go_enter Tryz.func136,Tryz.ntmps136
     go_wp2_with (go_at_call 86;refine(digit_any c _ f g).mono ?_;rintro e d ⟨rfl,rfl⟩);go_ret;exact⟨ret_int (by rw[b.o];omega),rfl⟩
    have b:Hid (hexS c=99):=by show _=_;rw[hexS,if_neg a,if_neg (by omega),if_neg (by omega)]
  rotate_right
  case' _=>
   by_cases j:c<=102
   ·have b:Hid (hexS c=c-87):=by show _=_;rw[hexS,if_neg a,if_pos ⟨k,j⟩]
    clear a
    go_enter Tryz.func136,Tryz.ntmps136
    go_wp2_with (go_at_call 86;refine(digit_any c _ f g).mono ?_;rintro e d ⟨rfl,rfl⟩);go_ret;exact⟨ret_int (by rw[b.o];omega),rfl⟩
   have b:Hid (hexS c=99):=by show _=_;rw[hexS,if_neg a,if_neg (by omega),if_neg (by omega)]
   have i:¬ c<=70:=by omega
   have h:65<=c:=by omega
  all_goals
   clear a
 rotate_right
 case' _=>
  have l:digitB c=true:=by simp[digitB,a]
  have b:Hid (hexS c=c-48):=by show _=_;rw[hexS,if_pos a]
  obtain⟨n,m⟩:=a
 all_goals
  go_enter Tryz.func136,Tryz.ntmps136
  go_wp2_with (go_at_call 86;refine(digit_any c _ f g).mono ?_;rintro e d ⟨rfl,rfl⟩);go_ret;exact⟨ret_int b.o.symm,rfl⟩
def rawB (c:Int):Bool:=decide (32<=c/\c≠127)
theorem raw_any (c:Int)(w:World)(g:0<=c)(h:c<256):Calls Tryz.prog 138 #[.int .u8 c] w fun e f=>e = .returned (.bool (rawB c))/\f=w:=by
 by_cases a:32<=c
 ·by_cases b:c=127
  ·subst b
   go_enter Tryz.func138,Tryz.ntmps138
   go_wp2
   go_ret;exact⟨by simp[rawB],rfl⟩
  ·have i:(c != 127)=true:=by simpa using b
   have d:Hid (rawB c=true):=by show _=_;simp[rawB,a,b]
   go_enter Tryz.func138,Tryz.ntmps138
   go_wp2
   go_ret;exact⟨ret_bool d.o.symm,rfl⟩
 ·have d:Hid (rawB c=false):=by show _=_;simp[rawB,a]
  go_enter Tryz.func138,Tryz.ntmps138
  go_wp2
  go_ret;exact⟨ret_bool d.o.symm,rfl⟩
def blankB (c:Int):Bool:=c == 32 || c == 9 || c == 10 || c == 13
theorem blank_any (c:Int)(w:World)(i:0<=c)(j:c<256):Calls Tryz.prog 85 #[.int .u8 c] w fun e h=>e = .returned (.bool (blankB c))/\h=w:=by
 cases a:(c == 32) <;> cases b:(c == 9) <;> cases d:(c == 10) <;> cases f:(c == 13)
 all_goals
  have g:Hid (blankB c=(c == 32 || c == 9 || c == 10 || c == 13)):=rfl;rw[a,b,d,f] at g
  go_enter Tryz.func85,Tryz.ntmps85
  go_wp2
  go_ret;exact⟨ret_bool g.o.symm,rfl⟩
def escS (xs:List Int)(i:Nat):List Int×Nat:=
 if byteI xs (i+1)=10 then([],1) else match escI xs i with
  | none=>([],0)
  | some (v,j)=>([v],j-(i+1))
theorem one_byte (W:World)(x:Int):OwnS (W.alloc (.cells #[.int .u8 x] 5)) W.heap.size (some ⟨W.heap.size,0,none⟩) 1 1 [x]:=
 ⟨rfl,⟨rfl,.inr ⟨W.heap.size,1,#[.int .u8 x],rfl,Nat.le_refl _,heap_alloc_new _ _,Nat.le_refl _,by decide,rfl,rfl⟩⟩⟩
theorem no_bytes (W:World)(B:Nat):OwnS W B none 0 0 []:=⟨rfl,World.ownsRow_nil _ _ _ _⟩
def EscOut (w:World)(r:List Int×Nat)(e:Ending)(w':World):Prop:=∃ p n c,e = .returned (.tuple #[.slice p n c,.int .i64 r.2])/\OwnS w' w.heap.size p n c r.1/\Below w.heap.size w w'
theorem dig_92:¬ digI 92<16:=by decide
theorem hexI_of {xs:List Int}{a q:Nat}{v:Int}(h:digsB xs 16 xs.length a 0=(v,q)):hexI xs a=if q=a∨a+2<q∨byteI xs q≠92 then none else some (v,q+1):=by simp only[hexI,h]
theorem hexI_cases (xs:List Int)(a:Nat):hexI xs a =
  if ¬ digI (byteI xs a)<16 then none
  else if ¬ digI (byteI xs (a+1))<16 then(if byteI xs (a+1)=92 then some (digI (byteI xs a),a+2) else none)
  else if byteI xs (a+2)=92 then some (digI (byteI xs a) * 16+digI (byteI xs (a+1)),a+3) else none:=by
 have n:=digI_rng (byteI xs a);have m:=digI_rng (byteI xs (a+1))
 by_cases c:digI (byteI xs a)<16
 ·have l:min ((0:Int) * 16+digI (byteI xs a)) 1000000000000001=digI (byteI xs a):=by omega
  have h:=digs_step xs 16 (by decide) a 0 c;rw[l] at h
  by_cases f:digI (byteI xs (a+1))<16
  ·have j:min (digI (byteI xs a) * 16+digI (byteI xs (a+1))) 1000000000000001=digI (byteI xs a) * 16+digI (byteI xs (a+1)):=by omega
   have i:=h.trans (digs_step xs 16 (by decide) (a+1) _ f);rw[j] at i
   by_cases g:digI (byteI xs (a+2))<16
   ·have d:=i.trans (digs_step xs 16 (by decide) (a+2) _ g)
    have k:=digs_ge xs 16 xs.length (a+2+1) (min ((digI (byteI xs a) * 16+digI (byteI xs (a+1))) * 16+digI (byteI xs (a+2))) 1000000000000001);rw[<-d] at k
    have b:¬ byteI xs (a+2)=92:=fun e=>by rw[e] at g;exact dig_92 g
    rw[hexI_of (xs:=xs) (a:=a) (q:=(digsB xs 16 xs.length a 0).2) (v:=(digsB xs 16 xs.length a 0).1) rfl];simp only[c,f,b,not_true,if_false];rw[if_pos (by omega)]
   ·have d:=i.trans (digs_stop xs 16 (a+2) _ g)
    rw[hexI_of d];simp only[c,f,not_true,if_false]
    by_cases b:byteI xs (a+2)=92
    ·rw[if_neg (by omega),if_pos b]
    ·rw[if_pos (.inr (.inr b)),if_neg b]
  ·have d:=h.trans (digs_stop xs 16 (a+1) _ f)
   rw[hexI_of d];simp only[c,f,not_true,not_false_eq_true,if_false,if_true]
   by_cases b:byteI xs (a+1)=92
   ·rw[if_neg (by omega),if_pos b]
   ·rw[if_pos (.inr (.inr b)),if_neg b]
 ·rw[hexI_of (digs_stop xs 16 a 0 c),if_pos c,if_pos (.inl rfl)]
def hexV (xs:List Int)(a:Nat):Nat->Int
 | 0=>0
 | j+1=>hexV xs a j * 16+digI (byteI xs (a+j))
theorem hexI_stop (c:List Int)(a j:Nat)(i:j<=2)(d:∀ m,m<j->digI (byteI c (a+m))<16)(e:j=2∨¬ digI (byteI c (a+j))<16) :
  hexI c a=if j=0 then none else if byteI c (a+j)=92 then some (hexV c a j,a+j+1) else none:=by
 rw[hexI_cases]
 have g:j=0∨j=1∨j=2:=by omega
 rcases g with rfl | rfl | rfl
 ·rcases e with h | h
  ·omega
  ·rw[Nat.add_zero] at h
   simp[h]
 ·have b:=d 0 (by omega)
  rw[Nat.add_zero] at b
  rcases e with h | h
  ·omega
  ·simp only[b,h,not_true,not_false_eq_true,if_false,if_true]
   simp[hexV]
 ·have b:=d 0 (by omega)
  have f:=d 1 (by omega);rw[Nat.add_zero] at b;simp only[b,f,not_true,if_false]
  simp[hexV]
theorem escS_at (a:List Int)(i:Nat)(x:Int)(h:byteI a (i+1)=x):escS a i=if x=10 then([],1) else match escF x a i with
  | none=>([],0)
  | some (v,j)=>([v],j-(i+1)):=by rw[escS,escI,h];try rfl
theorem escapeS_any (b e7 i:Nat)(d:List Int)(w:World)(hb:Bytes d)(hn:d.length<=100000)(hi:i<=100000)(hc:∀ m,m<d.length->w.cell? ⟨b,m,none⟩=some (.int .u8 (d.getD m 0))) :
  Calls Tryz.prog 137 #[.slice (some ⟨b,0,none⟩) d.length e7,.int .i64 ((i+1:Nat):Int)] w (EscOut w (escS d i)):=by
 obtain⟨n,en⟩:∃ n,n=d.length:=⟨_,rfl⟩
 rw[<-en] at hn ⊢;have HN:=hid en
 have u:Hid (∀ m,m<n->w.cell? ⟨b,m,none⟩=some (.int .u8 (d.getD m 0))):=by rw[en];exact hc
 have l:=hid hb
 obtain⟨a,ea⟩:∃ a,a=i+1:=⟨_,rfl⟩
 rw[<-ea]
 have ha:a<=100001:=by omega
 have HA:=hid ea
 have c:Hid (∀ (r:List Int×Nat) (k:Nat),r=([],k)->EscOut w r (.returned (.tuple #[.slice none 0 0,.int .i64 k])) w):=fun r k h=>by subst h;exact⟨none,0,0,rfl,no_bytes _ _,Below.refl _ _⟩
 have f:Hid (∀ (r:List Int×Nat) (v:Int) (k:Nat),r=([v],k)->EscOut w r (.returned (.tuple #[.slice (some ⟨w.heap.size,0,none⟩) 1 1,.int .i64 k])) (w.alloc (.cells #[.int .u8 v] 5))):=fun r v k h=>by subst h;exact⟨some ⟨w.heap.size,0,none⟩,1,1,rfl,one_byte w v,(Below.refl _ _).alloc (Nat.le_refl _) _⟩
 clear hb hc en ea
 by_cases h4:a<n
 ·have hx:=u.o a h4
  have hr:=l.o.at a
  have O:byteI d (i+1)=d.getD a 0:=by rw[<-HA.o];exact byteI_lt (by rw[<-HN.o];exact h4)
  obtain⟨x,ex⟩:∃ x,x=d.getD a 0:=⟨_,rfl⟩
  rw[<-ex] at hx hr O
  have A:Hid (escS d i=if x=10 then([],1) else match escF x d i with
   | none=>([],0)
   | some (v,j)=>([v],j-(i+1))):=escS_at d i x O
  clear ex O
  have e2:¬ ((n:Int)<=(a:Int)):=by omega
  by_cases J:x=92
  ·have p:Hid (EscOut w (escS d i) (.returned (.tuple #[.slice (some ⟨w.heap.size,0,none⟩) 1 1,.int .i64 1])) (w.alloc (.cells #[.int .u8 92] 5))):=f.o _ 92 1 (by rw[A.o,J];simp[escF])
   subst J;clear A f c u l
   go_enter Tryz.func137,Tryz.ntmps137
   go_wp2_with fail
   go_ret2
   exact p.o
  have h8:(x == 92)=false:=by simpa using J
  by_cases G:x=39
  ·have p:Hid (EscOut w (escS d i) (.returned (.tuple #[.slice (some ⟨w.heap.size,0,none⟩) 1 1,.int .i64 1])) (w.alloc (.cells #[.int .u8 39] 5))):=f.o _ 39 1 (by rw[A.o,G];simp[escF])
   subst G;clear A f c u l
   go_enter Tryz.func137,Tryz.ntmps137
   go_wp2_with fail
   go_ret2
   exact p.o
  have h6:(x == 39)=false:=by simpa using G
  by_cases I:x=34
  ·have p:Hid (EscOut w (escS d i) (.returned (.tuple #[.slice (some ⟨w.heap.size,0,none⟩) 1 1,.int .i64 1])) (w.alloc (.cells #[.int .u8 34] 5))):=f.o _ 34 1 (by rw[A.o,I];simp[escF])
   subst I;clear A f c u l
   go_enter Tryz.func137,Tryz.ntmps137
   go_wp2_with fail
   go_ret2
   exact p.o
  have e3:(x == 34)=false:=by simpa using I
  by_cases t:x=110
  ·have p:Hid (EscOut w (escS d i) (.returned (.tuple #[.slice (some ⟨w.heap.size,0,none⟩) 1 1,.int .i64 1])) (w.alloc (.cells #[.int .u8 10] 5))):=f.o _ 10 1 (by rw[A.o,t];simp[escF])
   subst t;clear A f c u l
   go_enter Tryz.func137,Tryz.ntmps137
   go_wp2_with fail
   go_ret2
   exact p.o
  have h2:(x == 110)=false:=by simpa using t
  by_cases q:x=116
  ·have p:Hid (EscOut w (escS d i) (.returned (.tuple #[.slice (some ⟨w.heap.size,0,none⟩) 1 1,.int .i64 1])) (w.alloc (.cells #[.int .u8 9] 5))):=f.o _ 9 1 (by rw[A.o,q];simp[escF])
   subst q;clear A f c u l
   go_enter Tryz.func137,Tryz.ntmps137
   go_wp2_with fail
   go_ret2
   exact p.o
  have T:(x == 116)=false:=by simpa using q
  by_cases s:x=114
  ·have p:Hid (EscOut w (escS d i) (.returned (.tuple #[.slice (some ⟨w.heap.size,0,none⟩) 1 1,.int .i64 1])) (w.alloc (.cells #[.int .u8 13] 5))):=f.o _ 13 1 (by rw[A.o,s];simp[escF])
   subst s;clear A f c u l
   go_enter Tryz.func137,Tryz.ntmps137
   go_wp2_with fail
   go_ret2
   exact p.o
  have U:(x == 114)=false:=by simpa using s
  by_cases H:x=10
  ·have p:Hid (EscOut w (escS d i) (.returned (.tuple #[.slice none 0 0,.int .i64 1])) w):=c.o _ 1 (by rw[A.o,if_pos H])
   subst H;clear A f c u l
   go_enter Tryz.func137,Tryz.ntmps137
   go_wp2_with fail
   go_ret2
   exact p.o
  have e5:(x == 10)=false:=by simpa using H
  by_cases C:x=120
  ·have Q:Hid (escS d i=match hexI d (i+2) with
    | none=>([],0)
    | some (v,j)=>([v],j-(i+1))):=by show _=_;rw[A.o,C];simp[escF]
   subst C;clear A J h8 G h6 I e3 t h2 q T s U H e5
   go_enter Tryz.func137,Tryz.ntmps137
   go_wp2_with fail
   go_loopw [7,8] (fun v j wr=>∃ (k:Nat) (D:Int),k<=2/\0<=D/\D<256/\(k<2->D<16)/\v = .int .i64 D/\j = .int .i64 k/\Hid (wr=w/\(k=0->D=0))/\Hid (D=hexV d (i+2) k)/\Hid (∀ m,m<k->digI (byteI d (i+2+m))<16)) (fun _ j _=>2-(intOf j).toNat)
   case atStart=>exact⟨0,0,by omega,by omega,by omega,by omega,rfl,rfl,⟨rfl,fun _=>rfl⟩,rfl,fun m hm=>absurd hm (Nat.not_lt_zero _)⟩
   case round=>
    obtain⟨k,D,hk,Y,S,B,rfl,rfl,HW,HV,HD⟩:=hrel;obtain⟨hw,h1⟩:=HW.o;subst hw;clear HW;have h7:=hid h1;clear h1
    by_cases W:a+1+k<n
    ·have hy:=u.o (a+1+k) W
     have L:=l.o.at (a+1+k)
     have E:byteI d (i+2+k)=d.getD (a+1+k) 0:=by rw[show i+2+k=a+1+k by have:=HA.o;omega];exact byteI_lt (by rw[<-HN.o];exact W)
     obtain⟨y,ey⟩:∃ y,y=d.getD (a+1+k) 0:=⟨_,rfl⟩
     rw[<-ey] at hy L E;have M:=hid E
     have Z:(a:Int)+1+k<n:=by omega
     have V:¬ ((n:Int)<=(a:Int)+1+k):=by omega
     have h5:=hexS_rng L.1 L.2;have N:=hex_any y wr L.1 L.2
     obtain⟨z,ez⟩:∃ z,z=hexS y:=⟨_,rfl⟩
     rw[<-ez] at h5 N;have HZ:=hid ez;clear ey E ez
     by_cases h9:k<2
     ·have h3:(k:Int)<2:=by omega
      by_cases hd:z<16
      ·have e9:=B h9
       have e1:Hid (∀ m,m<k+1->digI (byteI d (i+2+m))<16):=fun m hm=>by
        by_cases e:m=k
        ·subst e;rw[M.o];exact(hex_dig y (by decide)).1 (by rw[<-HZ.o];exact hd)
        ·exact HD.o m (by omega)
       have e6:Hid (D * 16+z=hexV d (i+2) (k+1)):=by
        show _=_
        rw[hexV,<-HV.o,M.o,HZ.o,hex_same ((hex_dig y (by decide)).1 (by rw[<-HZ.o];exact hd))]
       clear u l c f B;go_wp2_with (go_at_call 136;refine N.mono ?_;rintro e X ⟨rfl,rfl⟩);go_roundw
       case rel=>exact⟨k+1,D * 16+z,by omega,by omega,by omega,by intro h;have:=h7.o (by omega);omega,by trivial,by go_num,⟨by trivial,fun h=>absurd h (by omega)⟩,e6,e1⟩
       case measure=>simp[intOf];omega
      ·have F:Hid (hexI d (i+2)=if k=0 then none else if byteI d (i+2+k)=92 then some (hexV d (i+2) k,i+2+k+1) else none):=hexI_stop d (i+2) k hk HD.o (.inr (fun h=>hd (by rw[HZ.o];exact(hex_dig y (by decide)).2 (by rw[<-M.o];exact h))))
       by_cases K:k=0
       ·subst K
        have p:Hid (EscOut wr (escS d i) (.returned (.tuple #[.slice none 0 0,.int .i64 0])) wr):=c.o _ 0 (by rw[Q.o,F.o,if_pos rfl]);clear F u l c f B;go_wp2_with (go_at_call 136;refine N.mono ?_;rintro e X ⟨rfl,rfl⟩)
        go_ret2
        exact p.o
       ·have R:((k:Int) == 0)=false:=by simp;omega
        by_cases g:y=92
        ·have p:Hid (EscOut wr (escS d i) (.returned (.tuple #[.slice (some ⟨wr.heap.size,0,none⟩) 1 1,.int .i64 ((k+2:Nat):Int)])) (wr.alloc (.cells #[.int .u8 D] 5))):=f.o _ D (k+2) (by
          rw[Q.o,F.o,if_neg K,M.o,if_pos g,<-HV.o]
          simp only[Prod.mk.injEq,true_and];omega)
         have P:(y != 92)=false:=by simpa using g
         have e4:IntKind.u8.wrap D=D:=wrap_u8_in Y S;clear F u l c f B g;go_wp2_with (go_at_call 136;refine N.mono ?_;rintro e X ⟨rfl,rfl⟩)
         go_ret2
         exact p.o
        ·have p:Hid (EscOut wr (escS d i) (.returned (.tuple #[.slice none 0 0,.int .i64 0])) wr):=c.o _ 0 (by rw[Q.o,F.o,if_neg K,M.o,if_neg g])
         have P:(y != 92)=true:=by simpa using g
         clear F u l c f B g;go_wp2_with (go_at_call 136;refine N.mono ?_;rintro e X ⟨rfl,rfl⟩)
         go_ret2
         exact p.o
     ·have h3:¬ (k:Int)<2:=by omega
      have hd:True:=trivial;have F:Hid (hexI d (i+2)=if k=0 then none else if byteI d (i+2+k)=92 then some (hexV d (i+2) k,i+2+k+1) else none):=hexI_stop d (i+2) k hk HD.o (.inl (by omega))
      by_cases K:k=0
      ·omega
      ·have R:((k:Int) == 0)=false:=by simp;omega
       by_cases g:y=92
       ·have p:Hid (EscOut wr (escS d i) (.returned (.tuple #[.slice (some ⟨wr.heap.size,0,none⟩) 1 1,.int .i64 ((k+2:Nat):Int)])) (wr.alloc (.cells #[.int .u8 D] 5))):=f.o _ D (k+2) (by
         rw[Q.o,F.o,if_neg K,M.o,if_pos g,<-HV.o]
         simp only[Prod.mk.injEq,true_and];omega)
        have P:(y != 92)=false:=by simpa using g
        have e4:IntKind.u8.wrap D=D:=wrap_u8_in Y S;clear F u l c f B g;go_wp2_with (go_at_call 136;refine N.mono ?_;rintro e X ⟨rfl,rfl⟩)
        go_ret2
        exact p.o
       ·have p:Hid (EscOut wr (escS d i) (.returned (.tuple #[.slice none 0 0,.int .i64 0])) wr):=c.o _ 0 (by rw[Q.o,F.o,if_neg K,M.o,if_neg g])
        have P:(y != 92)=true:=by simpa using g
        clear F u l c f B g;go_wp2_with (go_at_call 136;refine N.mono ?_;rintro e X ⟨rfl,rfl⟩)
        go_ret2
        exact p.o
    ·have Z:¬ (a:Int)+1+k<n:=by omega
     have V:(n:Int)<=(a:Int)+1+k:=by omega
     have E:byteI d (i+2+k) = -1:=byteI_ge (by have:=HN.o;have:=HA.o;omega);have F:Hid (hexI d (i+2)=if k=0 then none else if byteI d (i+2+k)=92 then some (hexV d (i+2) k,i+2+k+1) else none):=hexI_stop d (i+2) k hk HD.o (.inr (by rw[E];decide))
     have p:Hid (EscOut wr (escS d i) (.returned (.tuple #[.slice none 0 0,.int .i64 0])) wr):=c.o _ 0 (by
      rw[Q.o,F.o,E]
      by_cases K:k=0
      ·rw[if_pos K]
      ·rw[if_neg K,if_neg (by decide)])
     clear F E u l c f B
     by_cases K:k=0
     ·subst K
      go_wp2_with fail
      go_ret2
      exact p.o
     ·have R:((k:Int) == 0)=false:=by simp;omega
      go_wp2_with fail
      go_ret2
      exact p.o
  ·have e8:(x != 120)=true:=by simpa using C
   have p:Hid (EscOut w (escS d i) (.returned (.tuple #[.slice none 0 0,.int .i64 0])) w):=c.o _ 0 (by rw[A.o,if_neg H];simp[escF,J,G,I,t,q,s,C]);clear A f c u l J G I t q s H C
   go_enter Tryz.func137,Tryz.ntmps137
   go_wp2_with fail
   go_ret2
   exact p.o
 ·have e2:(n:Int)<=(a:Int):=by omega
  have p:Hid (EscOut w (escS d i) (.returned (.tuple #[.slice none 0 0,.int .i64 0])) w):=c.o _ 0 (by
   rw[escS_at d i (-1) (byteI_ge (by have:=HN.o;have:=HA.o;omega))];simp[escF])
  clear f c u l
  go_enter Tryz.func137,Tryz.ntmps137
  go_wp2_with fail
  go_ret2
  exact p.o
end
end Go.Proofs.YtlkhmmoimplokaaGreatDoor
