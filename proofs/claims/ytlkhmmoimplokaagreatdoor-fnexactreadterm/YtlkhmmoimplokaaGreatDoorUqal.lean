/- Texts of OpsV5. Own work of the verifier. -/
import Derived.Test.YtlkhmmoimplokaaGreatDoorUqak
namespace Go.Proofs.YtlkhmmoimplokaaGreatDoor
set_option maxRecDepth 100000
set_option maxHeartbeats 6000000
open Go Go.RowKit Go.Sort
set_option linter.unusedVariables false
theorem tab_count (b:List Cel)(a:Option Cel):(chainO a b && b.any comC)=(chainO a b && (b.countP comC == 1)):=by
 cases h:chainO a b with
 | false=>rfl
 | true=>
   rw[com_count b a h]
   cases b.any comC <;> simp
theorem okB_res {k n:Int}{s:ByteArray}{m:Nat}(h:resB s=true):okB k n s m=false:=by
 have:(s.toList == [44])=false:=by
  simp only[resB,Bool.or_eq_true,beq_iff_eq] at h
  rcases h with (h | h) | h <;> rw[h] <;> rfl
 simp[okB,this,h]
theorem srt_lt {a b:Int} : srt a<srt b↔preB a=true/\preB b=false:=by
 unfold srt
 cases preB a <;> cases preB b <;> simp
theorem specTab_any (p:Option Addr)(c:Nat)(a:List Cel)(w:World)(hn:a.length+tl a<=1000000000)(hc:OIn w p a) :
  Calls Tryz.prog 24 #[.slice p a.length c] w fun e u=>e = .returned (.bool (tabB a))/\Below w.heap.size w u:=by
 have HC:=hid hc;clear hc
 by_cases hl:a.length<=200
 ·have k5:¬ (200:Int)<a.length:=by omega
  have HV:Hid (tabB a=(chainO none a && (a.countP comC == 1))):=by show _=_;rw[<-tab_count];simp[tabB,hl]
  have HF:Hid (∀ b,b=tabB a->Ending.returned (.bool b) = .returned (.bool (tabB a))):=fun b h=>ret_bool h
  go_enter Tryz.func24,Tryz.ntmps24
  go_wp2
  clear k5
  go_loopw [3,4] (fun s i wr=>∃ (k m:Nat),k<=a.length/\m<=k/\s = .int .i64 m/\i = .int .i64 k/\Hid (tabB a=(chainO (befO a k) (a.drop k) && (m+(a.drop k).countP comC == 1)))/\Hid (Below w.heap.size w wr)) (fun _ i _=>a.length-(intOf i).toNat)
  case atStart=>exact⟨0,0,Nat.zero_le _,Nat.zero_le _,rfl,rfl,by show _=_;rw[HV.o];simp[befO],Below.refl _ _⟩
  case round=>
   obtain⟨k,m,hk,x7,rfl,rfl,HQ,HB⟩:=hrel
   by_cases e7:k<a.length
   ·obtain⟨g,o,rfl,L⟩:=HC.o (by omega)
    have k3:=(L k e7).below HB.o
    have I:0<k->OAt wr g (o+(k-1) * 3) (a.getD (k-1) Cel.none):=fun h=>(L (k-1) (by omega)).below HB.o
    have G:0<k->befO a k=some (a.getD (k-1) Cel.none):=fun h=>by simp[befO];omega
    have M:k=0->befO a k=none:=fun h=>by simp[befO,h]
    have e8:=tl_at a k e7
    have J:0<k->(a.getD (k-1) Cel.none).2.2.length<=tl a:=fun h=>tl_at a (k-1) (by omega)
    have Q:Hid (tabB a=((okC (a.getD k Cel.none) && (match befO a k with | none=>true | some x=>ltO x (a.getD k Cel.none)) && chainO (befO a (k+1)) (a.drop (k+1))) && ((m+(if comC (a.getD k Cel.none) then 1 else 0))+(a.drop (k+1)).countP comC == 1))):=by
     show _=_
     rw[HQ.o,chainO_at a k e7,drop_at a k e7,List.countP_cons]
     congr 2
     omega
    obtain⟨x,ex⟩:∃ x,x=a.getD k Cel.none:=⟨_,rfl⟩
    obtain⟨y,ey⟩:∃ y,y=a.getD (k-1) Cel.none:=⟨_,rfl⟩
    rw[<-ex] at k3 Q e8;rw[<-ey] at I G J;obtain⟨q,qc,h0,h1,h2,h3⟩:=k3;obtain⟨C,z,D⟩:=x;simp only at h0 h1 h2 h3 e8;have hW:Below wr.heap.size wr (wr.alloc (Obj.cells #[.slice q D.length qc,.int .i64 C,.int .i64 z] 60)):=(Below.refl _ _).alloc (Nat.le_refl _) _
    have E:Hid (∀ W,Below wr.heap.size wr W->(convert 23 9 (.slice q D.length qc)).run Tryz.prog W = .ok (.string (strOfNums D)) W):=fun W hB=>conv_str (h3.below hB) D.length qc rfl 9 Tryz.underlying9
    have k1:Hid (∀ W,Below wr.heap.size wr W->Calls Tryz.prog 49 #[.slice q D.length qc] W fun e u=>e = .returned (.bool (resB (strOfNums D)))/\u=W):=fun W hB=>l3special_any q D.length qc D W rfl (h3.below hB)
    have F:Hid (okC (C,z,D)=okB C z (strOfNums D) D.length):=rfl;have H:Hid (comC (C,z,D)=((strOfNums D).toList == [44])):=rfl
    obtain⟨X,e4⟩:∃ l,l=D.length:=⟨_,rfl⟩
    obtain⟨U,e6⟩:∃ s,s=strOfNums D:=⟨_,rfl⟩
    rw[<-e4,<-e6] at E k1 F;rw[<-e6] at H;rw[<-e4] at h2 hW e8
    have N:Hid (X=D.length/\U=strOfNums D):=⟨e4,e6⟩
    clear e4 e6 ex h3;have cv:=E.o _ hW;have f:=k1.o _ hW;have HW:Hid _:=hW;have R:=hid (Below.on HB.o hW);clear hW k1
    have v:Hid (okB C z U X=false->tabB a=false):=fun h=>by rw[Q.o,F.o,h];simp
    by_cases g1:X<1
    ·have k9:((X:Int)<1):=by omega
     have t:Hid (tabB a=false):=v.o (by have h9:¬ 1<=X:=(by omega);simp[okB,h9]);clear L I G M J HC HV HQ Q F H N E HW v;go_wp2_with (first | (go_at_call 49;refine f.mono ?_;rintro e u ⟨rfl,rfl⟩) | (go_at_call 50;refine(l3prefix_any _ _).mono ?_;rintro e u ⟨rfl,rfl⟩));go_ret;exact⟨HF.o _ t.o.symm,R.o⟩
    by_cases g2:100<X
    ·have x3:(100:Int)<(X:Int):=by omega
     have t:Hid (tabB a=false):=v.o (by have h9:¬ X<=100:=(by omega);simp[okB,h9]);clear L I G M J HC HV HQ Q F H N E HW v;go_wp2_with (first | (go_at_call 49;refine f.mono ?_;rintro e u ⟨rfl,rfl⟩) | (go_at_call 50;refine(l3prefix_any _ _).mono ?_;rintro e u ⟨rfl,rfl⟩));go_ret;exact⟨HF.o _ t.o.symm,R.o⟩
    have k9:¬ ((X:Int)<1):=by omega
    have x3:¬ (100:Int)<(X:Int):=by omega
    cases g3:resB U with
    | true=>
      rw[g3] at f;have t:Hid (tabB a=false):=v.o (by exact okB_res g3);clear L I G M J HC HV HQ Q F H N E HW v;go_wp2_with (first | (go_at_call 49;refine f.mono ?_;rintro e u ⟨rfl,rfl⟩) | (go_at_call 50;refine(l3prefix_any _ _).mono ?_;rintro e u ⟨rfl,rfl⟩));go_ret;exact⟨HF.o _ t.o.symm,R.o⟩
    | false=>
      rw[g3] at f
      by_cases g4:C<1
      ·skip
       have t:Hid (tabB a=false):=v.o (by have h9:¬ 1<=C:=(by omega);simp[okB,h9]);clear L I G M J HC HV HQ Q F H N E HW v;go_wp2_with (first | (go_at_call 49;refine f.mono ?_;rintro e u ⟨rfl,rfl⟩) | (go_at_call 50;refine(l3prefix_any _ _).mono ?_;rintro e u ⟨rfl,rfl⟩));go_ret;exact⟨HF.o _ t.o.symm,R.o⟩
      by_cases g5:1200<C
      ·skip
       have t:Hid (tabB a=false):=v.o (by have h9:¬ C<=1200:=(by omega);simp[okB,h9]);clear L I G M J HC HV HQ Q F H N E HW v;go_wp2_with (first | (go_at_call 49;refine f.mono ?_;rintro e u ⟨rfl,rfl⟩) | (go_at_call 50;refine(l3prefix_any _ _).mono ?_;rintro e u ⟨rfl,rfl⟩));go_ret;exact⟨HF.o _ t.o.symm,R.o⟩
      by_cases g6:z<0
      ·skip
       have t:Hid (tabB a=false):=v.o (by have h9:¬ 0<=z:=(by omega);simp[okB,h9]);clear L I G M J HC HV HQ Q F H N E HW v;go_wp2_with (first | (go_at_call 49;refine f.mono ?_;rintro e u ⟨rfl,rfl⟩) | (go_at_call 50;refine(l3prefix_any _ _).mono ?_;rintro e u ⟨rfl,rfl⟩));go_ret;exact⟨HF.o _ t.o.symm,R.o⟩
      by_cases g7:6<z
      ·skip
       have t:Hid (tabB a=false):=v.o (by have h9:¬ z<=6:=(by omega);simp[okB,h9]);clear L I G M J HC HV HQ Q F H N E HW v;go_wp2_with (first | (go_at_call 49;refine f.mono ?_;rintro e u ⟨rfl,rfl⟩) | (go_at_call 50;refine(l3prefix_any _ _).mono ?_;rintro e u ⟨rfl,rfl⟩));go_ret;exact⟨HF.o _ t.o.symm,R.o⟩
      have K:Hid (okB C z U X=(if U.toList == [44] then(C == 1000 && z == 1) else true)):=by
       show _=_
       have a1:1<=X:=by omega
       have a2:X<=100:=by omega
       have a3:0<=z:=by omega
       have a4:z<=6:=by omega
       have a5:1<=C:=by omega
       have a6:C<=1200:=by omega
       simp only[okB,a1,a2,a3,a4,a5,a6,g3];simp
      cases g8:(U.toList == [44]) with
      | true=>
        cases g9:(C == 1000) with
        | false=>
          have x4:(C != 1000)=true:=by simpa using g9
          have HN:Hid (okB C z U X=false):=by show _=_;rw[K.o,g8,g9];simp
          clear K;have t:Hid (tabB a=false):=v.o (by exact HN.o);clear L I G M J HC HV HQ Q F H N E HW v;go_wp2_with (first | (go_at_call 49;refine f.mono ?_;rintro e u ⟨rfl,rfl⟩) | (go_at_call 50;refine(l3prefix_any _ _).mono ?_;rintro e u ⟨rfl,rfl⟩));go_ret;exact⟨HF.o _ t.o.symm,R.o⟩
        | true=>
          have x4:(C != 1000)=false:=by simpa using g9
          cases e5:(z == 1) with
          | false=>
            have k2:(z != 1)=true:=by simpa using e5
            have HN:Hid (okB C z U X=false):=by show _=_;rw[K.o,g8,g9,e5];simp
            clear K;have t:Hid (tabB a=false):=v.o (by exact HN.o);clear L I G M J HC HV HQ Q F H N E HW v;go_wp2_with (first | (go_at_call 49;refine f.mono ?_;rintro e u ⟨rfl,rfl⟩) | (go_at_call 50;refine(l3prefix_any _ _).mono ?_;rintro e u ⟨rfl,rfl⟩));go_ret;exact⟨HF.o _ t.o.symm,R.o⟩
          | true=>
            have k2:(z != 1)=false:=by simpa using e5
            have O:Hid (okC (C,z,D)=true):=by show _=_;rw[F.o,K.o,g8,g9,e5];simp
            have h4:Hid (comC (C,z,D)=true):=by show _=_;rw[H.o,g8]
            by_cases e3:k=0
            ·subst e3
             have e0:=M rfl;rw[e0] at Q;simp only[Nat.zero_mul,Nat.add_zero] at h0 h1 h2
             have t:Hid (tabB a=(chainO (befO a (0+1)) (a.drop (0+1)) && ((m+1)+(a.drop (0+1)).countP comC == 1))):=by show _=_;rw[Q.o,O.o,h4.o];simp
             clear e0 L I G M J HC HV HQ Q F H N E HW v K O h4;go_wp2_with (first | (go_at_call 49;refine f.mono ?_;rintro e u ⟨rfl,rfl⟩) | (go_at_call 50;refine(l3prefix_any _ _).mono ?_;rintro e u ⟨rfl,rfl⟩));go_roundw
             case rel=>exact⟨0+1,(m+1),by omega,by omega,by go_num,by go_num,t,R⟩
             case measure=>simp[intOf];omega
            ·obtain⟨j,ej⟩:∃ j,k=j+1:=⟨k-1,by omega⟩
             have k4:¬ ((k:Int)=0):=by omega
             have e9:IntKind.i64.wrap ((k:Int)-1)=(j:Int):=by rw[show((k:Int)-1)=(j:Int) by omega];exact wrap_small (by omega) (by omega)
             have k7:j<a.length:=by omega
             have k6:(j:Int)<(a.length:Int):=by omega
             have k8:(0:Int)<=(j:Int):=by omega
             have e0:=G (by omega);have e1:=I (by omega);have e2:=J (by omega);rw[e0] at Q;rw[show k-1=j by omega] at e1;obtain⟨r,rc,d1,d2,d0,d3⟩:=e1;obtain⟨y0,V,P⟩:=y;simp only at d0 d1 d2 d3 e2 Q;have Z:g<wr.heap.size:=World.block_lt_of_cell? _ _ d0
             have A:Hid (ltO (y0,V,P) (C,z,D)=decide (Op.bytesLess (strOfNums P).toList (strOfNums D).toList=true∨((strOfNums P).toList=(strOfNums D).toList/\srt V<srt z))):=by show _=_;rw[ltO];simp only[opCmp_lt]
             have h6:∀ W,Below wr.heap.size wr W->(convert 23 9 (.slice r P.length rc)).run Tryz.prog W = .ok (.string (strOfNums P)) W:=fun W hB=>conv_str (d3.below hB) P.length rc rfl 9 Tryz.underlying9
             obtain⟨m2,h7⟩:∃ l,l=P.length:=⟨_,rfl⟩
             obtain⟨sy,h8⟩:∃ s,s=strOfNums P:=⟨_,rfl⟩
             rw[<-h7,<-h8] at h6;rw[<-h8,<-N.o.2] at A;rw[<-h7] at d0;have T:Below wr.heap.size wr (wr.alloc (Obj.cells #[.slice q X qc,.int .i64 C,.int .i64 z] 60)):=HW.o;have d0:=(T.cell (p:=⟨_,_,none⟩) Z).trans d0;have d1:=(T.cell (p:=⟨_,_,none⟩) Z).trans d1;have d2:=(T.cell (p:=⟨_,_,none⟩) Z).trans d2;have h5:Below wr.heap.size wr ((wr.alloc (Obj.cells #[.slice q X qc,.int .i64 C,.int .i64 z] 60)).alloc (Obj.cells #[.slice r m2 rc,.int .i64 y0,.int .i64 V] 60)):=T.alloc (by simp) _;have cx:=E.o _ h5;have cy:=h6 _ h5;have S:=hid (Below.on HB.o h5)
             have d:Hid (ltO (y0,V,P) (C,z,D)=false->tabB a=false):=fun h=>by rw[Q.o,h];simp
             have n:Hid (ltO (y0,V,P) (C,z,D)=true->tabB a=(chainO (befO a (k+1)) (a.drop (k+1)) && ((m+1)+(a.drop (k+1)).countP comC == 1))):=fun h=>by rw[Q.o,O.o,h4.o,h];simp
             have x5:=hid ej;clear e0 I G M J HC HV HQ L h7 h8 d3 ey T h5 ej e3 e2 Z Q F H N E HW v K O h4 h6
             cases q1:Op.bytesLess sy.toList U.toList with
             | true=>
               have q2:(sy.toList == U.toList)=false:=by cases h:(sy.toList == U.toList) with | false=>rfl | true=>(have h':sy.toList=U.toList:=(by simpa using h));rw[h',bl_irrefl] at q1;cases q1
               have HL:Hid (ltO (y0,V,P) (C,z,D)=true):=by show _=_;rw[A.o];simp[q1]
               have t:=n.o (by exact HL.o);have B:Hid _:=t;clear t n d A;go_wp2_with (first | (go_at_call 49;refine f.mono ?_;rintro e u ⟨rfl,rfl⟩) | (go_at_call 50;refine(l3prefix_any _ _).mono ?_;rintro e u ⟨rfl,rfl⟩));go_roundw
               case rel=>exact⟨k+1,(m+1),by omega,by omega,by go_num,by go_num,B,S⟩
               case measure=>simp[intOf];omega
             | false=>
               cases q2:(sy.toList == U.toList) with
               | false=>
                 have HL:Hid (ltO (y0,V,P) (C,z,D)=false):=by show _=_;rw[A.o];have Y:¬ sy.toList=U.toList:=(by simpa using q2);simp[q1,Y]
                 have t:=d.o (by exact HL.o);have B:Hid _:=t;clear t n d A;go_wp2_with (first | (go_at_call 49;refine f.mono ?_;rintro e u ⟨rfl,rfl⟩) | (go_at_call 50;refine(l3prefix_any _ _).mono ?_;rintro e u ⟨rfl,rfl⟩));go_ret;exact⟨HF.o _ B.o.symm,S.o⟩
               | true=>
                 have Y:sy.toList=U.toList:=by simpa using q2
                 have HL:Hid (ltO (y0,V,P) (C,z,D)=decide (preB V=true/\preB z=false)):=by show _=_;rw[A.o];simp[Y,bl_irrefl,srt_lt]
                 clear Y
                 cases q5:preB V with
                 | false=>
                   have t:=d.o (by rw[HL.o,q5];simp);have B:Hid _:=t;clear t n d A;go_wp2_with (first | (go_at_call 49;refine f.mono ?_;rintro e u ⟨rfl,rfl⟩) | (go_at_call 50;refine(l3prefix_any _ _).mono ?_;rintro e u ⟨rfl,rfl⟩));go_ret;exact⟨HF.o _ B.o.symm,S.o⟩
                 | true=>
                   cases q6:preB z with
                   | true=>
                     have t:=d.o (by rw[HL.o,q6];simp);have B:Hid _:=t;clear t n d A;go_wp2_with (first | (go_at_call 49;refine f.mono ?_;rintro e u ⟨rfl,rfl⟩) | (go_at_call 50;refine(l3prefix_any _ _).mono ?_;rintro e u ⟨rfl,rfl⟩));go_ret;exact⟨HF.o _ B.o.symm,S.o⟩
                   | false=>
                     have t:=n.o (by rw[HL.o,q5,q6];simp);have B:Hid _:=t;clear t n d A;go_wp2_with (first | (go_at_call 49;refine f.mono ?_;rintro e u ⟨rfl,rfl⟩) | (go_at_call 50;refine(l3prefix_any _ _).mono ?_;rintro e u ⟨rfl,rfl⟩));go_roundw
                     case rel=>exact⟨k+1,(m+1),by omega,by omega,by go_num,by go_num,B,S⟩
                     case measure=>simp[intOf];omega
      | false=>
        have O:Hid (okC (C,z,D)=true):=by show _=_;rw[F.o,K.o,g8];simp
        have h4:Hid (comC (C,z,D)=false):=by show _=_;rw[H.o,g8]
        by_cases e3:k=0
        ·subst e3
         have e0:=M rfl;rw[e0] at Q;simp only[Nat.zero_mul,Nat.add_zero] at h0 h1 h2
         have t:Hid (tabB a=(chainO (befO a (0+1)) (a.drop (0+1)) && (m+(a.drop (0+1)).countP comC == 1))):=by show _=_;rw[Q.o,O.o,h4.o];simp
         clear e0 L I G M J HC HV HQ Q F H N E HW v K O h4;go_wp2_with (first | (go_at_call 49;refine f.mono ?_;rintro e u ⟨rfl,rfl⟩) | (go_at_call 50;refine(l3prefix_any _ _).mono ?_;rintro e u ⟨rfl,rfl⟩));go_roundw
         case rel=>exact⟨0+1,m,by omega,by omega,by go_num,by go_num,t,R⟩
         case measure=>simp[intOf];omega
        ·obtain⟨j,ej⟩:∃ j,k=j+1:=⟨k-1,by omega⟩
         have k4:¬ ((k:Int)=0):=by omega
         have e9:IntKind.i64.wrap ((k:Int)-1)=(j:Int):=by rw[show((k:Int)-1)=(j:Int) by omega];exact wrap_small (by omega) (by omega)
         have k7:j<a.length:=by omega
         have k6:(j:Int)<(a.length:Int):=by omega
         have k8:(0:Int)<=(j:Int):=by omega
         have e0:=G (by omega);have e1:=I (by omega);have e2:=J (by omega);rw[e0] at Q;rw[show k-1=j by omega] at e1;obtain⟨r,rc,d1,d2,d0,d3⟩:=e1;obtain⟨y0,V,P⟩:=y;simp only at d0 d1 d2 d3 e2 Q;have Z:g<wr.heap.size:=World.block_lt_of_cell? _ _ d0
         have A:Hid (ltO (y0,V,P) (C,z,D)=decide (Op.bytesLess (strOfNums P).toList (strOfNums D).toList=true∨((strOfNums P).toList=(strOfNums D).toList/\srt V<srt z))):=by show _=_;rw[ltO];simp only[opCmp_lt]
         have h6:∀ W,Below wr.heap.size wr W->(convert 23 9 (.slice r P.length rc)).run Tryz.prog W = .ok (.string (strOfNums P)) W:=fun W hB=>conv_str (d3.below hB) P.length rc rfl 9 Tryz.underlying9
         obtain⟨m2,h7⟩:∃ l,l=P.length:=⟨_,rfl⟩
         obtain⟨sy,h8⟩:∃ s,s=strOfNums P:=⟨_,rfl⟩
         rw[<-h7,<-h8] at h6;rw[<-h8,<-N.o.2] at A;rw[<-h7] at d0;have T:Below wr.heap.size wr (wr.alloc (Obj.cells #[.slice q X qc,.int .i64 C,.int .i64 z] 60)):=HW.o;have d0:=(T.cell (p:=⟨_,_,none⟩) Z).trans d0;have d1:=(T.cell (p:=⟨_,_,none⟩) Z).trans d1;have d2:=(T.cell (p:=⟨_,_,none⟩) Z).trans d2;have h5:Below wr.heap.size wr ((wr.alloc (Obj.cells #[.slice q X qc,.int .i64 C,.int .i64 z] 60)).alloc (Obj.cells #[.slice r m2 rc,.int .i64 y0,.int .i64 V] 60)):=T.alloc (by simp) _;have cx:=E.o _ h5;have cy:=h6 _ h5;have S:=hid (Below.on HB.o h5)
         have d:Hid (ltO (y0,V,P) (C,z,D)=false->tabB a=false):=fun h=>by rw[Q.o,h];simp
         have n:Hid (ltO (y0,V,P) (C,z,D)=true->tabB a=(chainO (befO a (k+1)) (a.drop (k+1)) && (m+(a.drop (k+1)).countP comC == 1))):=fun h=>by rw[Q.o,O.o,h4.o,h];simp
         have x5:=hid ej;clear e0 I G M J HC HV HQ L h7 h8 d3 ey T h5 ej e3 e2 Z Q F H N E HW v K O h4 h6
         cases q1:Op.bytesLess sy.toList U.toList with
         | true=>
           have q2:(sy.toList == U.toList)=false:=by cases h:(sy.toList == U.toList) with | false=>rfl | true=>(have h':sy.toList=U.toList:=(by simpa using h));rw[h',bl_irrefl] at q1;cases q1
           have HL:Hid (ltO (y0,V,P) (C,z,D)=true):=by show _=_;rw[A.o];simp[q1]
           have t:=n.o (by exact HL.o);have B:Hid _:=t;clear t n d A;go_wp2_with (first | (go_at_call 49;refine f.mono ?_;rintro e u ⟨rfl,rfl⟩) | (go_at_call 50;refine(l3prefix_any _ _).mono ?_;rintro e u ⟨rfl,rfl⟩));go_roundw
           case rel=>exact⟨k+1,m,by omega,by omega,by go_num,by go_num,B,S⟩
           case measure=>simp[intOf];omega
         | false=>
           cases q2:(sy.toList == U.toList) with
           | false=>
             have HL:Hid (ltO (y0,V,P) (C,z,D)=false):=by show _=_;rw[A.o];have Y:¬ sy.toList=U.toList:=(by simpa using q2);simp[q1,Y]
             have t:=d.o (by exact HL.o);have B:Hid _:=t;clear t n d A;go_wp2_with (first | (go_at_call 49;refine f.mono ?_;rintro e u ⟨rfl,rfl⟩) | (go_at_call 50;refine(l3prefix_any _ _).mono ?_;rintro e u ⟨rfl,rfl⟩));go_ret;exact⟨HF.o _ B.o.symm,S.o⟩
           | true=>
             have Y:sy.toList=U.toList:=by simpa using q2
             have HL:Hid (ltO (y0,V,P) (C,z,D)=decide (preB V=true/\preB z=false)):=by show _=_;rw[A.o];simp[Y,bl_irrefl,srt_lt]
             clear Y
             cases q5:preB V with
             | false=>
               have t:=d.o (by rw[HL.o,q5];simp);have B:Hid _:=t;clear t n d A;go_wp2_with (first | (go_at_call 49;refine f.mono ?_;rintro e u ⟨rfl,rfl⟩) | (go_at_call 50;refine(l3prefix_any _ _).mono ?_;rintro e u ⟨rfl,rfl⟩));go_ret;exact⟨HF.o _ B.o.symm,S.o⟩
             | true=>
               cases q6:preB z with
               | true=>
                 have t:=d.o (by rw[HL.o,q6];simp);have B:Hid _:=t;clear t n d A;go_wp2_with (first | (go_at_call 49;refine f.mono ?_;rintro e u ⟨rfl,rfl⟩) | (go_at_call 50;refine(l3prefix_any _ _).mono ?_;rintro e u ⟨rfl,rfl⟩));go_ret;exact⟨HF.o _ B.o.symm,S.o⟩
               | false=>
                 have t:=n.o (by rw[HL.o,q5,q6];simp);have B:Hid _:=t;clear t n d A;go_wp2_with (first | (go_at_call 49;refine f.mono ?_;rintro e u ⟨rfl,rfl⟩) | (go_at_call 50;refine(l3prefix_any _ _).mono ?_;rintro e u ⟨rfl,rfl⟩));go_roundw
                 case rel=>exact⟨k+1,m,by omega,by omega,by go_num,by go_num,B,S⟩
                 case measure=>simp[intOf];omega
   ·obtain rfl:k=a.length:=by omega
    have x6:Hid (tabB a=((m:Int) == 1)):=by
     have:=HQ.o;rw[List.drop_length] at this
     show _=_
     rw[this,Bool.eq_iff_iff]
     simp[chainO]
     omega
    clear HQ HC HV
    go_wp2
    go_ret;exact⟨HF.o _ (by rw[x6.o]),HB.o⟩
 ·have k5:(200:Int)<a.length:=by omega
  have hv:tabB a=false:=by simp[tabB];omega
  rw[hv];clear hv
  go_enter Tryz.func24,Tryz.ntmps24
  go_wp2
  go_ret;exact⟨rfl,Below.refl _ _⟩
end Go.Proofs.YtlkhmmoimplokaaGreatDoor
