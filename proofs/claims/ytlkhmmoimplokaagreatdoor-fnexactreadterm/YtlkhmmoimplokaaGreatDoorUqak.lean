/- Texts of OpsV4. Own work of the verifier. -/
import Derived.Test.YtlkhmmoimplokaaGreatDoorUqaj
import Derived.Test.YtlkhmmoimplokaaGreatDoorUqac
namespace Go.Proofs.YtlkhmmoimplokaaGreatDoor
set_option maxRecDepth 100000
set_option maxHeartbeats 2000000
open Go Go.RowKit Go.Sort
set_option linter.unusedVariables false
theorem below_grow {w:World}(q:Nat)(a:Array Obj):Below w.heap.size w (grow (w.drewN q) a):=
 ⟨rfl,rfl,rfl,by simp[grow],fun k b=>(heap_grow_old (w.drewN q) a b).trans rfl⟩
theorem wrap_small {x:Int}(a : -9223372036854775808<=x)(b:x<=9223372036854775807):IntKind.i64.wrap x=x:=by rw[IntKind.wrap_i64];omega
theorem implTab_any (p:Option Addr)(c:Nat)(f:List Cel)(w:World)(hn:f.length+tl f<=1000000000)(hc:OIn w p f) :
  Calls Tryz.prog 58 #[.slice p f.length c] w fun e w'=>e = .returned (.bool (tabB f))/\Below w.heap.size w w':=by
 have HC:=hid hc;clear hc
 by_cases hl:f.length<=200
 ·have e9:¬ (200:Int)<f.length:=by omega
  have HV:Hid (tabB f=(chainO none f && f.any comC)):=by show _=_;simp[tabB,hl]
  have HF:Hid (∀ b,b=tabB f->Ending.returned (.bool b) = .returned (.bool (tabB f))):=fun b h=>ret_bool h
  go_enter Tryz.func58,Tryz.ntmps58
  go_wp2
  clear e9
  go_loopw [3,11] (fun s i wr=>∃ (k:Nat) (b:Bool),k<=f.length/\s = .bool b/\i = .int .i64 k/\Hid (tabB f=(chainO (befO f k) (f.drop k) && (b || (f.drop k).any comC)))/\Hid (Below w.heap.size w wr)) (fun _ i _=>f.length-(intOf i).toNat)
  case atStart=>exact⟨0,false,Nat.zero_le _,rfl,rfl,by show _=_;rw[HV.o];simp[befO],Below.refl _ _⟩
  case round=>
   obtain⟨k,b,hk,rfl,rfl,HQ,U⟩:=hrel
   by_cases h5:k<f.length
   ·obtain⟨g,o,rfl,P⟩:=HC.o (by omega)
    have e5:=(P k h5).below U.o
    have Q:0<k->OAt wr g (o+(k-1) * 3) (f.getD (k-1) Cel.none):=fun h=>(P (k-1) (by omega)).below U.o
    have O:0<k->befO f k=some (f.getD (k-1) Cel.none):=fun h=>by simp[befO];omega
    have h4:k=0->befO f k=none:=fun h=>by simp[befO,h]
    have h9:=tl_at f k h5
    have R:0<k->(f.getD (k-1) Cel.none).2.2.length<=tl f:=fun h=>tl_at f (k-1) (by omega)
    have L:Hid (tabB f=((okC (f.getD k Cel.none) && (match befO f k with | none=>true | some x=>ltO x (f.getD k Cel.none)) && chainO (befO f (k+1)) (f.drop (k+1))) && (b || (comC (f.getD k Cel.none) || (f.drop (k+1)).any comC)))):=by
     show _=_
     rw[HQ.o,chainO_at f k h5,drop_at f k h5];rfl
    obtain⟨x,ex⟩:∃ x,x=f.getD k Cel.none:=⟨_,rfl⟩
    obtain⟨y,ey⟩:∃ y,y=f.getD (k-1) Cel.none:=⟨_,rfl⟩
    rw[<-ex] at e5 L h9;rw[<-ey] at Q O R;obtain⟨q,B,h0,h1,h2,h3⟩:=e5;obtain⟨z,v,C⟩:=x;simp only at h0 h1 h2 h3 h9;have hW:Below wr.heap.size wr (wr.alloc (Obj.cells #[.slice q C.length B,.int .i64 z,.int .i64 v] 60)):=(Below.refl _ _).alloc (Nat.le_refl _) _
    have HI:Hid (∀ W,Below wr.heap.size wr W->Calls Tryz.prog 98 #[.agg #[.slice q C.length B,.int .i64 z,.int .i64 v]] W fun e w'=>e = .returned (.bool (okC (z,v,C)))/\Below W.heap.size W w'):=fun W hB=>isOp_any z v q C.length B C W rfl (by omega) (h3.below hB)
    have D:Hid (∀ W,Below wr.heap.size wr W->(convert 23 9 (.slice q C.length B)).run Tryz.prog W = .ok (.string (strOfNums C)) W):=fun W hB=>conv_str (h3.below hB) C.length B rfl 9 Tryz.underlying9
    have J:=hid (Below.on U.o hW);have M:Hid _:=hW;have G:Box3 (wr.alloc (Obj.cells #[.slice q C.length B,.int .i64 z,.int .i64 v] 60)) wr.heap.size (.slice q C.length B) (.int .i64 z) (.int .i64 v):=Box3.of_block (t:=60) (heap_alloc_new _ _);obtain⟨Y,c1,V,_⟩:=G;have k6:Hid (okC (z,v,C)=okC (z,v,C)):=rfl;have H:Hid (comC (z,v,C)=((strOfNums C).toList == [44])):=rfl;have e1:=hid ex;clear ex h9
    obtain⟨E,h8⟩:∃ l,l=C.length:=⟨_,rfl⟩
    rw[<-h8] at h2 HI D J M Y c1 V hW;have h6:=hid h8;clear h8 hW
    obtain⟨sx,e2⟩:∃ s,s=strOfNums C:=⟨_,rfl⟩
    rw[<-e2] at D H;have e3:Hid _:=e2;clear e2
    cases X:okC (z,v,C) with
    | false=>
      rw[X] at HI L
      have HZ:Hid (tabB f=false):=by show _=_;rw[L.o];simp
      clear X P Q O h4 R h3 HC HV HQ L D H e3 h6 e1 k6;go_wp2_with fail;refine wp_region_held_drew (S:=fun W=>W.cell? ⟨wr.heap.size,0,none⟩=some (.slice q E B)/\W.cell? ⟨wr.heap.size,1,none⟩=some (.int .i64 z)/\W.cell? ⟨wr.heap.size,2,none⟩=some (.int .i64 v)) (by kernel_rfl) ?_ (fun I=>?_)
      ·exact⟨Y,c1,V⟩
      refine hTr 0 (.agg #[.slice q E B,.int .i64 z,.int .i64 v]) 16 (fun o ho W F=>?y0) ?_
      case y0=>cases ho;simp[execOp,go_sem,Act.eval,F.1,F.2.1,F.2.2]
      simp only[Act.put,zzA,zzB,zzC];refine hCall (i:=1) (some 17) (by kernel_rfl) (by kernel_rfl) (by kernel_rfl) (fun o ho=>?y1) (HI.o _ M.o.drew) ?_
      case y1=>cases ho;simp[execOp,go_sem,Act.eval]
      intro m a
      have n:m.cell? ⟨wr.heap.size,0,none⟩=some (.slice q E B)/\m.cell? ⟨wr.heap.size,1,none⟩=some (.int .i64 z)/\m.cell? ⟨wr.heap.size,2,none⟩=some (.int .i64 v):=⟨(a.cell (p:=⟨_,_,none⟩) (by simp)).trans Y,(a.cell (p:=⟨_,_,none⟩) (by simp)).trans c1,(a.cell (p:=⟨_,_,none⟩) (by simp)).trans V⟩
      refine⟨n,?_⟩;clear I;simp only[Act.put,zzA,zzB,zzC];refine hTq 2 (.bool true) 18 ?_
      simp only[Act.put,zzA,zzB,zzC];refine hTq 3 (.bool true) 19 ?_
      simp only[Act.put,zzA,zzB,zzC];refine hSq 4 20 ?_;refine hSq 5 21 ?_;refine hSq 6 22 ?_;refine hSq 7 23 ?_;simp only[Act.put,zzA,zzB,zzC];refine hSq 8 24 ?_;refine hSq 9 25 ?_;refine hSq 10 26 ?_;refine hSq 11 27 ?_;simp only[Act.put,zzA,zzB,zzC];refine hSq 12 28 ?_;refine hSq 13 29 ?_;refine hSq 14 30 ?_;refine hSq 15 31 ?_;simp only[Act.put,zzA,zzB,zzC];refine hTq 16 (.bool true) 32 ?_
      simp only[Act.put,zzA,zzB,zzC];refine wpAnyH_done (by kernel_rfl) ?_ _
      all_goals go_wp2_with fail
      all_goals go_ret
      all_goals exact⟨HF.o _ HZ.o.symm,(J.o.drew).trans (a.mono (Nat.le_trans U.o.size (by simp)))⟩
    | true=>
      rw[X] at HI L;clear X k6
      by_cases k5:k=0
      ·subst k5
       have e0:=h4 rfl;simp only[Nat.zero_mul,Nat.add_zero] at h0 h1 h2;rw[e0] at L
       have HZ:Hid (tabB f=(chainO (befO f 1) (f.drop 1) && ((b || (sx.toList == [44])) || (f.drop 1).any comC))):=by
        show _=_
        rw[L.o,H.o];simp[Bool.or_assoc]
       clear e0 P Q O h4 R h3 HC HV HQ L H e3 h6 e1;go_wp2_with fail;refine wp_region_held_drew (S:=fun W=>W.cell? ⟨wr.heap.size,0,none⟩=some (.slice q E B)/\W.cell? ⟨wr.heap.size,1,none⟩=some (.int .i64 z)/\W.cell? ⟨wr.heap.size,2,none⟩=some (.int .i64 v)) (by kernel_rfl) ?_ (fun I=>?_)
       ·exact⟨Y,c1,V⟩
       refine hTr 0 (.agg #[.slice q E B,.int .i64 z,.int .i64 v]) 16 (fun o ho W F=>?y0) ?_
       case y0=>cases ho;simp[execOp,go_sem,Act.eval,F.1,F.2.1,F.2.2]
       simp only[Act.put,zzA,zzB,zzC];refine hCall (i:=1) (some 17) (by kernel_rfl) (by kernel_rfl) (by kernel_rfl) (fun o ho=>?y1) (HI.o _ M.o.drew) ?_
       case y1=>cases ho;simp[execOp,go_sem,Act.eval]
       intro m a
       have n:m.cell? ⟨wr.heap.size,0,none⟩=some (.slice q E B)/\m.cell? ⟨wr.heap.size,1,none⟩=some (.int .i64 z)/\m.cell? ⟨wr.heap.size,2,none⟩=some (.int .i64 v):=⟨(a.cell (p:=⟨_,_,none⟩) (by simp)).trans Y,(a.cell (p:=⟨_,_,none⟩) (by simp)).trans c1,(a.cell (p:=⟨_,_,none⟩) (by simp)).trans V⟩
       refine⟨n,?_⟩;clear I;simp only[Act.put,zzA,zzB,zzC];refine hTq 2 (.bool false) 18 ?_
       simp only[Act.put,zzA,zzB,zzC];refine hTq 3 (.bool false) 19 ?_
       simp only[Act.put,zzA,zzB,zzC];refine hTq 4 (.int .i64 0) 20 ?_
       simp only[Act.put,zzA,zzB,zzC];refine hTq 5 (.bool false) 21 ?_
       simp only[Act.put,zzA,zzB,zzC];refine hTq 6 (.bool false) 22 ?_
       simp only[Act.put,zzA,zzB,zzC];refine hSq 7 23 ?_;simp only[Act.put,zzA,zzB,zzC];refine hSq 8 24 ?_;refine hSq 9 25 ?_;refine hSq 10 26 ?_;refine hSq 11 27 ?_;simp only[Act.put,zzA,zzB,zzC];refine hSq 12 28 ?_;refine hSq 13 29 ?_;refine hSq 14 30 ?_;simp only[Act.put,zzA,zzB,zzC];refine hTq 15 (.bool false) 31 ?_
       simp only[Act.put,zzA,zzB,zzC];refine hTq 16 (.bool false) 32 ?_
       simp only[Act.put,zzA,zzB,zzC];refine wpAnyH_done (by kernel_rfl) ?_ _
       all_goals
        have K:Hid (Below w.heap.size w m):=(J.o.drew).trans (a.mono (Nat.le_trans U.o.size (by simp)));have cv:=D.o m (M.o.drew.trans (a.mono (by simp)));obtain⟨k0,k1,k2⟩:=n;clear a HI D M J Y c1 V
        cases b with
        | true=>
          go_wp2_with fail;go_roundw
          case rel=>exact⟨1,true,by omega,by go_num,by go_num,by show _=_;rw[HZ.o];simp,K⟩
          case measure=>simp[intOf];omega
        | false=>
          go_wp2_with fail;go_roundw
          case rel=>exact⟨1,sx.toList == [44],by omega,by go_num,by go_num,by show _=_;rw[HZ.o];simp,K⟩
          case measure=>simp[intOf];omega
      ·obtain⟨j,ej⟩:∃ j,k=j+1:=⟨k-1,by omega⟩
       have e8:((k:Int)-1)=(j:Int):=by omega
       have x7:0<k:=by omega
       have x8:decide (0<k)=true:=by simp;omega
       have x4:j<f.length:=by omega
       have x3:(j:Int)<(f.length:Int):=by omega
       have x5:(0:Int)<=(j:Int):=by omega
       have k7:IntKind.i64.wrap ((k:Int)-1)=(j:Int):=by rw[e8];exact wrap_small (by omega) (by omega)
       clear e8;have e0:=O (by omega);have e4:=Q (by omega);have e6:=R (by omega);rw[e0] at L;rw[show k-1=j by omega] at e4;obtain⟨r,rc,d1,d2,d0,d3⟩:=e4;obtain⟨y0,y1,y2⟩:=y;simp only at d0 d1 d2 d3 e6 L;have A:g<wr.heap.size:=World.block_lt_of_cell? _ _ d0
       have T:Hid (∀ W,Below wr.heap.size wr W->Calls Tryz.prog 84 #[.agg #[.slice r y2.length rc,.int .i64 y0,.int .i64 y1],.agg #[.slice q E B,.int .i64 z,.int .i64 v]] W fun e w'=>e = .returned (.int .i64 (opCmp (y0,y1,y2) (z,v,C)))/\∃ q k8,w'=grow (W.drewN q) k8):=fun W hB=>compareOps_any y0 y1 z v r q y2.length E rc B y2 C W rfl h6.o (d3.below hB) (h3.below hB)
       obtain⟨m2,k4⟩:∃ l,l=y2.length:=⟨_,rfl⟩
       rw[<-k4] at T d0;have N:Hid (ltO (y0,y1,y2) (z,v,C)=decide (opCmp (y0,y1,y2) (z,v,C)<0)):=rfl
       generalize opCmp (y0,y1,y2) (z,v,C)=oc at T N
       have h7:Below wr.heap.size wr (wr.alloc (Obj.cells #[.slice q E B,.int .i64 z,.int .i64 v] 60)):=M.o;have d0:=(h7.cell (p:=⟨_,_,none⟩) A).trans d0;have d1:=(h7.cell (p:=⟨_,_,none⟩) A).trans d1;have d2:=(h7.cell (p:=⟨_,_,none⟩) A).trans d2
       have A:g<(wr.alloc (Obj.cells #[.slice q E B,.int .i64 z,.int .i64 v] 60)).heap.size:=by simp;omega
       have x6:=hid ej;clear e0 Q O h4 R h3 HC HV HQ e3 h6 e1 P k4 d3 ey h7 ej k5 e6
       by_cases k3:oc<0
       ·have e7:decide (0<=oc)=false:=by simp;omega
        have HZ:Hid (tabB f=(chainO (befO f (k+1)) (f.drop (k+1)) && ((b || (sx.toList == [44])) || (f.drop (k+1)).any comC))):=by
         show _=_
         rw[L.o,N.o,H.o];simp[k3,Bool.or_assoc]
        clear L N H;go_wp2_with fail
        go_region_held3 (fun W=>(W.cell? ⟨wr.heap.size,0,none⟩=some (.slice q E B)/\W.cell? ⟨wr.heap.size,1,none⟩=some (.int .i64 z)/\W.cell? ⟨wr.heap.size,2,none⟩=some (.int .i64 v))/\W.cell? ⟨g,o+j * 3,none⟩=some (.slice r m2 rc)/\W.cell? ⟨g,o+j * 3+1,none⟩=some (.int .i64 y0)/\W.cell? ⟨g,o+j * 3+2,none⟩=some (.int .i64 y1)) (first | exact Z | exact n | go_keep)
         (first | (go_at_call 98;refine(HI.o _ M.o.drew).mono ?_;rintro e m ⟨rfl,a⟩;have n:(m.cell? ⟨wr.heap.size,0,none⟩=some (.slice q E B)/\m.cell? ⟨wr.heap.size,1,none⟩=some (.int .i64 z)/\m.cell? ⟨wr.heap.size,2,none⟩=some (.int .i64 v))/\m.cell? ⟨g,o+j * 3,none⟩=some (.slice r m2 rc)/\m.cell? ⟨g,o+j * 3+1,none⟩=some (.int .i64 y0)/\m.cell? ⟨g,o+j * 3+2,none⟩=some (.int .i64 y1):=⟨⟨(a.cell (p:=⟨_,_,none⟩) (by simp)).trans Y,(a.cell (p:=⟨_,_,none⟩) (by simp)).trans c1,(a.cell (p:=⟨_,_,none⟩) (by simp)).trans V⟩,⟨(a.cell (p:=⟨_,_,none⟩) A).trans d0,(a.cell (p:=⟨_,_,none⟩) A).trans d1,(a.cell (p:=⟨_,_,none⟩) A).trans d2⟩⟩) | (go_at_call 84;refine(T.o _ (M.o.drew.trans (a.mono (by simp)))).mono ?_;rintro e w2 ⟨rfl,u,d,rfl⟩;have Z:((grow (m.drewN u) d).cell? ⟨wr.heap.size,0,none⟩=some (.slice q E B)/\(grow (m.drewN u) d).cell? ⟨wr.heap.size,1,none⟩=some (.int .i64 z)/\(grow (m.drewN u) d).cell? ⟨wr.heap.size,2,none⟩=some (.int .i64 v))/\(grow (m.drewN u) d).cell? ⟨g,o+j * 3,none⟩=some (.slice r m2 rc)/\(grow (m.drewN u) d).cell? ⟨g,o+j * 3+1,none⟩=some (.int .i64 y0)/\(grow (m.drewN u) d).cell? ⟨g,o+j * 3+2,none⟩=some (.int .i64 y1):=⟨⟨((below_grow u d).cell (World.block_lt_of_cell? _ _ n.1.1)).trans n.1.1,((below_grow u d).cell (World.block_lt_of_cell? _ _ n.1.2.1)).trans n.1.2.1,((below_grow u d).cell (World.block_lt_of_cell? _ _ n.1.2.2)).trans n.1.2.2⟩,((below_grow u d).cell (World.block_lt_of_cell? _ _ n.2.1)).trans n.2.1,((below_grow u d).cell (World.block_lt_of_cell? _ _ n.2.2.1)).trans n.2.2.1,((below_grow u d).cell (World.block_lt_of_cell? _ _ n.2.2.2)).trans n.2.2.2⟩))
        all_goals
         have K:Hid (Below w.heap.size w (grow (m.drewN u) d)):=((J.o.drew).trans (a.mono (Nat.le_trans U.o.size (by simp)))).trans ((below_grow u d).mono (Nat.le_trans U.o.size (Nat.le_trans (by simp) a.size)));have cv:=D.o _ (M.o.drew.trans ((a.trans ((below_grow u d).mono a.size)).mono (by simp)));obtain⟨⟨k0,k1,k2⟩,_⟩:=Z;clear n a HI T D M J Y c1 V d0 d1 d2 A
         revert K cv k0 k1 k2
         generalize grow (m.drewN u) d=w3
         intro K cv k0 k1 k2
         cases b with
         | true=>
           go_wp2_with fail;go_roundw
           case rel=>exact⟨k+1,true,by omega,by go_num,by go_num,by show _=_;rw[HZ.o];simp,K⟩
           case measure=>simp[intOf];omega
         | false=>
           go_wp2_with fail;go_roundw
           case rel=>exact⟨k+1,sx.toList == [44],by omega,by go_num,by go_num,by show _=_;rw[HZ.o];simp,K⟩
           case measure=>simp[intOf];omega
       ·have e7:decide (0<=oc)=true:=by simp;omega
        have HZ:Hid (tabB f=false):=by
         show _=_
         rw[L.o,N.o];simp[k3]
        clear L N H D;go_wp2_with fail
        go_region_held3 (fun W=>(W.cell? ⟨wr.heap.size,0,none⟩=some (.slice q E B)/\W.cell? ⟨wr.heap.size,1,none⟩=some (.int .i64 z)/\W.cell? ⟨wr.heap.size,2,none⟩=some (.int .i64 v))/\W.cell? ⟨g,o+j * 3,none⟩=some (.slice r m2 rc)/\W.cell? ⟨g,o+j * 3+1,none⟩=some (.int .i64 y0)/\W.cell? ⟨g,o+j * 3+2,none⟩=some (.int .i64 y1)) (first | exact Z | exact n | go_keep)
         (first | (go_at_call 98;refine(HI.o _ M.o.drew).mono ?_;rintro e m ⟨rfl,a⟩;have n:(m.cell? ⟨wr.heap.size,0,none⟩=some (.slice q E B)/\m.cell? ⟨wr.heap.size,1,none⟩=some (.int .i64 z)/\m.cell? ⟨wr.heap.size,2,none⟩=some (.int .i64 v))/\m.cell? ⟨g,o+j * 3,none⟩=some (.slice r m2 rc)/\m.cell? ⟨g,o+j * 3+1,none⟩=some (.int .i64 y0)/\m.cell? ⟨g,o+j * 3+2,none⟩=some (.int .i64 y1):=⟨⟨(a.cell (p:=⟨_,_,none⟩) (by simp)).trans Y,(a.cell (p:=⟨_,_,none⟩) (by simp)).trans c1,(a.cell (p:=⟨_,_,none⟩) (by simp)).trans V⟩,⟨(a.cell (p:=⟨_,_,none⟩) A).trans d0,(a.cell (p:=⟨_,_,none⟩) A).trans d1,(a.cell (p:=⟨_,_,none⟩) A).trans d2⟩⟩) | (go_at_call 84;refine(T.o _ (M.o.drew.trans (a.mono (by simp)))).mono ?_;rintro e w2 ⟨rfl,u,d,rfl⟩;have Z:((grow (m.drewN u) d).cell? ⟨wr.heap.size,0,none⟩=some (.slice q E B)/\(grow (m.drewN u) d).cell? ⟨wr.heap.size,1,none⟩=some (.int .i64 z)/\(grow (m.drewN u) d).cell? ⟨wr.heap.size,2,none⟩=some (.int .i64 v))/\(grow (m.drewN u) d).cell? ⟨g,o+j * 3,none⟩=some (.slice r m2 rc)/\(grow (m.drewN u) d).cell? ⟨g,o+j * 3+1,none⟩=some (.int .i64 y0)/\(grow (m.drewN u) d).cell? ⟨g,o+j * 3+2,none⟩=some (.int .i64 y1):=⟨⟨((below_grow u d).cell (World.block_lt_of_cell? _ _ n.1.1)).trans n.1.1,((below_grow u d).cell (World.block_lt_of_cell? _ _ n.1.2.1)).trans n.1.2.1,((below_grow u d).cell (World.block_lt_of_cell? _ _ n.1.2.2)).trans n.1.2.2⟩,((below_grow u d).cell (World.block_lt_of_cell? _ _ n.2.1)).trans n.2.1,((below_grow u d).cell (World.block_lt_of_cell? _ _ n.2.2.1)).trans n.2.2.1,((below_grow u d).cell (World.block_lt_of_cell? _ _ n.2.2.2)).trans n.2.2.2⟩))
        all_goals go_wp2_with fail
        all_goals go_ret
        all_goals exact⟨HF.o _ HZ.o.symm,((J.o.drew).trans (a.mono (Nat.le_trans U.o.size (by simp)))).trans ((below_grow u d).mono (Nat.le_trans U.o.size (Nat.le_trans (by simp) a.size)))⟩
   ·obtain rfl:k=f.length:=by omega
    have k9:Hid (tabB f=b):=by
     have:=HQ.o;rw[List.drop_length] at this
     show _=_
     simpa [chainO] using this
    clear HQ HC HV
    go_wp2
    go_ret;exact⟨HF.o _ k9.o.symm,U.o⟩
 ·have e9:(200:Int)<f.length:=by omega
  have hv:tabB f=false:=by simp[tabB];omega
  rw[hv];clear hv
  go_enter Tryz.func58,Tryz.ntmps58
  go_wp2
  go_ret;exact⟨rfl,Below.refl _ _⟩
end Go.Proofs.YtlkhmmoimplokaaGreatDoor
