/- Texts of RdH, RdI, RdJ. Own work of the verifier. -/
import Derived.Test.YtlkhmmoimplokaaGreatDoorUqbg
namespace Go.Proofs.YtlkhmmoimplokaaGreatDoor
set_option maxHeartbeats 4000000
set_option maxRecDepth 100000
open Go Go.RowKit Go.Maps
set_option linter.unusedVariables false
set_option linter.unusedSimpArgs false
section
variable {w1:World}{rb vb kb kc:Nat}{ov sv:Value}{T:List Cel}{L:Int}{all:List Tok}{k:Nat}{s:RS}{w:World}
theorem isNeg_any (t u:Tok)(p q:Option Addr)(c d:Nat)(w:World)(z:Byte t.2)(a:BIn w p t.2)(F:0<=t.1.2.1/\t.1.2.1<=9000000000/\0<=t.1.2.2.1/\t.1.2.2.1<=9000000000):Calls Tryz.prog 111 #[tokVR t p c,tokVR u q d] w fun e M=>e = .returned (.bool (decide (t.1.1=1) && (decide (t.2 = [45]) && (decide (u.1.1=3) && decide (t.1.2.1+t.1.2.2.1=u.1.2.1)))))/\Below w.heap.size w M:=by
 obtain⟨⟨j,C,N,K⟩,h⟩:=t;obtain⟨⟨r,J,D,G⟩,P⟩:=u;simp only[tokVR] at *
 obtain⟨l,v⟩:∃ l,l=h.length:=⟨_,rfl⟩
 obtain⟨E,f⟩:∃ l,l=P.length:=⟨_,rfl⟩
 rw[<-v,<-f];have m:Below w.heap.size w ((w.alloc (.cells #[.int .i64 j,.int .i64 C,.int .i64 N,.slice p l c,.int .i64 K] 86)).alloc (.cells #[.int .i64 r,.int .i64 J,.int .i64 D,.slice q E d,.int .i64 G] 86)):=Below.on (new_low w _) (new_low _ _);have n:=conv_str (a.below m) l c v 9 Tryz.underlying9
 have g:((strOfNums h).toList == [45])=decide (h = [45]):=by rw[str_is z [45] [45] rfl,Bool.eq_iff_iff,beq_iff_eq,decide_eq_true_iff]
 obtain⟨H,B⟩:∃ d,d=decide (h = [45]):=⟨_,rfl⟩
 rw[<-B] at g ⊢
 obtain⟨A,b⟩:∃ A,A=strOfNums h:=⟨_,rfl⟩
 rw[<-b] at g n;have i:Hid _:=m;clear a m z v f B b
 by_cases x:j=1
 ·subst x
  cases H with
  | false=>
    go_enter Tryz.func111,Tryz.ntmps111
    go_wp2_with fail;go_ret;exact⟨by simp,i.o⟩
  | true=>
    by_cases y:r=3
    ·subst y
     go_enter Tryz.func111,Tryz.ntmps111
     go_wp2_with fail;go_ret;refine⟨?_,i.o⟩
     simp
     rfl
    ·have I:(r == 3)=false:=by simpa using y
     go_enter Tryz.func111,Tryz.ntmps111
     go_wp2_with fail;go_ret;exact⟨by simp[y],i.o⟩
 ·have O:(j == 1)=false:=by simpa using x
  go_enter Tryz.func111,Tryz.ntmps111
  go_wp2_with fail;go_ret;exact⟨by simp[x],i.o⟩
theorem needsLeft_any (E:REnv w1 rb vb kb kc ov sv T L all)(h:RI w1 rb vb kb kc ov sv all k s w)(f:s.ts≠[])(a:List Int)(n:a.length<=1000000):Calls Tryz.prog 159 #[ptrR rb,.string (strOfNums a)] w fun e u=>e = .returned (.bool (needL T a))/\Below w.heap.size w u:=by
 obtain⟨A,N,d,c⟩:=E.ops (fun r=>f (by rw[h.ts.2,r];simp));have g:=h.c0;rw[d] at g;have m:=(c w h.sty).lookD a n true;have b:=new_low w (.cells #[.string (opR T a true).1,.int .i64 (opR T a true).2.1,.int .i64 (opR T a true).2.2] 126);have j:=(c _ (h.sty.below b)).lookD a n false;have t:=(b.cell (p:=⟨rb,0,none⟩) (World.block_lt_of_cell? _ _ g)).trans g
 have q:Hid (∀ o,Below w.heap.size w ((w.alloc (.cells #[.string (opR T a true).1,.int .i64 (opR T a true).2.1,.int .i64 (opR T a true).2.2] 126)).alloc o)):=fun o=>Below.on b (new_low _ _)
 have l:sortI true=0:=rfl;have i:sortI false=1:=rfl;rw[l] at m;rw[i] at j
 unfold needL
 generalize decide (0<=findW T a true)=d1 at *
 generalize decide (0<=findW T a false)=d2 at *
 generalize opR T a true=r1 at *
 generalize opR T a false=r2 at *
 obtain⟨x,y,z⟩:=r1;obtain⟨v,B,C⟩:=r2
 generalize strOfNums a=str at *
 simp only at m j t q;clear h E c d b l i
 cases d2
 all_goals
  go_enter Tryz.func159,Tryz.ntmps159
  go_wp2_with fail;go_ret;exact⟨by simp,q.o _⟩
end
section
variable {w1:World}{rb vb kb kc:Nat}{ov sv:Value}{T:List Cel}{L:Int}{all:List Tok}{k:Nat}{s:RS}{w:World}
theorem afterNext_any (E:REnv w1 rb vb kb kc ov sv T L all)(h:RI w1 rb vb kb kc ov sv all k s w):Calls Tryz.prog 158 #[ptrR rb] w fun e w'=>∃ p c,e = .returned (tokVR (s.tk.hd L) p c)/\(∀ F,Sty rb vb w1 F->BIn F p (s.tk.hd L).2)/\Below w.heap.size w w':=by
 obtain⟨i,Q⟩:∃ i,i=(if s.ts = [] then 0 else 1):=⟨_,rfl⟩
 have K:k+i<=all.length:=by
  rw[Q];split
  ·exact h.ts.1
  ·rename_i A;have:=(drop_next (all:=all) (k:=k) (by rw[<-h.ts.2];exact A)).1;omega
 have O:(all.drop (k+i)).headD (senT L)=s.tk.hd L:=by
  unfold RS.hd RS.tk
  rw[Q,h.ts.2]
  split
  ·rename_i A;rw[A];simp[A]
  ·rw[<-List.tail_drop]
 obtain⟨p,c,N,H,I,G,P,U⟩:=E.tok (k+i) K;rw[O] at N H I G P U;have HB:=hid U;have hk:=h.ts.1
 have f:all.length-k=s.ts.length:=by rw[h.ts.2];simp
 obtain⟨j,ej⟩:∃ j,j+1=all.length+1-k:=⟨all.length-k,by omega⟩
 obtain⟨m,em⟩:∃ m,m=kc-k:=⟨_,rfl⟩
 obtain⟨q,eq⟩:∃ q,q=k * 5:=⟨_,rfl⟩
 obtain⟨z,ez⟩:∃ z,z=(k+i) * 5:=⟨_,rfl⟩
 rw[<-ez] at N H I G P;have R:=h.c1;rw[<-ej,<-em,<-eq] at R
 have h3:j+1<=m:=by have:=E.cap;omega
 have h6:m<=9223372036854775807:=by have:=E.cap;omega
 have h4:j<=20000:=by have:=E.len;omega
 have h7:q<=100000:=by have:=E.len;omega
 have Z:i=0/\j=0∨i=1/\1<=j:=by
  rw[Q]
  by_cases A:s.ts = []
  ·rw[if_pos A];left;rw[A] at f;simp at f;omega
  ·rw[if_neg A];right;have:=ne_len A;omega
 have HZ:Hid (z=q+i * 5):=by show _=_;omega
 generalize s.tk.hd L=t at *
 obtain⟨⟨r,n,y,x⟩,tx⟩:=t;simp only[tokVR] at N H I G P ⊢
 obtain⟨l,Y⟩:∃ l,l=tx.length:=⟨_,rfl⟩
 rw[<-Y] at G;have HL:=hid Y;have h2:rb<w.heap.size:=Nat.lt_of_lt_of_le E.lt.1 h.sty.size
 have D:∀ b,Below w.heap.size w b->b.cell? ⟨rb,1,none⟩=some (.slice (some ⟨kb,q,none⟩) (j+1) m)/\b.cell? ⟨kb,z,none⟩=some (.int .i64 r)/\b.cell? ⟨kb,z+1,none⟩=some (.int .i64 n)/\b.cell? ⟨kb,z+2,none⟩=some (.int .i64 y)/\b.cell? ⟨kb,z+3,none⟩=some (.slice p l c)/\b.cell? ⟨kb,z+4,none⟩=some (.int .i64 x):=fun b u=>by
  have J:=h.sty.below u;exact⟨(u.cell (p:=⟨rb,1,none⟩) h2).trans R,J.cell N E.ne.1 E.ne.2.1,J.cell H E.ne.1 E.ne.2.1,J.cell I E.ne.1 E.ne.2.1,J.cell G E.ne.1 E.ne.2.1,J.cell P E.ne.1 E.ne.2.1⟩
 have B:Hid (∀ b,Below (w.alloc zTok).heap.size (w.alloc zTok) b->b.cell? ⟨rb,1,none⟩=some (.slice (some ⟨kb,q,none⟩) (j+1) m)/\b.cell? ⟨kb,z,none⟩=some (.int .i64 r)/\b.cell? ⟨kb,z+1,none⟩=some (.int .i64 n)/\b.cell? ⟨kb,z+2,none⟩=some (.int .i64 y)/\b.cell? ⟨kb,z+3,none⟩=some (.slice p l c)/\b.cell? ⟨kb,z+4,none⟩=some (.int .i64 x)):=fun b u=>D b (Below.on (new_low w zTok) u)
 have X:Hid _:=D (w.alloc (.cells #[.int .i64 r,.int .i64 n,.int .i64 y,.slice p l c,.int .i64 x] 86)).drew (new_low w _).drew;clear h E N H I G P U D R O K Q ej em eq ez Y hk f
 rcases Z with ⟨rfl,rfl⟩ | ⟨rfl,h5⟩
 rotate_right
 case' _=>
  have M:(1:Int)<j+1:=by omega
  have g:True:=trivial
  go_enter Tryz.func158,Tryz.ntmps158
  go_wp2_with fail;refine wp_region_held_drew (S:=fun b=>b.cell? ⟨rb,1,none⟩=some (.slice (some ⟨kb,q,none⟩) (j+1) m)/\b.cell? ⟨kb,z,none⟩=some (.int .i64 r)/\b.cell? ⟨kb,z+1,none⟩=some (.int .i64 n)/\b.cell? ⟨kb,z+2,none⟩=some (.int .i64 y)/\b.cell? ⟨kb,z+3,none⟩=some (.slice p l c)/\b.cell? ⟨kb,z+4,none⟩=some (.int .i64 x)) (by kernel_rfl) ?_ (fun C=>?_)
  ·exact B.o _ ((Below.refl _ _).drew)
  have h1:=B.o _ ((Below.refl _ _).drew);refine hTq 0 (ptrR rb) 3 ?_
  simp only[Act.put,zzA,zzB,zzC];refine hTq 1 (ptrR rb) 4 ?_
  simp only[Act.put,zzA,zzB,zzC];refine hTq 2 (.pointer (some ⟨rb,1,none⟩)) 5 ?_
  simp only[Act.put,zzA,zzB,zzC];refine hTr 3 (.slice (some ⟨kb,q,none⟩) (j+1) m) 6 (fun o d W a=>?y3) ?_
  case y3=>cases d;simp[execOp,go_sem,Act.eval,a.1]
  simp only[Act.put,zzA,zzB,zzC];refine hTq 4 (ptrR rb) 7 ?_
  simp only[Act.put,zzA,zzB,zzC];refine hTq 5 (ptrR rb) 8 ?_
  simp only[Act.put,zzA,zzB,zzC];refine hTq 6 (.pointer (some ⟨rb,1,none⟩)) 9 ?_
  simp only[Act.put,zzA,zzB,zzC];refine hTr 7 (.slice (some ⟨kb,q,none⟩) (j+1) m) 10 (fun o d W a=>?y7) ?_
  case y7=>cases d;simp[execOp,go_sem,Act.eval,a.1]
  simp only[Act.put,zzA,zzB,zzC];refine hTq 8 (.int .i64 ((j+1:Nat):Int)) 11 ?_
  simp only[Act.put,zzA,zzB,zzC];refine hTr 9 (.int .i64 (j:Int)) 12 (fun o d W a=>?y9) ?_
  case y9=>cases d;simp[execOp,go_sem,Act.eval,IntKind.wrap_i64];omega
  simp only[Act.put,zzA,zzB,zzC];refine hTr 10 (.int .i64 1) 13 (fun o d W a=>?y10) ?_
  case y10=>cases d;simp[execOp,go_sem,Act.eval,g];omega
 rotate_right
 case' _=>
  have M:(0:Int)<0+1:=by decide
  have g:True:=trivial
  go_enter Tryz.func158,Tryz.ntmps158
  go_wp2_with fail;refine wp_region_held_drew (S:=fun b=>b.cell? ⟨rb,1,none⟩=some (.slice (some ⟨kb,q,none⟩) (0+1) m)/\b.cell? ⟨kb,z,none⟩=some (.int .i64 r)/\b.cell? ⟨kb,z+1,none⟩=some (.int .i64 n)/\b.cell? ⟨kb,z+2,none⟩=some (.int .i64 y)/\b.cell? ⟨kb,z+3,none⟩=some (.slice p l c)/\b.cell? ⟨kb,z+4,none⟩=some (.int .i64 x)) (by kernel_rfl) ?_ (fun C=>?_)
  ·exact B.o _ ((Below.refl _ _).drew)
  have h1:=B.o _ ((Below.refl _ _).drew);refine hTq 0 (ptrR rb) 3 ?_
  simp only[Act.put,zzA,zzB,zzC];refine hTq 1 (ptrR rb) 4 ?_
  simp only[Act.put,zzA,zzB,zzC];refine hTq 2 (.pointer (some ⟨rb,1,none⟩)) 5 ?_
  simp only[Act.put,zzA,zzB,zzC];refine hTr 3 (.slice (some ⟨kb,q,none⟩) (0+1) m) 6 (fun o d W a=>?y3) ?_
  case y3=>cases d;simp[execOp,go_sem,Act.eval,a.1]
  simp only[Act.put,zzA,zzB,zzC];refine hTq 4 (ptrR rb) 7 ?_
  simp only[Act.put,zzA,zzB,zzC];refine hTq 5 (ptrR rb) 8 ?_
  simp only[Act.put,zzA,zzB,zzC];refine hTq 6 (.pointer (some ⟨rb,1,none⟩)) 9 ?_
  simp only[Act.put,zzA,zzB,zzC];refine hTr 7 (.slice (some ⟨kb,q,none⟩) (0+1) m) 10 (fun o d W a=>?y7) ?_
  case y7=>cases d;simp[execOp,go_sem,Act.eval,a.1]
  simp only[Act.put,zzA,zzB,zzC];refine hTq 8 (.int .i64 ((0+1:Nat):Int)) 11 ?_
  simp only[Act.put,zzA,zzB,zzC];refine hTr 9 (.int .i64 ((0:Nat):Int)) 12 (fun o d W a=>?y9) ?_
  case y9=>cases d;simp[execOp,go_sem,Act.eval,IntKind.wrap_i64]
  simp only[Act.put,zzA,zzB,zzC];refine hTr 10 (.int .i64 0) 13 (fun o d W a=>?y10) ?_
  case y10=>cases d;simp[execOp,go_sem,Act.eval,g]
 all_goals
  simp only[Act.put,zzA,zzB,zzC];refine hTr 11 (.pointer (some ⟨kb,z,none⟩)) 14 (fun o d W a=>?y11) ?_
  case y11=>cases d;simp[execOp,go_sem,Act.eval,M,HZ.o]
  simp only[Act.put,zzA,zzB,zzC];refine hTr 12 (.agg #[.int .i64 r,.int .i64 n,.int .i64 y,.slice p l c,.int .i64 x]) 15 (fun o d W a=>?y12) ?_
  case y12=>cases d;simp[execOp,go_sem,Act.eval,a.2.1,a.2.2.1,a.2.2.2.1,a.2.2.2.2.1,a.2.2.2.2.2]
  simp only[Act.put,zzA,zzB,zzC];have V:=X.o;refine hStore (i:=13) (w':=(w.alloc (.cells #[.int .i64 r,.int .i64 n,.int .i64 y,.slice p l c,.int .i64 x] 86)).drew) (by kernel_rfl) (by kernel_rfl) (by kernel_rfl) (fun o d=>?st) V ?_
  case st=>cases d;simp[execOp,go_sem,Act.eval]
  refine wpAnyH_done (by kernel_rfl) ?_ _
  change Exit.then _ _ _ _ (w.alloc (.cells #[.int .i64 r,.int .i64 n,.int .i64 y,.slice p l c,.int .i64 x] 86)).drew
  go_wp2_with fail;exact bodyPost_ret (v:=.agg #[.int .i64 r,.int .i64 n,.int .i64 y,.slice p l c,.int .i64 x]) (by simp[results,Tryz.results158,go_sem]) rfl ⟨p,c,by rw[HL.o],HB.o,(new_low w _).drew⟩
end
section
variable {w1:World}{rb vb kb kc:Nat}{ov sv:Value}{T:List Cel}{L:Int}{all:List Tok}{k:Nat}{s:RS}{w:World}
theorem hd_at (E:REnv w1 rb vb kb kc ov sv T L all)(h:RI w1 rb vb kb kc ov sv all k s w):0<=(s.hd L).1.2.1/\(s.hd L).1.2.1<=9000000000/\0<=(s.hd L).1.2.2.1/\(s.hd L).1.2.2.1<=9000000000:=by
 by_cases a:s.ts = []
 ·have:=E.big;unfold RS.hd;rw[a];simp[senT];omega
 ·have:=tk_tok E h a
  have c:=this.at_;have b:=this.ln
  omega
theorem pl_any (s:RS)(h:s.ts≠[])(a b:Int):s.pl a=s.pl b:=by unfold RS.pl;cases c:s.ts with | nil=>exact absurd c h | cons x y=>rfl
theorem canBegin_any (E:REnv w1 rb vb kb kc ov sv T L all)(h:RI w1 rb vb kb kc ov sv all k s w):Calls Tryz.prog 112 #[ptrR rb] w fun e w'=>e = .returned (.bool (s.begins T))/\Below w.heap.size w w':=by
 have HN:=next_any E h
 have Q:Hid (∀ W,Below w.heap.size w W->Calls Tryz.prog 158 #[ptrR rb] W fun e w'=>∃ p c,e = .returned (tokVR (s.tk.hd L) p c)/\(∀ F,Sty rb vb w1 F->BIn F p (s.tk.hd L).2)/\Below W.heap.size W w'):=fun W hW=>afterNext_any E (h.below hW)
 have k5:=hd_byte E h;have x6:=hd_at E h
 have HP:Hid (∀ W p c m S,strOfNums m=S->Byte m->BIn W p (s.hd L).2->Calls Tryz.prog 105 #[tokVR (s.hd L) p c,.string S] W fun e w'=>e = .returned (.bool (decide ((s.hd L).1.1=5) && decide ((s.hd L).2=m)))/\Below W.heap.size W w'):=fun W p c m S hS hm hb=>isPunct_any (s.hd L) p c m S hS W hm k5.1 hb
 have h4:Hid (∀ W p c q j,BIn W p (s.hd L).2->Calls Tryz.prog 111 #[tokVR (s.hd L) p c,tokVR (s.tk.hd L) q j] W fun e w'=>e = .returned (.bool (decide ((s.hd L).1.1=1) && (decide ((s.hd L).2 = [45]) && (decide ((s.tk.hd L).1.1=3) && decide ((s.hd L).1.2.1+(s.hd L).1.2.2.1=(s.tk.hd L).1.2.1)))))/\Below W.heap.size W w'):=fun W p c q j hb=>isNeg_any (s.hd L) (s.tk.hd L) p q c j W k5.1 hb x6
 have HE:=hid E;have HI:=hid h
 have k1:Hid (s.ts≠[]->∀ W,Below w.heap.size w W->Calls Tryz.prog 159 #[ptrR rb,.string (strOfNums (s.hd L).2)] W fun e w'=>e = .returned (.bool (needL T (s.hd L).2))/\Below W.heap.size W w'):=fun h0 W hW=>needsLeft_any E (h.below hW) h0 _ (by have:=k5.2;omega)
 have k9:0<=(s.hd L).1.1/\(s.hd L).1.1<=7:=by
  by_cases h0:s.ts = []
  ·unfold RS.hd;rw[h0];show(0:Int)<=0/\(0:Int)<=7;decide
  ·have:=hd_nz E h h0;omega
 have h7:=hid (hd_kd L s);have x1:=hid (hd_tx L s)
 have k8:Hid ((s.hd L).1.2.1=s.pl L/\(s.hd L).1.2.2.1=s.ln):=⟨hd_pl L s,hd_ln L s⟩
 have e6:Hid ((s.tk.hd L).1.1=s.tk.kd/\(s.tk.hd L).1.2.1=s.tk.pl L):=⟨hd_kd L s.tk,hd_pl L s.tk⟩
 clear h E
 obtain⟨⟨⟨N,C,D,H⟩,tx⟩,et⟩:∃ t,s.hd L=t:=⟨_,rfl⟩
 obtain⟨⟨⟨y,J,K,O⟩,ux⟩,eu⟩:∃ t,s.tk.hd L=t:=⟨_,rfl⟩
 rw[et] at HN HP h4 k1 k5 k9 h7 x1 k8;rw[eu] at Q h4 e6;simp only[tokVR] at HN HP h4 k1 k5 k9 h7 x1 k8 Q e6
 obtain⟨l,el⟩:∃ l,l=tx.length:=⟨_,rfl⟩
 obtain⟨M,x5⟩:∃ l,l=ux.length:=⟨_,rfl⟩
 rw[<-el] at HN HP h4;rw[<-x5] at h4 Q;have HL:=hid el;clear et eu el x5 x6
 by_cases h1:N=1
 ·have HR:Hid (s.begins T=(!needL T tx || (decide (y=6) || (decide (tx = [45]) && (decide (y=3) && decide (C+D=J)))))):=by
   show _=_
   have k7:s.kd=1:=by rw[<-h7.o];exact h1
   unfold RS.begins negB
   rw[if_pos k7,x1.o,e6.o.1,k8.o.1,k8.o.2,e6.o.2]
   by_cases h3:s.tk.kd=3
   ·rw[pl_any s (kd_ne k7 (by decide)) L 0,pl_any s.tk (kd_ne h3 (by decide)) L 0]
   ·simp[h3]
  have w7:Hid (s.ts≠[]):=kd_ne (k:=1) (by rw[<-h7.o];exact h1) (by decide);rw[HR.o];subst h1;have e7:=k1.o w7.o
  obtain⟨nl,x8⟩:∃ nl,nl=needL T tx:=⟨_,rfl⟩
  rw[<-x8] at e7 ⊢
  obtain⟨str,es⟩:∃ str,str=strOfNums tx:=⟨_,rfl⟩
  rw[<-es] at e7;have x2:Hid _:=e7;have w5:=hid es;have k6:Hid _:=h4.o
  obtain⟨ng,x9⟩:∃ ng,ng=(decide (tx = [45]) && (decide (y=3) && decide (C+D=J))):=⟨_,rfl⟩
  simp only[decide_true,Bool.true_and] at k6;rw[<-x9] at k6 ⊢;clear x8 es x9 e7 k1 h4
  cases nl with
  | false=>
    go_enter Tryz.func112,Tryz.ntmps112
    go_wp2_with fail;refine HN.mono ?_;rintro e W1 ⟨p,c,rfl,i,u⟩;have B:=Q.o W1 u;have h2:=hid i;have e5:=hid u;clear HN i u Q;go_wp2_with fail;refine B.mono ?_;rintro e a ⟨q,j,rfl,_,P⟩
    obtain⟨V,U⟩:∃ V,V=(a.alloc (.cells #[.int .i64 1,.int .i64 C,.int .i64 D,.slice p l c,.int .i64 H] 86)).alloc (.cells #[.int .i64 y,.int .i64 J,.int .i64 K,.slice q M j,.int .i64 O] 86):=⟨_,rfl⟩
    have X:Below a.heap.size a V:=by rw[U];exact Below.on (new_low a _) (new_low _ _)
    have R:Below w.heap.size w V:=Below.on (Below.on e5.o P) X
    have r:V.heap[a.heap.size]?=some (.cells #[.int .i64 1,.int .i64 C,.int .i64 D,.slice p l c,.int .i64 H] 86):=by rw[U];exact((new_low (a.alloc _) _).block _ (by simp)).trans (heap_alloc_new a _)
    have v:V.heap[a.heap.size+1]?=some (.cells #[.int .i64 y,.int .i64 J,.int .i64 K,.slice q M j,.int .i64 O] 86):=by
     have:=heap_alloc_new (a.alloc (.cells #[.int .i64 1,.int .i64 C,.int .i64 D,.slice p l c,.int .i64 H] 86)) (.cells #[.int .i64 y,.int .i64 J,.int .i64 K,.slice q M j,.int .i64 O] 86);rw[<-U,World.size_alloc] at this;exact this
    have g:Hid (∀ F,Below V.heap.size V F->(F.cell? ⟨a.heap.size,0,none⟩=some (.int .i64 1)/\F.cell? ⟨a.heap.size,1,none⟩=some (.int .i64 C)/\F.cell? ⟨a.heap.size,2,none⟩=some (.int .i64 D)/\F.cell? ⟨a.heap.size,3,none⟩=some (.slice p l c)/\F.cell? ⟨a.heap.size,4,none⟩=some (.int .i64 H))/\(F.cell? ⟨a.heap.size+1,0,none⟩=some (.int .i64 y)/\F.cell? ⟨a.heap.size+1,1,none⟩=some (.int .i64 J)/\F.cell? ⟨a.heap.size+1,2,none⟩=some (.int .i64 K)/\F.cell? ⟨a.heap.size+1,3,none⟩=some (.slice q M j)/\F.cell? ⟨a.heap.size+1,4,none⟩=some (.int .i64 O))):=fun F hF=>by
     have y1:F.heap[a.heap.size]?=some (.cells #[.int .i64 1,.int .i64 C,.int .i64 D,.slice p l c,.int .i64 H] 86):=(hF.block _ (Array.getElem?_eq_some_iff.1 r).1).trans r;have y2:F.heap[a.heap.size+1]?=some (.cells #[.int .i64 y,.int .i64 J,.int .i64 K,.slice q M j,.int .i64 O] 86):=(hF.block _ (Array.getElem?_eq_some_iff.1 v).1).trans v
     refine⟨⟨?_,?_,?_,?_,?_⟩,⟨?_,?_,?_,?_,?_⟩⟩ <;> unfold World.cell? <;> first | (rw[y1];rfl) | (rw[y2];rfl)
    have I:Hid (Below V.heap.size V V):=Below.refl _ _;have A:=hid R;have Z:=hid U.symm;clear B P X R r v U;have e4:=conv_str (h2.o V (HI.o.sty.below A.o)) l c HL.o 9 Tryz.underlying9;rw[<-w5.o] at e4;have B:=x2.o V A.o;rw[<-Z.o] at B e4;go_wp2_with fail;refine B.mono ?_;rintro e f ⟨rfl,z⟩;rw[Z.o] at z;have b:=hid z;have G:=hid (Below.on A.o z);clear B z e4;go_wp2_with fail;go_ret;exact⟨by simp,G.o⟩
  | true=>
    go_enter Tryz.func112,Tryz.ntmps112
    go_wp2_with fail;refine HN.mono ?_;rintro e W1 ⟨p,c,rfl,i,u⟩;have B:=Q.o W1 u;have h2:=hid i;have e5:=hid u;clear HN i u Q;go_wp2_with fail;refine B.mono ?_;rintro e a ⟨q,j,rfl,_,P⟩
    obtain⟨V,U⟩:∃ V,V=(a.alloc (.cells #[.int .i64 1,.int .i64 C,.int .i64 D,.slice p l c,.int .i64 H] 86)).alloc (.cells #[.int .i64 y,.int .i64 J,.int .i64 K,.slice q M j,.int .i64 O] 86):=⟨_,rfl⟩
    have X:Below a.heap.size a V:=by rw[U];exact Below.on (new_low a _) (new_low _ _)
    have R:Below w.heap.size w V:=Below.on (Below.on e5.o P) X
    have r:V.heap[a.heap.size]?=some (.cells #[.int .i64 1,.int .i64 C,.int .i64 D,.slice p l c,.int .i64 H] 86):=by rw[U];exact((new_low (a.alloc _) _).block _ (by simp)).trans (heap_alloc_new a _)
    have v:V.heap[a.heap.size+1]?=some (.cells #[.int .i64 y,.int .i64 J,.int .i64 K,.slice q M j,.int .i64 O] 86):=by
     have:=heap_alloc_new (a.alloc (.cells #[.int .i64 1,.int .i64 C,.int .i64 D,.slice p l c,.int .i64 H] 86)) (.cells #[.int .i64 y,.int .i64 J,.int .i64 K,.slice q M j,.int .i64 O] 86);rw[<-U,World.size_alloc] at this;exact this
    have g:Hid (∀ F,Below V.heap.size V F->(F.cell? ⟨a.heap.size,0,none⟩=some (.int .i64 1)/\F.cell? ⟨a.heap.size,1,none⟩=some (.int .i64 C)/\F.cell? ⟨a.heap.size,2,none⟩=some (.int .i64 D)/\F.cell? ⟨a.heap.size,3,none⟩=some (.slice p l c)/\F.cell? ⟨a.heap.size,4,none⟩=some (.int .i64 H))/\(F.cell? ⟨a.heap.size+1,0,none⟩=some (.int .i64 y)/\F.cell? ⟨a.heap.size+1,1,none⟩=some (.int .i64 J)/\F.cell? ⟨a.heap.size+1,2,none⟩=some (.int .i64 K)/\F.cell? ⟨a.heap.size+1,3,none⟩=some (.slice q M j)/\F.cell? ⟨a.heap.size+1,4,none⟩=some (.int .i64 O))):=fun F hF=>by
     have y1:F.heap[a.heap.size]?=some (.cells #[.int .i64 1,.int .i64 C,.int .i64 D,.slice p l c,.int .i64 H] 86):=(hF.block _ (Array.getElem?_eq_some_iff.1 r).1).trans r;have y2:F.heap[a.heap.size+1]?=some (.cells #[.int .i64 y,.int .i64 J,.int .i64 K,.slice q M j,.int .i64 O] 86):=(hF.block _ (Array.getElem?_eq_some_iff.1 v).1).trans v
     refine⟨⟨?_,?_,?_,?_,?_⟩,⟨?_,?_,?_,?_,?_⟩⟩ <;> unfold World.cell? <;> first | (rw[y1];rfl) | (rw[y2];rfl)
    have I:Hid (Below V.heap.size V V):=Below.refl _ _;have A:=hid R;have Z:=hid U.symm;clear B P X R r v U;have e4:=conv_str (h2.o V (HI.o.sty.below A.o)) l c HL.o 9 Tryz.underlying9;rw[<-w5.o] at e4;have B:=x2.o V A.o;rw[<-Z.o] at B e4;go_wp2_with fail;refine B.mono ?_;rintro e f ⟨rfl,z⟩;rw[Z.o] at z;have b:=hid z;have G:=hid (Below.on A.o z);clear B z e4;have a0:f.cell? ⟨a.heap.size,0,none⟩=some (.int .i64 1):=(g.o f b.o).1.1;have a1:f.cell? ⟨a.heap.size,1,none⟩=some (.int .i64 C):=(g.o f b.o).1.2.1
    have a2:f.cell? ⟨a.heap.size,2,none⟩=some (.int .i64 D):=(g.o f b.o).1.2.2.1;have a3:f.cell? ⟨a.heap.size,3,none⟩=some (.slice p l c):=(g.o f b.o).1.2.2.2.1;have a4:f.cell? ⟨a.heap.size,4,none⟩=some (.int .i64 H):=(g.o f b.o).1.2.2.2.2;have b0:f.cell? ⟨a.heap.size+1,0,none⟩=some (.int .i64 y):=(g.o f b.o).2.1;have b1:f.cell? ⟨a.heap.size+1,1,none⟩=some (.int .i64 J):=(g.o f b.o).2.2.1;have b2:f.cell? ⟨a.heap.size+1,2,none⟩=some (.int .i64 K):=(g.o f b.o).2.2.2.1;have b3:f.cell? ⟨a.heap.size+1,3,none⟩=some (.slice q M j):=(g.o f b.o).2.2.2.2.1;have b4:f.cell? ⟨a.heap.size+1,4,none⟩=some (.int .i64 O):=(g.o f b.o).2.2.2.2.2
    by_cases h6:y=6
    ·subst h6
     go_wp2_with fail;go_ret;exact⟨by simp,G.o⟩
    ·have b6:(y == 6)=false:=by simpa using h6
     have e8:=k6.o f p c q j (h2.o f (HI.o.sty.below G.o));go_wp2_with fail;refine e8.mono ?_;rintro e Y ⟨rfl,e9⟩;have h8:=hid (Below.on G.o e9);clear e8 e9;clear a0 a1 a2 a3 a4 b0 b1 b2 b3 b4;go_wp2_with fail;go_ret;exact⟨by simp[h6],h8.o⟩
 by_cases h5:N=5
 ·have HR:Hid (s.begins T=(decide (tx = [40]) || (decide (tx = [91]) || decide (tx = [123])))):=by
   show _=_
   have k7:s.kd=5:=by rw[<-h7.o];exact h5
   unfold RS.begins
   rw[if_neg (by rw[k7];decide),if_pos k7,x1.o]
  rw[HR.o];subst h5;have k4:Hid _:=HP.o;simp only[decide_true,Bool.true_and] at k4;have z1:strOfNums [40]=⟨#[40]⟩:=rfl;have z2:strOfNums [91]=⟨#[91]⟩:=rfl;have z3:strOfNums [123]=⟨#[123]⟩:=rfl
  have y1:Byte [40]:=fun x hx=>by simp at hx;omega
  have y2:Byte [91]:=fun x hx=>by simp at hx;omega
  have y3:Byte [123]:=fun x hx=>by simp at hx;omega
  have x3:Hid (∀ W p c,BIn W p tx->Calls Tryz.prog 105 #[.agg #[.int .i64 5,.int .i64 C,.int .i64 D,.slice p l c,.int .i64 H],.string ⟨#[40]⟩] W fun e w'=>e = .returned (.bool (decide (tx = [40])))/\Below W.heap.size W w'):=fun W p c hb=>k4.o W p c _ _ z1 y1 hb
  have e8:Hid (∀ W p c,BIn W p tx->Calls Tryz.prog 105 #[.agg #[.int .i64 5,.int .i64 C,.int .i64 D,.slice p l c,.int .i64 H],.string ⟨#[91]⟩] W fun e w'=>e = .returned (.bool (decide (tx = [91])))/\Below W.heap.size W w'):=fun W p c hb=>k4.o W p c _ _ z2 y2 hb
  have x4:Hid (∀ W p c,BIn W p tx->Calls Tryz.prog 105 #[.agg #[.int .i64 5,.int .i64 C,.int .i64 D,.slice p l c,.int .i64 H],.string ⟨#[123]⟩] W fun e w'=>e = .returned (.bool (decide (tx = [123])))/\Below W.heap.size W w'):=fun W p c hb=>k4.o W p c _ _ z3 y3 hb
  obtain⟨d1,e1⟩:∃ d,d=decide (tx = [40]):=⟨_,rfl⟩
  obtain⟨d2,e2⟩:∃ d,d=decide (tx = [91]):=⟨_,rfl⟩
  obtain⟨d3,e3⟩:∃ d,d=decide (tx = [123]):=⟨_,rfl⟩
  rw[<-e1,<-e2,<-e3];rw[<-e1] at x3;rw[<-e2] at e8;rw[<-e3] at x4;clear e1 e2 e3 z1 z2 z3 y1 y2 y3 k4 HP k1 h4
  go_enter Tryz.func112,Tryz.ntmps112
  go_wp2_with fail;refine HN.mono ?_;rintro e W1 ⟨p,c,rfl,i,u⟩;have B:=Q.o W1 u;have h2:=hid i;have e5:=hid u;clear HN i u Q;go_wp2_with fail;refine B.mono ?_;rintro e a ⟨q,j,rfl,_,P⟩
  obtain⟨V,U⟩:∃ V,V=(a.alloc (.cells #[.int .i64 5,.int .i64 C,.int .i64 D,.slice p l c,.int .i64 H] 86)).alloc (.cells #[.int .i64 y,.int .i64 J,.int .i64 K,.slice q M j,.int .i64 O] 86):=⟨_,rfl⟩
  have X:Below a.heap.size a V:=by rw[U];exact Below.on (new_low a _) (new_low _ _)
  have R:Below w.heap.size w V:=Below.on (Below.on e5.o P) X
  have r:V.heap[a.heap.size]?=some (.cells #[.int .i64 5,.int .i64 C,.int .i64 D,.slice p l c,.int .i64 H] 86):=by rw[U];exact((new_low (a.alloc _) _).block _ (by simp)).trans (heap_alloc_new a _)
  have v:V.heap[a.heap.size+1]?=some (.cells #[.int .i64 y,.int .i64 J,.int .i64 K,.slice q M j,.int .i64 O] 86):=by
   have:=heap_alloc_new (a.alloc (.cells #[.int .i64 5,.int .i64 C,.int .i64 D,.slice p l c,.int .i64 H] 86)) (.cells #[.int .i64 y,.int .i64 J,.int .i64 K,.slice q M j,.int .i64 O] 86);rw[<-U,World.size_alloc] at this;exact this
  have g:Hid (∀ F,Below V.heap.size V F->(F.cell? ⟨a.heap.size,0,none⟩=some (.int .i64 5)/\F.cell? ⟨a.heap.size,1,none⟩=some (.int .i64 C)/\F.cell? ⟨a.heap.size,2,none⟩=some (.int .i64 D)/\F.cell? ⟨a.heap.size,3,none⟩=some (.slice p l c)/\F.cell? ⟨a.heap.size,4,none⟩=some (.int .i64 H))/\(F.cell? ⟨a.heap.size+1,0,none⟩=some (.int .i64 y)/\F.cell? ⟨a.heap.size+1,1,none⟩=some (.int .i64 J)/\F.cell? ⟨a.heap.size+1,2,none⟩=some (.int .i64 K)/\F.cell? ⟨a.heap.size+1,3,none⟩=some (.slice q M j)/\F.cell? ⟨a.heap.size+1,4,none⟩=some (.int .i64 O))):=fun F hF=>by
   have y1:F.heap[a.heap.size]?=some (.cells #[.int .i64 5,.int .i64 C,.int .i64 D,.slice p l c,.int .i64 H] 86):=(hF.block _ (Array.getElem?_eq_some_iff.1 r).1).trans r;have y2:F.heap[a.heap.size+1]?=some (.cells #[.int .i64 y,.int .i64 J,.int .i64 K,.slice q M j,.int .i64 O] 86):=(hF.block _ (Array.getElem?_eq_some_iff.1 v).1).trans v
   refine⟨⟨?_,?_,?_,?_,?_⟩,⟨?_,?_,?_,?_,?_⟩⟩ <;> unfold World.cell? <;> first | (rw[y1];rfl) | (rw[y2];rfl)
  have I:Hid (Below V.heap.size V V):=Below.refl _ _;have A:=hid R;have Z:=hid U.symm;clear B P X R r v U;have B:=x3.o V p c (h2.o V (HI.o.sty.below A.o));rw[<-Z.o] at B;go_wp2_with fail;refine B.mono ?_;rintro e f ⟨rfl,z⟩;rw[Z.o] at z;have b:=hid z;have G:=hid (Below.on A.o z);clear B z x3
  cases d1 with
  | true=>
    go_wp2_with fail;go_ret;exact⟨by simp,G.o⟩
  | false=>
    have a0:f.cell? ⟨a.heap.size,0,none⟩=some (.int .i64 5):=(g.o f b.o).1.1;have a1:f.cell? ⟨a.heap.size,1,none⟩=some (.int .i64 C):=(g.o f b.o).1.2.1;have a2:f.cell? ⟨a.heap.size,2,none⟩=some (.int .i64 D):=(g.o f b.o).1.2.2.1;have a3:f.cell? ⟨a.heap.size,3,none⟩=some (.slice p l c):=(g.o f b.o).1.2.2.2.1;have a4:f.cell? ⟨a.heap.size,4,none⟩=some (.int .i64 H):=(g.o f b.o).1.2.2.2.2;have b0:f.cell? ⟨a.heap.size+1,0,none⟩=some (.int .i64 y):=(g.o f b.o).2.1;have b1:f.cell? ⟨a.heap.size+1,1,none⟩=some (.int .i64 J):=(g.o f b.o).2.2.1;have b2:f.cell? ⟨a.heap.size+1,2,none⟩=some (.int .i64 K):=(g.o f b.o).2.2.2.1;have b3:f.cell? ⟨a.heap.size+1,3,none⟩=some (.slice q M j):=(g.o f b.o).2.2.2.2.1;have b4:f.cell? ⟨a.heap.size+1,4,none⟩=some (.int .i64 O):=(g.o f b.o).2.2.2.2.2
    have B:=e8.o f p c (h2.o f (HI.o.sty.below G.o));go_wp2_with fail;refine B.mono ?_;rintro e Y ⟨rfl,e9⟩;have n:=hid (Below.on b.o e9);have h8:=hid (Below.on G.o e9);clear B e9 e8;clear a0 a1 a2 a3 a4 b0 b1 b2 b3 b4
    cases d2 with
    | true=>
      go_wp2_with fail;go_ret;exact⟨by simp,h8.o⟩
    | false=>
      have a0:Y.cell? ⟨a.heap.size,0,none⟩=some (.int .i64 5):=(g.o Y n.o).1.1;have a1:Y.cell? ⟨a.heap.size,1,none⟩=some (.int .i64 C):=(g.o Y n.o).1.2.1;have a2:Y.cell? ⟨a.heap.size,2,none⟩=some (.int .i64 D):=(g.o Y n.o).1.2.2.1;have a3:Y.cell? ⟨a.heap.size,3,none⟩=some (.slice p l c):=(g.o Y n.o).1.2.2.2.1;have a4:Y.cell? ⟨a.heap.size,4,none⟩=some (.int .i64 H):=(g.o Y n.o).1.2.2.2.2;have b0:Y.cell? ⟨a.heap.size+1,0,none⟩=some (.int .i64 y):=(g.o Y n.o).2.1;have b1:Y.cell? ⟨a.heap.size+1,1,none⟩=some (.int .i64 J):=(g.o Y n.o).2.2.1;have b2:Y.cell? ⟨a.heap.size+1,2,none⟩=some (.int .i64 K):=(g.o Y n.o).2.2.2.1;have b3:Y.cell? ⟨a.heap.size+1,3,none⟩=some (.slice q M j):=(g.o Y n.o).2.2.2.2.1
      have b4:Y.cell? ⟨a.heap.size+1,4,none⟩=some (.int .i64 O):=(g.o Y n.o).2.2.2.2.2;have B:=x4.o Y p c (h2.o Y (HI.o.sty.below h8.o));go_wp2_with fail;refine B.mono ?_;rintro e V4 ⟨rfl,x7⟩;have w3:=hid (Below.on h8.o x7);clear B x7 x4;clear a0 a1 a2 a3 a4 b0 b1 b2 b3 b4;go_wp2_with fail;go_ret;exact⟨by simp,w3.o⟩
 ·have HR:Hid (s.begins T=decide (1<=N/\N<=6)):=by
   show _=_
   unfold RS.begins
   rw[if_neg (by rw[<-h7.o];exact h1),if_neg (by rw[<-h7.o];exact h5),<-h7.o];rw[Bool.eq_iff_iff,decide_eq_true_iff,decide_eq_true_iff]
   omega
  rw[HR.o]
  have b5:(N == 1)=false:=by simpa using h1
  have b7:(N == 5)=false:=by simpa using h5
  obtain⟨d,ed⟩:∃ d,d=decide (1<=N/\N<=6):=⟨_,rfl⟩
  rw[<-ed]
  obtain⟨fv,w2⟩:∃ fv,fv=(if 1<=N/\N<=6 then Value.func (.func (stF N)) #[ptrR rb] #[] else .nilFunc):=⟨_,rfl⟩
  have w8:Hid (∀ W',Sty rb vb w1 W'->(Instr.lookup 75 sv (.int .i64 N) true).run Tryz.prog W' = .ok (.tuple #[fv,.bool d]) W'):=fun W' k3=>by
   rw[w2,ed]
   refine HE.o.st W' k3 N k9.1 k9.2 fun e0=>?_
   rw[h7.o];have h9:=HI.o.ts.2;rw[e0] at h9
   simp at h9
   unfold RS.kd;rw[h9]
  have w4:=hid HI.o.c2;clear ed w2 HP k1 h4
  go_enter Tryz.func112,Tryz.ntmps112
  go_wp2_with fail;refine HN.mono ?_;rintro e W1 ⟨p,c,rfl,i,u⟩;have B:=Q.o W1 u;have h2:=hid i;have e5:=hid u;clear HN i u Q;go_wp2_with fail;refine B.mono ?_;rintro e a ⟨q,j,rfl,_,P⟩
  obtain⟨V,U⟩:∃ V,V=(a.alloc (.cells #[.int .i64 N,.int .i64 C,.int .i64 D,.slice p l c,.int .i64 H] 86)).alloc (.cells #[.int .i64 y,.int .i64 J,.int .i64 K,.slice q M j,.int .i64 O] 86):=⟨_,rfl⟩
  have X:Below a.heap.size a V:=by rw[U];exact Below.on (new_low a _) (new_low _ _)
  have R:Below w.heap.size w V:=Below.on (Below.on e5.o P) X
  have r:V.heap[a.heap.size]?=some (.cells #[.int .i64 N,.int .i64 C,.int .i64 D,.slice p l c,.int .i64 H] 86):=by rw[U];exact((new_low (a.alloc _) _).block _ (by simp)).trans (heap_alloc_new a _)
  have v:V.heap[a.heap.size+1]?=some (.cells #[.int .i64 y,.int .i64 J,.int .i64 K,.slice q M j,.int .i64 O] 86):=by
   have:=heap_alloc_new (a.alloc (.cells #[.int .i64 N,.int .i64 C,.int .i64 D,.slice p l c,.int .i64 H] 86)) (.cells #[.int .i64 y,.int .i64 J,.int .i64 K,.slice q M j,.int .i64 O] 86);rw[<-U,World.size_alloc] at this;exact this
  have g:Hid (∀ F,Below V.heap.size V F->(F.cell? ⟨a.heap.size,0,none⟩=some (.int .i64 N)/\F.cell? ⟨a.heap.size,1,none⟩=some (.int .i64 C)/\F.cell? ⟨a.heap.size,2,none⟩=some (.int .i64 D)/\F.cell? ⟨a.heap.size,3,none⟩=some (.slice p l c)/\F.cell? ⟨a.heap.size,4,none⟩=some (.int .i64 H))/\(F.cell? ⟨a.heap.size+1,0,none⟩=some (.int .i64 y)/\F.cell? ⟨a.heap.size+1,1,none⟩=some (.int .i64 J)/\F.cell? ⟨a.heap.size+1,2,none⟩=some (.int .i64 K)/\F.cell? ⟨a.heap.size+1,3,none⟩=some (.slice q M j)/\F.cell? ⟨a.heap.size+1,4,none⟩=some (.int .i64 O))):=fun F hF=>by
   have y1:F.heap[a.heap.size]?=some (.cells #[.int .i64 N,.int .i64 C,.int .i64 D,.slice p l c,.int .i64 H] 86):=(hF.block _ (Array.getElem?_eq_some_iff.1 r).1).trans r;have y2:F.heap[a.heap.size+1]?=some (.cells #[.int .i64 y,.int .i64 J,.int .i64 K,.slice q M j,.int .i64 O] 86):=(hF.block _ (Array.getElem?_eq_some_iff.1 v).1).trans v
   refine⟨⟨?_,?_,?_,?_,?_⟩,⟨?_,?_,?_,?_,?_⟩⟩ <;> unfold World.cell? <;> first | (rw[y1];rfl) | (rw[y2];rfl)
  have I:Hid (Below V.heap.size V V):=Below.refl _ _;have A:=hid R;have Z:=hid U.symm;clear B P X R r v U;have a0:V.cell? ⟨a.heap.size,0,none⟩=some (.int .i64 N):=(g.o V I.o).1.1;have a1:V.cell? ⟨a.heap.size,1,none⟩=some (.int .i64 C):=(g.o V I.o).1.2.1;have a2:V.cell? ⟨a.heap.size,2,none⟩=some (.int .i64 D):=(g.o V I.o).1.2.2.1;have a3:V.cell? ⟨a.heap.size,3,none⟩=some (.slice p l c):=(g.o V I.o).1.2.2.2.1;have a4:V.cell? ⟨a.heap.size,4,none⟩=some (.int .i64 H):=(g.o V I.o).1.2.2.2.2;have b0:V.cell? ⟨a.heap.size+1,0,none⟩=some (.int .i64 y):=(g.o V I.o).2.1
  have b1:V.cell? ⟨a.heap.size+1,1,none⟩=some (.int .i64 J):=(g.o V I.o).2.2.1;have b2:V.cell? ⟨a.heap.size+1,2,none⟩=some (.int .i64 K):=(g.o V I.o).2.2.2.1;have b3:V.cell? ⟨a.heap.size+1,3,none⟩=some (.slice q M j):=(g.o V I.o).2.2.2.2.1;have b4:V.cell? ⟨a.heap.size+1,4,none⟩=some (.int .i64 O):=(g.o V I.o).2.2.2.2.2
  have w6:Hid (∀ W',Below V.heap.size V W'->W'.cell? ⟨rb,2,none⟩=some sv/\W'.cell? ⟨a.heap.size,0,none⟩=some (.int .i64 N)/\(Instr.lookup 75 sv (.int .i64 N) true).run Tryz.prog W' = .ok (.tuple #[fv,.bool d]) W'):=fun W' k3=>⟨((Below.on A.o k3).cell (World.block_lt_of_cell? _ _ w4.o)).trans w4.o,(g.o W' k3).1.1,w8.o W' (HI.o.sty.below (Below.on A.o k3))⟩
  clear a0 a1 a2 a3 a4 b0 b1 b2 b3 b4;go_wp2_with fail;rw[Z.o];refine wp_region_held_drew (S:=fun W'=>W'.cell? ⟨rb,2,none⟩=some sv/\W'.cell? ⟨a.heap.size,0,none⟩=some (.int .i64 N)/\(Instr.lookup 75 sv (.int .i64 N) true).run Tryz.prog W' = .ok (.tuple #[fv,.bool d]) W') (by kernel_rfl) ?_ (fun w9=>?_)
  ·exact w6.o _ ((Below.refl _ _).drew)
  have b8:=w6.o _ ((Below.refl _ _).drew);refine hTq 0 (ptrR rb) 44 ?_
  simp only[Act.put,zzA,zzB,zzC];refine hTq 1 (ptrR rb) 45 ?_
  simp only[Act.put,zzA,zzB,zzC];refine hTq 2 (.pointer (some ⟨rb,2,none⟩)) 46 ?_
  simp only[Act.put,zzA,zzB,zzC];refine hTr 3 sv 47 (fun o ho W k2=>?y3) ?_
  case y3=>cases ho;simp[execOp,go_sem,Act.eval,k2.1]
  simp only[Act.put,zzA,zzB,zzC];refine hTq 4 (.pointer (some ⟨a.heap.size,0,none⟩)) 48 ?_
  simp only[Act.put,zzA,zzB,zzC];refine hTr 5 (.int .i64 N) 49 (fun o ho W k2=>?y5) ?_
  case y5=>cases ho;simp[execOp,go_sem,Act.eval,k2.2.1]
  simp only[Act.put,zzA,zzB,zzC];refine hTr 6 (.tuple #[fv,.bool d]) 50 (fun o ho W k2=>?y6) ?_
  case y6=>cases ho;simp[execOp,go_sem,Act.eval,k2.2.2]
  simp only[Act.put,zzA,zzB,zzC];refine hTq 7 (.tuple #[fv,.bool d]) 43 ?_
  simp only[Act.put,zzA,zzB,zzC];refine hTq 8 fv 51 ?_
  simp only[Act.put,zzA,zzB,zzC];refine hTq 9 (.bool d) 52 ?_
  simp only[Act.put,zzA,zzB,zzC];refine hTq 10 fv 5 ?_
  simp only[Act.put,zzA,zzB,zzC];refine hTq 11 (.bool d) 6 ?_
  simp only[Act.put,zzA,zzB,zzC];refine wpAnyH_done (by kernel_rfl) ?_ _
  change Exit.then _ _ _ _ V.drew
  go_wp2_with fail;go_ret;exact⟨rfl,A.o.drew⟩
end
end Go.Proofs.YtlkhmmoimplokaaGreatDoor
