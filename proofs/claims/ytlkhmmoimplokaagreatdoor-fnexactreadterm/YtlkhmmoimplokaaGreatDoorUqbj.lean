/- Texts of RdQ, RdS. Own work of the verifier. -/
import Derived.Test.YtlkhmmoimplokaaGreatDoorUqbi
namespace Go.Proofs.YtlkhmmoimplokaaGreatDoor
set_option maxHeartbeats 4000000
set_option maxRecDepth 100000
open Go Go.RowKit Go.Maps
set_option linter.unusedVariables false
set_option linter.unusedSimpArgs false
section
variable {w1:World}{rb vb kb kc:Nat}{ov sv:Value}{T:List Cel}{L:Int}{all:List Tok}{k f:Nat}{s:RS}{w:World}
theorem RI.keep {k:Nat}{s:RS}{w g:World}(h:RI w1 rb vb kb kc ov sv all k s w)(j:RFr rb vb w g){q o:Nat}{u v:Value}(d:w.cell? ⟨q,0,none⟩=some u)(e:∀ o,u≠.map o)(l:∀ a b c,u≠.slice a b c)(i:w.cell? ⟨q,o,none⟩=some v):g.cell? ⟨q,o,none⟩=some v:=
 j.cell i d (h.ne d e).1 (h.ne d e).2 l
def Tok5 (w:World)(b:Nat)(ta tl tn:Int)(p:Option Addr)(l c:Nat):Prop:=w.cell? ⟨b,0,none⟩=some (.int .i64 1)/\w.cell? ⟨b,1,none⟩=some (.int .i64 ta)/\w.cell? ⟨b,2,none⟩=some (.int .i64 tl)/\w.cell? ⟨b,3,none⟩=some (.slice p l c)/\w.cell? ⟨b,4,none⟩=some (.int .i64 tn)
theorem Tok5.move {k:Nat}{s:RS}{w r:World}{b:Nat}{j tl q:Int}{p:Option Addr}{l c:Nat}(h:Tok5 w b j tl q p l c)(g:RI w1 rb vb kb kc ov sv all k s w)(i:RFr rb vb w r):Tok5 r b j tl q p l c:=by
 obtain⟨d,t,u,v,x⟩:=h
 have m:∀ o,Value.int .i64 1≠.map o:=fun o e=>by cases e
 have n:∀ a b c,Value.int .i64 1≠.slice a b c:=fun a b c e=>by cases e
 exact⟨g.keep i d m n d,g.keep i d m n t,g.keep i d m n u,g.keep i d m n v,g.keep i d m n x⟩
theorem Tok5.below {w w':World}{b:Nat}{d tl e:Int}{p:Option Addr}{l c:Nat}(h:Tok5 w b d tl e p l c)(g:Below w.heap.size w w'):Tok5 w' b d tl e p l c:=by
 have a:∀ p v,w.cell? p=some v->w'.cell? p=some v:=fun p v h=>(g.cell (World.block_lt_of_cell? _ _ h)).trans h
 exact⟨a _ _ h.1,a _ _ h.2.1,a _ _ h.2.2.1,a _ _ h.2.2.2.1,a _ _ h.2.2.2.2⟩
def Op3 (w:World)(b:Nat)(so:ByteArray)(po to:Int):Prop:=w.cell? ⟨b,0,none⟩=some (.string so)/\w.cell? ⟨b,1,none⟩=some (.int .i64 po)/\w.cell? ⟨b,2,none⟩=some (.int .i64 to)
theorem Op3.move {k:Nat}{s:RS}{w l:World}{b:Nat}{d:ByteArray}{j to:Int}(h:Op3 w b d j to)(g:RI w1 rb vb kb kc ov sv all k s w)(i:RFr rb vb w l):Op3 l b d j to:=by
 have m:∀ o,Value.string d≠.map o:=fun o e=>by cases e
 have n:∀ a b c,Value.string d≠.slice a b c:=fun a b c e=>by cases e
 exact⟨g.keep i h.1 m n h.1,g.keep i h.1 m n h.2.1,g.keep i h.1 m n h.2.2⟩
theorem Op3.below {w w':World}{b:Nat}{d:ByteArray}{c to:Int}(h:Op3 w b d c to)(e:Below w.heap.size w w'):Op3 w' b d c to:=by
 have a:∀ p v,w.cell? p=some v->w'.cell? p=some v:=fun p v h=>(e.cell (World.block_lt_of_cell? _ _ h)).trans h
 exact⟨a _ _ h.1,a _ _ h.2.1,a _ _ h.2.2⟩
theorem name_any (E:REnv w1 rb vb kb kc ov sv T L all)(H:RdOk w1 rb vb kb kc ov sv T L all f)(h:RI w1 rb vb kb kc ov sv all k s w)(h1:s.kd=1)(hf:s.ts.length<=f)(B:Int)(l1:0<=B)(l3:B<=1200):Calls Tryz.prog 67 #[ptrR rb,.int .i64 B] w (RStt w1 rb vb kb kc ov sv all w (namR (rdR T L f) T L B s)):=by
 have HT:=take_any E h;have x5:s.ts≠[]:=kd_ne h1 (by decide);have e6:=hd_byte E h;have g2:=hd_at E h;have hX:(s.hd L).2=s.tx:=hd_tx L s
 have b7:(s.hd L).1.1=1:=by rw[hd_kd];exact h1
 have c1:(s.hd L).1.2.1=s.pl 0/\(s.hd L).1.2.2.1=s.ln:=⟨by rw[hd_pl];exact pl_any s x5 L 0,hd_ln L s⟩
 have i1:s.tk.ts.length<f:=by have:=tk_len s;have:=ne_len x5;omega
 have HE:Hid (REnv w1 rb vb kb kc ov sv T L all):=E
 have h2:Hid (∀ W k,RI w1 rb vb kb kc ov sv all k s.tk W->Calls Tryz.prog 68 #[ptrR rb] W fun e G=>∃ p c,e = .returned (tokVR (s.tk.hd L) p c)/\(∀ F,Sty rb vb w1 F->BIn F p (s.tk.hd L).2)/\Below W.heap.size W G):=fun W k R=>next_any E R
 have e2:Hid (∀ W k,RI w1 rb vb kb kc ov sv all k s.tk W->Calls Tryz.prog 71 #[ptrR rb] W fun e G=>∃ p c k',e = .returned (tokVR (s.tk.hd L) p c)/\(∀ F,Sty rb vb w1 F->BIn F p (s.tk.hd L).2)/\RI w1 rb vb kb kc ov sv all k' s.tk.tk G/\RFr rb vb W G):=fun W k R=>take_any E R
 have a3:Hid (s.tk.kd=6->∀ W k,RI w1 rb vb kb kc ov sv all k s.tk W->Calls Tryz.prog 110 #[ptrR rb] W (SerOut w1 rb vb kb kc ov sv all W ((serR (rdR T L f) (s.tk.tk.ts.length+1) s.tk.tk).1,(serR (rdR T L f) (s.tk.tk.ts.length+1) s.tk.tk).2.must L [41]))):=fun h6 W k R=>arguments_any E H R h6 (by have:=tk_len s.tk;omega)
 have Q:Hid (∀ W p c p2 c2,BIn W p (s.hd L).2->Calls Tryz.prog 111 #[tokVR (s.hd L) p c,tokVR (s.tk.hd L) p2 c2] W fun e G=>e = .returned (.bool (decide ((s.hd L).1.1=1) && (decide ((s.hd L).2 = [45]) && (decide ((s.tk.hd L).1.1=3) && decide ((s.hd L).1.2.1+(s.hd L).1.2.2.1=(s.tk.hd L).1.2.1)))))/\Below W.heap.size W G):=fun W p c p2 c2 hb=>isNeg_any (s.hd L) (s.tk.hd L) p p2 c c2 W e6.1 hb g2
 have i6:Hid (∀ W k,RI w1 rb vb kb kc ov sv all k s.tk W->Calls Tryz.prog 112 #[ptrR rb] W fun e G=>e = .returned (.bool (s.tk.begins T))/\Below W.heap.size W G):=fun W k R=>canBegin_any E R
 have d5:Hid (∀ W k q,0<=q->q<=1200->RI w1 rb vb kb kc ov sv all k s.tk W->Calls Tryz.prog 69 #[ptrR rb,.int .i64 q] W (ROut w1 rb vb kb kc ov sv all W (rdR T L f q s.tk))):=fun W k q h0 h1 R=>H q s.tk k W h0 h1 i1 R
 obtain⟨ob,N,d8,b9⟩:=E.ops (fun e0=>x5 (by rw[h.ts.2,e0];simp))
 have b1:Hid (∀ W k,RI w1 rb vb kb kc ov sv all k s.tk W->W.cell? ⟨rb,0,none⟩=some (.map (some ob))/\(Instr.lookup 74 (.map (some ob)) (.agg #[.string (strOfNums s.tx),.int .i64 0]) true).run Tryz.prog W = .ok (.tuple #[opV (opR T s.tx true).1 (opR T s.tx true).2.1 (opR T s.tx true).2.2,.bool (decide (0<=findW T s.tx true))]) W):=fun W k R=>⟨by rw[R.c0,d8],(b9 W R.sty).lookD s.tx (by rw[<-hX];have:=e6.2;omega) true⟩
 have x6:Hid ((decide ((s.hd L).2 = [45]) && (decide ((s.tk.hd L).1.1=3) && decide ((s.hd L).1.2.1+(s.hd L).1.2.2.1=(s.tk.hd L).1.2.1)))=negB s.tx (s.pl 0+s.ln) s.tk):=by
  show _=_
  unfold negB
  rw[hX,c1.1,c1.2,hd_kd,hd_pl]
  by_cases h3:s.tk.kd=3
  ·rw[pl_any s.tk (kd_ne h3 (by decide)) L 0]
  ·simp[h3]
 have h9:Hid ((s.tk.hd L).1.1=s.tk.kd):=hd_kd L s.tk;have a6:Hid ((s.tk.hd L).1.2.2.2=s.tk.nv):=hd_nv L s.tk
 have g8:0<=(s.tk.hd L).1.2.2.2/\(s.tk.hd L).1.2.2.2<=1000000000000000:=by
  by_cases h0:s.tk.ts = []
  ·unfold RS.hd;rw[h0];simp[senT]
  ·have hm:s.tk.hd L ∈ s.ts:=by
    unfold RS.hd
    cases hs:s.tk.ts with
    | nil=>exact absurd hs h0
    | cons a b=>exact List.mem_of_mem_tail (show a ∈ s.ts.tail from by rw[show s.ts.tail=s.tk.ts from rfl,hs];simp)
   rw[h.ts.2] at hm;exact(E.tg _ (List.mem_of_mem_drop hm)).nv
 have x7:Hid (0<=findW T s.tx true->1<=(opW T (findW T s.tx true)).1/\(opW T (findW T s.tx true)).1<=1200):=fun h0=>by
  obtain⟨A,j,to,j9,g9⟩:=(b9 w h.sty).look s.tx (by rw[<-hX];have:=e6.2;omega) true;exact(E.tab _ (g9 h0).2.1).1
 have j5:Hid (Byte s.tx):=by show Byte s.tx;rw[<-hX];exact e6.1
 have b8:namR (rdR T L f) T L B s=if s.tk.kd=6 then((cmpT s.tx (serR (rdR T L f) (s.tk.tk.ts.length+1) s.tk.tk).1,0),(serR (rdR T L f) (s.tk.tk.ts.length+1) s.tk.tk).2.must L [41]) else if negB s.tx (s.pl 0+s.ln) s.tk=true then((numT (-s.tk.nv),0),s.tk.tk) else if 0<=findW T s.tx true/\(opW T (findW T s.tx true)).1<=B/\s.tk.begins T=true then((cmpT s.tx [(rdR T L f (rightP (opW T (findW T s.tx true))) s.tk).1],(opW T (findW T s.tx true)).1),(rdR T L f (rightP (opW T (findW T s.tx true))) s.tk).2) else((atmT s.tx,0),s.tk):=rfl
 obtain⟨Z,eZ⟩:∃ Z,Z=namR (rdR T L f) T L B s:=⟨_,rfl⟩
 rw[<-eZ] at b8 ⊢;have HZ:Hid _:=b8;rw[<-h9.o,<-x6.o,<-a6.o] at HZ
 obtain⟨⟨⟨tk,V,tl,tn⟩,tx⟩,et⟩:∃ t,s.hd L=t:=⟨_,rfl⟩
 obtain⟨⟨⟨uk,ua,ul,un⟩,ux⟩,eu⟩:∃ t,s.tk.hd L=t:=⟨_,rfl⟩
 rw[et] at HT hX b7 Q HZ;rw[eu] at h2 e2 Q HZ g8 h9;simp only[tokVR] at HT hX b7 Q HZ h2 e2 g8 h9;subst b7
 obtain⟨l,el⟩:∃ l,l=tx.length:=⟨_,rfl⟩
 obtain⟨l2,d6⟩:∃ l,l=ux.length:=⟨_,rfl⟩
 rw[<-el] at HT Q;rw[<-d6] at h2 e2 Q;have HL:Hid (l=tx.length):=el;have i9:Hid (tx=s.tx):=hX
 obtain⟨str,es⟩:∃ str,str=strOfNums s.tx:=⟨_,rfl⟩
 have e8:Hid (str=strOfNums s.tx):=es;rw[<-es] at b1;have i8:Hid (uk=s.tk.kd):=h9.o;have HI:Hid (RI w1 rb vb kb kc ov sv all k s w):=h;clear H h E et eu el d6 hX es h9 x6 a6 b8 eZ e6 g2 c1 i1 x5 b9 d8 hf h1
 go_enter Tryz.func67,Tryz.ntmps67
 go_wp2_with fail;refine HT.mono ?_;rintro e W ⟨p,c,k1,rfl,e5,R,hf⟩;have i5:Hid (∀ F,Sty rb vb w1 F->BIn F p tx):=e5;have k7:=R.alloc (.cells #[.int .i64 1,.int .i64 V,.int .i64 tl,.slice p l c,.int .i64 tn] 86);have g5:=conv_str (e5 _ k7.sty) l c HL.o 9 Tryz.underlying9;rw[i9.o,<-e8.o] at g5;have X:=h2.o _ k1 k7;have d3:Hid _:=k7
 have g1:Tok5 (W.alloc (.cells #[.int .i64 1,.int .i64 V,.int .i64 tl,.slice p l c,.int .i64 tn] 86)) W.heap.size V tl tn p l c:=by
  have hn:=heap_alloc_new W (.cells #[.int .i64 1,.int .i64 V,.int .i64 tl,.slice p l c,.int .i64 tn] 86)
  refine⟨?_,?_,?_,?_,?_⟩ <;> unfold World.cell? <;> rw[hn] <;> rfl
 have d4:Hid (Tok5 (W.alloc (.cells #[.int .i64 1,.int .i64 V,.int .i64 tl,.slice p l c,.int .i64 tn] 86)) W.heap.size V tl tn p l c):=g1;have HF:Hid (RFr rb vb w (W.alloc (.cells #[.int .i64 1,.int .i64 V,.int .i64 tl,.slice p l c,.int .i64 tn] 86))):=hf.trans (RFr.of rb vb (new_low W _));clear HT e5 R hf k7 g1;go_wp2_with fail;refine X.mono ?_;rintro e W2 ⟨p2,c2,rfl,_,x1⟩;have e7:Hid (RI w1 rb vb kb kc ov sv all k1 s.tk W2):=d3.o.below x1;have w5:Hid (RFr rb vb w W2):=HF.o.trans (RFr.of rb vb x1);have e1:Hid (Tok5 W2 W.heap.size V tl tn p l c):=d4.o.below x1;have j6:=fieldT0;have j7:=fieldT4;clear X x1 d3 d4 HF g5
 by_cases h6:uk=6
 ·have X:=a3.o (by rw[<-i8.o];exact h6) W2 k1 e7.o
  have m:Hid (Z=((cmpT s.tx (serR (rdR T L f) (s.tk.tk.ts.length+1) s.tk.tk).1,0),(serR (rdR T L f) (s.tk.tk.ts.length+1) s.tk.tk).2.must L [41])):=by show _=_;rw[HZ.o,if_pos h6]
  subst h6;clear HZ
  generalize serR (rdR T L f) (s.tk.tk.ts.length+1) s.tk.tk=q at *
  go_wp2_with fail;refine X.mono ?_;rintro e W3 ⟨g,n,cc,vs,rfl,P,⟨k3,f3⟩,c9⟩;have j3:w.heap.size<=W2.heap.size:=w5.o.size;have U:=comp_rowR P c9.size s.tx;rw[<-e8.o] at U;have K:=new_low W3 (.cells #[.string str,.slice (some ⟨g,0,none⟩) n cc] 162)
  have I:Hid (RStt w1 rb vb kb kc ov sv all w Z (.returned (.tuple #[.iface 159 (ptrR W3.heap.size),.int .i64 0])) (W3.alloc (.cells #[.string str,.slice (some ⟨g,0,none⟩) n cc] 162))):=by
   rw[m.o];exact⟨_,rfl,U.mono j3,⟨k3,f3.below K⟩,(w5.o.trans c9).trans (RFr.of rb vb K)⟩
  clear X P f3 c9 U K;go_wp2_with fail
  go_ret2
  exact I.o
 ·have j8:(uk == 6)=false:=by simpa using h6
  have e3:Hid _:=HZ.o.trans (if_neg h6);have Y:Hid _:=Q.o;simp only[decide_true,Bool.true_and] at Y
  obtain⟨ng,d7⟩:∃ ng,ng=(decide (tx = [45]) && (decide (uk=3) && decide (V+tl=ua))):=⟨_,rfl⟩
  rw[<-d7] at Y e3;clear d7 HZ Q a3;go_wp2_with fail;refine wp_region_held_drew (S:=fun D=>Tok5 D W.heap.size V tl tn p l c) (by kernel_rfl) ?_ (fun b6=>?_)
  ·exact e1.o.below ((Below.refl _ _).drew)
  have c7:Tok5 W2.drew W.heap.size V tl tn p l c:=e1.o.below ((Below.refl _ _).drew);refine hTr 0 (.agg #[.int .i64 1,.int .i64 V,.int .i64 tl,.slice p l c,.int .i64 tn]) 25 (fun o O W x=>?y0) ?_
  case y0=>cases O;simp[execOp,go_sem,Act.eval,x.1,x.2.1,x.2.2.1,x.2.2.2.1,x.2.2.2.2]
  simp only[Act.put,zzA,zzB,zzC];refine hTq 1 (ptrR rb) 26 ?_
  simp only[Act.put,zzA,zzB,zzC];refine hCallE (i:=2) (f:=68) (args:=#[ptrR rb]) (some 27) (by kernel_rfl) (by kernel_rfl) (by kernel_rfl) (fun o O=>?c2) (h2.o W2.drew k1 (e7.o.below ((Below.refl _ _).drew))) ?k2 (fun ch G z=>by obtain⟨_,_,h,_⟩:=z;cases h) (fun G z=>by obtain⟨_,_,h,_⟩:=z;cases h)
  case c2=>cases O;simp[execOp,go_sem,Act.eval]
  case k2=>
   rintro u w3 ⟨p3,c3,hu,_,g3⟩;obtain rfl:=Ending.returned.inj hu;have e9:Below W2.heap.size W2 w3:=((Below.refl _ _).drew).trans g3;have f6:Tok5 w3 W.heap.size V tl tn p l c:=e1.o.below e9;refine⟨f6,?_⟩;simp only[Act.put,zzA,zzB,zzC];refine hCallE (i:=3) (f:=111) (args:=#[.agg #[.int .i64 1,.int .i64 V,.int .i64 tl,.slice p l c,.int .i64 tn],.agg #[.int .i64 uk,.int .i64 ua,.int .i64 ul,.slice p3 l2 c3,.int .i64 un]]) (some 28) (by kernel_rfl) (by kernel_rfl) (by kernel_rfl) (fun o O=>?c3) (Y.o w3 p c p3 c3 (i5.o w3 (e7.o.sty.below e9))) ?k3 (fun ch G z=>by cases z.1) (fun G z=>by cases z.1)
   case c3=>cases O;simp[execOp,go_sem,Act.eval]
   case k3=>
    rintro u y ⟨hu,g4⟩;obtain rfl:=Ending.returned.inj hu;have k4:Below W2.heap.size W2 y:=Below.on e9 g4;have f7:Tok5 y W.heap.size V tl tn p l c:=e1.o.below k4;refine⟨f7,?_⟩;simp only[Act.put,zzA,zzB,zzC];refine wpAnyH_done (by kernel_rfl) ?_ _
    change Exit.then _ _ _ _ y
    have b2:Hid (RI w1 rb vb kb kc ov sv all k1 s.tk y):=e7.o.below k4;have a5:Hid (RFr rb vb w y):=w5.o.trans (RFr.of rb vb k4);clear g3 e9 f6 hu g4 k4 f7 c7 e1 h2 Y
    cases ng with
    | true=>
      have m:Hid (Z=((numT (-un),0),s.tk.tk)):=by show _=_;rw[e3.o,if_pos rfl]
      have X:=e2.o y k1 b2.o;clear e3;go_wp2_with fail;refine X.mono ?_;rintro e W5 ⟨p5,c5,k5,rfl,_,f4,g6⟩
      have I:Hid (RStt w1 rb vb kb kc ov sv all w Z (.returned (.tuple #[.iface 149 (.int .i64 (-un)),.int .i64 0])) W5):=by
       rw[m.o];exact⟨_,rfl,foR_num _ _ _,⟨k5,f4⟩,a5.o.trans g6⟩
      have l5:IntKind.i64.wrap (-un) = -un:=by rw[IntKind.wrap_i64];omega
      clear X f4 g6;go_wp2_with fail
      go_ret2
      exact I.o
    | false=>
      have J:Hid _:=e3.o.trans (if_neg (by decide));clear e3;obtain⟨o0,j4⟩:=b1.o y k1 b2.o
      obtain⟨A,f1⟩:∃ A,A=(opR T s.tx true).1:=⟨_,rfl⟩
      obtain⟨j,b4⟩:∃ j,j=(opR T s.tx true).2.1:=⟨_,rfl⟩
      obtain⟨to,b5⟩:∃ to,to=(opR T s.tx true).2.2:=⟨_,rfl⟩
      obtain⟨d,ed⟩:∃ d,d=decide (0<=findW T s.tx true):=⟨_,rfl⟩
      rw[<-f1,<-b4,<-b5,<-ed] at j4
      have a8:Hid (0<=findW T s.tx true->j=(opW T (findW T s.tx true)).1/\to=(opW T (findW T s.tx true)).2.1):=fun h0=>by rw[b4,b5];unfold opR;rw[if_pos h0];exact⟨rfl,rfl⟩
      have HD:Hid (d=decide (0<=findW T s.tx true)):=ed
      have f2:Op3 (y.alloc (.cells #[.string A,.int .i64 j,.int .i64 to] 126)) y.heap.size A j to:=by
       have hn:=heap_alloc_new y (.cells #[.string A,.int .i64 j,.int .i64 to] 126)
       refine⟨?_,?_,?_⟩ <;> unfold World.cell? <;> rw[hn] <;> rfl
      have e4:=new_low y (.cells #[.string A,.int .i64 j,.int .i64 to] 126);have a7:Hid (Op3 (y.alloc (.cells #[.string A,.int .i64 j,.int .i64 to] 126)) y.heap.size A j to):=f2;have h5:Hid (RI w1 rb vb kb kc ov sv all k1 s.tk (y.alloc (.cells #[.string A,.int .i64 j,.int .i64 to] 126))):=b2.o.below e4;have h8:Hid (RFr rb vb w (y.alloc (.cells #[.string A,.int .i64 j,.int .i64 to] 126))):=a5.o.trans (RFr.of rb vb e4)
      have w2:Hid (∀ D,RI w1 rb vb kb kc ov sv all k1 s.tk D->RFr rb vb w D->Z=((atmT s.tx,0),s.tk)->RStt w1 rb vb kb kc ov sv all w Z (.returned (.tuple #[.iface 154 (.string str),.int .i64 0])) D):=fun D c4 j1 hz=>by
       rw[hz];refine⟨_,rfl,?_,⟨k1,c4⟩,j1⟩;rw[e8.o];exact foR_atom _ _ _
      clear f1 b4 b5 ed f2 e4 e2 b1
      cases d with
      | false=>
        have m:Hid (Z=((atmT s.tx,0),s.tk)):=by show _=_;rw[J.o,if_neg];intro z;have:=HD.o;simp[z.1] at this
        clear J;go_wp2_with fail
        go_ret2
        exact w2.o _ h5.o h8.o m.o
      | true=>
        have x3:0<=findW T s.tx true:=by simpa using HD.o.symm
        have h4:Hid (j=(opW T (findW T s.tx true)).1/\to=(opW T (findW T s.tx true)).2.1):=a8.o x3
        have l4:1<=j/\j<=1200:=by rw[h4.o.1];exact x7.o x3
        have i7:Hid (0<=findW T s.tx true):=x3;clear x3 a8 x7 HD
        by_cases x4:j<=B
        ·have g7:decide (j<=B)=true:=by simpa using x4
         have X:=i6.o _ k1 h5.o
         obtain⟨bg,b3⟩:∃ bg,bg=s.tk.begins T:=⟨_,rfl⟩
         rw[<-b3] at X;have a4:Hid (bg=s.tk.begins T):=b3;clear b3
         cases bg with
         | false=>
           have m:Hid (Z=((atmT s.tx,0),s.tk)):=by show _=_;rw[J.o,if_neg];intro z;rw[<-a4.o] at z;cases z.2.2
           clear J;go_wp2_with fail;refine X.mono ?_;rintro e W6 ⟨rfl,M⟩;have I:Hid _:=w2.o W6 (h5.o.below M) (h8.o.trans (RFr.of rb vb M)) m.o;clear X M;go_wp2_with fail
           go_ret2
           exact I.o
         | true=>
           have m:Hid (Z=((cmpT s.tx [(rdR T L f (rightP (opW T (findW T s.tx true))) s.tk).1],(opW T (findW T s.tx true)).1),(rdR T L f (rightP (opW T (findW T s.tx true))) s.tk).2)):=by show _=_;rw[J.o,if_pos ⟨i7.o,by rw[<-h4.o.1];exact x4,a4.o.symm⟩]
           have d1:Hid (rightI j to=rightP (opW T (findW T s.tx true))):=by show _=_;rw[h4.o.1,h4.o.2];rfl
           rw[<-d1.o,<-h4.o.1] at m
           have a1:0<=rightI j to/\rightI j to<=1200:=by unfold rightI;split <;> omega
           have d2:Hid (∀ D,Calls Tryz.prog 113 #[opV A j to] D fun e G=>e = .returned (.int .i64 (rightI j to))/\Below D.heap.size D G):=fun D=>opRight_any A j to ⟨by omega,by omega⟩ D
           obtain⟨rp,d9⟩:∃ rp,rp=rightI j to:=⟨_,rfl⟩
           rw[<-d9] at d2 m a1
           have x9:Hid (∀ D,RI w1 rb vb kb kc ov sv all k1 s.tk D->Calls Tryz.prog 69 #[ptrR rb,.int .i64 rp] D (ROut w1 rb vb kb kc ov sv all D (rdR T L f rp s.tk))):=fun D c4=>d5.o D k1 rp a1.1 a1.2 c4
           generalize rdR T L f rp s.tk=r at x9 m
           clear J d1 d9 d5;go_wp2_with fail;refine X.mono ?_;rintro e W6 ⟨rfl,M⟩;have a9:Hid (RI w1 rb vb kb kc ov sv all k1 s.tk W6):=h5.o.below M;have w6:Hid (RFr rb vb w W6):=h8.o.trans (RFr.of rb vb M);have w9:Hid (Op3 W6 y.heap.size A j to):=a7.o.below M;clear X M h5 h8 a7;go_wp2_with fail;refine wp_region_held_drew (S:=fun D=>Op3 D y.heap.size A j to) (by kernel_rfl) ?_ (fun b6=>?_)
           ·exact w9.o.below ((Below.refl _ _).drew)
           have c7:Op3 W6.drew y.heap.size A j to:=w9.o.below ((Below.refl _ _).drew);refine hTq 0 (.string str) 55 ?_
           simp only[Act.put,zzA,zzB,zzC];refine hTq 1 (ptrR rb) 56 ?_
           simp only[Act.put,zzA,zzB,zzC];refine hTr 2 (opV A j to) 57 (fun o O W x=>?y2) ?_
           case y2=>cases O;simp[execOp,go_sem,Act.eval,x.1,x.2.1,x.2.2]
           simp only[Act.put,zzA,zzB,zzC];refine hTq 9 (.pointer (some ⟨y.heap.size,1,none⟩)) 64 ?_
           simp only[Act.put,zzA,zzB,zzC];refine hTr 10 (.int .i64 j) 65 (fun o O W x=>?y4) ?_
           case y4=>cases O;simp[execOp,go_sem,Act.eval,x.2.1]
           simp only[Act.put,zzA,zzB,zzC];refine hCallE (i:=3) (f:=113) (args:=#[opV A j to]) (some 58) (by kernel_rfl) (by kernel_rfl) (by kernel_rfl) (fun o O=>?c5) (d2.o W6.drew) ?k5 (fun ch G z=>by cases z.1) (fun G z=>by cases z.1)
           case c5=>cases O;simp[execOp,go_sem,Act.eval]
           case k5=>
            rintro u w7 ⟨i2,j2⟩;obtain rfl:=Ending.returned.inj i2;have h7:Below W6.heap.size W6 w7:=((Below.refl _ _).drew).trans j2;have c8:Op3 w7 y.heap.size A j to:=w9.o.below h7;refine⟨c8,?_⟩;simp only[Act.put,zzA,zzB,zzC];refine hCallE (i:=4) (f:=69) (args:=#[ptrR rb,.int .i64 rp]) (some 59) (by kernel_rfl) (by kernel_rfl) (by kernel_rfl) (fun o O=>?c6) (x9.o w7 (a9.o.below h7)) ?k6 (fun ch G z=>by obtain⟨_,h,_⟩:=z;cases h) (fun G z=>by obtain⟨_,h,_⟩:=z;cases h)
            case c6=>cases O;simp[execOp,go_sem,Act.eval]
            case k6=>
             rintro u C ⟨v8,i3,a2,⟨k8,f5⟩,x2⟩;obtain rfl:=Ending.returned.inj i3;obtain⟨t8,x8,rfl⟩:=foC_iface a2;have k9:Op3 C y.heap.size A j to:=c8.move (a9.o.below h7) x2;have i4:w.heap.size<=C.heap.size:=Nat.le_trans (Nat.le_trans w6.o.size h7.size) x2.size;have P:=row_one i4 (a2.mono (Nat.le_trans w6.o.size h7.size));have U:=comp_rowR P (by simp;omega) s.tx;rw[<-e8.o] at U;have K:=Below.on (new_low C (.cells #[.iface t8 x8] 65)) (new_low _ (.cells #[.string str,.slice (some ⟨C.heap.size,0,none⟩) 1 1] 162))
             have I:Hid (RStt w1 rb vb kb kc ov sv all w Z (.returned (.tuple #[.iface 159 (ptrR (C.alloc (.cells #[.iface t8 x8] 65)).heap.size),.int .i64 j])) ((C.alloc (.cells #[.iface t8 x8] 65)).alloc (.cells #[.string str,.slice (some ⟨C.heap.size,0,none⟩) 1 1] 162))):=by
              rw[m.o];exact⟨_,rfl,U,⟨k8,f5.below K⟩,((w6.o.trans (RFr.of rb vb h7)).trans x2).trans (RFr.of rb vb K)⟩
             rw[World.size_alloc] at I;have f8:Op3 (C.alloc (.cells #[.iface t8 x8] 65)) y.heap.size A j to:=k9.below (new_low C _);have f9:Op3 ((C.alloc (.cells #[.iface t8 x8] 65)).alloc (.cells #[.string str,.slice (some ⟨C.heap.size,0,none⟩) 1 1] 162)) y.heap.size A j to:=k9.below K;clear a2 f5 x2 P U K;refine⟨k9,?_⟩;simp only[Act.put,zzA,zzB,zzC];refine hStep (i:=5) (v:=.slice (some ⟨C.heap.size,0,none⟩) 1 1) (w':=C.alloc (.cells #[.iface t8 x8] 65)) (some 60) (by kernel_rfl) (by kernel_rfl) (by kernel_rfl) (fun o O=>?y7) f8 ?_
             case y7=>cases O;simp[execOp,go_sem,Act.eval]
             simp only[Act.put,zzA,zzB,zzC];refine hTq 6 (.agg #[.string str,.slice (some ⟨C.heap.size,0,none⟩) 1 1]) 61 ?_
             simp only[Act.put,zzA,zzB,zzC];refine hStep (i:=7) (v:=.pointer (some ⟨C.heap.size+1,0,none⟩)) (w':=(C.alloc (.cells #[.iface t8 x8] 65)).alloc (.cells #[.string str,.slice (some ⟨C.heap.size,0,none⟩) 1 1] 162)) (some 62) (by kernel_rfl) (by kernel_rfl) (by kernel_rfl) (fun o O=>?y9) f9 ?_
             case y9=>cases O;simp[execOp,go_sem,Act.eval]
             simp only[Act.put,zzA,zzB,zzC];refine hTq 8 (.iface 159 (ptrR (C.heap.size+1))) 63 ?_
             simp only[Act.put,zzA,zzB,zzC];refine hTq 11 (.iface 159 (ptrR (C.heap.size+1))) 4 ?_
             simp only[Act.put,zzA,zzB,zzC];refine hTq 12 (.int .i64 j) 5 ?_
             simp only[Act.put,zzA,zzB,zzC];refine wpAnyH_done (by kernel_rfl) ?_ _
             change Exit.then _ _ _ _ ((C.alloc (.cells #[.iface t8 x8] 65)).alloc (.cells #[.string str,.slice (some ⟨C.heap.size,0,none⟩) 1 1] 162))
             clear c7 c8 k9 f8 f9 i2 i3;go_wp2_with fail
             go_ret2
             exact I.o
        ·have g7:decide (j<=B)=false:=by simpa using x4
         have m:Hid (Z=((atmT s.tx,0),s.tk)):=by show _=_;rw[J.o,if_neg];intro z;exact x4 (by rw[h4.o.1];exact z.2.1)
         clear J;go_wp2_with fail
         go_ret2
         exact w2.o _ h5.o h8.o m.o
end
section
variable {w1:World}{rb vb kb kc:Nat}{ov sv:Value}{T:List Cel}{L:Int}{all:List Tok}{k f:Nat}{s:RS}{w:World}
theorem RStt.from {W:World}{x:(Tr×Int)×RS}{e:Ending}{w':World}(h:RStt w1 rb vb kb kc ov sv all W x e w')(a:RFr rb vb w W):RStt w1 rb vb kb kc ov sv all w x e w':=by
 obtain⟨v,e,b,c,d⟩:=h;exact⟨v,e,b.mono a.size,c,a.trans d⟩
theorem startK {K:Int}{F:Nat}(hF:stF K=F)(l:1<=K/\K<=6)(E:REnv w1 rb vb kb kc ov sv T L all)(h:RI w1 rb vb kb kc ov sv all k s w)(z:Int)(x:(Tr×Int)×RS)(U:s.kd=K)
  (n:∀ W k,RI w1 rb vb kb kc ov sv all k s W->Calls Tryz.prog F #[ptrR rb,.int .i64 z] W (RStt w1 rb vb kb kc ov sv all W x)):Calls Tryz.prog 114 #[ptrR rb,.int .i64 z] w (RStt w1 rb vb kb kc ov sv all w x):=by
 have H:Hid _:=next_any E (h.below ((Below.refl _ w).drew));have HI:Hid (RI w1 rb vb kb kc ov sv all k s w):=h;have Q:=fieldT0;have J:(s.hd L).1.1=K:=(hd_kd L s).trans U;have y:=kd_ne U (by omega)
 obtain⟨⟨⟨B,ta,tl,tn⟩,tx⟩,X⟩:∃ t,s.hd L=t:=⟨_,rfl⟩
 rw[X] at H J;simp only[tokVR] at H J;subst J
 have j:Hid (∀ b,Below w.heap.size w b->b.cell? ⟨rb,2,none⟩=some sv/\(Instr.lookup 75 sv (.int .i64 B) true).run Tryz.prog b = .ok (.tuple #[.func (.func F) #[ptrR rb] #[],.bool true]) b):=fun b O=>by
  have q:=h.below O;refine⟨q.c2,?_⟩;have:=E.st b q.sty B (by omega) (by omega) (fun e0=>absurd (by rw[h.ts.2,e0];simp) y);rw[if_pos l,hF,decide_eq_true l] at this;exact this
 have D:Hid (F=67∨F=63∨F=62∨F=64∨F=65∨F=66):=by
  show _∨_
  rw[<-hF]
  unfold stF
  (repeat' split) <;> simp
 have C:Hid _:=n;clear h E X y U n hF l
 go_enter Tryz.func114,Tryz.ntmps114
 go_wp2_with fail;refine wp_region_held_drew (S:=fun b=>b.cell? ⟨rb,2,none⟩=some sv/\(Instr.lookup 75 sv (.int .i64 B) true).run Tryz.prog b = .ok (.tuple #[(.func (.func F) #[ptrR rb] #[]),.bool true]) b) (by kernel_rfl) ?_ (fun I=>?_)
 ·exact j.o _ ((Below.refl _ _).drew)
 have N:=j.o _ ((Below.refl _ w).drew);refine hTq 0 (ptrR rb) 9 ?_
 simp only[Act.put,zzA,zzB,zzC];refine hTq 1 (ptrR rb) 10 ?_
 simp only[Act.put,zzA,zzB,zzC];refine hTq 2 (.pointer (some ⟨rb,2,none⟩)) 11 ?_
 simp only[Act.put,zzA,zzB,zzC];refine hTr 3 sv 12 (fun o m W d=>?y3) ?_
 case y3=>cases m;simp[execOp,go_sem,Act.eval,d.1]
 simp only[Act.put,zzA,zzB,zzC];refine hTq 4 (ptrR rb) 13 ?_
 simp only[Act.put,zzA,zzB,zzC];refine hCallE (i:=5) (f:=68) (args:=#[ptrR rb]) (some 14) (by kernel_rfl) (by kernel_rfl) (by kernel_rfl) (fun o m=>?c5) H.o ?k5 (fun ch w' R=>by obtain⟨_,_,h,_⟩:=R;cases h) (fun w' R=>by obtain⟨_,_,h,_⟩:=R;cases h)
 case c5=>cases m;simp[execOp,go_sem,Act.eval]
 case k5=>
  rintro u W ⟨p,c,Z,_,Y⟩;obtain rfl:=Ending.returned.inj Z;have A:Below w.heap.size w W:=((Below.refl _ _).drew).trans Y;have r:=j.o W A;refine⟨r,?_⟩;simp only[Act.put,zzA,zzB,zzC];refine hTr 6 (.int .i64 B) 15 (fun o m W d=>?y6) ?_
  case y6=>cases m;simp[execOp,go_sem,Act.eval,Q]
  simp only[Act.put,zzA,zzB,zzC];refine hTr 7 (.tuple #[(.func (.func F) #[ptrR rb] #[]),.bool true]) 16 (fun o m W d=>?y7) ?_
  case y7=>cases m;simp[execOp,go_sem,Act.eval,d.2]
  simp only[Act.put,zzA,zzB,zzC];refine hTq 8 (.tuple #[(.func (.func F) #[ptrR rb] #[]),.bool true]) 8 ?_
  simp only[Act.put,zzA,zzB,zzC];refine hTq 9 ((.func (.func F) #[ptrR rb] #[])) 17 ?_
  simp only[Act.put,zzA,zzB,zzC];refine hTq 10 (.bool true) 18 ?_
  simp only[Act.put,zzA,zzB,zzC];refine hTq 11 ((.func (.func F) #[ptrR rb] #[])) 6 ?_
  simp only[Act.put,zzA,zzB,zzC];refine hTq 12 (.bool true) 7 ?_
  simp only[Act.put,zzA,zzB,zzC];refine wpAnyH_done (by kernel_rfl) ?_ _
  change Exit.then _ _ _ _ W
  have V:=C.o W k (HI.o.below A);have HB:Hid (Below w.heap.size w W):=A;clear N r A Y Z
  rcases D.o with rfl | rfl | rfl | rfl | rfl | rfl
  all_goals
   go_wp2_with fail;refine V.mono ?_;rintro e W2 g
   have a:=g.from (RFr.of rb vb HB.o)
   obtain⟨v,rfl,hv,M,P⟩:=g;have G:Hid _:=a;clear V hv M P a;go_wp2_with fail
   go_ret2
   exact G.o
theorem startStop (E:REnv w1 rb vb kb kc ov sv T L all)(h:RI w1 rb vb kb kc ov sv all k s w)(G:Int)(U:s.kd=0∨s.kd=7):Calls Tryz.prog 114 #[ptrR rb,.int .i64 G] w (RStt w1 rb vb kb kc ov sv all w ((nilT,0),s.stop L)):=by
 have y:Hid _:=next_any E (h.below ((Below.refl _ w).drew));have O:Hid (RI w1 rb vb kb kc ov sv all k s w):=h;have N:Hid (REnv w1 rb vb kb kc ov sv T L all):=E;have C:=fieldT0;have v:(s.hd L).1.1=s.kd:=hd_kd L s
 have F:all = []->s.kd=0:=fun Q=>by unfold RS.kd;rw[h.ts.2,Q];simp
 obtain⟨⟨⟨j,Y,tl,Z⟩,tx⟩,I⟩:∃ t,s.hd L=t:=⟨_,rfl⟩
 rw[I] at y v;simp only[tokVR] at y v;rw[<-v] at U F
 have d:Hid (∀ a,Below w.heap.size w a->a.cell? ⟨rb,2,none⟩=some sv/\(Instr.lookup 75 sv (.int .i64 j) true).run Tryz.prog a = .ok (.tuple #[.nilFunc,.bool false]) a):=fun a B=>by
  have l:=h.below B;refine⟨l.c2,?_⟩;have:=E.st a l.sty j (by omega) (by omega) F
  have R:¬ (1<=j/\j<=6):=by omega
  simpa [R] using this
 clear h E I v F
 go_enter Tryz.func114,Tryz.ntmps114
 go_wp2_with fail;refine wp_region_held_drew (S:=fun a=>a.cell? ⟨rb,2,none⟩=some sv/\(Instr.lookup 75 sv (.int .i64 j) true).run Tryz.prog a = .ok (.tuple #[.nilFunc,.bool false]) a) (by kernel_rfl) ?_ (fun z=>?_)
 ·exact d.o _ ((Below.refl _ _).drew)
 have A:=d.o _ ((Below.refl _ w).drew);refine hTq 0 (ptrR rb) 9 ?_
 simp only[Act.put,zzA,zzB,zzC];refine hTq 1 (ptrR rb) 10 ?_
 simp only[Act.put,zzA,zzB,zzC];refine hTq 2 (.pointer (some ⟨rb,2,none⟩)) 11 ?_
 simp only[Act.put,zzA,zzB,zzC];refine hTr 3 sv 12 (fun o g W b=>?y3) ?_
 case y3=>cases g;simp[execOp,go_sem,Act.eval,b.1]
 simp only[Act.put,zzA,zzB,zzC];refine hTq 4 (ptrR rb) 13 ?_
 simp only[Act.put,zzA,zzB,zzC];refine hCallE (i:=5) (f:=68) (args:=#[ptrR rb]) (some 14) (by kernel_rfl) (by kernel_rfl) (by kernel_rfl) (fun o g=>?c5) y.o ?k5 (fun X V D=>by obtain⟨_,_,h,_⟩:=D;cases h) (fun V D=>by obtain⟨_,_,h,_⟩:=D;cases h)
 case c5=>cases g;simp[execOp,go_sem,Act.eval]
 case k5=>
  rintro u W ⟨p,c,K,_,J⟩;obtain rfl:=Ending.returned.inj K;have r:Below w.heap.size w W:=((Below.refl _ _).drew).trans J;have n:=d.o W r;refine⟨n,?_⟩;simp only[Act.put,zzA,zzB,zzC];refine hTr 6 (.int .i64 j) 15 (fun o g W b=>?y6) ?_
  case y6=>cases g;simp[execOp,go_sem,Act.eval,C]
  simp only[Act.put,zzA,zzB,zzC];refine hTr 7 (.tuple #[.nilFunc,.bool false]) 16 (fun o g W b=>?y7) ?_
  case y7=>cases g;simp[execOp,go_sem,Act.eval,b.2]
  simp only[Act.put,zzA,zzB,zzC];refine hTq 8 (.tuple #[.nilFunc,.bool false]) 8 ?_
  simp only[Act.put,zzA,zzB,zzC];refine hTq 9 (.nilFunc) 17 ?_
  simp only[Act.put,zzA,zzB,zzC];refine hTq 10 (.bool false) 18 ?_
  simp only[Act.put,zzA,zzB,zzC];refine hTq 11 (.nilFunc) 6 ?_
  simp only[Act.put,zzA,zzB,zzC];refine hTq 12 (.bool false) 7 ?_
  simp only[Act.put,zzA,zzB,zzC];refine wpAnyH_done (by kernel_rfl) ?_ _
  change Exit.then _ _ _ _ W
  have H:=stop_any N.o (O.o.below r);have M:Hid (Below w.heap.size w W):=r;clear A n r J K;go_wp2_with fail;refine H.mono ?_;rintro e P ⟨rfl,m,q⟩
  have x:Hid (RStt w1 rb vb kb kc ov sv all w ((nilT,0),s.stop L) (.returned (.tuple #[.iface 154 (.string ⟨#[91,93]⟩),.int .i64 0])) P):=⟨_,rfl,foR_nil _ _,⟨_,m⟩,(RFr.of rb vb M.o).trans q⟩
  clear H m q;go_wp2_with fail
  go_ret2
  exact x.o
theorem start_any (E:REnv w1 rb vb kb kc ov sv T L all)(H:RdOk w1 rb vb kb kc ov sv T L all f)(h:RI w1 rb vb kb kc ov sv all k s w)(p:s.ts.length<=f)(a:Int)(g:0<=a)(i:a<=1200):Calls Tryz.prog 114 #[ptrR rb,.int .i64 a] w (RStt w1 rb vb kb kc ov sv all w (sttR (rdR T L f) T L a s)):=by
 have c:s.ts≠[]->s.tk.ts.length<f:=fun d=>by have:=tk_len s;have:=ne_len d;omega
 unfold sttR
 split
 ·rename_i o;exact startK (K:=3) rfl (by decide) E h a _ o fun W k b=>numberR_any E b a
 split
 ·rename_i l;exact startK (K:=2) rfl (by decide) E h a _ l fun W k b=>variable_any E b l a
 split
 ·rename_i m;exact startK (K:=4) rfl (by decide) E h a _ m fun W k b=>codes_any E b m a
 split
 ·rename_i n;exact startK (K:=6) rfl (by decide) E h a _ n fun W k b=>parens_any E H b (c (kd_ne n (by decide))) a
 split
 ·rename_i e;exact startK (K:=5) rfl (by decide) E h a _ e fun W k b=>bracket_any E H b e (c (kd_ne e (by decide))) a
 split
 ·rename_i j;exact startK (K:=1) rfl (by decide) E h a _ j fun W k b=>name_any E H b j p a g i
 ·refine startStop E h a ?_
  by_cases d:s.ts = []
  ·left;unfold RS.kd;rw[d]
  ·have:=hd_nz E h d
   rw[hd_kd] at this
   omega
end
end Go.Proofs.YtlkhmmoimplokaaGreatDoor
