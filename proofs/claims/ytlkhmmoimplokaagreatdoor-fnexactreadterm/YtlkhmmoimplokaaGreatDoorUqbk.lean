/- Texts of RdU. Own work of the verifier. -/
import Derived.Test.YtlkhmmoimplokaaGreatDoorUqbj
namespace Go.Proofs.YtlkhmmoimplokaaGreatDoor
set_option maxRecDepth 100000
set_option maxHeartbeats 8000000
open Go Go.RowKit Go.Maps
set_option linter.unusedVariables false
set_option linter.unusedSimpArgs false
theorem bh_stop {c:Int->RS->Tr×RS}{T:List Cel}{a p:Int}{t:Tr}{s:RS}(h:∀ o,opB T s=some o->a<o.1∨leftP o<p):∀ g,bhR c T g a t p s=(t,s)
 | 0=>rfl
 | g+1=>by
   unfold bhR
   cases b:opB T s with
   | none=>rfl
   | some o=>simp only;rw[if_pos (h o b)]
theorem bh_post {b:Int->RS->Tr×RS}{T:List Cel}{a p:Int}{t:Tr}{s:RS}{o:Cel}(c:opB T s=some o)(h:¬ (a<o.1∨leftP o<p))(d:postB o.2.1=true)(g:Nat):bhR b T (g+1) a t p s=bhR b T g a (cmpT o.2.2 [t]) o.1 s.tk:=by
 rw[bhR,c];simp only;rw[if_neg h,if_pos d]
theorem bh_inf {b:Int->RS->Tr×RS}{T:List Cel}{a p:Int}{t:Tr}{s:RS}{o:Cel}(c:opB T s=some o)(h:¬ (a<o.1∨leftP o<p))(d:postB o.2.1=false)(g:Nat):bhR b T (g+1) a t p s=bhR b T g a (cmpT o.2.2 [t,(b (rightP o) s.tk).1]) o.1 (b (rightP o) s.tk).2:=by
 rw[bhR,c];simp only;rw[if_neg h,if_neg (by rw[d];decide)]
theorem opB_ne {T:List Cel}{s:RS}{o:Cel}(a:opB T s=some o):s.ts≠[]:=by
 unfold opB at a
 split at a
 ·rename_i h;exact isP_ne h
 ·split at a
  ·cases a
  ·rename_i h
   intro e
   apply h
   have:s.kd=0:=by unfold RS.kd;rw[e]
   unfold RS.isP
   rw[this];simp
def tokN (rb:Nat)(w:World):Nat:=match w.cell? ⟨rb,1,none⟩ with
 | some (.slice _ n _)=>n
 | _=>0
section
variable {w1:World}{rb vb kb kc:Nat}{ov sv:Value}{T:List Cel}{L:Int}{all:List Tok}{k f:Nat}{s:RS}{w:World}
theorem RI.tokN {k:Nat}{s:RS}{w:World}(h:RI w1 rb vb kb kc ov sv all k s w):tokN rb w=s.ts.length+1:=by
 unfold Go.Proofs.YtlkhmmoimplokaaGreatDoor.tokN
 rw[h.c1];have:=h.ts.1
 have e:s.ts.length=all.length-k:=by rw[h.ts.2];simp
 simp only
 omega
theorem opB_rng (E:REnv w1 rb vb kb kc ov sv T L all){k:Nat}{s:RS}{w:World}(h:RI w1 rb vb kb kc ov sv all k s w){o:Cel}(a:opB T s=some o):1<=o.1/\o.1<=1200:=by
 have e:=opB_ne a
 unfold opB at a
 split at a
 ·cases a;decide
 ·split at a
  ·cases a
  ·split at a
   ·rename_i j
    cases a
    obtain⟨m,N,i,d⟩:=E.ops (fun g=>e (by rw[h.ts.2,g];simp));have b:=hd_byte E h;rw[hd_tx] at b;obtain⟨p,n,to,l,c⟩:=(d w h.sty).look s.tx (by have:=b.2;omega) false;exact(E.tab _ (c j).2.1).1
   ·cases a
theorem stt_pri (E:REnv w1 rb vb kb kc ov sv T L all){k:Nat}{s:RS}{w:World}(h:RI w1 rb vb kb kc ov sv all k s w){i:Int->RS->Tr×RS}(b:Int)(p:0<=b)(q:b<=1200):0<=(sttR i T L b s).1.2/\(sttR i T L b s).1.2<=1200:=by
 have a:(0:Int)<=0/\(0:Int)<=1200:=by decide
 unfold sttR
 split
 ·exact a
 split
 ·unfold RS.var RS.new;split
  ·exact a
  ·split <;> exact a
 split
 ·exact a
 split
 ·exact a
 split
 ·unfold braR;split
  ·exact a
  ·split
   ·exact a
   ·split <;> exact a
 split
 ·rename_i m
  have g:=kd_ne m (by decide)
  unfold namR
  split
  ·exact a
  split
  ·exact a
  split
  ·rename_i n
   obtain⟨r,N,l,e⟩:=E.ops (fun j=>g (by rw[h.ts.2,j];simp));have c:=hd_byte E h;rw[hd_tx] at c;obtain⟨u,t,to,o,d⟩:=(e w h.sty).look s.tx (by have:=c.2;omega) true;have:=(E.tab _ (d n.1).2.1).1;exact⟨by simp only;omega,by simp only;omega⟩
  ·exact a
 ·exact a
theorem RowC.snoc {d A:World}{B g n c j b r:Nat}{q:List Value}{z:List Tr}{x:Tr}{v:Value}(h:RowC d B g n c q z)(l:d.grownBy A (some g))(t:some g=some j∨d.heap.size<=j)(i:A.ownsRow B 65 1 (.slice (some ⟨j,0,none⟩) (n+1) b) (n+1) (q ++ [v]))(G:FoB d r x.fo [v])(F:B<=r)(H:g<r):RowC A B j (n+1) b (q ++ [v]) (z ++ [x]):=by
 obtain⟨J,K,a⟩:=h.first
 have y:g<d.heap.size:=World.block_lt_of_cell? _ _ a;refine⟨i,by simp[h.2.1],by omega,?_⟩;rw[its_snoc];have o:FoB (strike d g) B (itsF z) q:=h.2.2.2;have m:FoB (strike d g) B x.fo [v]:=FoB.imp F (by rw[strike_size];exact Nat.le_refl _) _ _ (fun p v I u=>strike_of (by omega) u) G;refine FoB.imp (Nat.le_refl _) (by rw[strike_size,strike_size];exact l.size) _ _ (fun p v _ u=>?_) (foB_cat _ _ _ _ o m);obtain⟨D,C⟩:=strike_cell y u;have E:=World.block_lt_of_cell? _ _ C;refine strike_of (fun e=>?_) ((World.cell?_of_block (l.block p.block E (fun e=>D (Option.some.inj e)))).trans C)
 rcases t with h' | h'
 ·have:g=j:=Option.some.inj h'
  omega
 ·omega
theorem term_step (E:REnv w1 rb vb kb kc ov sv T L all)(H:RdOk w1 rb vb kb kc ov sv T L all f)(h:RI w1 rb vb kb kc ov sv all k s w)(hf:s.ts.length<=f)(c:Int)(g6:0<=c)(g7:c<=1200):Calls Tryz.prog 69 #[ptrR rb,.int .i64 c] w (ROut w1 rb vb kb kc ov sv all w (rdR T L (f+1) c s)):=by
 have HS:=start_any E H h hf c g6 g7;have HE:Hid (REnv w1 rb vb kb kc ov sv T L all):=E;have HH:Hid (RdOk w1 rb vb kb kc ov sv T L all f):=H;have HZ:Hid (rdR T L (f+1) c s=bhR (rdR T L f) T (sttR (rdR T L f) T L c s).2.ts.length c (sttR (rdR T L f) T L c s).1.1 (sttR (rdR T L f) T L c s).1.2 (sttR (rdR T L f) T L c s).2):=rfl
 have i6:Hid ((sttR (rdR T L f) T L c s).2.ts.length<=f):=by show _<=_;have:=sub_len (stt_g (fun c s=>rd_g T L f c s) T L c s).sub;omega
 have d5:Hid (0<=(sttR (rdR T L f) T L c s).1.2/\(sttR (rdR T L f) T L c s).1.2<=1200):=by
  exact stt_pri E h c g6 g7
 obtain⟨Z,eZ⟩:∃ Z,Z=rdR T L (f+1) c s:=⟨_,rfl⟩
 rw[<-eZ] at HZ ⊢
 generalize sttR (rdR T L f) T L c s=a at *
 have HG:Hid (∀ c s,RdG s (rdR T L f c s).1 (rdR T L f c s).2):=fun c s=>rd_g T L f c s
 obtain⟨i0,hi,j4,j5,j6⟩:=info_parts infoTerm;clear H h hf E eZ
 go_enter Tryz.func69,Tryz.ntmps69
 go_wp2_with fail;refine HS.mono ?_;rintro e W ⟨v,rfl,hv,⟨k2,hR⟩,hf⟩;obtain⟨y,z,rfl⟩:=foC_iface hv;have HV:Hid (FoB W w.heap.size a.1.1.fo [.iface y z]):=hv;have HR:Hid (RI w1 rb vb kb kc ov sv all k2 a.2 W):=hR;have HF:Hid (RFr rb vb w W):=hf;clear HS hv hR hf;go_wp2_with fail
 go_loopw [5,6] (fun v q wr=>∃ (y:Nat) (z:Value) (p:Int) (t:Tr) (b:RS) (kk gg:Nat),v = .iface y z/\q = .int .i64 p/\0<=p/\p<=1200/\Hid (b.ts.length<=gg/\b.ts.length<=f)/\Hid (Z=bhR (rdR T L f) T gg c t p b)/\Hid (FoB wr w.heap.size t.fo [.iface y z])/\Hid (RI w1 rb vb kb kc ov sv all kk b wr)/\Hid (RFr rb vb w wr)) (fun _ _ wr=>tokN rb wr)
 case atStart=>exact⟨y,z,_,a.1.1,a.2,k2,_,rfl,rfl,d5.o.1,d5.o.2,⟨Nat.le_refl _,i6.o⟩,HZ.o,HV,HR,HF⟩
 case round=>
  obtain⟨y,z,p,t,b,kk,gg,rfl,rfl,l8,l9,HN,HQ,HV,HR,HF⟩:=hrel;have HC:=opBehind_any HE.o HR.o
  have b3:Hid (∀ o,opB T b=some o->1<=o.1/\o.1<=1200):=fun o B=>opB_rng HE.o HR.o B
  obtain⟨ro,b7⟩:∃ ro,ro=opB T b:=⟨_,rfl⟩
  rw[<-b7] at HC b3;have X:Hid (opB T b=ro):=b7.symm;clear b7;go_wp2_with fail;refine HC.mono ?_;rintro e n ⟨l,g,to,rfl,g5,x4⟩;have x1:Hid (RI w1 rb vb kb kc ov sv all kk b (n.alloc (.cells #[.string l,.int .i64 g,.int .i64 to] 126))):=HR.o.below (Below.on x4 (new_low n _));have k6:Hid (RFr rb vb w (n.alloc (.cells #[.string l,.int .i64 g,.int .i64 to] 126))):=HF.o.trans (RFr.of rb vb (Below.on x4 (new_low n _)));have x3:Hid (FoB (n.alloc (.cells #[.string l,.int .i64 g,.int .i64 to] 126)) w.heap.size t.fo [.iface y z]):=HV.o.below (Below.on x4 (new_low n _))
  have a8:Hid (Op3 (n.alloc (.cells #[.string l,.int .i64 g,.int .i64 to] 126)) n.heap.size l g to):=by
   have hn:=heap_alloc_new n (.cells #[.string l,.int .i64 g,.int .i64 to] 126)
   refine⟨?_,?_,?_⟩ <;> unfold World.cell? <;> rw[hn] <;> rfl
  have d3:Hid (∀ o,ro=some o->l=strOfNums o.2.2/\g=o.1/\to=o.2.1):=g5;have f2:Hid (tokN rb wr=b.ts.length+1):=HR.o.tokN;clear HC x4 g5 HV HR HF
  cases ro with
  | none=>
    have C:Hid (Z=(t,b)):=by show _=_;rw[HQ.o];exact bh_stop (fun o B=>by rw[X.o] at B;cases B) gg
    simp only[Option.isSome_none];go_wp2_with fail;go_ret;rw[C.o];exact⟨_,rfl,x3.o,⟨kk,x1.o⟩,k6.o⟩
  | some o=>
    simp only[Option.isSome_some];obtain⟨g8,c6,i1⟩:=d3.o o rfl
    have A:Hid (l=strOfNums o.2.2/\g=o.1/\to=o.2.1):=⟨g8,c6,i1⟩
    have l7:1<=g/\g<=1200:=by rw[c6];exact b3.o o rfl
    clear g8 c6 i1 d3 b3
    by_cases c3:c<g
    ·have g2:decide (c<g)=true:=by simpa using c3
     have C:Hid (Z=(t,b)):=by show _=_;rw[HQ.o];exact bh_stop (fun o' B=>by rw[X.o] at B;cases B;left;rw[<-A.o.2.1];exact c3) gg
     go_wp2_with fail;go_ret;rw[C.o];exact⟨_,rfl,x3.o,⟨kk,x1.o⟩,k6.o⟩
    ·have g2:decide (c<g)=false:=by simpa using c3
     have w6:=opLeft_any l g to ⟨by omega,by omega⟩ (n.alloc (.cells #[.string l,.int .i64 g,.int .i64 to] 126))
     have w7:Hid (leftI g to=leftP o):=by show _=_;rw[A.o.2.1,A.o.2.2];rfl
     have j2:0<=leftI g to/\leftI g to<=1200:=by unfold leftI;split <;> omega
     obtain⟨lp,f5⟩:∃ lp,lp=leftI g to:=⟨_,rfl⟩
     rw[<-f5] at w6 w7 j2;clear f5;go_wp2_with fail;refine w6.mono ?_;rintro e W3 ⟨rfl,k1⟩;have e4:Hid (RI w1 rb vb kb kc ov sv all kk b W3):=x1.o.below k1;have k7:Hid (RFr rb vb w W3):=k6.o.trans (RFr.of rb vb k1);have b5:Hid (FoB W3 w.heap.size t.fo [.iface y z]):=x3.o.below k1;have w8:Hid (Op3 W3 n.heap.size l g to):=a8.o.below k1;clear w6 k1 x1 k6 x3 a8
     by_cases c5:lp<p
     ·have g3:decide (lp<p)=true:=by simpa using c5
      have C:Hid (Z=(t,b)):=by show _=_;rw[HQ.o];exact bh_stop (fun o' B=>by rw[X.o] at B;cases B;right;rw[<-w7.o];exact c5) gg
      go_wp2_with fail;go_ret;rw[C.o];exact⟨_,rfl,b5.o,⟨kk,e4.o⟩,k7.o⟩
     ·have g3:decide (lp<p)=false:=by simpa using c5
      have x6:=opB_ne X.o;have i9:=ne_len x6;have j1:=tk_len b
      obtain⟨gp,f4⟩:∃ gp,gg=gp+1:=⟨gg-1,by have:=HN.o.1;omega⟩
      have a7:Hid (¬ (c<o.1∨leftP o<p)):=fun hh=>by
       rcases hh with hh | hh
       ·have:=A.o.2.1;omega
       ·have:=w7.o;omega
      have K:Hid (b.tk.ts.length<f/\b.tk.ts.length+1=b.ts.length/\b.tk.ts.length<=gp):=⟨by have:=HN.o.2;omega,by omega,by have:=HN.o.1;omega⟩
      have a6:Hid (gg=gp+1):=f4;have e1:=take_any HE.o e4.o;have i7:Hid _:=e1
      generalize b.hd L=tt at e1
      obtain⟨⟨tk,ta,tl,tn⟩,tx⟩:=tt;simp only[tokVR] at e1;clear x6 i9 j1 f4 i7;go_wp2_with fail;refine e1.mono ?_;rintro e m ⟨p4,c4,k4,rfl,_,b9,h9⟩;have i3:w.heap.size<=m.heap.size:=(k7.o.trans h9).size
      have i5:Hid (n.heap.size<m.heap.size):=by show n.heap.size<m.heap.size;have:=World.block_lt_of_cell? _ _ w8.o.1;have:=h9.size;simp at *;omega
      have f1:Hid (w1.heap.size<=m.heap.size):=b9.sty.size;have i2:FoB m w.heap.size t.fo [.iface y z]:=e4.o.tree h9 b5.o;have d8:Hid (RowC (m.alloc (.cells #[.iface y z] 65)) w.heap.size m.heap.size 1 1 [.iface y z] [t]):=row_one i3 i2;have P:=new_low m (.cells #[.iface y z] 65);have b1:Hid (RI w1 rb vb kb kc ov sv all k4 b.tk (m.alloc (.cells #[.iface y z] 65))):=b9.below P;have a4:Hid (RFr rb vb w (m.alloc (.cells #[.iface y z] 65))):=(k7.o.trans h9).trans (RFr.of rb vb P);have f7:Op3 (m.alloc (.cells #[.iface y z] 65)) n.heap.size l g to:=(w8.o.move e4.o h9).below P;have a9:Hid (Op3 (m.alloc (.cells #[.iface y z] 65)) n.heap.size l g to):=f7;obtain⟨j7,j8,j9⟩:=f7;have w3:=isPost_any l g to (m.alloc (.cells #[.iface y z] 65))
      obtain⟨pb,b6⟩:∃ pb,pb=postB to:=⟨_,rfl⟩
      rw[<-b6] at w3
      have d4:Hid (postB o.2.1=pb):=by show _=_;rw[b6,A.o.2.2]
      clear e1 b9 h9 i2 P e4 k7 b5 w8 b6;go_wp2_with fail;refine w3.mono ?_;rintro e F ⟨rfl,Y⟩;have e6:Hid (RowC F w.heap.size m.heap.size 1 1 [.iface y z] [t]):=d8.o.move b1.o (RFr.of rb vb Y);have V:Hid (RI w1 rb vb kb kc ov sv all k4 b.tk F):=b1.o.below Y;have k9:Hid (RFr rb vb w F):=a4.o.trans (RFr.of rb vb Y);have U:Hid (Op3 F n.heap.size l g to):=a9.o.below Y
      have f9:m.heap.size<F.heap.size:=by have:=Y.size;simp at this;omega
      clear w3 Y d8 b1 a4 a9 j7 j8 j9
      cases pb with
      | true=>
        have C:Hid (Z=bhR (rdR T L f) T gp c (cmpT o.2.2 [t]) o.1 b.tk):=by show _=_;rw[HQ.o,a6.o];exact bh_post X.o a7.o d4.o gp
        go_wp2_with fail;refine wp_region_held_drew (S:=fun W'=>Op3 W' n.heap.size l g to) (by kernel_rfl) ?_ (fun b8=>?_)
        ·exact U.o.below ((Below.refl _ _).drew)
        have c1:Op3 F.drew n.heap.size l g to:=U.o.below ((Below.refl _ _).drew);refine hTq 0 (.pointer (some ⟨n.heap.size,0,none⟩)) 50 ?_
        simp only[Act.put,zzA,zzB,zzC];refine hTr 1 (.string l) 51 (fun o B W M=>?y1) ?_
        case y1=>cases B;simp[execOp,go_sem,Act.eval,M.1]
        simp only[Act.put,zzA,zzB,zzC];refine hTq 2 (.slice (some ⟨m.heap.size,0,none⟩) 1 1) 52 ?_
        simp only[Act.put,zzA,zzB,zzC];refine hTq 3 (.agg #[.string l,.slice (some ⟨m.heap.size,0,none⟩) 1 1]) 53 ?_
        simp only[Act.put,zzA,zzB,zzC];refine hTq 6 (.pointer (some ⟨n.heap.size,1,none⟩)) 56 ?_
        simp only[Act.put,zzA,zzB,zzC];refine hTr 7 (.int .i64 g) 57 (fun o B W M=>?y5) ?_
        case y5=>cases B;simp[execOp,go_sem,Act.eval,M.2.1]
        simp only[Act.put,zzA,zzB,zzC];have x:=((Below.refl _ F).drew).alloc (Nat.le_refl _) (.cells #[.string l,.slice (some ⟨m.heap.size,0,none⟩) 1 1] 162);have e9:Op3 (F.drew.alloc (.cells #[.string l,.slice (some ⟨m.heap.size,0,none⟩) 1 1] 162)) n.heap.size l g to:=U.o.below x;refine hStep (i:=4) (v:=.pointer (some ⟨F.heap.size,0,none⟩)) (w':=F.drew.alloc (.cells #[.string l,.slice (some ⟨m.heap.size,0,none⟩) 1 1] 162)) (some 54) (by kernel_rfl) (by kernel_rfl) (by kernel_rfl) (fun o B=>?y6) e9 ?_
        case y6=>cases B;simp[execOp,go_sem,Act.eval]
        simp only[Act.put,zzA,zzB,zzC];refine hTq 5 (.iface 159 (ptrR F.heap.size)) 55 ?_
        simp only[Act.put,zzA,zzB,zzC];refine hTq 8 (.iface 159 (ptrR F.heap.size)) 5 ?_
        simp only[Act.put,zzA,zzB,zzC];refine hTq 9 (.int .i64 g) 6 ?_
        simp only[Act.put,zzA,zzB,zzC];refine wpAnyH_done (by kernel_rfl) ?_ _;have k5:RowC F.drew w.heap.size m.heap.size 1 1 _ _:=e6.o.move V.o (RFr.of rb vb ((Below.refl _ _).drew));have O:=comp_rowR k5 k9.o.size o.2.2;rw[<-A.o.1] at O;have e2:Hid (FoB (F.drew.alloc (.cells #[.string l,.slice (some ⟨m.heap.size,0,none⟩) 1 1] 162)) w.heap.size (cmpT o.2.2 [t]).fo [.iface 159 (ptrR F.heap.size)]):=O;have G:Hid (RI w1 rb vb kb kc ov sv all k4 b.tk (F.drew.alloc (.cells #[.string l,.slice (some ⟨m.heap.size,0,none⟩) 1 1] 162))):=V.o.below x;have e3:Hid (RFr rb vb w (F.drew.alloc (.cells #[.string l,.slice (some ⟨m.heap.size,0,none⟩) 1 1] 162))):=k9.o.trans (RFr.of rb vb x);clear c1 e9 x k5 O
        go_wp2_with fail;go_roundw
        case rel=>exact⟨_,_,g,cmpT o.2.2 [t],b.tk,k4,gp,rfl,rfl,by omega,by omega,⟨K.o.2.2,by have:=K.o.1;omega⟩,by show _=_;rw[C.o,A.o.2.1],e2,G,e3⟩
        case measure=>rw[G.o.tokN,f2.o];have:=K.o.2.1;omega
      | false=>
        have b4:=opRight_any l g to ⟨by omega,by omega⟩ F
        have d7:Hid (rightI g to=rightP o):=by show _=_;rw[A.o.2.1,A.o.2.2];rfl
        have c7:0<=rightI g to/\rightI g to<=1200:=by unfold rightI;split <;> omega
        obtain⟨rp,f6⟩:∃ rp,rp=rightI g to:=⟨_,rfl⟩
        rw[<-f6] at b4 d7 c7
        have C:Hid (Z=bhR (rdR T L f) T gp c (cmpT o.2.2 [t,(rdR T L f rp b.tk).1]) o.1 (rdR T L f rp b.tk).2):=by show _=_;rw[HQ.o,a6.o,d7.o];exact bh_inf X.o a7.o d4.o gp
        have e8:Hid (∀ W',RI w1 rb vb kb kc ov sv all k4 b.tk W'->Calls Tryz.prog 69 #[ptrR rb,.int .i64 rp] W' (ROut w1 rb vb kb kc ov sv all W' (rdR T L f rp b.tk))):=fun W' i8=>HH.o rp b.tk k4 W' c7.1 c7.2 K.o.1 i8
        have x2:Hid ((rdR T L f rp b.tk).2.ts.length<=b.tk.ts.length):=sub_len (HG.o rp b.tk).sub
        obtain⟨r,er⟩:∃ r,r=rdR T L f rp b.tk:=⟨_,rfl⟩
        rw[<-er] at C e8 x2
        have i4:Hid (∀ (D u:World) (I d:Nat) {t8:Nat} {x8:Value} {k8:Nat},RowC D w.heap.size m.heap.size 1 1 [.iface y z] [t]->RI w1 rb vb kb kc ov sv all k8 r.2 D->FoB D (m.heap.size+1) r.1.fo [.iface t8 x8]->RFr rb vb w D->Op3 D n.heap.size l g to->
          u.ownsRow w.heap.size 65 1 (.slice (some ⟨I,0,none⟩) (1+1) d) (1+1) ([.iface y z] ++ [.iface t8 x8])->(D.alloc (.cells #[.iface t8 x8] 65)).grownBy u (Value.ownBlock (.slice (some ⟨m.heap.size,0,none⟩) 1 1))->(Value.ownBlock (.slice (some ⟨m.heap.size,0,none⟩) 1 1)=some I∨I=(D.alloc (.cells #[.iface t8 x8] 65)).heap.size)->
          RowC u w.heap.size I (1+1) d [.iface y z,.iface t8 x8] [t,r.1]/\RI w1 rb vb kb kc ov sv all k8 r.2 u/\RFr rb vb w u/\Op3 u n.heap.size l g to):=fun D u I d {t8 x8 k8} h1 h2 h3 h4 h5 h6 h7 h8=>by
         obtain⟨t0,x0,Q⟩:=h1.first
         have l6:m.heap.size<D.heap.size:=World.block_lt_of_cell? _ _ Q;have x:=new_low D (.cells #[.iface t8 x8] 65)
         have J:D.grownBy u (some m.heap.size):=⟨h7.os,h7.tape,h7.output,Nat.le_trans x.size h7.size,fun j hj x6=>(h7.block j (by simp;omega) x6).trans (x.block j hj)⟩
         have j3:w1.heap.size<=m.heap.size:=f1.o
         have c2:∀ i v,D.cell? ⟨n.heap.size,i,none⟩=some v->u.cell? ⟨n.heap.size,i,none⟩=some v:=fun i v hc=>(World.cell?_of_block (a:=⟨n.heap.size,i,none⟩) (J.block _ (World.block_lt_of_cell? _ _ hc) (fun e=>by have:=Option.some.inj e;have:=i5.o;simp at *;omega))).trans hc
         refine⟨h1.snoc J (h8.imp id (fun e=>by rw[e];simp)) h6 h3 (by have:=(h1.1.lt _ rfl).1;omega) (Nat.lt_succ_self _),h2.row HE.o Q j3 J,⟨J.os.trans h4.os,J.tape.trans h4.tape,J.output.trans h4.output,Nat.le_trans h4.size J.size,fun j hj a1 a2 a3=>(J.block j (Nat.lt_of_lt_of_le hj h4.size) (fun e=>by have:=Option.some.inj e;have:=(h1.1.lt _ rfl).1;omega)).trans (h4.block j hj a1 a2 a3)⟩,c2 _ _ h5.1,c2 _ _ h5.2.1,c2 _ _ h5.2.2⟩
        obtain⟨l1,l2,l3⟩:=U.o;clear f6 er;go_wp2_with fail;refine b4.mono ?_;rintro e W7 ⟨rfl,N⟩;have c9:=e8.o W7 (V.o.below N);have x7:Hid (RowC W7 w.heap.size m.heap.size 1 1 [.iface y z] [t]):=e6.o.move V.o (RFr.of rb vb N);have b2:Hid (RI w1 rb vb kb kc ov sv all k4 b.tk W7):=V.o.below N;have w4:Hid (RFr rb vb w W7):=k9.o.trans (RFr.of rb vb N);have d1:Hid (Op3 W7 n.heap.size l g to):=U.o.below N;have g1:m.heap.size<W7.heap.size:=Nat.lt_of_lt_of_le f9 N.size;clear b4 N e6 V k9 U e8 l1 l2 l3;go_wp2_with fail;refine c9.mono ?_;rintro e D ⟨v8,rfl,c8,⟨k8,f8⟩,x5⟩;obtain⟨t8,x8,rfl⟩:=foC_iface c8;have e7:Hid (RowC D w.heap.size m.heap.size 1 1 [.iface y z] [t]):=x7.o.move b2.o x5
        have e5:Hid (RI w1 rb vb kb kc ov sv all k8 r.2 D/\FoB D (m.heap.size+1) r.1.fo [.iface t8 x8]):=⟨f8,c8.mono g1⟩
        have w5:Hid (RFr rb vb w D):=w4.o.trans x5;have d2:Hid (Op3 D n.heap.size l g to):=d1.o.move b2.o x5;have l5:Hid (w.heap.size<=W7.heap.size):=w4.o.size;have l4:w.heap.size<=D.heap.size:=w5.o.size;have w2:=e7.o.1;clear c9 c8 f8 x5 x7 b2 w4 d1;go_wp2_with (at_builtin;refine wpList_append_lies _ rfl _ _ 119 rfl w.heap.size 65 i0 .nilIface 1 16 Tryz.underlying119 hi j4 j5 j6 rfl (by decide) (.slice (some ⟨m.heap.size,0,none⟩) 1 1) 1 [.iface y z] rfl (w2.alloc _) ⟨D.heap.size,0,none⟩ 1 1 [.iface t8 x8] rfl rfl (cell_one_new _ _ _) (one_iface t8 x8) (by decide) (by unfold maxLen;omega) (by omega) (by simp;omega) _ rfl ?_;intro I d u k3 R x9 g4;obtain⟨f3,KR,KF,KO⟩:=i4.o D u I d e7.o e5.o.1 e5.o.2 w5.o d2.o k3 R x9;have d9:Hid (RowC u w.heap.size I (1+1) d [.iface y z,.iface t8 x8] [t,r.1]):=f3;have d6:Hid (RI w1 rb vb kb kc ov sv all k8 r.2 u):=KR;have a5:Hid (RFr rb vb w u):=KF;have w9:Hid (Op3 u n.heap.size l g to):=KO;clear f3 KR KF KO k3 R x9 g4 w2 e7 e5 w5 d2)
        refine wp_region_held_drew (S:=fun W'=>Op3 W' n.heap.size l g to) (by kernel_rfl) ?_ (fun b8=>?_)
        ·exact w9.o.below ((Below.refl _ _).drew)
        have c1:Op3 u.drew n.heap.size l g to:=w9.o.below ((Below.refl _ _).drew);refine hTq 0 (.pointer (some ⟨n.heap.size,0,none⟩)) 50 ?_
        simp only[Act.put,zzA,zzB,zzC];refine hTr 1 (.string l) 51 (fun o B W M=>?y1) ?_
        case y1=>cases B;simp[execOp,go_sem,Act.eval,M.1]
        simp only[Act.put,zzA,zzB,zzC];refine hTq 2 (.slice (some ⟨I,0,none⟩) (1+1) d) 52 ?_
        simp only[Act.put,zzA,zzB,zzC];refine hTq 3 (.agg #[.string l,.slice (some ⟨I,0,none⟩) (1+1) d]) 53 ?_
        simp only[Act.put,zzA,zzB,zzC];refine hTq 6 (.pointer (some ⟨n.heap.size,1,none⟩)) 56 ?_
        simp only[Act.put,zzA,zzB,zzC];refine hTr 7 (.int .i64 g) 57 (fun o B W M=>?y5) ?_
        case y5=>cases B;simp[execOp,go_sem,Act.eval,M.2.1]
        simp only[Act.put,zzA,zzB,zzC];have x:=((Below.refl _ u).drew).alloc (Nat.le_refl _) (.cells #[.string l,.slice (some ⟨I,0,none⟩) (1+1) d] 162);have e9:Op3 (u.drew.alloc (.cells #[.string l,.slice (some ⟨I,0,none⟩) (1+1) d] 162)) n.heap.size l g to:=w9.o.below x;refine hStep (i:=4) (v:=.pointer (some ⟨u.heap.size,0,none⟩)) (w':=u.drew.alloc (.cells #[.string l,.slice (some ⟨I,0,none⟩) (1+1) d] 162)) (some 54) (by kernel_rfl) (by kernel_rfl) (by kernel_rfl) (fun o B=>?y6) e9 ?_
        case y6=>cases B;simp[execOp,go_sem,Act.eval]
        simp only[Act.put,zzA,zzB,zzC];refine hTq 5 (.iface 159 (ptrR u.heap.size)) 55 ?_
        simp only[Act.put,zzA,zzB,zzC];refine hTq 8 (.iface 159 (ptrR u.heap.size)) 5 ?_
        simp only[Act.put,zzA,zzB,zzC];refine hTq 9 (.int .i64 g) 6 ?_
        simp only[Act.put,zzA,zzB,zzC];refine wpAnyH_done (by kernel_rfl) ?_ _;have k5:RowC u.drew w.heap.size I (1+1) d _ _:=d9.o.move d6.o (RFr.of rb vb ((Below.refl _ _).drew));have O:=comp_rowR k5 a5.o.size o.2.2;rw[<-A.o.1] at O;have e2:Hid (FoB (u.drew.alloc (.cells #[.string l,.slice (some ⟨I,0,none⟩) (1+1) d] 162)) w.heap.size (cmpT o.2.2 [t,r.1]).fo [.iface 159 (ptrR u.heap.size)]):=O;have G:Hid (RI w1 rb vb kb kc ov sv all k8 r.2 (u.drew.alloc (.cells #[.string l,.slice (some ⟨I,0,none⟩) (1+1) d] 162))):=d6.o.below x;have e3:Hid (RFr rb vb w (u.drew.alloc (.cells #[.string l,.slice (some ⟨I,0,none⟩) (1+1) d] 162))):=a5.o.trans (RFr.of rb vb x);clear c1 e9 x k5 O
        go_wp2_with fail;go_roundw
        case rel=>exact⟨_,_,g,cmpT o.2.2 [t,r.1],r.2,k8,gp,rfl,rfl,by omega,by omega,⟨by have:=x2.o;have:=K.o.2.2;omega,by have:=x2.o;have:=K.o.1;omega⟩,by show _=_;rw[C.o,A.o.2.1],e2,G,e3⟩
        case measure=>rw[G.o.tokN,f2.o];have:=K.o.2.1;have:=x2.o;omega
theorem rd_all (E:REnv w1 rb vb kb kc ov sv T L all):∀ f,RdOk w1 rb vb kb kc ov sv T L all f
 | 0=>fun a s k w _ _ b _=>absurd b (Nat.not_lt_zero _)
 | f+1=>fun a s k w c d b e=>term_step E (rd_all E f) e (by omega) a c d
end
end Go.Proofs.YtlkhmmoimplokaaGreatDoor
