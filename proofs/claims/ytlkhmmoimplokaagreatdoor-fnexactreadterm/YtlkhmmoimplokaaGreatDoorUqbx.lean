/- Texts of MdN. Own work of the verifier. -/
import Derived.Test.YtlkhmmoimplokaaGreatDoorUqbu
import Derived.Test.YtlkhmmoimplokaaGreatDoorUqbo
namespace Go.Proofs.YtlkhmmoimplokaaGreatDoor
set_option maxRecDepth 100000
set_option maxHeartbeats 8000000
open Go Go.RowKit
set_option linter.unusedVariables false
set_option linter.unusedSimpArgs false
theorem conv_cur (w:World):(convert 23 23 (.slice (some ⟨w.heap.size,0,none⟩) 2 2)).run Tryz.prog (w.alloc (.cells #[.int .u8 123,.int .u8 125] 5)) = .ok (.slice (some ⟨w.heap.size,0,none⟩) 2 2) (w.alloc (.cells #[.int .u8 123,.int .u8 125] 5 (2,3))):=Lib.run_convert_bytes_const (P:=Tryz.prog) w 23 5 #[.int .u8 123,.int .u8 125] 2 2 Tryz.underlying23 Tryz.underlying5
theorem cur_text (w:World):OwnT (w.alloc (.cells #[.int .u8 123,.int .u8 125] 5 (2,3))) w.heap.size (some ⟨w.heap.size,0,none⟩) 2 2 [123,125]:=⟨rfl,fun _=>⟨w.heap.size,rfl,Nat.le_refl _,by simp,fun i c=>by
 have a:i=0∨i=1:=by omega
 rcases a with rfl | rfl
 ·refine⟨cell_of_row _ _ 0 _ _ _ (heap_alloc_new _ _),?_⟩
  simp only[World.frozen?,heap_alloc_new]
  simp
 ·refine⟨cell_of_row _ _ 1 _ _ _ (heap_alloc_new _ _),?_⟩
  simp only[World.frozen?,heap_alloc_new]
  simp⟩⟩
section
variable {w0:World}{pb:Nat}{po:Option Addr}{co:Nat}{kp:Option Addr}{kc:Nat}{T:List Cel}{L:Int}{all:List Tok}{s:RS}{k:Nat}{b:Int}{w:World}
theorem l4start_any (E:MEnv w0 pb po co kp kc T L all){f:Nat}(H:MOk w0 pb po co kp kc T L all f)(h:MS w0 pb po co kp kc T L all s k b w)(hf:s.ts.length<=f)(z:Int)(l8:∀ (k':Nat) (b':Int) (W:World),MS w0 pb po co kp kc T L all s k' b' W->s.kd=1->Calls Tryz.prog 139 #[ptrM pb,.int .i64 z] W (MSt w0 pb po co kp kc T L all W (namR (rdR T L f) T L z s))) :
  Calls Tryz.prog 93 #[ptrM pb,.int .i64 z] w (MSt w0 pb po co kp kc T L all w (sttR (rdR T L f) T L z s)):=by
 have w5:pb<w.heap.size:=Nat.lt_of_lt_of_le E.lt h.mf.size
 have C:Hid (pb<w0.heap.size/\w0.heap.size<=w.heap.size/\pb<w.heap.size):=⟨E.lt,h.mf.size,w5⟩
 obtain⟨a,eA⟩:∃ a,a=w.alloc (prtO (.slice none 0 0) (.int .i64 0)):=⟨_,rfl⟩
 have w2:Below w.heap.size w a:=by rw[eA];exact(Below.refl _ _).alloc (Nat.le_refl _) _
 have d:=h.below w2
 have w9:Hid (MS w0 pb po co kp kc T L all s k b a/\MF pb w a):=⟨d,MF.of pb w2⟩
 have x7:Hid (a=w.alloc (prtO (.slice none 0 0) (.int .i64 0))):=eA
 have w6:a.heap[w.heap.size]?=some (prtO (.slice none 0 0) (.int .i64 0)):=by rw[eA];exact heap_alloc_new _ _
 have w8:Hid (∀ W,MF pb a W->W.heap[w.heap.size]?=some (prtO (.slice none 0 0) (.int .i64 0))):=fun W hW=>hW.tag w6 (by decide) (by omega)
 have HK:Hid (∀ W,Below a.heap.size a W->Calls Tryz.prog 54 #[ptrM pb,.int .i64 0] W fun e w'=>e = .returned (.int .i64 s.kd)/\Below W.heap.size W w'):=l4kind0 E d;have b9:=h.kdr E;have a8:Hid (∀ (k':Nat) (b':Int) (W:World),MS w0 pb po co kp kc T L all s k' b' W->s.kd=1->Calls Tryz.prog 139 #[ptrM pb,.int .i64 z] W (MSt w0 pb po co kp kc T L all W (namR (rdR T L f) T L z s))):=l8;clear l8;have o3:=fieldP0
 by_cases hk:s.kd=1
 ·have hv:sttR (rdR T L f) T L z s=namR (rdR T L f) T L z s:=by unfold sttR;rw[if_neg (by omega),if_neg (by omega),if_neg (by omega),if_neg (by omega),if_neg (by omega),if_pos hk]
  rw[hv]
  have j9:Hid (∀ W,Below a.heap.size a W->Calls Tryz.prog 139 #[ptrM pb,.int .i64 z] W (MSt w0 pb po co kp kc T L all W (namR (rdR T L f) T L z s))):=fun W hW=>a8.o _ _ W (d.below hW) hk
  generalize namR (rdR T L f) T L z s=y at j9 ⊢
  rw[hk] at HK;clear h E H hf w5 eA w2 d w6 b9 hk hv
  go_enter Tryz.func93,Tryz.ntmps93
  go_wp2_with fail;rw[<-x7.o];refine(HK.o a (Below.refl _ _)).mono ?_;rintro e M ⟨rfl,i⟩;have R:=j9.o M i;have m2:Hid (MF pb a M):=MF.of pb i;clear i HK j9;clear a8;go_wp2_with fail;refine R.mono ?_;rintro e D ⟨q,n,c,t,rfl,h3,hl,hP,⟨k2,b2,n2⟩,l5⟩;have r2:=w8.o D (m2.o.trans l5);obtain⟨g0,g1,z0,z1⟩:=res2 r2
  have HF:Hid (MSt w0 pb po co kp kc T L all w y (.returned (.agg #[.slice q n c,.int .i64 y.1.2])) (put2 D w.heap.size (.slice q n c) (.int .i64 y.1.2))):=
   mst_put (x:=y.1.1) C.o.1 ⟨C.o.2.1,Nat.le_refl _⟩ r2 h3 hl hP n2 (w9.o.2.trans (m2.o.trans l5))
  unfold put2 at HF
  clear h3 hP n2 l5 R r2;go_wp2_with fail;obtain⟨a0,a1⟩:=set2 g0 g1 (.slice q n c) (.int .i64 y.1.2);refine bodyPost_ret (v:=.agg #[.slice q n c,.int .i64 y.1.2]) (by simp[results,Tryz.results93,go_sem,a0,a1]) rfl ?_;exact HF.o
 have f7:=hk;clear hk
 by_cases hk:s.kd=3
 ·have j:=kd_ne hk (by decide)
  obtain⟨i3,i5,t,k1,w7⟩:=h.head j;clear a8;obtain⟨G,p,c,rfl,hW⟩:=E.tok _ _ k1
  have hx:s.tx=t.2:=by unfold RS.tx;rw[w7]
  have g6:s.nv=t.1.2.2.2:=by unfold RS.nv;rw[w7]
  have ht:=E.tg t (List.mem_of_getElem? k1)
  have g3:Hid (∀ W,SF pb w0 W->BK W pb p t.2):=fun W hS W' i2=>(hW W' (hS.trans i2)).2.2.2.2.2
  have g5:s.tk.ns.length+s.tk.ts.length+1<=all.length:=by have:=h.nb.2;have h1:=tk_len s;have h2:=ne_len j;have e:s.tk.ns=s.ns:=rfl;rw[e];omega
  have c1:=d.c1;have c2:=d.c2;have b8:=h.kl;have b1:=E.len;have f6:=E.cap
  obtain⟨n,en⟩:∃ n,n=all.length:=⟨_,rfl⟩
  have hn:k<n:=by rw[en];exact(List.getElem?_eq_some_iff.1 k1).1
  rw[<-en] at c1 b8 b1 f6
  have m8:(0:Int)<=(k:Int):=by omega
  have m9:(k:Int)<(n:Int):=by omega
  have c6:IntKind.i64.wrap ((k:Int)+1)=(k:Int)+1:=wrapM (by omega) (by omega)
  have F:Hid (∀ W,Below a.heap.size a W->W.cell? ⟨pb,1,none⟩=some (.slice (some ⟨G,0,none⟩) n kc)/\W.cell? ⟨pb,2,none⟩=some (.int .i64 k)/\W.cell? ⟨G,k * 5,none⟩=some (.int .i64 t.1.1)/\W.cell? ⟨G,k * 5+1,none⟩=some (.int .i64 t.1.2.1)/\W.cell? ⟨G,k * 5+2,none⟩=some (.int .i64 t.1.2.2.1)/\W.cell? ⟨G,k * 5+3,none⟩=some (.slice p t.2.length c)/\W.cell? ⟨G,k * 5+4,none⟩=some (.int .i64 t.1.2.2.2)):=fun W J=>by
   obtain⟨d0,d1,d2,d3,d4,_⟩:=hW W (d.mfw J);exact⟨(J.cell (World.block_lt_of_cell? _ _ c1)).trans c1,(J.cell (World.block_lt_of_cell? _ _ c2)).trans c2,d0,d1,d2,d3,d4⟩
  have A:Hid (∀ W,Below a.heap.size a W->W.cell? ⟨pb,2,none⟩=some (.int .i64 k)/\W.frozen? ⟨pb,2,none⟩=false/\MS w0 pb po co (some ⟨G,0,none⟩) kc T L all s.tk (k+1) b (W.setCell ⟨pb,2,none⟩ (.int .i64 ((k:Int)+1)))):=fun W J=>⟨(d.below J).c2,(d.below J).fz 2,(d.below J).adv E.lt j⟩
  have hv:sttR (rdR T L f) T L z s=((numT s.nv,0),s.tk):=by unfold sttR;rw[if_pos hk]
  rw[hv,g6];have g2:=ht.tx;rw[hx] at *;rw[hk] at HK
  obtain⟨tn,c9⟩:∃ tn,tn=t.1.2.2.2:=⟨_,rfl⟩
  obtain⟨tl,f3⟩:∃ tl,tl=t.1.2.2.1:=⟨_,rfl⟩
  obtain⟨ta,f1⟩:∃ ta,ta=t.1.2.1:=⟨_,rfl⟩
  obtain⟨tk,f2⟩:∃ tk,tk=t.1.1:=⟨_,rfl⟩
  obtain⟨tx,f4⟩:∃ tx,tx=t.2:=⟨_,rfl⟩
  obtain⟨l,el⟩:∃ l,l=tx.length:=⟨_,rfl⟩
  rw[<-c9] at F;rw[<-f3] at F;rw[<-f1] at F;rw[<-f2] at F;rw[<-f4] at F g3 g2;rw[<-el] at F;have i8:Hid (l=tx.length):=el;rw[<-c9];clear h E H hf w5 eA w2 d w6 b9 hk j i3 i5 k1 w7 hW hx g6 ht c1 c2 en c9 f3 f1 f2 f4 el
  go_enter Tryz.func93,Tryz.ntmps93
  go_wp2_with fail;rw[<-x7.o];refine(HK.o a (Below.refl _ _)).mono ?_;rintro e M ⟨rfl,i⟩;obtain⟨d1,d2,e0,e1,e2,e3,e4⟩:=F.o M i;have B:Hid (Below a.heap.size a M):=i;clear i HK F;go_wp2_with fail
  go_region_held3 (fun W=>W.cell? ⟨pb,1,none⟩=some (.slice (some ⟨G,0,none⟩) n kc)/\W.cell? ⟨pb,2,none⟩=some (.int .i64 k)/\W.cell? ⟨G,k * 5,none⟩=some (.int .i64 tk)/\W.cell? ⟨G,k * 5+1,none⟩=some (.int .i64 ta)/\W.cell? ⟨G,k * 5+2,none⟩=some (.int .i64 tl)/\W.cell? ⟨G,k * 5+3,none⟩=some (.slice p l c)/\W.cell? ⟨G,k * 5+4,none⟩=some (.int .i64 tn)) (go_keep) (fail)
  obtain⟨V,eV⟩:∃ V,V=(M.alloc (.cells #[.int .i64 tk,.int .i64 ta,.int .i64 tl,.slice p l c,.int .i64 tn] 86)).drew:=⟨_,rfl⟩
  rw[<-eV]
  have e6:Below a.heap.size a V:=by rw[eV];exact(B.o.alloc B.o.size _).drew
  have Z:V.heap[M.heap.size]?=some (.cells #[.int .i64 tk,.int .i64 ta,.int .i64 tl,.slice p l c,.int .i64 tn] 86):=by rw[eV];show(M.alloc _).heap[_]?=_;exact heap_alloc_new _ _
  obtain⟨v2,vz,O⟩:=A.o V e6
  obtain⟨X,eX⟩:∃ X,X=M.heap.size:=⟨_,rfl⟩
  rw[<-eX] at Z ⊢
  have f5:X≠pb:=by have:=B.o.size;have h2:=C.o.2.2;rw[x7.o] at this;simp at this;omega
  obtain⟨D,I⟩:∃ D,D=V.setCell ⟨pb,2,none⟩ (.int .i64 ((k:Int)+1)):=⟨_,rfl⟩
  have g7:Hid (D=V.setCell ⟨pb,2,none⟩ (.int .i64 ((k:Int)+1))):=I;rw[<-I] at O;have d7:Hid (MS w0 pb po co (some ⟨G,0,none⟩) kc T L all s.tk (k+1) b D):=O
  have N:Hid (MF pb a D):=by rw[I];exact(MF.of pb e6).trans (.set _ _ _ _)
  have w4:D.heap[X]?=some (.cells #[.int .i64 tk,.int .i64 ta,.int .i64 tl,.slice p l c,.int .i64 tn] 86):=by rw[I];exact(Below.heap_setCell _ _ _ _ (by show X≠pb;exact f5)).trans Z
  have x3:V.cell? ⟨X,3,none⟩=some (.slice p l c):=by unfold World.cell?;rw[Z];rfl
  have x4:V.cell? ⟨X,4,none⟩=some (.int .i64 tn):=by unfold World.cell?;rw[Z];rfl
  have m4:¬ pb=X:=fun e=>f5 e.symm
  have y3:(V.setCell ⟨pb,2,none⟩ (.int .i64 ((k:Int)+1))).cell? ⟨X,3,none⟩=some (.slice p l c):=by rw[<-I];unfold World.cell?;rw[w4];rfl
  have y4:(V.setCell ⟨pb,2,none⟩ (.int .i64 ((k:Int)+1))).cell? ⟨X,4,none⟩=some (.int .i64 tn):=by rw[<-I];unfold World.cell?;rw[w4];rfl
  have HC:=l2numM_any tn D;clear eV e6 Z O eX I w4 A d1 d2 e0 e1 e2 e3 e4 B;go_wp2_with fail;rw[<-g7.o];refine HC.mono ?_;rintro e W3 ⟨rfl,ho,a3⟩;have r3:=w8.o W3 (N.o.below a3);obtain⟨g0,g1,z0,z1⟩:=res2 r3
  have HF:Hid (MSt w0 pb po co (some ⟨G,0,none⟩) kc T L all w ((numT tn,0),s.tk) (.returned (.agg #[.slice (some ⟨D.heap.size,0,none⟩) 1 1,.int .i64 0])) (put2 W3 w.heap.size (.slice (some ⟨D.heap.size,0,none⟩) 1 1) (.int .i64 0))):=
   mst_put (t:=[(1,tn,[])]) C.o.1 ⟨C.o.2.1,Nat.le_refl _⟩ r3 (ho.ct (Nat.lt_of_lt_of_le C.o.1 d7.o.mf.size) (by decide)) (by simp) (fun _=>rfl) (d7.o.below a3) ((w9.o.2.trans N.o).below a3)
  unfold put2 at HF
  clear ho a3 HC r3;go_wp2_with fail;obtain⟨a0,a1⟩:=set2 g0 g1 (.slice (some ⟨D.heap.size,0,none⟩) 1 1) (.int .i64 0);refine bodyPost_ret (v:=.agg #[.slice (some ⟨D.heap.size,0,none⟩) 1 1,.int .i64 0]) (by simp[results,Tryz.results93,go_sem,a0,a1]) rfl ?_;exact HF.o
 have a6:=hk;clear hk
 by_cases hk:s.kd=2
 ·have j:=kd_ne hk (by decide)
  obtain⟨i3,i5,t,k1,w7⟩:=h.head j;clear a8;obtain⟨G,p,c,rfl,hW⟩:=E.tok _ _ k1
  have hx:s.tx=t.2:=by unfold RS.tx;rw[w7]
  have g6:s.nv=t.1.2.2.2:=by unfold RS.nv;rw[w7]
  have ht:=E.tg t (List.mem_of_getElem? k1)
  have g3:Hid (∀ W,SF pb w0 W->BK W pb p t.2):=fun W hS W' i2=>(hW W' (hS.trans i2)).2.2.2.2.2
  have g5:s.tk.ns.length+s.tk.ts.length+1<=all.length:=by have:=h.nb.2;have h1:=tk_len s;have h2:=ne_len j;have e:s.tk.ns=s.ns:=rfl;rw[e];omega
  have c1:=d.c1;have c2:=d.c2;have b8:=h.kl;have b1:=E.len;have f6:=E.cap
  obtain⟨n,en⟩:∃ n,n=all.length:=⟨_,rfl⟩
  have hn:k<n:=by rw[en];exact(List.getElem?_eq_some_iff.1 k1).1
  rw[<-en] at c1 b8 b1 f6
  have m8:(0:Int)<=(k:Int):=by omega
  have m9:(k:Int)<(n:Int):=by omega
  have c6:IntKind.i64.wrap ((k:Int)+1)=(k:Int)+1:=wrapM (by omega) (by omega)
  have F:Hid (∀ W,Below a.heap.size a W->W.cell? ⟨pb,1,none⟩=some (.slice (some ⟨G,0,none⟩) n kc)/\W.cell? ⟨pb,2,none⟩=some (.int .i64 k)/\W.cell? ⟨G,k * 5,none⟩=some (.int .i64 t.1.1)/\W.cell? ⟨G,k * 5+1,none⟩=some (.int .i64 t.1.2.1)/\W.cell? ⟨G,k * 5+2,none⟩=some (.int .i64 t.1.2.2.1)/\W.cell? ⟨G,k * 5+3,none⟩=some (.slice p t.2.length c)/\W.cell? ⟨G,k * 5+4,none⟩=some (.int .i64 t.1.2.2.2)):=fun W J=>by
   obtain⟨d0,d1,d2,d3,d4,_⟩:=hW W (d.mfw J);exact⟨(J.cell (World.block_lt_of_cell? _ _ c1)).trans c1,(J.cell (World.block_lt_of_cell? _ _ c2)).trans c2,d0,d1,d2,d3,d4⟩
  have A:Hid (∀ W,Below a.heap.size a W->W.cell? ⟨pb,2,none⟩=some (.int .i64 k)/\W.frozen? ⟨pb,2,none⟩=false/\MS w0 pb po co (some ⟨G,0,none⟩) kc T L all s.tk (k+1) b (W.setCell ⟨pb,2,none⟩ (.int .i64 ((k:Int)+1)))):=fun W J=>⟨(d.below J).c2,(d.below J).fz 2,(d.below J).adv E.lt j⟩
  have hv:sttR (rdR T L f) T L z s=s.tk.var s.tx:=by unfold sttR;rw[if_neg (by omega),if_pos hk]
  rw[hv]
  have i7:Hid (∀ W,MS w0 pb po co (some ⟨G,0,none⟩) kc T L all s.tk (k+1) b W->Calls Tryz.prog 141 #[ptrM pb,.slice p t.2.length c] W (MCel w0 pb po co (some ⟨G,0,none⟩) kc T L all W (s.tk.var t.2).2 fun u=>u=itC (s.tk.var t.2).1.1)):=fun W hs=>l4var_any E hs p t.2.length c t.2 rfl (g3.o W hs.mf.sf) ht.tx g5
  have j1:(s.tk.var t.2).1.2=0:=by
   unfold RS.var RS.new;split
   ·rfl
   ·split <;> rfl
  have g2:=ht.tx;rw[hx] at *;rw[hk] at HK
  obtain⟨tn,c9⟩:∃ tn,tn=t.1.2.2.2:=⟨_,rfl⟩
  obtain⟨tl,f3⟩:∃ tl,tl=t.1.2.2.1:=⟨_,rfl⟩
  obtain⟨ta,f1⟩:∃ ta,ta=t.1.2.1:=⟨_,rfl⟩
  obtain⟨tk,f2⟩:∃ tk,tk=t.1.1:=⟨_,rfl⟩
  obtain⟨tx,f4⟩:∃ tx,tx=t.2:=⟨_,rfl⟩
  obtain⟨l,el⟩:∃ l,l=tx.length:=⟨_,rfl⟩
  rw[<-c9] at F;rw[<-f3] at F;rw[<-f1] at F;rw[<-f2] at F;rw[<-f4] at F g3 g2 i7 j1 ⊢;rw[<-el] at F i7;have i8:Hid (l=tx.length):=el
  generalize s.tk.var tx=y at i7 j1 ⊢
  clear h E H hf w5 eA w2 d w6 b9 hk j i3 i5 k1 w7 hW hx g6 ht c1 c2 en c9 f3 f1 f2 f4 el
  go_enter Tryz.func93,Tryz.ntmps93
  go_wp2_with fail;rw[<-x7.o];refine(HK.o a (Below.refl _ _)).mono ?_;rintro e M ⟨rfl,i⟩;obtain⟨d1,d2,e0,e1,e2,e3,e4⟩:=F.o M i;have B:Hid (Below a.heap.size a M):=i;clear i HK F;go_wp2_with fail
  go_region_held3 (fun W=>W.cell? ⟨pb,1,none⟩=some (.slice (some ⟨G,0,none⟩) n kc)/\W.cell? ⟨pb,2,none⟩=some (.int .i64 k)/\W.cell? ⟨G,k * 5,none⟩=some (.int .i64 tk)/\W.cell? ⟨G,k * 5+1,none⟩=some (.int .i64 ta)/\W.cell? ⟨G,k * 5+2,none⟩=some (.int .i64 tl)/\W.cell? ⟨G,k * 5+3,none⟩=some (.slice p l c)/\W.cell? ⟨G,k * 5+4,none⟩=some (.int .i64 tn)) (go_keep) (fail)
  obtain⟨V,eV⟩:∃ V,V=(M.alloc (.cells #[.int .i64 tk,.int .i64 ta,.int .i64 tl,.slice p l c,.int .i64 tn] 86)).drew:=⟨_,rfl⟩
  rw[<-eV]
  have e6:Below a.heap.size a V:=by rw[eV];exact(B.o.alloc B.o.size _).drew
  have Z:V.heap[M.heap.size]?=some (.cells #[.int .i64 tk,.int .i64 ta,.int .i64 tl,.slice p l c,.int .i64 tn] 86):=by rw[eV];show(M.alloc _).heap[_]?=_;exact heap_alloc_new _ _
  obtain⟨v2,vz,O⟩:=A.o V e6
  obtain⟨X,eX⟩:∃ X,X=M.heap.size:=⟨_,rfl⟩
  rw[<-eX] at Z ⊢
  have f5:X≠pb:=by have:=B.o.size;have h2:=C.o.2.2;rw[x7.o] at this;simp at this;omega
  obtain⟨D,I⟩:∃ D,D=V.setCell ⟨pb,2,none⟩ (.int .i64 ((k:Int)+1)):=⟨_,rfl⟩
  have g7:Hid (D=V.setCell ⟨pb,2,none⟩ (.int .i64 ((k:Int)+1))):=I;rw[<-I] at O;have d7:Hid (MS w0 pb po co (some ⟨G,0,none⟩) kc T L all s.tk (k+1) b D):=O
  have N:Hid (MF pb a D):=by rw[I];exact(MF.of pb e6).trans (.set _ _ _ _)
  have w4:D.heap[X]?=some (.cells #[.int .i64 tk,.int .i64 ta,.int .i64 tl,.slice p l c,.int .i64 tn] 86):=by rw[I];exact(Below.heap_setCell _ _ _ _ (by show X≠pb;exact f5)).trans Z
  have x3:V.cell? ⟨X,3,none⟩=some (.slice p l c):=by unfold World.cell?;rw[Z];rfl
  have x4:V.cell? ⟨X,4,none⟩=some (.int .i64 tn):=by unfold World.cell?;rw[Z];rfl
  have m4:¬ pb=X:=fun e=>f5 e.symm
  have y3:(V.setCell ⟨pb,2,none⟩ (.int .i64 ((k:Int)+1))).cell? ⟨X,3,none⟩=some (.slice p l c):=by rw[<-I];unfold World.cell?;rw[w4];rfl
  have y4:(V.setCell ⟨pb,2,none⟩ (.int .i64 ((k:Int)+1))).cell? ⟨X,4,none⟩=some (.int .i64 tn):=by rw[<-I];unfold World.cell?;rw[w4];rfl
  have HC:=i7.o D d7.o;clear eV e6 Z O eX I w4 A d1 d2 e0 e1 e2 e3 e4 B;go_wp2_with fail;rw[<-g7.o];refine HC.mono ?_;rintro e W3 ⟨q,m,c3,t3,rfl,h3,n9,hP,⟨k3,b3,k9⟩,e7⟩;have r3:=w8.o W3 (N.o.trans e7);obtain⟨g0,g1,z0,z1⟩:=res2 r3
  have HF:Hid (MSt w0 pb po co (some ⟨G,0,none⟩) kc T L all w y (.returned (.agg #[.slice q m c3,.int .i64 0])) (put2 W3 w.heap.size (.slice q m c3) (.int .i64 0))):=by
   have h9:=mst_put (p:=y.1.2) (x:=y.1.1) C.o.1 ⟨C.o.2.1,Nat.le_refl _⟩ r3 h3 n9 (fun h0=>by rw[hP h0];exact Cut.refl _) k9 (w9.o.2.trans (N.o.trans e7));rw[j1] at h9
   have e:((y.1.1,(0:Int)),y.2)=y:=by rw[<-j1]
   rw[e] at h9;exact h9
  unfold put2 at HF
  clear h3 hP k9 e7 HC r3;go_wp2_with fail;obtain⟨a0,a1⟩:=set2 g0 g1 (.slice q m c3) (.int .i64 0);refine bodyPost_ret (v:=.agg #[.slice q m c3,.int .i64 0]) (by simp[results,Tryz.results93,go_sem,a0,a1]) rfl ?_;exact HF.o
 have a5:=hk;clear hk
 by_cases hk:s.kd=4
 ·have j:=kd_ne hk (by decide)
  obtain⟨i3,i5,t,k1,w7⟩:=h.head j;clear a8;obtain⟨G,p,c,rfl,hW⟩:=E.tok _ _ k1
  have hx:s.tx=t.2:=by unfold RS.tx;rw[w7]
  have g6:s.nv=t.1.2.2.2:=by unfold RS.nv;rw[w7]
  have ht:=E.tg t (List.mem_of_getElem? k1)
  have g3:Hid (∀ W,SF pb w0 W->BK W pb p t.2):=fun W hS W' i2=>(hW W' (hS.trans i2)).2.2.2.2.2
  have g5:s.tk.ns.length+s.tk.ts.length+1<=all.length:=by have:=h.nb.2;have h1:=tk_len s;have h2:=ne_len j;have e:s.tk.ns=s.ns:=rfl;rw[e];omega
  have c1:=d.c1;have c2:=d.c2;have b8:=h.kl;have b1:=E.len;have f6:=E.cap
  obtain⟨n,en⟩:∃ n,n=all.length:=⟨_,rfl⟩
  have hn:k<n:=by rw[en];exact(List.getElem?_eq_some_iff.1 k1).1
  rw[<-en] at c1 b8 b1 f6
  have m8:(0:Int)<=(k:Int):=by omega
  have m9:(k:Int)<(n:Int):=by omega
  have c6:IntKind.i64.wrap ((k:Int)+1)=(k:Int)+1:=wrapM (by omega) (by omega)
  have F:Hid (∀ W,Below a.heap.size a W->W.cell? ⟨pb,1,none⟩=some (.slice (some ⟨G,0,none⟩) n kc)/\W.cell? ⟨pb,2,none⟩=some (.int .i64 k)/\W.cell? ⟨G,k * 5,none⟩=some (.int .i64 t.1.1)/\W.cell? ⟨G,k * 5+1,none⟩=some (.int .i64 t.1.2.1)/\W.cell? ⟨G,k * 5+2,none⟩=some (.int .i64 t.1.2.2.1)/\W.cell? ⟨G,k * 5+3,none⟩=some (.slice p t.2.length c)/\W.cell? ⟨G,k * 5+4,none⟩=some (.int .i64 t.1.2.2.2)):=fun W J=>by
   obtain⟨d0,d1,d2,d3,d4,_⟩:=hW W (d.mfw J);exact⟨(J.cell (World.block_lt_of_cell? _ _ c1)).trans c1,(J.cell (World.block_lt_of_cell? _ _ c2)).trans c2,d0,d1,d2,d3,d4⟩
  have A:Hid (∀ W,Below a.heap.size a W->W.cell? ⟨pb,2,none⟩=some (.int .i64 k)/\W.frozen? ⟨pb,2,none⟩=false/\MS w0 pb po co (some ⟨G,0,none⟩) kc T L all s.tk (k+1) b (W.setCell ⟨pb,2,none⟩ (.int .i64 ((k:Int)+1)))):=fun W J=>⟨(d.below J).c2,(d.below J).fz 2,(d.below J).adv E.lt j⟩
  have hv:sttR (rdR T L f) T L z s=((codT s.tx,0),s.tk):=by unfold sttR;rw[if_neg (by omega),if_neg (by omega),if_pos hk]
  rw[hv];have g2:=ht.tx;rw[hx] at *;rw[hk] at HK
  obtain⟨tn,c9⟩:∃ tn,tn=t.1.2.2.2:=⟨_,rfl⟩
  obtain⟨tl,f3⟩:∃ tl,tl=t.1.2.2.1:=⟨_,rfl⟩
  obtain⟨ta,f1⟩:∃ ta,ta=t.1.2.1:=⟨_,rfl⟩
  obtain⟨tk,f2⟩:∃ tk,tk=t.1.1:=⟨_,rfl⟩
  obtain⟨tx,f4⟩:∃ tx,tx=t.2:=⟨_,rfl⟩
  obtain⟨l,el⟩:∃ l,l=tx.length:=⟨_,rfl⟩
  rw[<-c9] at F;rw[<-f3] at F;rw[<-f1] at F;rw[<-f2] at F;rw[<-f4] at F g3 g2 ⊢;rw[<-el] at F;have i8:Hid (l=tx.length):=el;clear h E H hf w5 eA w2 d w6 b9 hk j i3 i5 k1 w7 hW hx g6 ht c1 c2 en c9 f3 f1 f2 f4 el
  go_enter Tryz.func93,Tryz.ntmps93
  go_wp2_with fail;rw[<-x7.o];refine(HK.o a (Below.refl _ _)).mono ?_;rintro e M ⟨rfl,i⟩;obtain⟨d1,d2,e0,e1,e2,e3,e4⟩:=F.o M i;have B:Hid (Below a.heap.size a M):=i;clear i HK F;go_wp2_with fail
  go_region_held3 (fun W=>W.cell? ⟨pb,1,none⟩=some (.slice (some ⟨G,0,none⟩) n kc)/\W.cell? ⟨pb,2,none⟩=some (.int .i64 k)/\W.cell? ⟨G,k * 5,none⟩=some (.int .i64 tk)/\W.cell? ⟨G,k * 5+1,none⟩=some (.int .i64 ta)/\W.cell? ⟨G,k * 5+2,none⟩=some (.int .i64 tl)/\W.cell? ⟨G,k * 5+3,none⟩=some (.slice p l c)/\W.cell? ⟨G,k * 5+4,none⟩=some (.int .i64 tn)) (go_keep) (fail)
  obtain⟨V,eV⟩:∃ V,V=(M.alloc (.cells #[.int .i64 tk,.int .i64 ta,.int .i64 tl,.slice p l c,.int .i64 tn] 86)).drew:=⟨_,rfl⟩
  rw[<-eV]
  have e6:Below a.heap.size a V:=by rw[eV];exact(B.o.alloc B.o.size _).drew
  have Z:V.heap[M.heap.size]?=some (.cells #[.int .i64 tk,.int .i64 ta,.int .i64 tl,.slice p l c,.int .i64 tn] 86):=by rw[eV];show(M.alloc _).heap[_]?=_;exact heap_alloc_new _ _
  obtain⟨v2,vz,O⟩:=A.o V e6
  obtain⟨X,eX⟩:∃ X,X=M.heap.size:=⟨_,rfl⟩
  rw[<-eX] at Z ⊢
  have f5:X≠pb:=by have:=B.o.size;have h2:=C.o.2.2;rw[x7.o] at this;simp at this;omega
  obtain⟨D,I⟩:∃ D,D=V.setCell ⟨pb,2,none⟩ (.int .i64 ((k:Int)+1)):=⟨_,rfl⟩
  have g7:Hid (D=V.setCell ⟨pb,2,none⟩ (.int .i64 ((k:Int)+1))):=I;rw[<-I] at O;have d7:Hid (MS w0 pb po co (some ⟨G,0,none⟩) kc T L all s.tk (k+1) b D):=O
  have N:Hid (MF pb a D):=by rw[I];exact(MF.of pb e6).trans (.set _ _ _ _)
  have w4:D.heap[X]?=some (.cells #[.int .i64 tk,.int .i64 ta,.int .i64 tl,.slice p l c,.int .i64 tn] 86):=by rw[I];exact(Below.heap_setCell _ _ _ _ (by show X≠pb;exact f5)).trans Z
  have x3:V.cell? ⟨X,3,none⟩=some (.slice p l c):=by unfold World.cell?;rw[Z];rfl
  have x4:V.cell? ⟨X,4,none⟩=some (.int .i64 tn):=by unfold World.cell?;rw[Z];rfl
  have m4:¬ pb=X:=fun e=>f5 e.symm
  have y3:(V.setCell ⟨pb,2,none⟩ (.int .i64 ((k:Int)+1))).cell? ⟨X,3,none⟩=some (.slice p l c):=by rw[<-I];unfold World.cell?;rw[w4];rfl
  have y4:(V.setCell ⟨pb,2,none⟩ (.int .i64 ((k:Int)+1))).cell? ⟨X,4,none⟩=some (.int .i64 tn):=by rw[<-I];unfold World.cell?;rw[w4];rfl
  have HC:=l4codes_any p l c tx i8.o (by rw[i8.o];exact g2.2) g2.1 (g3.o D d7.o.mf.sf).bin;clear eV e6 Z O eX I w4 A d1 d2 e0 e1 e2 e3 e4 B;go_wp2_with fail;rw[<-g7.o];refine HC.mono ?_;rintro e W3 ⟨q,m,c3,rfl,ho,a3⟩;have r3:=w8.o W3 (N.o.below a3);obtain⟨g0,g1,z0,z1⟩:=res2 r3
  have m6:(itC (codT tx)).length=2 * tx.length+1:=by rw[cod_cells,List.length_append,cod_mk];rfl
  have HF:Hid (MSt w0 pb po co (some ⟨G,0,none⟩) kc T L all w ((codT tx,0),s.tk) (.returned (.agg #[.slice q m c3,.int .i64 0])) (put2 W3 w.heap.size (.slice q m c3) (.int .i64 0))):=
   mst_put (t:=itC (codT tx)) C.o.1 ⟨C.o.2.1,Nat.le_refl _⟩ r3 (ho.ct (Nat.lt_of_lt_of_le C.o.1 d7.o.mf.size) (by rw[ho.1];omega) (cod_bd tx)) (by have:=g2.2;omega) (fun _=>Cut.refl _) (d7.o.below a3) ((w9.o.2.trans N.o).below a3)
  unfold put2 at HF
  clear ho a3 HC r3 m6;go_wp2_with fail;obtain⟨a0,a1⟩:=set2 g0 g1 (.slice q m c3) (.int .i64 0);refine bodyPost_ret (v:=.agg #[.slice q m c3,.int .i64 0]) (by simp[results,Tryz.results93,go_sem,a0,a1]) rfl ?_;exact HF.o
 have a7:=hk;clear hk
 by_cases hk:s.kd=6
 ·have j:s.ts≠[]:=kd_ne hk (by decide)
  have A:Hid (∀ W,Below a.heap.size a W->W.cell? ⟨pb,2,none⟩=some (.int .i64 k)/\W.frozen? ⟨pb,2,none⟩=false/\MS w0 pb po co kp kc T L all s.tk (k+1) b (W.setCell ⟨pb,2,none⟩ (.int .i64 ((k:Int)+1)))):=fun W J=>⟨(d.below J).c2,(d.below J).fz 2,(d.below J).adv E.lt j⟩
  have b8:=h.kl;have b1:=E.len;have c6:IntKind.i64.wrap ((k:Int)+1)=(k:Int)+1:=wrapM (by omega) (by omega)
  have w1:s.tk.ts.length<f:=by have h1:=tk_len s;have h2:=ne_len j;omega
  have w3:Hid (∀ (k':Nat) (b':Int) (W:World),MS w0 pb po co kp kc T L all s.tk k' b' W->Calls Tryz.prog 53 #[ptrM pb,.int .i64 1200] W (MRd w0 pb po co kp kc T L all W (rdR T L f 1200 s.tk))):=fun k' b' W hs=>H 1200 _ k' b' W hs w1
  have d9:Hid (∀ (s':RS) (k':Nat) (b':Int) (W:World),MS w0 pb po co kp kc T L all s' k' b' W->Calls Tryz.prog 144 #[ptrM pb,.string ⟨#[41]⟩] W (MUnit w0 pb po co kp kc T L all W (s'.must L [41]) (.tuple #[]))):=fun s' k' b' W hs=>l4want_any E hs [41] ⟨#[41]⟩ rfl (byte_small (by decide))
  have hv:sttR (rdR T L f) T L z s=(((rdR T L f 1200 s.tk).1,0),(rdR T L f 1200 s.tk).2.must L [41]):=by unfold sttR;rw[if_neg (by omega),if_neg (by omega),if_neg (by omega),if_pos hk];rfl
  rw[hv]
  generalize rdR T L f 1200 s.tk=y at w3 ⊢
  rw[hk] at HK;clear h E H hf w5 eA w2 d w6 b9 f7 a5 a6 a7 hk hv j w1
  go_enter Tryz.func93,Tryz.ntmps93
  go_wp2_with fail;rw[<-x7.o];refine(HK.o a (Below.refl _ _)).mono ?_;rintro e M ⟨rfl,i⟩;have K:=i;clear i HK;obtain⟨v2,vz,O⟩:=A.o M K
  obtain⟨W3,c8⟩:∃ W3,W3=M.setCell ⟨pb,2,none⟩ (.int .i64 ((k:Int)+1)):=⟨_,rfl⟩
  have l1:Hid (W3=M.setCell ⟨pb,2,none⟩ (.int .i64 ((k:Int)+1))):=c8;rw[<-c8] at O
  have Y:Hid (MF pb a W3):=by rw[c8];exact(MF.of pb K).trans (.set _ _ _ _)
  have HC:=w3.o _ _ W3 O;clear c8 O K A w3;go_wp2_with fail;rw[<-l1.o];refine HC.mono ?_;rintro e W4 ⟨q,n,c,t,p4,rfl,h3,hl,hcut,⟨k4,b4,h4⟩,P⟩;have h6:=d9.o y.2 k4 b4 W4 h4
  have x9:Hid (CT W4 pb q n c t/\t.length<=2001/\(y.2.ft=none->Cut t (itC y.1))/\MF pb a W4):=⟨h3,hl,hcut,Y.o.trans P⟩
  clear h3 hl hcut h4 P HC Y d9;go_wp2_with fail;refine h6.mono ?_;rintro e W5 ⟨rfl,⟨k5,b5,x5⟩,Q⟩;have r5:=w8.o W5 (x9.o.2.2.2.trans Q);obtain⟨g0,g1,z0,z1⟩:=res2 r5
  have HF:Hid (MSt w0 pb po co kp kc T L all w ((y.1,0),y.2.must L [41]) (.returned (.agg #[.slice q n c,.int .i64 0])) (put2 W5 w.heap.size (.slice q n c) (.int .i64 0))):=
   mst_put C.o.1 ⟨C.o.2.1,Nat.le_refl _⟩ r5 (x9.o.1.move Q.sf) x9.o.2.1 (fun h0=>x9.o.2.2.1 (fk_must L [41] y.2 h0)) x5 (w9.o.2.trans (x9.o.2.2.2.trans Q))
  unfold put2 at HF
  clear x5 Q h6 r5 x9;go_wp2_with fail;obtain⟨a0,a1⟩:=set2 g0 g1 (.slice q n c) (.int .i64 0);refine bodyPost_ret (v:=.agg #[.slice q n c,.int .i64 0]) (by simp[results,Tryz.results93,go_sem,a0,a1]) rfl ?_;exact HF.o
 have f8:=hk;clear hk
 have c4:¬ s.kd=1/\¬ s.kd=2/\¬ s.kd=3/\¬ s.kd=4/\¬ s.kd=6:=⟨f7,a5,a6,a7,f8⟩
 have e5:Hid (∀ W,Below a.heap.size a W->Calls Tryz.prog 143 #[ptrM pb,.string ⟨#[40]⟩] W fun e w'=>e = .returned (.bool (s.isP [40]))/\Below W.heap.size W w'):=fun W J=>l4punct_any E (d.below J) [40] ⟨#[40]⟩ rfl (byte_small (by decide))
 have x8:Hid (∀ (s':RS) (m:List Int) (S:ByteArray),strOfNums m=S->Byte m->∀ (k':Nat) (b':Int) (W:World),MS w0 pb po co kp kc T L all s' k' b' W->Calls Tryz.prog 145 #[ptrM pb,.string S] W (MBool w0 pb po co kp kc T L all W (if s'.isP m=true then s'.tk else s') (s'.isP m))):=fun s' m S hS hm k' b' W hs=>l4got_any E hs m S hS hm
 have c5:s.kd=5->sttR (rdR T L f) T L z s=braR (rdR T L f) L s:=fun h5=>by unfold sttR;rw[if_neg a6,if_neg a5,if_neg a7,if_neg f8,if_pos h5]
 have a2:∀ m,s.isP m=true->s.kd=5:=fun m hm=>by unfold RS.isP at hm;simp at hm;exact hm.1
 have d8:Hid (∀ W,Below a.heap.size a W->MS w0 pb po co kp kc T L all s k b W):=fun W J=>d.below J
 by_cases hp:s.isP [40]=true
 ·have j:s.ts≠[]:=isP_ne hp
  have A:Hid (∀ W,Below a.heap.size a W->W.cell? ⟨pb,2,none⟩=some (.int .i64 k)/\W.frozen? ⟨pb,2,none⟩=false/\MS w0 pb po co kp kc T L all s.tk (k+1) b (W.setCell ⟨pb,2,none⟩ (.int .i64 ((k:Int)+1)))):=fun W J=>⟨(d.below J).c2,(d.below J).fz 2,(d.below J).adv E.lt j⟩
  have b8:=h.kl;have b1:=E.len;have c6:IntKind.i64.wrap ((k:Int)+1)=(k:Int)+1:=wrapM (by omega) (by omega)
  have w1:s.tk.ts.length<f:=by have h1:=tk_len s;have h2:=ne_len j;omega
  have w3:Hid (∀ (k':Nat) (b':Int) (W:World),MS w0 pb po co kp kc T L all s.tk k' b' W->Calls Tryz.prog 53 #[ptrM pb,.int .i64 1200] W (MRd w0 pb po co kp kc T L all W (rdR T L f 1200 s.tk))):=fun k' b' W hs=>H 1200 _ k' b' W hs w1
  have d9:Hid (∀ (s':RS) (k':Nat) (b':Int) (W:World),MS w0 pb po co kp kc T L all s' k' b' W->Calls Tryz.prog 144 #[ptrM pb,.string ⟨#[41]⟩] W (MUnit w0 pb po co kp kc T L all W (s'.must L [41]) (.tuple #[]))):=fun s' k' b' W hs=>l4want_any E hs [41] ⟨#[41]⟩ rfl (byte_small (by decide))
  have hv:sttR (rdR T L f) T L z s=(((rdR T L f 1200 s.tk).1,0),(rdR T L f 1200 s.tk).2.must L [41]):=by rw[c5 (a2 _ hp)];unfold braR;rw[if_pos hp];rfl
  rw[hv]
  generalize rdR T L f 1200 s.tk=y at w3 ⊢
  rw[hp] at e5
  generalize s.kd=x at HK c4
  obtain⟨x1,x2,x3,x4,x6⟩:=c4
  have j2:(x == 1)=false:=by simpa using x1
  have j3:(x == 2)=false:=by simpa using x2
  have j4:(x == 3)=false:=by simpa using x3
  have j5:(x == 4)=false:=by simpa using x4
  have j6:(x == 6)=false:=by simpa using x6
  clear h E H hf w5 eA w2 d w6 b9 f7 a5 a6 a7 f8 hv c5 a2 j w1 hp
  go_enter Tryz.func93,Tryz.ntmps93
  go_wp2_with fail;rw[<-x7.o];refine(HK.o a (Below.refl _ _)).mono ?_;rintro e M ⟨rfl,i⟩;have R:=e5.o M i;have B:Hid (Below a.heap.size a M):=i;clear i HK e5;go_wp2_with fail;refine R.mono ?_;rintro e D ⟨rfl,k8⟩;have K:Below a.heap.size a D:=Below.on B.o k8;clear k8 R B;obtain⟨v2,vz,O⟩:=A.o D K
  obtain⟨W3,c8⟩:∃ W3,W3=D.setCell ⟨pb,2,none⟩ (.int .i64 ((k:Int)+1)):=⟨_,rfl⟩
  have l1:Hid (W3=D.setCell ⟨pb,2,none⟩ (.int .i64 ((k:Int)+1))):=c8;rw[<-c8] at O
  have Y:Hid (MF pb a W3):=by rw[c8];exact(MF.of pb K).trans (.set _ _ _ _)
  have HC:=w3.o _ _ W3 O;clear c8 O K A w3;go_wp2_with fail;rw[<-l1.o];refine HC.mono ?_;rintro e W4 ⟨q,n,c,t,p4,rfl,h3,hl,hcut,⟨k4,b4,h4⟩,P⟩;have h6:=d9.o y.2 k4 b4 W4 h4
  have x9:Hid (CT W4 pb q n c t/\t.length<=2001/\(y.2.ft=none->Cut t (itC y.1))/\MF pb a W4):=⟨h3,hl,hcut,Y.o.trans P⟩
  clear h3 hl hcut h4 P HC Y d9;go_wp2_with fail;refine h6.mono ?_;rintro e W5 ⟨rfl,⟨k5,b5,x5⟩,Q⟩;have r5:=w8.o W5 (x9.o.2.2.2.trans Q);obtain⟨g0,g1,z0,z1⟩:=res2 r5
  have HF:Hid (MSt w0 pb po co kp kc T L all w ((y.1,0),y.2.must L [41]) (.returned (.agg #[.slice q n c,.int .i64 0])) (put2 W5 w.heap.size (.slice q n c) (.int .i64 0))):=
   mst_put C.o.1 ⟨C.o.2.1,Nat.le_refl _⟩ r5 (x9.o.1.move Q.sf) x9.o.2.1 (fun h0=>x9.o.2.2.1 (fk_must L [41] y.2 h0)) x5 (w9.o.2.trans (x9.o.2.2.2.trans Q))
  unfold put2 at HF
  clear x5 Q h6 r5 x9;go_wp2_with fail;obtain⟨a0,a1⟩:=set2 g0 g1 (.slice q n c) (.int .i64 0);refine bodyPost_ret (v:=.agg #[.slice q n c,.int .i64 0]) (by simp[results,Tryz.results93,go_sem,a0,a1]) rfl ?_;exact HF.o
 replace hp:s.isP [40]=false:=by simpa using hp
 by_cases h7:s.isP [91]=true
 ·have j:s.ts≠[]:=isP_ne h7
  have A:Hid (∀ W,Below a.heap.size a W->W.cell? ⟨pb,2,none⟩=some (.int .i64 k)/\W.frozen? ⟨pb,2,none⟩=false/\MS w0 pb po co kp kc T L all s.tk (k+1) b (W.setCell ⟨pb,2,none⟩ (.int .i64 ((k:Int)+1)))):=fun W J=>⟨(d.below J).c2,(d.below J).fz 2,(d.below J).adv E.lt j⟩
  have b8:=h.kl;have b1:=E.len;have c6:IntKind.i64.wrap ((k:Int)+1)=(k:Int)+1:=wrapM (by omega) (by omega)
  have w1:s.tk.ts.length<f:=by have h1:=tk_len s;have h2:=ne_len j;omega
  have hv:sttR (rdR T L f) T L z s=(((lisR (rdR T L f) L s.tk).1,0),(lisR (rdR T L f) L s.tk).2):=by rw[c5 (a2 _ h7)];unfold braR;rw[if_neg (by rw[hp];decide),if_pos h7]
  rw[hv]
  have j8:Hid (∀ (k':Nat) (b':Int) (W:World),MS w0 pb po co kp kc T L all s.tk k' b' W->Calls Tryz.prog 146 #[ptrM pb] W (MCel w0 pb po co kp kc T L all W (lisR (rdR T L f) L s.tk).2 fun t=>Cut t (itC (lisR (rdR T L f) L s.tk).1))):=fun k' b' W hs=>l4bracket_any E H hs w1
  generalize lisR (rdR T L f) L s.tk=y at j8 ⊢
  rw[hp] at e5;have g4:Hid (s.isP [91]=true):=h7
  generalize s.kd=x at HK c4
  obtain⟨x1,x2,x3,x4,x6⟩:=c4
  have j2:(x == 1)=false:=by simpa using x1
  have j3:(x == 2)=false:=by simpa using x2
  have j4:(x == 3)=false:=by simpa using x3
  have j5:(x == 4)=false:=by simpa using x4
  have j6:(x == 6)=false:=by simpa using x6
  clear h E H hf w5 eA w2 d w6 b9 f7 a5 a6 a7 f8 hv c5 a2 j w1 hp h7 A c6
  go_enter Tryz.func93,Tryz.ntmps93
  go_wp2_with fail;rw[<-x7.o];refine(HK.o a (Below.refl _ _)).mono ?_;rintro e M ⟨rfl,i⟩;have R:=e5.o M i;have B:Hid (Below a.heap.size a M):=i;clear i HK e5;go_wp2_with fail;refine R.mono ?_;rintro e D ⟨rfl,k8⟩;have K:Below a.heap.size a D:=Below.on B.o k8;clear k8 R B;have h8:=x8.o s [91] ⟨#[91]⟩ rfl (byte_small (by decide)) k b D (d8.o D K);rw[g4.o,if_pos rfl] at h8;have N:Hid (MF pb a D):=MF.of pb K;clear K d8 x8;go_wp2_with fail;refine h8.mono ?_;rintro e W3 ⟨rfl,⟨k3,b3,k9⟩,e7⟩;have e9:=j8.o k3 b3 W3 k9;have Y:Hid (MF pb a W3):=N.o.trans e7;clear k9 e7 h8 j8 N;go_wp2_with fail;refine e9.mono ?_;rintro e W4 ⟨q,n,c,t,rfl,h3,hl,hP,⟨k4,b4,h4⟩,P⟩;have r5:=w8.o W4 (Y.o.trans P);obtain⟨g0,g1,z0,z1⟩:=res2 r5
  have HF:Hid (MSt w0 pb po co kp kc T L all w ((y.1,0),y.2) (.returned (.agg #[.slice q n c,.int .i64 0])) (put2 W4 w.heap.size (.slice q n c) (.int .i64 0))):=
   mst_put C.o.1 ⟨C.o.2.1,Nat.le_refl _⟩ r5 h3 hl hP h4 (w9.o.2.trans (Y.o.trans P))
  unfold put2 at HF
  clear h4 P e9 r5 h3 hP;go_wp2_with fail;obtain⟨a0,a1⟩:=set2 g0 g1 (.slice q n c) (.int .i64 0);refine bodyPost_ret (v:=.agg #[.slice q n c,.int .i64 0]) (by simp[results,Tryz.results93,go_sem,a0,a1]) rfl ?_;exact HF.o
 replace h7:s.isP [91]=false:=by simpa using h7
 by_cases e8:s.isP [123]=true
 ·by_cases f9:s.tk.isP [125]=true
  ·have j:s.ts≠[]:=isP_ne e8
   have A:Hid (∀ W,Below a.heap.size a W->W.cell? ⟨pb,2,none⟩=some (.int .i64 k)/\W.frozen? ⟨pb,2,none⟩=false/\MS w0 pb po co kp kc T L all s.tk (k+1) b (W.setCell ⟨pb,2,none⟩ (.int .i64 ((k:Int)+1)))):=fun W J=>⟨(d.below J).c2,(d.below J).fz 2,(d.below J).adv E.lt j⟩
   have b8:=h.kl;have b1:=E.len;have c6:IntKind.i64.wrap ((k:Int)+1)=(k:Int)+1:=wrapM (by omega) (by omega)
   have w1:s.tk.ts.length<f:=by have h1:=tk_len s;have h2:=ne_len j;omega
   rw[hp] at e5;have g4:Hid (s.isP [91]=false):=h7;have g8:Hid (s.isP [123]=true):=e8
   have i6:sttR (rdR T L f) T L z s=(((curR (rdR T L f) L s.tk).1,0),(curR (rdR T L f) L s.tk).2):=by rw[c5 (a2 _ e8)];unfold braR;rw[if_neg (by rw[hp];decide),if_neg (by rw[h7];decide),if_pos e8]
   rw[i6]
   have hv:curR (rdR T L f) L s.tk=(atmT [123,125],s.tk.tk):=by unfold curR;rw[if_pos f9]
   rw[hv];have l2:Hid (s.tk.isP [125]=true):=f9
   have a9:Hid (∀ W,Calls Tryz.prog 147 #[.string ⟨#[123,125]⟩] W fun e w'=>∃ p,e = .returned (.slice p 1 1)/\OwnC w' W.heap.size p 1 1 [(2,0,[123,125])]/\Below W.heap.size W w'):=fun W=>by
    have:=l2atomM_any [123,125] (byte_small (by decide)) W (by decide);rw[show strOfNums [123,125]=⟨#[123,125]⟩ from rfl] at this;exact this
   generalize s.kd=x at HK c4
   obtain⟨x1,x2,x3,x4,x6⟩:=c4
   have j2:(x == 1)=false:=by simpa using x1
   have j3:(x == 2)=false:=by simpa using x2
   have j4:(x == 3)=false:=by simpa using x3
   have j5:(x == 4)=false:=by simpa using x4
   have j6:(x == 6)=false:=by simpa using x6
   clear h E H hf w5 eA w2 d w6 b9 f7 a5 a6 a7 f8 hv c5 a2 j w1 hp h7 e8 f9 i6 A c6
   go_enter Tryz.func93,Tryz.ntmps93
   go_wp2_with fail;rw[<-x7.o];refine(HK.o a (Below.refl _ _)).mono ?_;rintro e M ⟨rfl,i⟩;have R:=e5.o M i;have B:Hid (Below a.heap.size a M):=i;clear i HK e5;go_wp2_with fail;refine R.mono ?_;rintro e D ⟨rfl,k8⟩;have K:Below a.heap.size a D:=Below.on B.o k8;clear k8 R B;have h8:=x8.o s [91] ⟨#[91]⟩ rfl (byte_small (by decide)) k b D (d8.o D K);rw[g4.o,if_neg (by decide)] at h8;have N:Hid (MF pb a D):=MF.of pb K;clear K d8;go_wp2_with fail;refine h8.mono ?_;rintro e W3 ⟨rfl,⟨k3,b3,k9⟩,e7⟩;have e9:=x8.o s [123] ⟨#[123]⟩ rfl (byte_small (by decide)) k3 b3 W3 k9;have Y:Hid (MF pb a W3):=N.o.trans e7;clear k9 e7 h8 N;rw[g8.o,if_pos rfl] at e9;go_wp2_with fail;refine e9.mono ?_;rintro e W4 ⟨rfl,⟨k4,b4,h4⟩,P⟩;have h6:=x8.o s.tk [125] ⟨#[125]⟩ rfl (byte_small (by decide)) k4 b4 W4 h4
   have d6:Hid (MF pb a W4):=Y.o.trans P;clear h4 P e9 Y x8;rw[l2.o,if_pos rfl] at h6;go_wp2_with fail;refine h6.mono ?_;rintro e W5 ⟨rfl,⟨k5,b5,x5⟩,Q⟩;have d5:=a9.o W5
   have c7:Hid (MS w0 pb po co kp kc T L all s.tk.tk k5 b5 W5/\MF pb a W5):=⟨x5,d6.o.trans Q⟩
   clear x5 Q h6 d6 a9;go_wp2_with fail;refine d5.mono ?_;rintro e W6 ⟨q,rfl,ho,a4⟩;have r6:=w8.o W6 (c7.o.2.below a4);obtain⟨g0,g1,z0,z1⟩:=res2 r6
   have HF:Hid (MSt w0 pb po co kp kc T L all w ((atmT [123,125],0),s.tk.tk) (.returned (.agg #[.slice q 1 1,.int .i64 0])) (put2 W6 w.heap.size (.slice q 1 1) (.int .i64 0))):=
    mst_put (t:=[(2,0,[123,125])]) C.o.1 ⟨C.o.2.1,Nat.le_refl _⟩ r6 (ho.ct (Nat.lt_of_lt_of_le C.o.1 c7.o.1.mf.size) (by decide)) (by simp) (fun _=>rfl) (c7.o.1.below a4) ((w9.o.2.trans c7.o.2).below a4)
   unfold put2 at HF
   clear ho a4 d5 r6;go_wp2_with fail;obtain⟨a0,a1⟩:=set2 g0 g1 (.slice q 1 1) (.int .i64 0);refine bodyPost_ret (v:=.agg #[.slice q 1 1,.int .i64 0]) (by simp[results,Tryz.results93,go_sem,a0,a1]) rfl ?_;exact HF.o
  replace f9:s.tk.isP [125]=false:=by simpa using f9
  have j:s.ts≠[]:=isP_ne e8
  have A:Hid (∀ W,Below a.heap.size a W->W.cell? ⟨pb,2,none⟩=some (.int .i64 k)/\W.frozen? ⟨pb,2,none⟩=false/\MS w0 pb po co kp kc T L all s.tk (k+1) b (W.setCell ⟨pb,2,none⟩ (.int .i64 ((k:Int)+1)))):=fun W J=>⟨(d.below J).c2,(d.below J).fz 2,(d.below J).adv E.lt j⟩
  have b8:=h.kl;have b1:=E.len;have c6:IntKind.i64.wrap ((k:Int)+1)=(k:Int)+1:=wrapM (by omega) (by omega)
  have w1:s.tk.ts.length<f:=by have h1:=tk_len s;have h2:=ne_len j;omega
  rw[hp] at e5;have g4:Hid (s.isP [91]=false):=h7;have g8:Hid (s.isP [123]=true):=e8
  have i6:sttR (rdR T L f) T L z s=(((curR (rdR T L f) L s.tk).1,0),(curR (rdR T L f) L s.tk).2):=by rw[c5 (a2 _ e8)];unfold braR;rw[if_neg (by rw[hp];decide),if_neg (by rw[h7];decide),if_pos e8]
  rw[i6]
  have w3:Hid (∀ (k':Nat) (b':Int) (W:World),MS w0 pb po co kp kc T L all s.tk k' b' W->Calls Tryz.prog 53 #[ptrM pb,.int .i64 1200] W (MRd w0 pb po co kp kc T L all W (rdR T L f 1200 s.tk))):=fun k' b' W hs=>H 1200 _ k' b' W hs w1
  have d9:Hid (∀ (s':RS) (k':Nat) (b':Int) (W:World),MS w0 pb po co kp kc T L all s' k' b' W->Calls Tryz.prog 144 #[ptrM pb,.string ⟨#[125]⟩] W (MUnit w0 pb po co kp kc T L all W (s'.must L [125]) (.tuple #[]))):=fun s' k' b' W hs=>l4want_any E hs [125] ⟨#[125]⟩ rfl (byte_small (by decide))
  have hv:curR (rdR T L f) L s.tk=(cmpT [123,125] [(rdR T L f 1200 s.tk).1],(rdR T L f 1200 s.tk).2.must L [125]):=by unfold curR;rw[if_neg (by rw[f9];decide)];rfl
  rw[hv];have l2:Hid (s.tk.isP [125]=false):=f9
  generalize rdR T L f 1200 s.tk=y at w3 ⊢
  have o2:=conv_cur
  generalize s.kd=x at HK c4
  obtain⟨x1,x2,x3,x4,x6⟩:=c4
  have j2:(x == 1)=false:=by simpa using x1
  have j3:(x == 2)=false:=by simpa using x2
  have j4:(x == 3)=false:=by simpa using x3
  have j5:(x == 4)=false:=by simpa using x4
  have j6:(x == 6)=false:=by simpa using x6
  clear h E H hf w5 eA w2 d w6 b9 f7 a5 a6 a7 f8 hv c5 a2 j w1 hp h7 e8 f9 i6 A c6
  go_enter Tryz.func93,Tryz.ntmps93
  go_wp2_with fail;rw[<-x7.o];refine(HK.o a (Below.refl _ _)).mono ?_;rintro e M ⟨rfl,i⟩;have R:=e5.o M i;have B:Hid (Below a.heap.size a M):=i;clear i HK e5;go_wp2_with fail;refine R.mono ?_;rintro e D ⟨rfl,k8⟩;have K:Below a.heap.size a D:=Below.on B.o k8;clear k8 R B;have h8:=x8.o s [91] ⟨#[91]⟩ rfl (byte_small (by decide)) k b D (d8.o D K);rw[g4.o,if_neg (by decide)] at h8;have N:Hid (MF pb a D):=MF.of pb K;clear K d8;go_wp2_with fail;refine h8.mono ?_;rintro e W3 ⟨rfl,⟨k3,b3,k9⟩,e7⟩;have e9:=x8.o s [123] ⟨#[123]⟩ rfl (byte_small (by decide)) k3 b3 W3 k9;have Y:Hid (MF pb a W3):=N.o.trans e7;clear k9 e7 h8 N;rw[g8.o,if_pos rfl] at e9;go_wp2_with fail;refine e9.mono ?_;rintro e W4 ⟨rfl,⟨k4,b4,h4⟩,P⟩;have h6:=x8.o s.tk [125] ⟨#[125]⟩ rfl (byte_small (by decide)) k4 b4 W4 h4
  have d6:Hid (MF pb a W4):=Y.o.trans P;clear h4 P e9 Y x8;rw[l2.o,if_neg (by decide)] at h6;go_wp2_with fail;refine h6.mono ?_;rintro e W5 ⟨rfl,⟨k5,b5,x5⟩,Q⟩;have d5:=w3.o k5 b5 W5 x5;have m3:Hid (MF pb a W5):=d6.o.trans Q;clear x5 Q h6 d6 w3;go_wp2_with fail;refine d5.mono ?_;rintro e W6 ⟨q,n,c,t,p6,rfl,h3,hl,hcut,⟨k6,b6,n3⟩,m7⟩;have l9:=d9.o y.2 k6 b6 W6 n3
  have g9:Hid (CT W6 pb q n c t/\t.length<=2001/\(y.2.ft=none->Cut t (itC y.1))/\MF pb a W6):=⟨h3,hl,hcut,m3.o.trans m7⟩
  clear h3 hl hcut n3 m7 d5 m3 d9;go_wp2_with fail;refine l9.mono ?_;rintro e W7 ⟨rfl,⟨k7,b7,l7⟩,l6⟩
  have i1:Hid (CT W7 pb q n c t/\t.length<=2001/\(y.2.ft=none->Cut t (itC y.1))/\MF pb a W7):=⟨g9.o.1.move l6.sf,g9.o.2.1,g9.o.2.2.1,g9.o.2.2.2.trans l6⟩
  have n7:Hid (MS w0 pb po co kp kc T L all (y.2.must L [125]) k7 b7 W7):=l7
  obtain⟨U,eU⟩:∃ U,U=W7.alloc (.cells #[.int .u8 123,.int .u8 125] 5 (2,3)):=⟨_,rfl⟩
  have l3:Below W7.heap.size W7 U:=by rw[eU];exact(Below.refl _ _).alloc (Nat.le_refl _) _
  obtain⟨V,eV⟩:∃ V,V=U.alloc (.cells #[.slice q n c] 25):=⟨_,rfl⟩
  have e6:Below U.heap.size U V:=by rw[eV];exact(Below.refl _ _).alloc (Nat.le_refl _) _
  have l4:Below W7.heap.size W7 V:=Below.on l3 e6;have n1:pb<W7.heap.size:=Nat.lt_of_lt_of_le C.o.1 l7.mf.size
  have n5:BK V pb (some ⟨W7.heap.size,0,none⟩) [123,125]:=by
   have h9:OwnT U W7.heap.size (some ⟨W7.heap.size,0,none⟩) 2 2 [123,125]:=by rw[eU];exact cur_text W7
   exact(h9.below e6).bk fun g h1 _=>by omega
  have n4:U.heap.size=W7.heap.size+1:=by rw[eU];simp
  have m1:Hid (Calls Tryz.prog 97 #[.agg #[.int .i64 3,.int .i64 1,.slice (some ⟨W7.heap.size,0,none⟩) 2 2],.slice (some ⟨W7.heap.size+1,0,none⟩) 1 1] V fun e w'=>∃ r m cr,e = .returned (.slice r m cr)/\CT w' pb r m cr (((3,1,[123,125]) :: [t].flatten).take 2001)/\m<=2001/\Below V.heap.size V w'):=by
   refine l4join_any (Nat.lt_of_lt_of_le n1 l4.size) 3 1 _ 2 2 [123,125] rfl n5 _ 1 1 [t] rfl (by decide) (fun u hu=>by rw[List.mem_singleton.1 hu];exact i1.o.2.1) ?_;have h9:=arow_one (i1.o.1.move (SF.of pb l3));rw[n4,<-eV] at h9;exact h9
  have n6:Hid (Below W7.heap.size W7 V):=l4
  have n8:Hid (V=(W7.alloc (.cells #[.int .u8 123,.int .u8 125] 5 (2,3))).alloc (.cells #[.slice q n c] 25)):=by show _=_;rw[eV,eU]
  clear l7 l6 l9 g9 eU l3 eV e6 l4 n1 n5 n4;go_wp2_with fail;rw[<-n8.o];refine m1.o.mono ?_;rintro e W8 ⟨r,m,cr,rfl,i4,o1,m5⟩;have i9:Below W7.heap.size W7 W8:=Below.on n6.o m5;have r8:=w8.o W8 (i1.o.2.2.2.below i9);obtain⟨g0,g1,z0,z1⟩:=res2 r8
  have HF:Hid (MSt w0 pb po co kp kc T L all w ((cmpT [123,125] [y.1],0),y.2.must L [125]) (.returned (.agg #[.slice r m cr,.int .i64 0])) (put2 W8 w.heap.size (.slice r m cr) (.int .i64 0))):=
   mst_put C.o.1 ⟨C.o.2.1,Nat.le_refl _⟩ r8 i4 (by rw[<-i4.1];exact o1) (fun h0=>join_cut (n:=1) (tss:=[t]) (xs:=[y.1]) rfl ⟨i1.o.2.2.1 (fk_must L [125] y.2 h0),trivial⟩) (n7.o.below i9) ((w9.o.2.trans i1.o.2.2.2).below i9)
  unfold put2 at HF
  clear i4 m5 i9 r8 m1;go_wp2_with fail;obtain⟨a0,a1⟩:=set2 g0 g1 (.slice r m cr) (.int .i64 0);refine bodyPost_ret (v:=.agg #[.slice r m cr,.int .i64 0]) (by simp[results,Tryz.results93,go_sem,a0,a1]) rfl ?_;exact HF.o
 replace e8:s.isP [123]=false:=by simpa using e8
 rw[hp] at e5;have g4:Hid (s.isP [91]=false):=h7;have g8:Hid (s.isP [123]=false):=e8
 have hv:sttR (rdR T L f) T L z s=((nilT,0),s.stop L):=by
  by_cases h5:s.kd=5
  ·rw[c5 h5];unfold braR;rw[if_neg (by rw[hp];decide),if_neg (by rw[h7];decide),if_neg (by rw[e8];decide)]
  ·unfold sttR;rw[if_neg a6,if_neg a5,if_neg a7,if_neg f8,if_neg h5,if_neg f7]
 rw[hv]
 have j7:Hid (∀ W k' b',MS w0 pb po co kp kc T L all s k' b' W->Calls Tryz.prog 27 #[ptrM pb] W (MUnit w0 pb po co kp kc T L all W (s.stop L) (.tuple #[]))):=fun W k' b' hs=>l4stop_any E hs
 have a9:Hid (∀ W,Calls Tryz.prog 147 #[.string ⟨#[91,93]⟩] W fun e w'=>∃ p,e = .returned (.slice p 1 1)/\OwnC w' W.heap.size p 1 1 [(2,0,[91,93])]/\Below W.heap.size W w'):=fun W=>by
  have:=l2atomM_any [91,93] (byte_small (by decide)) W (by decide);rw[show strOfNums [91,93]=⟨#[91,93]⟩ from rfl] at this;exact this
 generalize s.kd=x at HK c4
 obtain⟨x1,x2,x3,x4,x6⟩:=c4
 have j2:(x == 1)=false:=by simpa using x1
 have j3:(x == 2)=false:=by simpa using x2
 have j4:(x == 3)=false:=by simpa using x3
 have j5:(x == 4)=false:=by simpa using x4
 have j6:(x == 6)=false:=by simpa using x6
 clear h E H hf w5 eA w2 d w6 b9 f7 a5 a6 a7 f8 hv c5 a2 hp h7 e8
 go_enter Tryz.func93,Tryz.ntmps93
 go_wp2_with fail;rw[<-x7.o];refine(HK.o a (Below.refl _ _)).mono ?_;rintro e M ⟨rfl,i⟩;have R:=e5.o M i;have B:Hid (Below a.heap.size a M):=i;clear i HK e5;go_wp2_with fail;refine R.mono ?_;rintro e D ⟨rfl,k8⟩;have K:Below a.heap.size a D:=Below.on B.o k8;clear k8 R B;have h8:=x8.o s [91] ⟨#[91]⟩ rfl (byte_small (by decide)) k b D (d8.o D K);rw[g4.o,if_neg (by decide)] at h8;have N:Hid (MF pb a D):=MF.of pb K;clear K d8;go_wp2_with fail;refine h8.mono ?_;rintro e W3 ⟨rfl,⟨k3,b3,k9⟩,e7⟩;have e9:=x8.o s [123] ⟨#[123]⟩ rfl (byte_small (by decide)) k3 b3 W3 k9;have Y:Hid (MF pb a W3):=N.o.trans e7;clear k9 e7 h8 N;rw[g8.o,if_neg (by decide)] at e9;go_wp2_with fail;refine e9.mono ?_;rintro e W4 ⟨rfl,⟨k4,b4,h4⟩,P⟩;have h6:=j7.o W4 k4 b4 h4
 have d6:Hid (MF pb a W4):=Y.o.trans P;clear h4 P e9 Y x8 j7;go_wp2_with fail;refine h6.mono ?_;rintro e W5 ⟨rfl,⟨k5,b5,x5⟩,Q⟩;have d5:=a9.o W5
 have c7:Hid (MS w0 pb po co kp kc T L all (s.stop L) k5 b5 W5/\MF pb a W5):=⟨x5,d6.o.trans Q⟩
 clear x5 Q h6 d6 a9;go_wp2_with fail;refine d5.mono ?_;rintro e W6 ⟨q,rfl,ho,a4⟩;have r6:=w8.o W6 (c7.o.2.below a4);obtain⟨g0,g1,z0,z1⟩:=res2 r6
 have HF:Hid (MSt w0 pb po co kp kc T L all w ((nilT,0),s.stop L) (.returned (.agg #[.slice q 1 1,.int .i64 0])) (put2 W6 w.heap.size (.slice q 1 1) (.int .i64 0))):=
  mst_put (t:=[(2,0,[91,93])]) C.o.1 ⟨C.o.2.1,Nat.le_refl _⟩ r6 (ho.ct (Nat.lt_of_lt_of_le C.o.1 c7.o.1.mf.size) (by decide)) (by simp) (fun _=>rfl) (c7.o.1.below a4) ((w9.o.2.trans c7.o.2).below a4)
 unfold put2 at HF
 clear ho a4 d5 r6;go_wp2_with fail;obtain⟨a0,a1⟩:=set2 g0 g1 (.slice q 1 1) (.int .i64 0);refine bodyPost_ret (v:=.agg #[.slice q 1 1,.int .i64 0]) (by simp[results,Tryz.results93,go_sem,a0,a1]) rfl ?_;exact HF.o
end
end Go.Proofs.YtlkhmmoimplokaaGreatDoor
