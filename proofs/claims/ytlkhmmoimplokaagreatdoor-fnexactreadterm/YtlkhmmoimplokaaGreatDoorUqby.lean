/- Texts of MdM. Own work of the verifier. -/
import Derived.Test.YtlkhmmoimplokaaGreatDoorUqbu
namespace Go.Proofs.YtlkhmmoimplokaaGreatDoor
set_option maxRecDepth 100000
set_option maxHeartbeats 8000000
open Go Go.RowKit
set_option linter.unusedVariables false
set_option linter.unusedSimpArgs false
section
variable {w0:World}{pb:Nat}{po:Option Addr}{co:Nat}{kp:Option Addr}{kc:Nat}{T:List Cel}{L:Int}{all:List Tok}{s:RS}{k:Nat}{b:Int}{w:World}
theorem l4atom_any (E:MEnv w0 pb po co kp kc T L all){f:Nat}(H:MOk w0 pb po co kp kc T L all f)(h:MS w0 pb po co kp kc T L all s k b w)(hf:s.ts.length<=f)(o7:s.kd=1)(D:Int) :
  Calls Tryz.prog 139 #[ptrM pb,.int .i64 D] w (MSt w0 pb po co kp kc T L all w (namR (rdR T L f) T L D s)):=by
 have g5:=kd_ne o7 (by decide);have y5:=ne_len g5;have l8:=tk_len s;obtain⟨n9,t1,t,f9,g8⟩:=h.head g5;obtain⟨j,p,c,rfl,I⟩:=E.tok _ _ f9
 have hx:s.tx=t.2:=by unfold RS.tx;rw[g8]
 have p2:s.pl 0=t.1.2.1:=by unfold RS.pl;rw[g8]
 have a6:s.ln=t.1.2.2.1:=by unfold RS.ln;rw[g8]
 have ht:=E.tg t (List.mem_of_getElem? f9)
 have x4:Hid (∀ W,SF pb w0 W->BK W pb p t.2):=fun W hS W' B2=>(I W' (hS.trans B2)).2.2.2.2.2
 have C3:pb<w.heap.size:=Nat.lt_of_lt_of_le E.lt h.mf.size
 have K:Hid (pb<w0.heap.size/\w0.heap.size<=w.heap.size/\pb<w.heap.size):=⟨E.lt,h.mf.size,C3⟩
 obtain⟨d0,d1,d2,d3,d4,_⟩:=I w h.mf.sf;have c1:=h.c1;have c2:=h.c2;have z2:=h.fz 2;have B7:=h.kl;have B5:=E.len;have s8:=E.cap
 obtain⟨n,en⟩:∃ n,n=all.length:=⟨_,rfl⟩
 have hn:k<n:=by rw[en];exact(List.getElem?_eq_some_iff.1 f9).1
 rw[<-en] at c1 B7 B5 s8
 have D2:(0:Int)<=(k:Int):=by omega
 have D3:(k:Int)<(n:Int):=by omega
 have D7:IntKind.i64.wrap ((k:Int)+1)=(k:Int)+1:=wrapM (by omega) (by omega)
 obtain⟨V,eV⟩:∃ V,V=((w.alloc (prtO (.slice none 0 0) (.int .i64 0))).alloc (.cells #[.int .i64 t.1.1,.int .i64 t.1.2.1,.int .i64 t.1.2.2.1,.slice p t.2.length c,.int .i64 t.1.2.2.2] 86)).drew:=⟨_,rfl⟩
 have C:Below w.heap.size w V:=by rw[eV];exact(Below.on ((Below.refl _ _).alloc (Nat.le_refl _) _) ((Below.refl _ _).alloc (Nat.le_refl _) _)).drew
 have v9:V.heap.size=w.heap.size+2:=by rw[eV];show((w.alloc _).alloc _).heap.size=_;simp
 have i8:Hid (V.heap[w.heap.size]?=some (prtO (.slice none 0 0) (.int .i64 0))/\V.heap[w.heap.size+1]?=some (.cells #[.int .i64 t.1.1,.int .i64 t.1.2.1,.int .i64 t.1.2.2.1,.slice p t.2.length c,.int .i64 t.1.2.2.2] 86)):=by
  rw[eV];refine⟨?_,?_⟩
  ·show((w.alloc _).alloc _).heap[_]?=_
   rw[Below.heap_alloc _ _ _ (by simp)];exact heap_alloc_new _ _
  ·show((w.alloc _).alloc _).heap[_]?=_
   have:=heap_alloc_new (w.alloc (prtO (.slice none 0 0) (.int .i64 0))) (.cells #[.int .i64 t.1.1,.int .i64 t.1.2.1,.int .i64 t.1.2.2.1,.slice p t.2.length c,.int .i64 t.1.2.2.2] 86)
   rwa[World.size_alloc] at this
 have c5:=(h.below C).adv E.lt g5;have v2:=(h.below C).c2;have D9:=(h.below C).fz 2
 have P:Hid (MS w0 pb po co (some ⟨j,0,none⟩) kc T L all s.tk (k+1) b (V.setCell ⟨pb,2,none⟩ (.int .i64 ((k:Int)+1)))/\MF pb w (V.setCell ⟨pb,2,none⟩ (.int .i64 ((k:Int)+1)))):=⟨c5,(MF.of pb C).trans (.set _ _ _ _)⟩
 have HK:Hid (∀ W,Below (V.setCell ⟨pb,2,none⟩ (.int .i64 ((k:Int)+1))).heap.size (V.setCell ⟨pb,2,none⟩ (.int .i64 ((k:Int)+1))) W->Calls Tryz.prog 54 #[ptrM pb,.int .i64 0] W fun e w'=>e = .returned (.int .i64 s.tk.kd)/\Below W.heap.size W w'):=l4kind0 E c5
 obtain⟨d,d8⟩:∃ d,d=V.setCell ⟨pb,2,none⟩ (.int .i64 ((k:Int)+1)):=⟨_,rfl⟩
 have i6:Hid (d.heap[w.heap.size]?=some (prtO (.slice none 0 0) (.int .i64 0))/\d.heap[w.heap.size+1]?=some (.cells #[.int .i64 t.1.1,.int .i64 t.1.2.1,.int .i64 t.1.2.2.1,.slice p t.2.length c,.int .i64 t.1.2.2.2] 86)):=by
  rw[d8];exact⟨(Below.heap_setCell _ _ _ _ (by show w.heap.size≠pb;omega)).trans i8.o.1,(Below.heap_setCell _ _ _ _ (by show w.heap.size+1≠pb;omega)).trans i8.o.2⟩
 have U:Hid (V=((w.alloc (prtO (.slice none 0 0) (.int .i64 0))).alloc (.cells #[.int .i64 t.1.1,.int .i64 t.1.2.1,.int .i64 t.1.2.2.1,.slice p t.2.length c,.int .i64 t.1.2.2.2] 86)).drew):=eV;have a8:Hid (d=V.setCell ⟨pb,2,none⟩ (.int .i64 ((k:Int)+1))):=d8;rw[<-d8] at P HK;have C7:Hid (b = -1):=n9
 have n6:∀ W,MF pb d W->W.heap[w.heap.size]?=some (prtO (.slice none 0 0) (.int .i64 0))/\W.heap[w.heap.size+1]?=some (.cells #[.int .i64 t.1.1,.int .i64 t.1.2.1,.int .i64 t.1.2.2.1,.slice p t.2.length c,.int .i64 t.1.2.2.2] 86):=fun W I=>⟨I.tag i6.o.1 (by decide) (by omega),I.tag i6.o.2 (by decide) (by omega)⟩
 have A:Hid (∀ W,MF pb d W->W.heap[w.heap.size]?=some (prtO (.slice none 0 0) (.int .i64 0))/\W.heap[w.heap.size+1]?=some (.cells #[.int .i64 t.1.1,.int .i64 t.1.2.1,.int .i64 t.1.2.2.1,.slice p t.2.length c,.int .i64 t.1.2.2.2] 86)):=n6;have A7:Hid (SF pb w0 w):=h.mf.sf;have D1:=fieldP0
 by_cases h6:s.tk.kd=6
 ·have g6:=kd_ne h6 (by decide)
  have p3:=tk_len s.tk;have B8:=ne_len g6
  have hv:namR (rdR T L f) T L D s=((cmpT s.tx (serR (rdR T L f) (s.tk.tk.ts.length+1) s.tk.tk).1,0),(serR (rdR T L f) (s.tk.tk.ts.length+1) s.tk.tk).2.must L [41]):=by unfold namR;rw[if_pos h6]
  rw[hv]
  have m9:Hid (∀ (k':Nat) (b':Int) (W:World),MS w0 pb po co (some ⟨j,0,none⟩) kc T L all s.tk.tk k' b' W->Calls Tryz.prog 174 #[ptrM pb] W (MTs w0 pb po co (some ⟨j,0,none⟩) kc T L all W (serR (rdR T L f) (s.tk.tk.ts.length+1) s.tk.tk))):=fun k' b' W hs=>l4terms_any E H hs (by omega)
  have s4:Hid (∀ (s':RS) (k':Nat) (b':Int) (W:World),MS w0 pb po co (some ⟨j,0,none⟩) kc T L all s' k' b' W->Calls Tryz.prog 144 #[ptrM pb,.string ⟨#[41]⟩] W (MUnit w0 pb po co (some ⟨j,0,none⟩) kc T L all W (s'.must L [41]) (.tuple #[]))):=fun s' k' b' W hs=>l4want_any E hs [41] ⟨#[41]⟩ rfl (byte_small (by decide))
  have k9:Hid (∀ W,Below d.heap.size d W->MS w0 pb po co (some ⟨j,0,none⟩) kc T L all s.tk.tk (k+1+1) b (W.setCell ⟨pb,2,none⟩ (.int .i64 ((k:Int)+1+1)))):=fun W I=>by
   have:=(P.o.1.below I).adv E.lt g6
   rwa[show((k+1:Nat):Int)+1=(k:Int)+1+1 by omega] at this
  rw[hx]
  generalize serR (rdR T L f) (s.tk.tk.ts.length+1) s.tk.tk=y at m9 ⊢
  rw[h6] at HK
  have t6:k+1<=n:=P.o.1.kl |> (fun h=>by rw[<-en] at h;exact h)
  have z4:IntKind.i64.wrap ((k:Int)+1+1)=(k:Int)+1+1:=wrapM (by omega) (by omega)
  obtain⟨tn,f6⟩:∃ tn,tn=t.1.2.2.2:=⟨_,rfl⟩
  obtain⟨tl,f5⟩:∃ tl,tl=t.1.2.2.1:=⟨_,rfl⟩
  obtain⟨ta,f3⟩:∃ ta,ta=t.1.2.1:=⟨_,rfl⟩
  obtain⟨tk,f4⟩:∃ tk,tk=t.1.1:=⟨_,rfl⟩
  obtain⟨F,b8⟩:∃ F,F=t.2:=⟨_,rfl⟩
  obtain⟨l,el⟩:∃ l,l=F.length:=⟨_,rfl⟩
  rw[<-f6] at d4 A U;rw[<-f5] at d2 A U;rw[<-f3] at d1 A U;rw[<-f4] at d0 A U;rw[<-b8] at d3 A U x4 ⊢;rw[<-el] at d3 A U;have a2:Hid (l=F.length):=el
  have j8:F.length<=100:=by rw[b8];exact ht.tx.2
  clear h E H hf o7 g5 y5 l8 n9 f9 g8 I hx p2 a6 ht eV C v9 i8 c5 d8 i6 n6 h6 g6 p3 B8 hv f6 f5 f3 f4 b8 el en t1
  go_enter Tryz.func139,Tryz.ntmps139
  go_wp2_with fail
  go_region_held3 (fun W=>W.cell? ⟨pb,1,none⟩=some (.slice (some ⟨j,0,none⟩) n kc)/\W.cell? ⟨pb,2,none⟩=some (.int .i64 k)/\W.cell? ⟨j,k * 5,none⟩=some (.int .i64 tk)/\W.cell? ⟨j,k * 5+1,none⟩=some (.int .i64 ta)/\W.cell? ⟨j,k * 5+2,none⟩=some (.int .i64 tl)/\W.cell? ⟨j,k * 5+3,none⟩=some (.slice p l c)/\W.cell? ⟨j,k * 5+4,none⟩=some (.int .i64 tn)) (go_keep) (fail)
  rw[<-U.o];go_wp2_with fail;rw[<-a8.o];refine(HK.o d (Below.refl _ _)).mono ?_;rintro e Y ⟨rfl,J⟩;have y2:=(P.o.1.below J).c2;have E1:=(P.o.1.below J).fz 2;have i9:Hid (MS w0 pb po co (some ⟨j,0,none⟩) kc T L all s.tk.tk (k+1+1) b (Y.setCell ⟨pb,2,none⟩ (.int .i64 ((k:Int)+1+1)))):=k9.o Y J;have r1:Hid (MF pb d (Y.setCell ⟨pb,2,none⟩ (.int .i64 ((k:Int)+1+1)))):=(MF.of pb J).trans (.set _ _ _ _);have m3:=m9.o _ _ _ i9.o;clear J HK k9 m9
  obtain⟨W3,n3⟩:∃ W3,W3=Y.setCell ⟨pb,2,none⟩ (.int .i64 ((k:Int)+1+1)):=⟨_,rfl⟩
  have A3:Hid (W3=Y.setCell ⟨pb,2,none⟩ (.int .i64 ((k:Int)+1+1))):=n3;rw[<-n3] at m3 r1 i9;have A6:Hid (pb<W3.heap.size):=Nat.lt_of_lt_of_le K.o.1 i9.o.mf.size;clear n3;go_wp2_with fail;rw[<-A3.o];refine m3.mono ?_;rintro e W4 ⟨pp,nn,cc,rs,a7,rfl,v6,C2,D4,a6,hcut,⟨k4,b4,v7⟩,t8⟩;have w9:=s4.o y.2 k4 b4 W4 v7;have d5:Hid (MF pb d W4):=r1.o.trans t8;have r5:Hid (TRw W4 pb W3.heap.size pp nn cc rs a7):=v6
  have q9:Hid ((∀ t ∈ a7,t.length<=2001)/\(y.2.ft=none->Cuts a7 (y.1.map itC))):=⟨a6,hcut⟩
  clear v6 a6 hcut v7 t8 m3 s4 i9;go_wp2_with fail;refine w9.mono ?_;rintro e W5 ⟨rfl,⟨k5,b5,j5⟩,o8⟩;have b1:Hid (MF pb d W5):=d5.o.trans o8;have i7:Hid (TRw W5 pb W3.heap.size pp nn cc rs a7):=r5.o.mf A6.o o8;have r7:Hid (MS w0 pb po co (some ⟨j,0,none⟩) kc T L all (y.2.must L [41]) k5 b5 W5):=j5;have l7:pb<W5.heap.size:=Nat.lt_of_lt_of_le K.o.1 j5.mf.size
  have x3:W5.cell? ⟨w.heap.size+1,3,none⟩=some (.slice p l c):=by unfold World.cell?;rw[(A.o W5 b1.o).2];rfl
  have c9:=l4join_any l7 3 nn p l c F a2.o (x4.o W5 j5.mf.sf) pp nn cc a7 i7.o.1 (by omega) q9.o.1 (i7.o.arow C2);have A5:Hid (nn=a7.length):=i7.o.1;clear j5 o8 w9 d5 r5 i7 l7;go_wp2_with fail;refine c9.mono ?_;rintro e W6 ⟨r,m,cr,rfl,o5,hm,x8⟩;obtain⟨g0,g1,z0,z1⟩:=res2 ((x8.block _ (Array.getElem?_eq_some_iff.1 (A.o W5 b1.o).1).1).trans (A.o W5 b1.o).1)
  have HF:Hid (MSt w0 pb po co (some ⟨j,0,none⟩) kc T L all w ((cmpT F y.1,0),y.2.must L [41]) (.returned (.agg #[.slice r m cr,.int .i64 0])) (put2 W6 w.heap.size (.slice r m cr) (.int .i64 0))):=
   mst_put K.o.1 ⟨K.o.2.1,Nat.le_refl _⟩ ((x8.block _ (Array.getElem?_eq_some_iff.1 (A.o W5 b1.o).1).1).trans (A.o W5 b1.o).1) o5 (by rw[<-o5.1];exact hm) (fun h0=>join_cut A5.o (q9.o.2 (fk_must L [41] y.2 h0))) (r7.o.below x8) ((P.o.2.trans b1.o).below x8)
  clear o5 x8 c9 b1 r7 x3
  unfold put2 at HF
  go_wp2_with fail;obtain⟨a0,a1⟩:=set2 g0 g1 (.slice r m cr) (.int .i64 0);refine bodyPost_ret (v:=.agg #[.slice r m cr,.int .i64 0]) (by simp[results,Tryz.results139,go_sem,a0,a1]) rfl ?_;exact HF.o
 ·have z3:namR (rdR T L f) T L D s=if negB s.tx (s.pl 0+s.ln) s.tk=true then((numT (-s.tk.nv),0),s.tk.tk) else if 0<=findW T s.tx true/\(opW T (findW T s.tx true)).1<=D/\s.tk.begins T=true then((cmpT s.tx [(rdR T L f (rightP (opW T (findW T s.tx true))) s.tk).1],(opW T (findW T s.tx true)).1),(rdR T L f (rightP (opW T (findW T s.tx true))) s.tk).2) else((atmT s.tx,0),s.tk):=by unfold namR;rw[if_neg h6]
  rw[z3,hx,p2,a6]
  obtain⟨u,eu⟩:∃ u,u=s.tk.kd:=⟨_,rfl⟩
  have e4:Hid (negB t.2 (t.1.2.1+t.1.2.2.1) s.tk=(decide (t.2 = [45]) && (decide (u=3) && decide (t.1.2.1+t.1.2.2.1=s.tk.pl 0)))):=by rw[eu];rfl
  have b2:Hid (u=3->∃ v:Tok,all[k+1]?=some v/\s.tk.pl 0=v.1.2.1/\s.tk.nv=v.1.2.2.2/\s.tk.ts≠[]/\(0<=v.1.2.2.2/\v.1.2.2.2<=1000000000000000)/\∀ W,SF pb w0 W->W.cell? ⟨j,(k+1) * 5+1,none⟩=some (.int .i64 v.1.2.1)/\W.cell? ⟨j,(k+1) * 5+4,none⟩=some (.int .i64 v.1.2.2.2)):=fun h3=>by
   have h5:s.tk.ts≠[]:=kd_ne (eu.symm.trans h3) (by decide);obtain⟨_,_,v,hv,y9⟩:=P.o.1.head h5;obtain⟨D8,q,cq,e,hq⟩:=E.tok _ _ hv
   cases e
   exact⟨v,hv,by unfold RS.pl;rw[y9],by unfold RS.nv;rw[y9],h5,(E.tg v (List.mem_of_getElem? hv)).nv,fun W I=>⟨(hq W I).2.1,(hq W I).2.2.2.2.1⟩⟩
  have x6:Hid (∀ W,SF pb w0 W->Calls Tryz.prog 120 #[.slice po T.length co,.slice p t.2.length c,.bool true] W fun e w'=>e = .returned (.int .i64 (findW T t.2 true))/\Below W.heap.size W w'):=fun W hS=>l3findM E p t.2.length c t.2 true rfl W hS (x4.o W hS).bin
  have h8:=findM_rng T t.2 true;have s9:True:=trivial;have y6:=E.tln
  obtain⟨sx,d9⟩:∃ sx,sx=strOfNums t.2:=⟨_,rfl⟩
  have x5:Hid (∀ W,SF pb w0 W->(convert 23 9 (.slice p t.2.length c)).run Tryz.prog W = .ok (.string sx) W):=fun W hS=>by
   rw[d9];exact conv_str (x4.o W hS).bin _ c rfl 9 Tryz.underlying9
  have B3:=ht.at_;have B9:=ht.ln;have o3:=ht.tx.1;have r3:Hid (t.2=t.2):=rfl
  have e5:Hid (∀ i:Nat,findW T t.2 true=(i:Int)->∃ b0 o0 q cq,po=some ⟨b0,o0,none⟩/\(∀ W,SF pb w0 W->W.cell? ⟨b0,o0+i * 3,none⟩=some (.slice q (opW T (findW T t.2 true)).2.2.length cq)/\W.cell? ⟨b0,o0+i * 3+1,none⟩=some (.int .i64 (opW T (findW T t.2 true)).1)/\W.cell? ⟨b0,o0+i * 3+2,none⟩=some (.int .i64 (opW T (findW T t.2 true)).2.1))/\0<=(opW T (findW T t.2 true)).1/\(opW T (findW T t.2 true)).1<=1200):=fun i hi=>by
   have o6:i<T.length:=by rcases h8 with h' | ⟨_,h'⟩ <;> omega
   have e:opW T (findW T t.2 true)=T[i]:=by unfold opW;rw[hi];simp[List.getD,o6]
   rw[e];obtain⟨b0,o0,q,cq,e0,hq⟩:=E.ops i T[i] (List.getElem?_eq_getElem o6);have hb:=(E.tab T[i] (List.getElem_mem o6)).1;exact⟨b0,o0,q,cq,e0,fun W I=>⟨(hq W I).1,(hq W I).2.1,(hq W I).2.2.1⟩,by omega,hb.2⟩
  have q5:Hid (∀ W,Below d.heap.size d W->Calls Tryz.prog 175 #[ptrM pb,.int .i64 0] W fun e w'=>e = .returned (.bool (s.tk.begins T))/\Below W.heap.size W w'):=fun W I=>l4begins_any E (P.o.1.below I)
  have m7:Hid (∀ (j9:Int) (W:World),Below d.heap.size d W->Calls Tryz.prog 53 #[ptrM pb,.int .i64 j9] W (MRd w0 pb po co (some ⟨j,0,none⟩) kc T L all W (rdR T L f j9 s.tk))):=fun j9 W I=>H j9 s.tk _ _ W (P.o.1.below I) (by omega)
  have b9:Hid (∀ (x:Int) (W:World),Calls Tryz.prog 140 #[.int .i64 x] W fun e w'=>e = .returned (.slice (some ⟨W.heap.size,0,none⟩) 1 1)/\OwnC w' W.heap.size (some ⟨W.heap.size,0,none⟩) 1 1 [(1,x,[])]/\Below W.heap.size W w'):=fun x W=>l2numM_any x W
  have k9:Hid (s.tk.ts≠[]->∀ W,Below d.heap.size d W->MS w0 pb po co (some ⟨j,0,none⟩) kc T L all s.tk.tk (k+1+1) b (W.setCell ⟨pb,2,none⟩ (.int .i64 (((k+1:Nat):Int)+1)))):=fun h5 W I=>(P.o.1.below I).adv E.lt h5
  have B:Hid (∀ W,Below d.heap.size d W->SF pb w0 W/\W.cell? ⟨pb,0,none⟩=some (.slice po T.length co)/\W.cell? ⟨pb,1,none⟩=some (.slice (some ⟨j,0,none⟩) all.length kc)/\W.cell? ⟨pb,2,none⟩=some (.int .i64 ((k+1:Nat):Int))/\W.frozen? ⟨pb,2,none⟩=false):=fun W I=>⟨(P.o.1.mf.below I).sf,(P.o.1.below I).c0,(P.o.1.below I).c1,(P.o.1.below I).c2,(P.o.1.below I).fz 2⟩
  have t6:k+1<=n:=P.o.1.kl |> (fun h=>by rw[<-en] at h;exact h)
  have e3:Hid (∀ v:Tok,all[k+1]?=some v->k+1<n):=fun v hv=>by rw[en];exact(List.getElem?_eq_some_iff.1 hv).1
  rw[<-en] at B;rw[<-eu] at HK h6
  have C8:(u == 6)=false:=by simpa using h6
  obtain⟨tn,f6⟩:∃ tn,tn=t.1.2.2.2:=⟨_,rfl⟩
  obtain⟨tl,f5⟩:∃ tl,tl=t.1.2.2.1:=⟨_,rfl⟩
  obtain⟨ta,f3⟩:∃ ta,ta=t.1.2.1:=⟨_,rfl⟩
  obtain⟨tk,f4⟩:∃ tk,tk=t.1.1:=⟨_,rfl⟩
  obtain⟨F,b8⟩:∃ F,F=t.2:=⟨_,rfl⟩
  obtain⟨l,el⟩:∃ l,l=F.length:=⟨_,rfl⟩
  rw[<-f6] at d4 A U;rw[<-f5] at d2 A U e4 B9 ⊢;rw[<-f3] at d1 A U e4 B3 ⊢;rw[<-f4] at d0 A U;rw[<-b8] at d3 A U x4 e4 x6 h8 x5 d9 o3 r3 e5 ⊢;rw[<-el] at d3 A U x5 x6;have a2:Hid (l=F.length):=el
  have j8:F.length<=100:=by rw[b8];exact ht.tx.2
  have q8:Hid (n=all.length):=en
  obtain⟨M,n4⟩:∃ M,M=k+1:=⟨_,rfl⟩
  rw[<-n4] at B b2 e3 k9 t6;have l2:IntKind.i64.wrap (ta+tl)=ta+tl:=wrapM (by omega) (by omega)
  have e8:F = [45]->sx=⟨#[45]⟩:=fun e=>by rw[d9,e];rfl
  have e9:F≠[45]->¬ sx.toList = [45]:=fun e e2=>by
   have:=strM_ne (m:=[45]) o3 (byte_small (by decide)) d9 e;rw[e2] at this;simp[show(strOfNums [45])=⟨#[45]⟩ from rfl] at this
  have h1:Hid (∀ W,MF pb d W->W.cell? ⟨w.heap.size+1,1,none⟩=some (.int .i64 ta)/\W.cell? ⟨w.heap.size+1,2,none⟩=some (.int .i64 tl)/\W.cell? ⟨w.heap.size+1,3,none⟩=some (.slice p l c)):=fun W I=>⟨by unfold World.cell?;rw[(A.o W I).2];rfl,by unfold World.cell?;rw[(A.o W I).2];rfl,by unfold World.cell?;rw[(A.o W I).2];rfl⟩
  have h7:Hid (MS w0 pb po co (some ⟨j,0,none⟩) kc T L all s.tk M b d/\MF pb w d):=by rw[n4];exact P.o
  obtain⟨N,b6⟩:∃ N,N=T.length:=⟨_,rfl⟩
  have A8:Hid (T.length=N):=b6.symm;rw[<-b6] at B h8 y6 x6;clear h E H hf o7 g5 y5 l8 n9 f9 g8 I hx p2 a6 ht eV C v9 i8 c5 d8 i6 n6 z3 f6 f5 f3 f4 b8 el en t1 eu r3 s9 n4 P b6 d9 o3
  have o4:(F = [45]/\u=3/\ta+tl=s.tk.pl 0)∨F≠[45]∨(F = [45]/\u≠3)∨(F = [45]/\u=3/\ta+tl≠s.tk.pl 0):=by
   by_cases a:F = [45]
   ·by_cases b:u=3
    ·by_cases c:ta+tl=s.tk.pl 0
     ·exact .inl ⟨a,b,c⟩
     ·exact .inr (.inr (.inr ⟨a,b,c⟩))
    ·exact .inr (.inr (.inl ⟨a,b⟩))
   ·exact .inr (.inl a)
  rcases o4 with ⟨h45,h3,h4⟩ | h45 | ⟨h45,h3⟩ | ⟨h45,h3,h4⟩
  ·have hR:negB F (ta+tl) s.tk=true:=by rw[e4.o];simp[h45,h3,h4]
   rw[hR,if_pos rfl];have hy:=e8 h45;subst hy;rw[h3] at HK;obtain⟨v,hv,i1,j7,h5,j6,w2⟩:=b2.o h3;have g4:=e3.o v hv
   have g9:v.1.2.1=ta+tl:=by rw[<-i1,h4]
   rw[j7];rw[g9] at w2
   obtain⟨ua,a4⟩:∃ ua,ua=ta+tl:=⟨_,rfl⟩
   obtain⟨vn,n5⟩:∃ vn,vn=v.1.2.2.2:=⟨_,rfl⟩
   rw[<-a4,<-n5] at w2;rw[<-n5] at j6 ⊢
   have B4:IntKind.i64.wrap (ta+tl)=ua:=by rw[l2,a4]
   have b3:Hid (∀ W,SF pb w0 W->W.cell? ⟨j,M * 5+1,none⟩=some (.int .i64 ua)/\W.cell? ⟨j,M * 5+4,none⟩=some (.int .i64 vn)):=w2;have l1:Hid (∀ W,Below d.heap.size d W->MS w0 pb po co (some ⟨j,0,none⟩) kc T L all s.tk.tk (M+1) b (W.setCell ⟨pb,2,none⟩ (.int .i64 ((M:Int)+1)))):=k9.o h5
   have t3:(0:Int)<=(M:Int):=by omega
   have t4:(M:Int)<(n:Int):=by omega
   have C6:IntKind.i64.wrap ((M:Int)+1)=(M:Int)+1:=wrapM (by omega) (by omega)
   have z4:IntKind.i64.wrap ((M:Int)+1-1)=(M:Int):=by rw[wrapM (by omega) (by omega)];omega
   have z5:IntKind.i64.wrap (M:Int)=(M:Int):=wrapM (by omega) (by omega);have C4:IntKind.i64.wrap (-vn) = -vn:=wrapM (by omega) (by omega);have a9:Hid (∀ W,Below d.heap.size d W->Calls Tryz.prog 54 #[ptrM pb,.int .i64 0] W fun e w'=>e = .returned (.int .i64 3)/\Below W.heap.size W w'):=HK.o;clear hR hv i1 j7 h5 w2 g9 a4 n5 b2 e4 e3 g4 k9 h45 h3 h4 e8 e9 x6 h8 e5 q5 m7 y6 l2 j6
   go_enter Tryz.func139,Tryz.ntmps139
   go_wp2_with fail
   go_region_held3 (fun W=>W.cell? ⟨pb,1,none⟩=some (.slice (some ⟨j,0,none⟩) n kc)/\W.cell? ⟨pb,2,none⟩=some (.int .i64 k)/\W.cell? ⟨j,k * 5,none⟩=some (.int .i64 tk)/\W.cell? ⟨j,k * 5+1,none⟩=some (.int .i64 ta)/\W.cell? ⟨j,k * 5+2,none⟩=some (.int .i64 tl)/\W.cell? ⟨j,k * 5+3,none⟩=some (.slice p l c)/\W.cell? ⟨j,k * 5+4,none⟩=some (.int .i64 tn)) (go_keep) (fail)
   rw[<-U.o];go_wp2_with fail;rw[<-a8.o];refine(HK.o d (Below.refl _ _)).mono ?_;rintro e Y ⟨rfl,J⟩;obtain⟨Z,e0,e1,e2,ez⟩:=B.o Y J;obtain⟨x1,x2,x3⟩:=h1.o Y (MF.of pb J);have p6:=(b3.o Y Z).1;have p5:=x5.o Y.drew (Z.trans (SF.of pb (Below.refl _ _).drew));have k2:Hid (Below d.heap.size d Y):=J;clear HK Z J;go_wp2_with fail
   go_region_held3 (fun W=>(convert 23 9 (.slice p l c)).run Tryz.prog W = .ok (.string ⟨#[45]⟩) W/\W.cell? ⟨pb,1,none⟩=some (.slice (some ⟨j,0,none⟩) n kc)/\W.cell? ⟨pb,2,none⟩=some (.int .i64 M)/\W.cell? ⟨j,M * 5+1,none⟩=some (.int .i64 ua)/\W.cell? ⟨w.heap.size+1,1,none⟩=some (.int .i64 ta)/\W.cell? ⟨w.heap.size+1,2,none⟩=some (.int .i64 tl)/\W.cell? ⟨w.heap.size+1,3,none⟩=some (.slice p l c)) (first | exact i2 | go_keep)
    ((go_at_call 54;refine(a9.o _ k2.o.drew).mono ?_;rintro e G ⟨rfl,x9⟩;have g2:Below d.heap.size d G:=Below.on k2.o.drew x9;obtain⟨e7,n2,d7,j1,s6⟩:=B.o G g2;obtain⟨i3,i4,i5⟩:=h1.o G (MF.of pb g2);have i2:(convert 23 9 (.slice p l c)).run Tryz.prog G = .ok (.string ⟨#[45]⟩) G/\G.cell? ⟨pb,1,none⟩=some (.slice (some ⟨j,0,none⟩) n kc)/\G.cell? ⟨pb,2,none⟩=some (.int .i64 M)/\G.cell? ⟨j,M * 5+1,none⟩=some (.int .i64 ua)/\G.cell? ⟨w.heap.size+1,1,none⟩=some (.int .i64 ta)/\G.cell? ⟨w.heap.size+1,2,none⟩=some (.int .i64 tl)/\G.cell? ⟨w.heap.size+1,3,none⟩=some (.slice p l c):=⟨x5.o G e7,d7,j1,(b3.o G e7).1,i3,i4,i5⟩))
   have a3:Hid (MS w0 pb po co (some ⟨j,0,none⟩) kc T L all s.tk.tk (M+1) b (G.setCell ⟨pb,2,none⟩ (.int .i64 ((M:Int)+1)))):=l1.o G g2
   obtain⟨W4,j3⟩:∃ W4,W4=G.setCell ⟨pb,2,none⟩ (.int .i64 ((M:Int)+1)):=⟨_,rfl⟩
   have A4:Hid (W4=G.setCell ⟨pb,2,none⟩ (.int .i64 ((M:Int)+1))):=j3;rw[<-j3] at a3
   have d5:Hid (MF pb d W4):=by rw[j3];exact(MF.of pb g2).trans (.set _ _ _ _)
   have f1:=a3.o.c1;have f2:=a3.o.c2;rw[show((M+1:Nat):Int)=(M:Int)+1 by omega] at f2;have z7:=(b3.o W4 a3.o.mf.sf).2;clear i2 x9 g2 e7 n2 d7 i3 i4 i5 p5 j3 l1 a9 p6 e0 e1 e2 ez x1 x2 x3;go_wp2_with fail;rw[<-A4.o]
   have D5:¬ w.heap.size=pb:=by have:=K.o.2.2;omega
   have D6:¬ w.heap.size=j:=by have:=World.block_lt_of_cell? _ _ d0;show ¬ _=j;intro e;simp only at this;omega
   have m4:Hid (∀ W,Below W4.heap.size W4 W->W.cell? ⟨pb,1,none⟩=some (.slice (some ⟨j,0,none⟩) all.length kc)/\W.cell? ⟨pb,2,none⟩=some (.int .i64 ((M:Int)+1))/\W.cell? ⟨j,M * 5+4,none⟩=some (.int .i64 vn)/\W.heap[w.heap.size]?=some (prtO (.slice none 0 0) (.int .i64 0))):=fun W I=>⟨(I.cell (World.block_lt_of_cell? _ _ f1)).trans f1,(I.cell (World.block_lt_of_cell? _ _ f2)).trans f2,(I.cell (World.block_lt_of_cell? _ _ z7)).trans z7,(A.o W (d5.o.below I)).1⟩
   have t5:(M:Int)<(all.length:Int):=by have:=q8.o;omega
   clear q8
   generalize all.length=al at m4 f1 t5
   go_region_held3 (fun W=>W.cell? ⟨pb,1,none⟩=some (.slice (some ⟨j,0,none⟩) al kc)/\W.cell? ⟨pb,2,none⟩=some (.int .i64 ((M:Int)+1))/\W.cell? ⟨j,M * 5+4,none⟩=some (.int .i64 vn)) (first | exact z6 | go_keep)
    ((go_at_call 140;refine(b9.o (-vn) _).mono ?_;rintro e w5 ⟨rfl,v3,l4⟩;have k8:Below W4.heap.size W4 w5:=((Below.refl W4.heap.size W4).drew).trans l4;obtain⟨q1,q2,q3,q4⟩:=m4.o w5 k8;have z6:w5.cell? ⟨pb,1,none⟩=some (.slice (some ⟨j,0,none⟩) al kc)/\w5.cell? ⟨pb,2,none⟩=some (.int .i64 ((M:Int)+1))/\w5.cell? ⟨j,M * 5+4,none⟩=some (.int .i64 vn):=⟨q1,q2,q3⟩;obtain⟨g0,g1,z0,z1⟩:=res2 q4))
   have HF:Hid (MSt w0 pb po co (some ⟨j,0,none⟩) kc T L all w ((numT (-vn),0),s.tk.tk) (.returned (.agg #[.slice (some ⟨W4.heap.size,0,none⟩) 1 1,.int .i64 0])) (put2 w5 w.heap.size (.slice (some ⟨W4.heap.size,0,none⟩) 1 1) (.int .i64 0))):=
    mst_put K.o.1 ⟨K.o.2.1,Nat.le_refl _⟩ q4 (v3.ct (by show pb<W4.heap.size;exact Nat.lt_of_lt_of_le K.o.1 a3.o.mf.size) (by decide)) (by simp) (fun _=>rfl) (a3.o.below k8) ((h7.o.2.trans d5.o).below k8)
   clear z6 v3 k8 l4 q1 q2 q3 q4 m4
   unfold put2 at HF
   go_wp2_with fail;obtain⟨a0,a1⟩:=set2 g0 g1 (.slice (some ⟨W4.heap.size,0,none⟩) 1 1) (.int .i64 0);refine bodyPost_ret (v:=.agg #[.slice (some ⟨W4.heap.size,0,none⟩) 1 1,.int .i64 0]) (by simp[results,Tryz.results139,go_sem,a0,a1]) rfl ?_;exact HF.o
  rotate_right
  case' _=>
   have hR:negB F (ta+tl) s.tk=false:=by rw[e4.o];simp[h4]
   have hy:=e8 h45;subst hy
   have a9:Hid (∀ W,Below d.heap.size d W->Calls Tryz.prog 54 #[ptrM pb,.int .i64 0] W fun e w'=>e = .returned (.int .i64 3)/\Below W.heap.size W w'):=by rw[h3] at HK;exact HK
   obtain⟨v,hv,i1,j7,h5,j6,w2⟩:=b2.o h3;have g4:=e3.o v hv
   have g9:¬ v.1.2.1=ta+tl:=fun e=>h4 (by rw[i1,e])
   obtain⟨ua,a4⟩:∃ ua,ua=v.1.2.1:=⟨_,rfl⟩
   rw[<-a4] at w2 g9
   have C5:(ua == ta+tl)=false:=by simpa using g9
   have b3:Hid (∀ W,SF pb w0 W->W.cell? ⟨j,M * 5+1,none⟩=some (.int .i64 ua)):=fun W I=>(w2 W I).1
   have t3:(0:Int)<=(M:Int):=by omega
   have t4:(M:Int)<(n:Int):=by omega
   have z5:IntKind.i64.wrap (M:Int)=(M:Int):=wrapM (by omega) (by omega);clear hv i1 j7 h5 j6 w2 a4 g4 h45;rw[hR,if_neg (by decide)]
   generalize findW T F true=f1 at x6 h8 e5 ⊢
   generalize opW T f1=op at e5 ⊢
   generalize eR:(if 0<=f1/\op.1<=D/\s.tk.begins T=true then((cmpT F [(rdR T L f (rightP op) s.tk).1],op.1),(rdR T L f (rightP op) s.tk).2) else((atmT F,0),s.tk))=R
   have x7:Hid ((if 0<=f1/\op.1<=D/\s.tk.begins T=true then((cmpT F [(rdR T L f (rightP op) s.tk).1],op.1),(rdR T L f (rightP op) s.tk).2) else((atmT F,0),s.tk))=R):=eR;clear eR e4 b2 k9 b9 e3 hR e8 e9
   go_enter Tryz.func139,Tryz.ntmps139
   go_wp2_with fail
   go_region_held3 (fun W=>W.cell? ⟨pb,1,none⟩=some (.slice (some ⟨j,0,none⟩) n kc)/\W.cell? ⟨pb,2,none⟩=some (.int .i64 k)/\W.cell? ⟨j,k * 5,none⟩=some (.int .i64 tk)/\W.cell? ⟨j,k * 5+1,none⟩=some (.int .i64 ta)/\W.cell? ⟨j,k * 5+2,none⟩=some (.int .i64 tl)/\W.cell? ⟨j,k * 5+3,none⟩=some (.slice p l c)/\W.cell? ⟨j,k * 5+4,none⟩=some (.int .i64 tn)) (go_keep) (fail)
   rw[<-U.o];go_wp2_with fail;rw[<-a8.o];refine(HK.o d (Below.refl _ _)).mono ?_;rintro e Y ⟨rfl,J⟩;obtain⟨Z,e0,e1,e2,ez⟩:=B.o Y J;obtain⟨x1,x2,x3⟩:=h1.o Y (MF.of pb J);have k2:Hid (Below d.heap.size d Y):=J;have p6:=b3.o Y Z;have p5:=x5.o Y.drew (Z.trans (SF.of pb (Below.refl _ _).drew));clear HK;go_wp2_with fail
   go_region_held3 (fun W=>(convert 23 9 (.slice p l c)).run Tryz.prog W = .ok (.string ⟨#[45]⟩) W/\W.cell? ⟨pb,1,none⟩=some (.slice (some ⟨j,0,none⟩) n kc)/\W.cell? ⟨pb,2,none⟩=some (.int .i64 M)/\W.cell? ⟨j,M * 5+1,none⟩=some (.int .i64 ua)/\W.cell? ⟨w.heap.size+1,1,none⟩=some (.int .i64 ta)/\W.cell? ⟨w.heap.size+1,2,none⟩=some (.int .i64 tl)/\W.cell? ⟨w.heap.size+1,3,none⟩=some (.slice p l c)) (first | exact i2 | go_keep)
    ((go_at_call 54;refine(a9.o _ k2.o.drew).mono ?_;rintro e G ⟨rfl,x9⟩;have O:Below d.heap.size d G:=Below.on k2.o.drew x9;obtain⟨e7,n2,d7,j1,s6⟩:=B.o G O;obtain⟨i3,i4,i5⟩:=h1.o G (MF.of pb O);have i2:(convert 23 9 (.slice p l c)).run Tryz.prog G = .ok (.string ⟨#[45]⟩) G/\G.cell? ⟨pb,1,none⟩=some (.slice (some ⟨j,0,none⟩) n kc)/\G.cell? ⟨pb,2,none⟩=some (.int .i64 M)/\G.cell? ⟨j,M * 5+1,none⟩=some (.int .i64 ua)/\G.cell? ⟨w.heap.size+1,1,none⟩=some (.int .i64 ta)/\G.cell? ⟨w.heap.size+1,2,none⟩=some (.int .i64 tl)/\G.cell? ⟨w.heap.size+1,3,none⟩=some (.slice p l c):=⟨x5.o G e7,d7,j1,b3.o G e7,i3,i4,i5⟩))
   clear i2 x9 e7 n2 d7 j1 s6 i3 i4 i5 p5 p6 b3 a9;obtain⟨g7,y0,y1,y2,yz⟩:=B.o G O;have p8:=(h1.o G (MF.of pb O)).2.2;have m2:Hid (Below d.heap.size d G):=O;have c8:=(B.o G.drew O.drew).1
  rotate_right
  case' _=>
   have hR:negB F (ta+tl) s.tk=false:=by rw[e4.o];simp[h3]
   have hy:=e8 h45;subst hy
   have A9:(u == 3)=false:=by simpa using h3
   clear h45;rw[hR,if_neg (by decide)]
   generalize findW T F true=f1 at x6 h8 e5 ⊢
   generalize opW T f1=op at e5 ⊢
   generalize eR:(if 0<=f1/\op.1<=D/\s.tk.begins T=true then((cmpT F [(rdR T L f (rightP op) s.tk).1],op.1),(rdR T L f (rightP op) s.tk).2) else((atmT F,0),s.tk))=R
   have x7:Hid ((if 0<=f1/\op.1<=D/\s.tk.begins T=true then((cmpT F [(rdR T L f (rightP op) s.tk).1],op.1),(rdR T L f (rightP op) s.tk).2) else((atmT F,0),s.tk))=R):=eR;clear eR e4 b2 k9 b9 e3 hR e8 e9
   go_enter Tryz.func139,Tryz.ntmps139
   go_wp2_with fail
   go_region_held3 (fun W=>W.cell? ⟨pb,1,none⟩=some (.slice (some ⟨j,0,none⟩) n kc)/\W.cell? ⟨pb,2,none⟩=some (.int .i64 k)/\W.cell? ⟨j,k * 5,none⟩=some (.int .i64 tk)/\W.cell? ⟨j,k * 5+1,none⟩=some (.int .i64 ta)/\W.cell? ⟨j,k * 5+2,none⟩=some (.int .i64 tl)/\W.cell? ⟨j,k * 5+3,none⟩=some (.slice p l c)/\W.cell? ⟨j,k * 5+4,none⟩=some (.int .i64 tn)) (go_keep) (fail)
   rw[<-U.o];go_wp2_with fail;rw[<-a8.o];refine(HK.o d (Below.refl _ _)).mono ?_;rintro e Y ⟨rfl,J⟩;obtain⟨Z,e0,e1,e2,ez⟩:=B.o Y J;obtain⟨x1,x2,x3⟩:=h1.o Y (MF.of pb J);have k2:Hid (Below d.heap.size d Y):=J;go_wp2_with fail;refine wp_region_held_drew (S:=fun W=>W.cell? ⟨w.heap.size+1,3,none⟩=some (.slice p l c)/\(convert 23 9 (.slice p l c)).run Tryz.prog W = .ok (.string ⟨#[45]⟩) W) (by kernel_rfl) ?_ (fun f7=>?_)
   ·exact⟨x3,x5.o Y.drew (Z.trans (SF.of pb (Below.refl _ _).drew))⟩
   refine hTq 0 (.pointer (some ⟨w.heap.size+1,3,none⟩)) 48 ?_
   simp only[Act.put,zzA,zzB,zzC];refine hTr 1 (.slice p l c) 49 (fun o ho W Q=>?y1) ?_
   case y1=>cases ho;obtain⟨s0,s1⟩:=Q;simp[execOp,go_sem,Act.eval,s0]
   simp only[Act.put,zzA,zzB,zzC];refine hTr 2 (.string ⟨#[45]⟩) 50 (fun o ho W Q=>?y2) ?_
   case y2=>cases ho;obtain⟨s0,s1⟩:=Q;simp[execOp,go_sem,Act.eval,s1]
   simp only[Act.put,zzA,zzB,zzC];refine hTq 3 (.bool true) 51 ?_
   simp only[Act.put,zzA,zzB,zzC];refine hTq 4 (.bool true) 52 ?_
   simp only[Act.put,zzA,zzB,zzC];refine hTq 5 (ptrM pb) 53 ?_
   simp only[Act.put,zzA,zzB,zzC];refine hCallE (i:=6) (f:=54) (args:=#[ptrM pb,.int .i64 0]) (some 54) (by kernel_rfl) (by kernel_rfl) (by kernel_rfl) (fun o ho=>?c6) (HK.o Y.drew k2.o.drew) ?k6 (fun ch w' hh=>by cases hh.1) (fun w' hh=>by cases hh.1)
   case c6=>cases ho;simp[execOp,go_sem,Act.eval]
   case' k6=>
    rintro y G ⟨hu,x9⟩;obtain rfl:=Ending.returned.inj hu;have O:Below d.heap.size d G:=Below.on k2.o.drew x9;clear hu x9
    have n8:G.cell? ⟨w.heap.size+1,3,none⟩=some (.slice p l c)/\(convert 23 9 (.slice p l c)).run Tryz.prog G = .ok (.string ⟨#[45]⟩) G:=⟨(h1.o G (MF.of pb O)).2.2,x5.o G (B.o G O).1⟩
    refine⟨n8,?_⟩;simp only[Act.put,zzA,zzB,zzC];refine hTr 7 (.bool false) 55 (fun o ho W Q=>?y7) ?_
    case y7=>cases ho;simp[execOp,go_sem,Act.eval,A9,h3]
    simp only[Act.put,zzA,zzB,zzC];refine hTq 8 (.bool false) 56 ?_
    simp only[Act.put,zzA,zzB,zzC];refine hTq 9 (.bool false) 57 ?_
    simp only[Act.put,zzA,zzB,zzC];refine hSq 10 58 ?_;refine hSq 11 59 ?_;refine hSq 12 60 ?_;refine hSq 13 61 ?_;simp only[Act.put,zzA,zzB,zzC];refine hSq 14 62 ?_;refine hSq 15 63 ?_;refine hSq 16 64 ?_;refine hSq 17 65 ?_;simp only[Act.put,zzA,zzB,zzC];refine hSq 18 66 ?_;refine hSq 19 67 ?_;refine hSq 20 68 ?_;refine hSq 21 69 ?_;simp only[Act.put,zzA,zzB,zzC];refine hSq 22 70 ?_;refine hSq 23 71 ?_;refine hSq 24 72 ?_;refine hSq 25 73 ?_;simp only[Act.put,zzA,zzB,zzC];refine hSq 26 74 ?_;simp only[Act.put,zzA,zzB,zzC];refine hTq 27 (.bool false) 75 ?_
    simp only[Act.put,zzA,zzB,zzC];refine wpAnyH_done (by kernel_rfl) ?_ _
    change Exit.then _ _ _ _ G
    obtain⟨g7,y0,y1,y2,yz⟩:=B.o G O;have p8:=(h1.o G (MF.of pb O)).2.2;have m2:Hid (Below d.heap.size d G):=O;have c8:=(B.o G.drew O.drew).1
  rotate_right
  case' _=>
   have hR:negB F (ta+tl) s.tk=false:=by rw[e4.o];simp[h45]
   have hy:=e9 h45;rw[hR,if_neg (by decide)]
   generalize findW T F true=f1 at x6 h8 e5 ⊢
   generalize opW T f1=op at e5 ⊢
   generalize eR:(if 0<=f1/\op.1<=D/\s.tk.begins T=true then((cmpT F [(rdR T L f (rightP op) s.tk).1],op.1),(rdR T L f (rightP op) s.tk).2) else((atmT F,0),s.tk))=R
   have x7:Hid ((if 0<=f1/\op.1<=D/\s.tk.begins T=true then((cmpT F [(rdR T L f (rightP op) s.tk).1],op.1),(rdR T L f (rightP op) s.tk).2) else((atmT F,0),s.tk))=R):=eR;clear eR e4 b2 k9 b9 e3 hR e8 e9
   go_enter Tryz.func139,Tryz.ntmps139
   go_wp2_with fail
   go_region_held3 (fun W=>W.cell? ⟨pb,1,none⟩=some (.slice (some ⟨j,0,none⟩) n kc)/\W.cell? ⟨pb,2,none⟩=some (.int .i64 k)/\W.cell? ⟨j,k * 5,none⟩=some (.int .i64 tk)/\W.cell? ⟨j,k * 5+1,none⟩=some (.int .i64 ta)/\W.cell? ⟨j,k * 5+2,none⟩=some (.int .i64 tl)/\W.cell? ⟨j,k * 5+3,none⟩=some (.slice p l c)/\W.cell? ⟨j,k * 5+4,none⟩=some (.int .i64 tn)) (go_keep) (fail)
   rw[<-U.o];go_wp2_with fail;rw[<-a8.o];refine(HK.o d (Below.refl _ _)).mono ?_;rintro e Y ⟨rfl,J⟩;obtain⟨Z,e0,e1,e2,ez⟩:=B.o Y J;obtain⟨x1,x2,x3⟩:=h1.o Y (MF.of pb J);have k2:Hid (Below d.heap.size d Y):=J;clear HK;go_wp2_with fail;refine wp_region_held_drew (S:=fun W=>W.cell? ⟨w.heap.size+1,3,none⟩=some (.slice p l c)/\(convert 23 9 (.slice p l c)).run Tryz.prog W = .ok (.string sx) W) (by kernel_rfl) ?_ (fun f7=>?_)
   ·exact⟨x3,x5.o Y.drew (Z.trans (SF.of pb (Below.refl _ _).drew))⟩
   refine hTq 0 (.pointer (some ⟨w.heap.size+1,3,none⟩)) 48 ?_
   simp only[Act.put,zzA,zzB,zzC];refine hTr 1 (.slice p l c) 49 (fun o ho W Q=>?y1) ?_
   case y1=>cases ho;obtain⟨s0,s1⟩:=Q;simp[execOp,go_sem,Act.eval,s0]
   simp only[Act.put,zzA,zzB,zzC];refine hTr 2 (.string sx) 50 (fun o ho W Q=>?y2) ?_
   case y2=>cases ho;obtain⟨s0,s1⟩:=Q;simp[execOp,go_sem,Act.eval,s1]
   simp only[Act.put,zzA,zzB,zzC];refine hTr 3 (.bool false) 51 (fun o ho W Q=>?y3) ?_
   case y3=>cases ho;simp[execOp,go_sem,Act.eval,hy]
   simp only[Act.put,zzA,zzB,zzC];refine hTq 4 (.bool false) 52 ?_
   simp only[Act.put,zzA,zzB,zzC];refine hSq 5 53 ?_;refine hSq 6 54 ?_;refine hSq 7 55 ?_;simp only[Act.put,zzA,zzB,zzC];refine hTq 8 (.bool false) 56 ?_
   simp only[Act.put,zzA,zzB,zzC];refine hTq 9 (.bool false) 57 ?_
   simp only[Act.put,zzA,zzB,zzC];refine hSq 10 58 ?_;refine hSq 11 59 ?_;simp only[Act.put,zzA,zzB,zzC];refine hSq 12 60 ?_;refine hSq 13 61 ?_;refine hSq 14 62 ?_;refine hSq 15 63 ?_;simp only[Act.put,zzA,zzB,zzC]
   refine hSq 16 64 ?_;refine hSq 17 65 ?_;refine hSq 18 66 ?_;refine hSq 19 67 ?_;simp only[Act.put,zzA,zzB,zzC];refine hSq 20 68 ?_;refine hSq 21 69 ?_;refine hSq 22 70 ?_;refine hSq 23 71 ?_;simp only[Act.put,zzA,zzB,zzC];refine hSq 24 72 ?_;refine hSq 25 73 ?_;refine hSq 26 74 ?_;simp only[Act.put,zzA,zzB,zzC];refine hTq 27 (.bool false) 75 ?_
   simp only[Act.put,zzA,zzB,zzC];refine wpAnyH_done (by kernel_rfl) ?_ _
   change Exit.then _ _ _ _ Y.drew
   have O:Below d.heap.size d Y.drew:=k2.o.drew;obtain⟨g7,y0,y1,y2,yz⟩:=B.o Y.drew O;have p8:=(h1.o Y.drew (MF.of pb O)).2.2;have m2:Hid (Below d.heap.size d Y.drew):=O;have c8:=(B.o Y.drew.drew O.drew).1
  all_goals
   clear g7 y1 y2 yz O;go_wp2_with fail
   go_region_held3 (fun W=>W.cell? ⟨pb,0,none⟩=some (.slice po N co)/\W.cell? ⟨w.heap.size+1,3,none⟩=some (.slice p l c)) (first | exact p4 | go_keep)
    ((go_at_call 120;refine(x6.o _ c8).mono ?_;rintro e w4 ⟨rfl,l3⟩;have k3:Below d.heap.size d w4:=Below.on m2.o.drew l3;have p4:w4.cell? ⟨pb,0,none⟩=some (.slice po N co)/\w4.cell? ⟨w.heap.size+1,3,none⟩=some (.slice p l c):=⟨(B.o w4 k3).2.1,(h1.o w4 (MF.of pb k3)).2.2⟩))
   have q0:w4.cell? ⟨pb,0,none⟩=some (.slice po N co):=p4.1;clear p4 l3 c8 x6 y0 p8
   rcases h8 with h8 | ⟨h8,C9⟩
   ·subst h8
    have e6:¬ ((0:Int)<=-1/\op.1<=D/\s.tk.begins T=true):=by omega
    have X:=x7.o;rw[if_neg e6] at X;subst X;have h2:=k3;clear e6 e5
    obtain⟨V,eV⟩:∃ V,V=w4.alloc (.cells #[.int .i64 2,.int .i64 0,.slice p l c] 102):=⟨_,rfl⟩
    have C:Below d.heap.size d V:=by rw[eV];exact Below.on h2 ((Below.refl _ _).alloc (Nat.le_refl _) _)
    have rV:=(A.o V (MF.of pb C)).1;obtain⟨g0,g1,z0,z1⟩:=res2 rV
    have HF:Hid (MSt w0 pb po co (some ⟨j,0,none⟩) kc T L all w ((atmT F,0),s.tk) (.returned (.agg #[.slice (some ⟨w4.heap.size,0,none⟩) 1 1,.int .i64 0])) (put2 V w.heap.size (.slice (some ⟨w4.heap.size,0,none⟩) 1 1) (.int .i64 0))):=
     mst_put (t:=[(2,0,F)]) K.o.1 ⟨K.o.2.1,Nat.le_refl _⟩ rV (by rw[eV,a2.o];exact leaf_ct (g:=0) (Nat.lt_of_lt_of_le K.o.1 (B.o w4 h2).1.size) (x4.o w4 (B.o w4 h2).1) j8) (by simp) (fun _=>rfl) (h7.o.1.below C) (h7.o.2.below C)
    have z9:=(h1.o w4 (MF.of pb h2)).2.2;rw[eV] at g0 g1 z0 z1 HF
    unfold put2 at HF
    clear eV C rV;go_wp2_with fail;obtain⟨a0,a1⟩:=set2 g0 g1 (.slice (some ⟨w4.heap.size,0,none⟩) 1 1) (.int .i64 0);refine bodyPost_ret (v:=.agg #[.slice (some ⟨w4.heap.size,0,none⟩) 1 1,.int .i64 0]) (by simp[results,Tryz.results139,go_sem,a0,a1]) rfl ?_;exact HF.o
   ·obtain⟨i,rfl⟩:∃ i:Nat,f1=(i:Int):=⟨f1.toNat,by omega⟩
    obtain⟨o1,o2,ox⟩:=op;obtain⟨b0,o0,q,cq,rfl,j4,v4,v5⟩:=e5.o i rfl;simp only at j4 v4 v5;have m6:Hid (∀ W,SF pb w0 W->W.cell? ⟨b0,o0+i * 3,none⟩=some (.slice q ox.length cq)/\W.cell? ⟨b0,o0+i * 3+1,none⟩=some (.int .i64 o1)/\W.cell? ⟨b0,o0+i * 3+2,none⟩=some (.int .i64 o2)):=j4;obtain⟨y0,y1,y2⟩:=j4 w4 (B.o w4 k3).1
    have t2:(0:Int)<=(i:Int):=by omega
    have B6:(i:Int)<(N:Int):=by omega
    have r6:Hid (∀ W,Calls Tryz.prog 96 #[.agg #[.slice q ox.length cq,.int .i64 o1,.int .i64 o2]] W fun e w'=>e = .returned (.int .i64 (rightP (o1,o2,ox)))/\Below W.heap.size W w'):=fun W=>right_any (o1,o2,ox) q ox.length cq W ⟨v4,v5⟩
    clear e5 j4 h8
    by_cases hm:o1<=D
    ·have HC:=q5.o w4 k3
     cases a5:s.tk.begins T with
     | false=>
       rw[a5] at HC
       have e6:¬ ((0:Int)<=(i:Int)/\o1<=D/\s.tk.begins T=true):=fun h=>by rw[a5] at h;cases h.2.2
       have X:=x7.o;simp only at X;rw[if_neg e6] at X;subst X;clear e6 a5 x7;go_wp2_with fail;refine HC.mono ?_;rintro e w5 ⟨rfl,k8⟩;have h2:Below d.heap.size d w5:=Below.on k3 k8;clear HC k8 k3 y0 y1 y2
       obtain⟨V,eV⟩:∃ V,V=w5.alloc (.cells #[.int .i64 2,.int .i64 0,.slice p l c] 102):=⟨_,rfl⟩
       have C:Below d.heap.size d V:=by rw[eV];exact Below.on h2 ((Below.refl _ _).alloc (Nat.le_refl _) _)
       have rV:=(A.o V (MF.of pb C)).1;obtain⟨g0,g1,z0,z1⟩:=res2 rV
       have HF:Hid (MSt w0 pb (some ⟨b0,o0,none⟩) co (some ⟨j,0,none⟩) kc T L all w ((atmT F,0),s.tk) (.returned (.agg #[.slice (some ⟨w5.heap.size,0,none⟩) 1 1,.int .i64 0])) (put2 V w.heap.size (.slice (some ⟨w5.heap.size,0,none⟩) 1 1) (.int .i64 0))):=
        mst_put (t:=[(2,0,F)]) K.o.1 ⟨K.o.2.1,Nat.le_refl _⟩ rV (by rw[eV,a2.o];exact leaf_ct (g:=0) (Nat.lt_of_lt_of_le K.o.1 (B.o w5 h2).1.size) (x4.o w5 (B.o w5 h2).1) j8) (by simp) (fun _=>rfl) (h7.o.1.below C) (h7.o.2.below C)
       have z9:=(h1.o w5 (MF.of pb h2)).2.2;rw[eV] at g0 g1 z0 z1 HF
       unfold put2 at HF
       clear eV C rV;go_wp2_with fail;obtain⟨a0,a1⟩:=set2 g0 g1 (.slice (some ⟨w5.heap.size,0,none⟩) 1 1) (.int .i64 0);refine bodyPost_ret (v:=.agg #[.slice (some ⟨w5.heap.size,0,none⟩) 1 1,.int .i64 0]) (by simp[results,Tryz.results139,go_sem,a0,a1]) rfl ?_;exact HF.o
     | true=>
       rw[a5] at HC
       have e6:((0:Int)<=(i:Int)/\o1<=D/\s.tk.begins T=true):=⟨t2,hm,a5⟩
       have X:=x7.o;simp only at X;rw[if_pos e6] at X;have m8:Hid (((cmpT F [(rdR T L f (rightP (o1,o2,ox)) s.tk).1],o1),(rdR T L f (rightP (o1,o2,ox)) s.tk).2)=R):=X;clear e6 a5 x7 X;go_wp2_with fail;refine HC.mono ?_;rintro e w5 ⟨rfl,k8⟩;have c3:Below d.heap.size d w5:=Below.on k3 k8;have u0:w5.cell? ⟨pb,0,none⟩=some (.slice (some ⟨b0,o0,none⟩) N co):=(B.o w5 c3).2.1;obtain⟨u1,u2,u3⟩:=m6.o w5 (B.o w5 c3).1;have w9:=r6.o w5;have m1:Hid (Below d.heap.size d w5):=c3
       have r4:Hid (∀ W,SF pb w0 W->W.cell? ⟨b0,o0+i * 3+1,none⟩=some (.int .i64 o1)):=fun W I=>(m6.o W I).2.1
       clear HC k8 k3 c3 y0 y1 y2 r6 m6
       generalize ox.length=lx at u1 w9
       generalize rightP (o1,o2,ox)=rp at w9 m8
       go_wp2_with fail;refine w9.mono ?_;rintro e w6 ⟨rfl,x8⟩;have c9:=m7.o rp w6 (Below.on m1.o x8)
       generalize rdR T L f rp s.tk=y at c9 m8
       have m5:Hid (MF pb d w6):=MF.of pb (Below.on m1.o x8);clear w9 x8 m7 m1;go_wp2_with fail;refine c9.mono ?_;rintro e w7 ⟨q7,n7,c7,t7,p7,rfl,l5,l9,g3,⟨k7,b7,v8⟩,o9⟩
       obtain⟨V,eV⟩:∃ V,V=w7.alloc (prtO (.slice q7 n7 c7) (.int .i64 p7)):=⟨_,rfl⟩
       have C:Below w7.heap.size w7 V:=by rw[eV];exact(Below.refl _ _).alloc (Nat.le_refl _) _
       have r9:Hid (V=w7.alloc (prtO (.slice q7 n7 c7) (.int .i64 p7))):=eV;have p1:MF pb d V:=(m5.o.trans o9).below C;have r2:Hid (MF pb d V):=p1;have d6:Hid (MS w0 pb (some ⟨b0,o0,none⟩) co (some ⟨j,0,none⟩) kc T L all y.2 k7 b7 V):=v8.below C
       have n1:Hid (CT V pb q7 n7 c7 t7/\t7.length<=2001/\(y.2.ft=none->Cut t7 (itC y.1))):=⟨l5.move (SF.of pb C),l9,g3⟩
       have z8:=(h1.o V p1).2.2
       have s5:V.cell? ⟨w7.heap.size,0,none⟩=some (.slice q7 n7 c7):=by rw[eV];simp[World.cell?_alloc_new]
       have v0:V.cell? ⟨pb,0,none⟩=some (.slice (some ⟨b0,o0,none⟩) N co):=by have:=d6.o.c0;rw[A8.o] at this;exact this
       have v1:=r4.o V d6.o.mf.sf
       obtain⟨V1,j2⟩:∃ V1,V1=V.drew.alloc (.cells #[.slice q7 n7 c7] 25):=⟨_,rfl⟩
       have w1:Below V.heap.size V V1:=by rw[j2];exact((Below.refl V.heap.size V).drew).alloc (Nat.le_refl _) _
       have A2:Hid (V.drew.alloc (.cells #[.slice q7 n7 c7] 25)=V1):=j2.symm
       have A1:Hid (Calls Tryz.prog 97 #[.agg #[.int .i64 3,.int .i64 1,.slice p l c],.slice (some ⟨V.heap.size,0,none⟩) 1 1] V1 fun e w'=>∃ r m cr,e = .returned (.slice r m cr)/\CT w' pb r m cr (((3,1,F) :: [t7].flatten).take 2001)/\m<=2001/\Below V1.heap.size V1 w'):=by
        refine l4join_any (Nat.lt_of_lt_of_le K.o.1 (Nat.le_trans d6.o.mf.size w1.size)) 3 1 p l c F a2.o (x4.o V1 ((d6.o.mf.below w1).sf)) _ 1 1 [t7] rfl (by decide) (fun u hu=>by rw[List.mem_singleton.1 hu];exact n1.o.2.1) ?_;rw[j2];exact arow_one (W:=V.drew) (n1.o.1.move (SF.of pb (Below.refl _ _).drew))
       have X:=m8.o;subst X
       have p9:Hid (b0≠w.heap.size):=by
        show b0≠_
        have h9:=World.block_lt_of_cell? _ _ (r4.o w A7.o);simp only at h9
        omega
       have t9:w.heap.size≠w7.heap.size:=by have:=(Array.getElem?_eq_some_iff.1 (A.o w7 (m5.o.trans o9)).1).1;omega
       have HD:Hid (∀ W,Below V.heap.size V W->W.cell? ⟨w.heap.size+1,3,none⟩=some (.slice p l c)/\W.cell? ⟨w7.heap.size,0,none⟩=some (.slice q7 n7 c7)/\W.cell? ⟨pb,0,none⟩=some (.slice (some ⟨b0,o0,none⟩) N co)/\W.cell? ⟨b0,o0+i * 3+1,none⟩=some (.int .i64 o1)):=fun W I=>⟨(I.cell (World.block_lt_of_cell? _ _ z8)).trans z8,(I.cell (World.block_lt_of_cell? _ _ s5)).trans s5,(I.cell (World.block_lt_of_cell? _ _ v0)).trans v0,(I.cell (World.block_lt_of_cell? _ _ v1)).trans v1⟩
       have n8:=HD.o V1 w1;have q6:Hid (Below V.heap.size V V1):=w1;clear l5 l9 g3 v8 o9 eV C p1 c9 m5 j2 w1 u0 u1 u2 u3;go_wp2_with fail;rw[<-r9.o];refine wp_region_held_drew (S:=fun W=>W.cell? ⟨w.heap.size+1,3,none⟩=some (.slice p l c)/\W.cell? ⟨w7.heap.size,0,none⟩=some (.slice q7 n7 c7)/\W.cell? ⟨pb,0,none⟩=some (.slice (some ⟨b0,o0,none⟩) N co)/\W.cell? ⟨b0,o0+i * 3+1,none⟩=some (.int .i64 o1)) (by kernel_rfl) ?_ (fun f7=>?_)
       ·exact HD.o V.drew (Below.refl _ _).drew
       refine hTq 0 (.pointer (some ⟨w.heap.size+1,3,none⟩)) 133 ?_
       simp only[Act.put,zzA,zzB,zzC];refine hTr 1 (.slice p l c) 134 (fun o ho W Q=>?y1) ?_
       case y1=>cases ho;obtain⟨s0,s1,s2,s3⟩:=Q;simp[execOp,go_sem,Act.eval,s0]
       simp only[Act.put,zzA,zzB,zzC];refine hTq 2 (.agg #[.int .i64 3,.int .i64 1,.slice p l c]) 135 ?_
       simp only[Act.put,zzA,zzB,zzC];refine hTq 3 (.pointer (some ⟨w7.heap.size,0,none⟩)) 136 ?_
       simp only[Act.put,zzA,zzB,zzC];refine hTr 4 (.slice q7 n7 c7) 137 (fun o ho W Q=>?y4) ?_
       case y4=>cases ho;obtain⟨s0,s1,s2,s3⟩:=Q;simp[execOp,go_sem,Act.eval,s1]
       simp only[Act.put,zzA,zzB,zzC];refine hTq 7 (ptrM pb) 140 ?_
       simp only[Act.put,zzA,zzB,zzC];refine hTq 8 (ptrM pb) 141 ?_
       simp only[Act.put,zzA,zzB,zzC];refine hTq 9 (.pointer (some ⟨pb,0,none⟩)) 142 ?_
       simp only[Act.put,zzA,zzB,zzC];refine hTr 10 (.slice (some ⟨b0,o0,none⟩) N co) 143 (fun o ho W Q=>?y8) ?_
       case y8=>cases ho;obtain⟨s0,s1,s2,s3⟩:=Q;simp[execOp,go_sem,Act.eval,s2]
       simp only[Act.put,zzA,zzB,zzC];refine hTq 11 (.int .i64 i) 144 ?_
       simp only[Act.put,zzA,zzB,zzC];refine hTr 12 (.pointer (some ⟨b0,o0+i * 3,none⟩)) 145 (fun o ho W Q=>?y10) ?_
       case y10=>cases ho;simp[execOp,go_sem,Act.eval,t2,B6]
       simp only[Act.put,zzA,zzB,zzC];refine hTq 13 (.pointer (some ⟨b0,o0+i * 3+1,none⟩)) 146 ?_
       simp only[Act.put,zzA,zzB,zzC];refine hTr 14 (.int .i64 o1) 147 (fun o ho W Q=>?y12) ?_
       case y12=>cases ho;obtain⟨s0,s1,s2,s3⟩:=Q;simp[execOp,go_sem,Act.eval,s3]
       simp only[Act.put,zzA,zzB,zzC];refine hStep (i:=5) (v:=.slice (some ⟨V.heap.size,0,none⟩) 1 1) (w':=V1) (some 138) (by kernel_rfl) (by kernel_rfl) (by kernel_rfl) (fun o ho=>?y13) n8 ?_
       case y13=>
        cases ho
        simp[execOp,go_sem,Act.eval]
        exact A2.o
       simp only[Act.put,zzA,zzB,zzC];refine hCallE (i:=6) (f:=97) (args:=#[.agg #[.int .i64 3,.int .i64 1,.slice p l c],.slice (some ⟨V.heap.size,0,none⟩) 1 1]) (some 139) (by kernel_rfl) (by kernel_rfl) (by kernel_rfl) (fun o ho=>?c14) A1.o ?k14 (fun ch w' hh=>by obtain⟨_,_,_,h,_⟩:=hh;cases h) (fun w' hh=>by obtain⟨_,_,_,h,_⟩:=hh;cases h)
       case c14=>cases ho;simp[execOp,go_sem,Act.eval]
       case k14=>
        rintro z w8 ⟨r,m,cr,hu,l6,C1,s7⟩;obtain rfl:=Ending.returned.inj hu;have c4:Below V.heap.size V w8:=Below.on q6.o s7;have f8:=HD.o w8 c4;clear hu s7;refine⟨f8,?_⟩;simp only[Act.put,zzA,zzB,zzC];refine hTq 15 (.agg #[.slice r m cr,.int .i64 o1]) 148 ?_
        simp only[Act.put,zzA,zzB,zzC];have r8:=(A.o w8 (r2.o.below c4)).1;obtain⟨g0,g1,z0,z1⟩:=res2 r8
        have HF:Hid (MSt w0 pb (some ⟨b0,o0,none⟩) co (some ⟨j,0,none⟩) kc T L all w ((cmpT F [y.1],o1),y.2) (.returned (.agg #[.slice r m cr,.int .i64 o1])) (put2 w8 w.heap.size (.slice r m cr) (.int .i64 o1))):=
         mst_put K.o.1 ⟨K.o.2.1,Nat.le_refl _⟩ r8 l6 (by rw[<-l6.1];exact C1) (fun h0=>join_cut (n:=1) (tss:=[t7]) (xs:=[y.1]) rfl ⟨n1.o.2.2 h0,trivial⟩) (d6.o.below c4) ((h7.o.2.trans r2.o).below c4)
        have B1:(put2 w8 w.heap.size (.slice r m cr) (.int .i64 o1)).cell? ⟨w.heap.size+1,3,none⟩=some (.slice p l c)/\(put2 w8 w.heap.size (.slice r m cr) (.int .i64 o1)).cell? ⟨w7.heap.size,0,none⟩=some (.slice q7 n7 c7)/\(put2 w8 w.heap.size (.slice r m cr) (.int .i64 o1)).cell? ⟨pb,0,none⟩=some (.slice (some ⟨b0,o0,none⟩) N co)/\(put2 w8 w.heap.size (.slice r m cr) (.int .i64 o1)).cell? ⟨b0,o0+i * 3+1,none⟩=some (.int .i64 o1):=by
         have hk:∀ (a:Nat) (o:Nat) (v:Value),a≠w.heap.size->w8.cell? ⟨a,o,none⟩=some v->(put2 w8 w.heap.size (.slice r m cr) (.int .i64 o1)).cell? ⟨a,o,none⟩=some v:=fun a o v ha hc=>(World.cell?_of_block (a:=⟨a,o,none⟩) (put2_heap _ _ _ _ ha)).trans hc
         exact⟨hk _ _ _ (by omega) f8.1,hk _ _ _ (Ne.symm t9) f8.2.1,hk _ _ _ (by have:=K.o.2.2;omega) f8.2.2.1,hk _ _ _ p9.o f8.2.2.2⟩
        refine hStore (i:=16) (w':=put2 w8 w.heap.size (.slice r m cr) (.int .i64 o1)) (by kernel_rfl) (by kernel_rfl) (by kernel_rfl) (fun o ho=>?ys) B1 ?_
        case ys=>cases ho;simp[execOp,go_sem,Act.eval,g0,g1,z0,z1,put2]
        refine wpAnyH_done (by kernel_rfl) ?_ _
        change Exit.then _ _ _ _ (put2 w8 w.heap.size (.slice r m cr) (.int .i64 o1))
        unfold put2 at HF ⊢
        go_wp2_with fail;obtain⟨a0,a1⟩:=set2 g0 g1 (.slice r m cr) (.int .i64 o1);refine bodyPost_ret (v:=.agg #[.slice r m cr,.int .i64 o1]) (by simp[results,Tryz.results139,go_sem,a0,a1]) rfl ?_;exact HF.o
    ·have e6:¬ ((0:Int)<=(i:Int)/\o1<=D/\s.tk.begins T=true):=fun h=>hm h.2.1
     have X:=x7.o;simp only at X;rw[if_neg e6] at X;subst X;have h2:=k3;clear e6 x7
     obtain⟨V,eV⟩:∃ V,V=w4.alloc (.cells #[.int .i64 2,.int .i64 0,.slice p l c] 102):=⟨_,rfl⟩
     have C:Below d.heap.size d V:=by rw[eV];exact Below.on h2 ((Below.refl _ _).alloc (Nat.le_refl _) _)
     have rV:=(A.o V (MF.of pb C)).1;obtain⟨g0,g1,z0,z1⟩:=res2 rV
     have HF:Hid (MSt w0 pb (some ⟨b0,o0,none⟩) co (some ⟨j,0,none⟩) kc T L all w ((atmT F,0),s.tk) (.returned (.agg #[.slice (some ⟨w4.heap.size,0,none⟩) 1 1,.int .i64 0])) (put2 V w.heap.size (.slice (some ⟨w4.heap.size,0,none⟩) 1 1) (.int .i64 0))):=
      mst_put (t:=[(2,0,F)]) K.o.1 ⟨K.o.2.1,Nat.le_refl _⟩ rV (by rw[eV,a2.o];exact leaf_ct (g:=0) (Nat.lt_of_lt_of_le K.o.1 (B.o w4 h2).1.size) (x4.o w4 (B.o w4 h2).1) j8) (by simp) (fun _=>rfl) (h7.o.1.below C) (h7.o.2.below C)
     have z9:=(h1.o w4 (MF.of pb h2)).2.2;rw[eV] at g0 g1 z0 z1 HF
     unfold put2 at HF
     clear eV C rV;go_wp2_with fail;obtain⟨a0,a1⟩:=set2 g0 g1 (.slice (some ⟨w4.heap.size,0,none⟩) 1 1) (.int .i64 0);refine bodyPost_ret (v:=.agg #[.slice (some ⟨w4.heap.size,0,none⟩) 1 1,.int .i64 0]) (by simp[results,Tryz.results139,go_sem,a0,a1]) rfl ?_;exact HF.o
end
end Go.Proofs.YtlkhmmoimplokaaGreatDoor
