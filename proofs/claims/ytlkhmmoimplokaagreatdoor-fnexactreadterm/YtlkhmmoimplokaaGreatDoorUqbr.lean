/- Texts of RdV, RdW, RdX. Own work of the verifier. -/
import Derived.Test.YtlkhmmoimplokaaGreatDoorUqbk
import Derived.Test.YtlkhmmoimplokaaGreatDoorUqbo
namespace Go.Proofs.YtlkhmmoimplokaaGreatDoor
set_option maxHeartbeats 2000000
set_option maxRecDepth 100000
open Go Go.RowKit Go.Maps
set_option linter.unusedVariables false
set_option linter.unusedSimpArgs false
structure PEnv (w0:World)(rb kb kc:Nat)(ov sv:Value)(T:List Cel)(L:Int)(all:List Tok):Prop where
 lt:rb<w0.heap.size/\kb<w0.heap.size
 ne:kb≠rb
 cap:all.length+1<=kc/\kc<=9223372036854775807
 len:all.length<=10000
 big:0<=L/\L<=9000000000
 tok:∀ i,i<=all.length->∃ p c,w0.cell? ⟨kb,i * 5,none⟩=some (.int .i64 ((all.drop i).headD (senT L)).1.1)/\w0.cell? ⟨kb,i * 5+1,none⟩=some (.int .i64 ((all.drop i).headD (senT L)).1.2.1)/\w0.cell? ⟨kb,i * 5+2,none⟩=some (.int .i64 ((all.drop i).headD (senT L)).1.2.2.1)/\
  w0.cell? ⟨kb,i * 5+3,none⟩=some (.slice p ((all.drop i).headD (senT L)).2.length c)/\w0.cell? ⟨kb,i * 5+4,none⟩=some (.int .i64 ((all.drop i).headD (senT L)).1.2.2.2)/\∀ W,Sty rb rb w0 W->BIn W p ((all.drop i).headD (senT L)).2
 tg:∀ t ∈ all,TokG t
 tab:∀ c ∈ T,(1<=c.1/\c.1<=1200)/\(0<=c.2.1/\c.2.1<=6)/\Byte c.2.2/\c.2.2.length<=100
 ops:all≠[]->∃ ob N,ov = .map (some ob)/\∀ W,Sty rb rb w0 W->OpMap W ob N T
 st:∀ W,Sty rb rb w0 W->∀ x:Int,0<=x->x<=7->(all = []->x=0)->(Instr.lookup 75 sv (.int .i64 x) true).run Tryz.prog W = .ok (.tuple #[if 1<=x/\x<=6 then .func (.func (stF x)) #[ptrR rb] #[] else .nilFunc,.bool (decide (1<=x/\x<=6))]) W
 ovm:∃ o,ov = .map o
theorem Sty.pre {rb vb:Nat}{w0 w1 W:World}(h:Sty rb rb w0 w1)(k:Sty rb vb w1 W)(d:w0.heap.size<=vb):Sty rb rb w0 W:=⟨k.os.trans h.os,k.tape.trans h.tape,k.output.trans h.output,Nat.le_trans h.size k.size,fun x b a c=>(k.block x (Nat.lt_of_lt_of_le b h.size) a (by omega)).trans (h.block x b a c)⟩
theorem PEnv.env {w0 w1:World}{rb vb kb kc:Nat}{ov sv:Value}{T:List Cel}{L:Int}{all:List Tok}(P:PEnv w0 rb kb kc ov sv T L all)(h:Sty rb rb w0 w1)(b:w0.heap.size<=vb)(d:vb<w1.heap.size):REnv w1 rb vb kb kc ov sv T L all:=by
 have u:=P.lt;have v:=h.size;refine⟨⟨by omega,d,by omega⟩,⟨P.ne,by omega,by omega⟩,P.cap,P.len,P.big,fun i q=>?_,P.tg,P.tab,fun r=>?_,fun W a=>P.st W (h.pre a b)⟩
 ·obtain⟨p,c,f,g,j,l,m,n⟩:=P.tok i q
  exact⟨p,c,h.cell f P.ne P.ne,h.cell g P.ne P.ne,h.cell j P.ne P.ne,h.cell l P.ne P.ne,h.cell m P.ne P.ne,fun W a=>n W (h.pre a b)⟩
 ·obtain⟨t,N,e,o⟩:=P.ops r
  exact⟨t,N,e,fun W a=>o W (h.pre a b)⟩
structure RP (w0:World)(rb kb kc:Nat)(ov sv:Value)(all:List Tok)(k:Nat)(ft:Option (Int×Int))(w:World):Prop where
 sty:Sty rb rb w0 w
 c0:w.cell? ⟨rb,0,none⟩=some ov
 c1:w.cell? ⟨rb,1,none⟩=some (.slice (some ⟨kb,k * 5,none⟩) (all.length+1-k) (kc-k))
 c2:w.cell? ⟨rb,2,none⟩=some sv
 c3:∃ v,w.cell? ⟨rb,3,none⟩=some v
 c4:∃ v,w.cell? ⟨rb,4,none⟩=some v
 c5:w.cell? ⟨rb,5,none⟩=some (.int .i64 (ft.getD (0,0)).1)
 c6:w.cell? ⟨rb,6,none⟩=some (.int .i64 (ft.getD (0,0)).2)
 fz:∀ o,w.frozen? ⟨rb,o,none⟩=false
 ts:k<=all.length
 fo:∀ c,ft=some c->c.1≠0/\all.drop k = []
section
variable {w0:World}{rb kb kc:Nat}{ov sv:Value}{T:List Cel}{L:Int}{all:List Tok}{k:Nat}{ft:Option (Int×Int)}{w:World}
abbrev zSent:Obj:=.cells #[.nilIface,.slice none 0 0,.int .i64 0] 67
theorem RI.rebase {w1:World}{vb:Nat}{s:RS}{W:World}(h:RI w1 rb vb kb kc ov sv all k s W){q:Nat}(g:q≠rb)(i:q≠vb)(y:q<w1.heap.size)(r:W.heap[q]?=w1.heap[q]?)(t:rb<w1.heap.size)(o:Nat)(v:Value):RI (w1.setCell ⟨q,o,none⟩ v) rb vb kb kc ov sv all k s (W.setCell ⟨q,o,none⟩ v):=by
 have a:∀ j u,W.cell? ⟨rb,j,none⟩=some u->(W.setCell ⟨q,o,none⟩ v).cell? ⟨rb,j,none⟩=some u:=fun j u a=>(World.cell?_setCell_other _ _ _ _ (fun e=>g (by simpa using congrArg Addr.block e))).trans a
 obtain⟨p,n,c,l,m⟩:=h.c4;refine⟨⟨h.sty.os,h.sty.tape,h.sty.output,by simpa using h.sty.size,fun j b d f=>?_⟩,a _ _ h.c0,a _ _ h.c1,a _ _ h.c2,a _ _ h.c3,⟨p,n,c,a _ _ l,?_⟩,a _ _ h.c5,a _ _ h.c6,fun j=>by rw[World.frozen?_setCell];exact h.fz j,h.ts,h.vm.of_block (Below.heap_setCell _ _ _ _ (by show vb≠q;exact i.symm)),h.ov,h.fo,h.nb⟩
 ·by_cases e:j=q
  ·subst e;exact set_same r
  ·rw[Below.heap_setCell _ _ _ _ e,Below.heap_setCell _ _ _ _ e]
   exact h.sty.block j (by simpa using b) d f
 ·have x:(w1.setCell ⟨q,o,none⟩ v).heap.size=w1.heap.size:=by simp
  rw[x]
  exact m.of (by simp) fun j b _=>Below.heap_setCell _ _ _ _ (by show j≠q;omega)
theorem RP.start (P:PEnv w0 rb kb kc ov sv T L all)(h:RP w0 rb kb kc ov sv all k ft w):RI ((((w.setCell ⟨rb,3,none⟩ (.map (some (w.heap.size+1)))).setCell ⟨rb,4,none⟩ (.slice none 0 0)).alloc zSent).alloc (.map #[] 0)) rb (w.heap.size+1) kb kc ov sv all k ⟨all.drop k,[],ft⟩ ((((w.setCell ⟨rb,3,none⟩ (.map (some (w.heap.size+1)))).setCell ⟨rb,4,none⟩ (.slice none 0 0)).alloc zSent).alloc (.map #[] 0))/\REnv ((((w.setCell ⟨rb,3,none⟩ (.map (some (w.heap.size+1)))).setCell ⟨rb,4,none⟩ (.slice none 0 0)).alloc zSent).alloc (.map #[] 0)) rb (w.heap.size+1) kb kc ov sv T L all/\Sty rb rb w ((((w.setCell ⟨rb,3,none⟩ (.map (some (w.heap.size+1)))).setCell ⟨rb,4,none⟩ (.slice none 0 0)).alloc zSent).alloc (.map #[] 0))/\(((((w.setCell ⟨rb,3,none⟩ (.map (some (w.heap.size+1)))).setCell ⟨rb,4,none⟩ (.slice none 0 0)).alloc zSent).alloc (.map #[] 0))).heap[w.heap.size]?=some zSent:=by
 obtain⟨V,b⟩:∃ V,V=(w.setCell ⟨rb,3,none⟩ (.map (some (w.heap.size+1)))).setCell ⟨rb,4,none⟩ (.slice none 0 0):=⟨_,rfl⟩
 rw[<-b]
 have f:V.heap.size=w.heap.size:=by rw[b];simp
 have n:Below V.heap.size V ((V.alloc zSent).alloc (.map #[] 0)):=Below.on (new_low V _) (new_low _ _);have F:rb<w.heap.size:=Nat.lt_of_lt_of_le P.lt.1 h.sty.size
 have i:∀ (W:World) o j v u,o≠j->W.cell? ⟨rb,o,none⟩=some v->(W.setCell ⟨rb,j,none⟩ u).cell? ⟨rb,o,none⟩=some v:=fun W o j v u E h=>(World.cell?_setCell_other _ _ _ _ (fun e=>E (by simpa using(congrArg Addr.off e).symm))).trans h
 have B:∀ (W:World) j v u,W.cell? ⟨rb,j,none⟩=some v->(W.setCell ⟨rb,j,none⟩ u).cell? ⟨rb,j,none⟩=some u:=fun W j v u h=>World.cell?_setCell_same' _ _ _ (by rw[h];rfl)
 have c:∀ o v,V.cell? ⟨rb,o,none⟩=some v->((V.alloc zSent).alloc (.map #[] 0)).cell? ⟨rb,o,none⟩=some v:=fun o v c=>(n.cell (p:=⟨rb,o,none⟩) (by show rb<_;omega)).trans c
 have d:∀ o v,o≠3->o≠4->w.cell? ⟨rb,o,none⟩=some v->((V.alloc zSent).alloc (.map #[] 0)).cell? ⟨rb,o,none⟩=some v:=fun o v l m q=>c o v (by rw[b];exact i _ _ _ _ _ m (i _ _ _ _ _ l q))
 obtain⟨G,l⟩:=h.c3;obtain⟨H,m⟩:=h.c4
 have t:VrM ((V.alloc zSent).alloc (.map #[] 0)) (w.heap.size+1) []:=by
  have y:VrM ((V.alloc zSent).alloc (.map #[] 0)) (V.alloc zSent).heap.size []:=⟨0,_,World.ownsMap_made _ _ _ _,Nat.le_refl _,fun C _ _=>by simp[Maps.has],fun C x=>by cases x⟩
  rw[World.size_alloc,f] at y;exact y
 have g:Sty rb rb w V:=by rw[b];exact((Sty.refl rb rb w).set _ _).set _ _
 have a:Sty rb rb w ((V.alloc zSent).alloc (.map #[] 0)):=g.below n
 have r:Sty rb rb w0 ((V.alloc zSent).alloc (.map #[] 0)):=⟨a.os.trans h.sty.os,a.tape.trans h.sty.tape,a.output.trans h.sty.output,Nat.le_trans h.sty.size a.size,fun j D z A=>(a.block j (by have:=h.sty.size;omega) z A).trans (h.sty.block j D z A)⟩
 refine⟨⟨Sty.refl _ _ _,d _ _ (by decide) (by decide) h.c0,d _ _ (by decide) (by decide) h.c1,d _ _ (by decide) (by decide) h.c2,c _ _ (by rw[b];exact i _ _ _ _ _ (by decide) (B _ _ _ _ l)),⟨none,0,0,c _ _ (by rw[b];exact B _ _ _ _ (i _ _ _ _ _ (by decide) m)),OwnV.nil _ _⟩,d _ _ (by decide) (by decide) h.c5,d _ _ (by decide) (by decide) h.c6,fun o=>?_,⟨h.ts,rfl⟩,t,P.ovm,h.fo,(fun C x=>by cases x),by simp⟩,P.env r (by have:=h.sty.size;omega) (by simp;omega),a,?_⟩
 ·rw[n.frozen (p:=⟨rb,o,none⟩) (by show rb<_;omega),b,World.frozen?_setCell,World.frozen?_setCell]
  exact h.fz o
 ·have:=heap_alloc_new V zSent
  rw[f] at this;exact((new_low (V.alloc zSent) (.map #[] 0)).block _ (by simp;omega)).trans this
theorem sentence_any (P:PEnv w0 rb kb kc ov sv T L all)(h:RP w0 rb kb kc ov sv all k ft w):Calls Tryz.prog 32 #[ptrR rb] w fun e w'=>∃ w1 vb v p n c Y,e = .returned (.agg #[v,.slice p n c,.int .i64 Y])/\Y=(⟨all.drop k,[],ft⟩:RS).pl L/\REnv w1 rb vb kb kc ov sv T L all/\w.heap.size<=vb/\w.heap.size<=w1.heap.size/\FoB w' w.heap.size (rdR T L (all.length+1) 1200 ⟨all.drop k,[],ft⟩).1.fo [v]/\
  RJ w1 rb vb kb kc ov sv all ((rdR T L (all.length+1) 1200 ⟨all.drop k,[],ft⟩).2.mustBe L 7) w'/\w'.cell? ⟨rb,4,none⟩=some (.slice p n c)/\Sty rb rb w w':=by
 obtain⟨l,g,J,hz⟩:=h.start P;obtain⟨v3,c3⟩:=h.c3;obtain⟨v4,c4⟩:=h.c4;have f3:=h.fz 3;have f4:=h.fz 4;have k1:=@run_makeMap Tryz.prog;have k2:rb<w.heap.size:=Nat.lt_of_lt_of_le P.lt.1 h.sty.size
 have e3:rb≠w.heap.size:=by omega
 obtain⟨w1,A⟩:∃ w1,w1=(((w.setCell ⟨rb,3,none⟩ (.map (some (w.heap.size+1)))).setCell ⟨rb,4,none⟩ (.slice none 0 0)).alloc zSent).alloc (.map #[] 0):=⟨_,rfl⟩
 rw[<-A] at l g J hz
 have h4:w1.heap.size=w.heap.size+2:=by rw[A];simp
 have Q:=next_any g l
 obtain⟨s,es⟩:∃ s:RS,s=⟨all.drop k,[],ft⟩:=⟨_,rfl⟩
 rw[<-es] at l Q ⊢
 have h3:s.ts.length<all.length+1:=by rw[es];simp;omega
 have U:Hid (∀ W k,RI w1 rb (w.heap.size+1) kb kc ov sv all k s W->Calls Tryz.prog 69 #[ptrR rb,.int .i64 1200] W (ROut w1 rb (w.heap.size+1) kb kc ov sv all W (rdR T L (all.length+1) 1200 s))):=fun W k hR=>rd_all g _ 1200 s k W (by decide) (by decide) h3 hR
 have O:Hid (∀ (q:RS) W k,RI w1 rb (w.heap.size+1) kb kc ov sv all k q W->Calls Tryz.prog 33 #[ptrR rb,.int .i64 7] W (RUnit w1 rb (w.heap.size+1) kb kc ov sv all W (q.mustBe L 7))):=fun q W k hR=>mustBe_any g hR 7
 have D:Hid ((s.hd L).1.2.1=s.pl L):=hd_pl L s;have h6:Hid (RI w1 rb (w.heap.size+1) kb kc ov sv all k s w1):=l;have e4:Hid (REnv w1 rb (w.heap.size+1) kb kc ov sv T L all):=g
 have f:Hid (Sty rb rb w w1/\w1.heap.size=w.heap.size+2):=⟨J,h4⟩
 have X:Hid (w1.heap[w.heap.size]?=some zSent):=hz
 have h5:Hid (∀ w2:World,Sty rb rb w w2->w2.heap.size=w.heap.size+2->REnv w2 rb (w.heap.size+1) kb kc ov sv T L all):=fun w2 Z k5=>P.env ⟨Z.os.trans h.sty.os,Z.tape.trans h.sty.tape,Z.output.trans h.sty.output,Nat.le_trans h.sty.size Z.size,fun j hj a1 a2=>(Z.block j (by have:=h.sty.size;omega) a1 a2).trans (h.sty.block j hj a1 a2)⟩ (by have:=h.sty.size;omega) (by omega)
 have h8:Hid ((((w.setCell ⟨rb,3,none⟩ (.map (some (w.heap.size+1)))).setCell ⟨rb,4,none⟩ (.slice none 0 0)).alloc zSent).alloc (.map #[] 0)=w1):=A.symm
 generalize rdR T L (all.length+1) 1200 s=r at *
 have e9:=fieldT1
 obtain⟨⟨⟨tk,ta,tl,tn⟩,tx⟩,et⟩:∃ t,s.hd L=t:=⟨_,rfl⟩
 rw[et] at Q D;simp only[tokVR] at Q D;clear l g P h J hz h4 A es h3 et
 go_enter Tryz.func32,Tryz.ntmps32
 go_wp2_with fail;rw[h8.o];refine Q.mono ?_;rintro e W2 ⟨p2,c2,rfl,_,H⟩;have HC:=U.o W2 k (h6.o.below H);have M:Hid (RFr rb (w.heap.size+1) w1 W2):=RFr.of _ _ H;clear Q H U;go_wp2_with fail;refine HC.mono ?_;rintro e W3 ⟨v,rfl,hv,⟨k3,F⟩,h1⟩;obtain⟨tv,xv,rfl⟩:=foC_iface hv;have K:=O.o r.2 W3 k3 F;have V:Hid (FoB W3 (w.heap.size+2) r.1.fo [.iface tv xv]):=hv.mono (by have:=M.o.size;have:=f.o.2;omega);have R:Hid (RI w1 rb (w.heap.size+1) kb kc ov sv all k3 r.2 W3):=F;have N:Hid (RFr rb (w.heap.size+1) w1 W3):=M.o.trans h1;clear HC hv F h1 O;go_wp2_with fail;refine K.mono ?_;rintro e z ⟨rfl,⟨k4,G⟩,I⟩;have h7:Hid (FoB z (w.heap.size+2) r.1.fo [.iface tv xv]):=R.o.tree I V.o;have m:=N.o.trans I
 have y:z.heap[w.heap.size]?=some zSent:=by
  have e2:w1.cell? ⟨w.heap.size,0,none⟩=some .nilIface:=by unfold World.cell?;rw[X.o];rfl
  exact(m.block _ (by have:=f.o.2;omega) (by omega) (by omega) (fun a b d e=>by rw[e2] at e;cases e)).trans X.o
 obtain⟨p4,n4,E,h9,e1⟩:=G.c4
 have g0:z.cell? ⟨w.heap.size,0,none⟩=some .nilIface:=by unfold World.cell?;rw[y];rfl
 have g1:z.cell? ⟨w.heap.size,1,none⟩=some (.slice none 0 0):=by unfold World.cell?;rw[y];rfl
 have g2:z.cell? ⟨w.heap.size,2,none⟩=some (.int .i64 0):=by unfold World.cell?;rw[y];rfl
 have fz:∀ i,z.frozen? ⟨w.heap.size,i,none⟩=false:=fun i=>by unfold World.frozen?;rw[y];simp
 have e6:=fz 0;have e7:=fz 1;have e8:=fz 2;have S:Hid (RI w1 rb (w.heap.size+1) kb kc ov sv all k4 (r.2.mustBe L 7) z):=G;have e5:Hid (RFr rb (w.heap.size+1) w1 z):=m;clear K G I m y e1 R N V;have C:Hid (z.heap[w.heap.size]?=w1.heap[w.heap.size]?):=S.o.sty.block _ (by have:=f.o.2;omega) (by omega) (by omega);go_wp2_with fail
 have hq:w.heap.size<w1.heap.size:=by have:=f.o.2;omega
 have x:rb<w1.heap.size:=by omega
 have r1:=S.o.rebase (q:=w.heap.size) (by omega) (by omega) hq C.o x 0 (.iface tv xv);have r2:=r1.rebase (q:=w.heap.size) (by omega) (by omega) (by simpa using hq) (set_same C.o) (by simpa using x) 1 (.slice p4 n4 E);have r3:=r2.rebase (q:=w.heap.size) (by omega) (by omega) (by simpa using hq) (set_same (set_same C.o)) (by simpa using x) 2 (.int .i64 ta)
 have B:Sty rb rb w (((w1.setCell ⟨w.heap.size,0,none⟩ (.iface tv xv)).setCell ⟨w.heap.size,1,none⟩ (.slice p4 n4 E)).setCell ⟨w.heap.size,2,none⟩ (.int .i64 ta)):=⟨f.o.1.os,f.o.1.tape,f.o.1.output,by simpa using f.o.1.size,fun j hj a1 a2=>by
  rw[Below.heap_setCell _ _ _ _ (by show j≠w.heap.size;omega),Below.heap_setCell _ _ _ _ (by show j≠w.heap.size;omega),Below.heap_setCell _ _ _ _ (by show j≠w.heap.size;omega)]
  exact f.o.1.block j hj a1 a2⟩
 refine bodyPost_ret (v:=.agg #[.iface tv xv,.slice p4 n4 E,.int .i64 ta]) (by simp[results,Tryz.results32,go_sem,g0,g1,g2]) rfl ⟨_,w.heap.size+1,_,_,_,_,ta,rfl,D.o,h5.o _ B (by simpa using f.o.2),by omega,by simp;omega,?_,⟨k4,r3⟩,?_,B.pre r3.sty (by omega)⟩
 ·refine FoB.imp (by omega) (by simp) _ _ (fun p u hp hc=>?_) h7.o
  rw[World.cell?_setCell_other _ _ _ _ (fun e=>by have:=congrArg Addr.block e;simp at this;omega),World.cell?_setCell_other _ _ _ _ (fun e=>by have:=congrArg Addr.block e;simp at this;omega),World.cell?_setCell_other _ _ _ _ (fun e=>by have:=congrArg Addr.block e;simp at this;omega)];exact hc
 ·rw[World.cell?_setCell_other _ _ _ _ (fun e=>by have:=congrArg Addr.block e;simp at this;omega),World.cell?_setCell_other _ _ _ _ (fun e=>by have:=congrArg Addr.block e;simp at this;omega),World.cell?_setCell_other _ _ _ _ (fun e=>by have:=congrArg Addr.block e;simp at this;omega)]
  exact h9
end
theorem wgt_le:∀ a:List Tok,(∀ t ∈ a,TokG t)->wgt a<=204 * a.length
 | [],_=>by simp[wgt]
 | t :: r,h=>by
   have c:=wgt_le r (fun x b=>h x (by simp[b]));have d:=(h t (by simp)).tx.2;simp only[wgt,List.length_cons];omega
def flW (rb kb q j m:Nat)(c a x5:Int)(w:World):World:=(if x5=0 then((w.setCell ⟨rb,5,none⟩ (.int .i64 c)).setCell ⟨rb,6,none⟩ (.int .i64 a)).setCell ⟨rb,1,none⟩ (.slice (some ⟨kb,q+j * 5,none⟩) 1 (m-j)) else w.setCell ⟨rb,1,none⟩ (.slice (some ⟨kb,q+j * 5,none⟩) 1 (m-j))).drew
theorem flW_sty (rb kb q j m:Nat)(c a b:Int)(w:World):Sty rb rb w (flW rb kb q j m c a b w):=by
 unfold flW
 refine Sty.below ?_ ((Below.refl _ _).drew)
 split
 ·exact(((Sty.refl rb rb w).set _ _).set _ _).set _ _
 ·exact(Sty.refl rb rb w).set _ _
theorem fail_raw (rb kb q j m:Nat)(c a l G:Int)(w:World)(y:w.cell? ⟨rb,1,none⟩=some (.slice (some ⟨kb,q,none⟩) (j+1) m))(H:w.cell? ⟨rb,5,none⟩=some (.int .i64 l))(I:w.cell? ⟨rb,6,none⟩=some (.int .i64 G))(f:∀ o,w.frozen? ⟨rb,o,none⟩=false)(A:j<=20000)(B:j+1<=m)(C:m<=9223372036854775807)(D:q<=100000) :
  Calls Tryz.prog 59 #[ptrR rb,.int .i64 c,.int .i64 a] w fun e F=>e = .returned (.tuple #[])/\F=flW rb kb q j m c a l w:=by
 have z:=f 1;have J:=f 5;have K:=f 6
 have t:¬ m=j:=by omega
 have g:∀ W:World,(Instr.slice 50 (.slice (some ⟨kb,q,none⟩) (j+1) m) (some (.int .i64 (j:Int))) none none).run Tryz.prog W = .ok (.slice (some ⟨kb,q+j * 5,none⟩) 1 (m-j)) W:=fun W=>by
  rw[run_slice_l W 50 _ _ _ Tryz.underlying50 .i64 j (by omega) (by omega)]
  have e:(sizeOf (Tryz.prog.elem 50)).run Tryz.prog W = .ok 5 W:=by kernel_rfl
  rw[e]
  simp[Result.andThen,sliced,t,Addr.add]
 by_cases n:l=0
 ·subst n
  obtain⟨V,i⟩:∃ V,V=(w.setCell ⟨rb,5,none⟩ (.int .i64 c)).setCell ⟨rb,6,none⟩ (.int .i64 a):=⟨_,rfl⟩
  have h:V.cell? ⟨rb,1,none⟩=some (.slice (some ⟨kb,q,none⟩) (j+1) m):=by rw[i,World.cell?_setCell_other _ _ _ _ (by simp),World.cell?_setCell_other _ _ _ _ (by simp)];exact y
  have u:V.frozen? ⟨rb,1,none⟩=false:=by rw[i,World.frozen?_setCell,World.frozen?_setCell];exact z
  have x:Hid (V=(w.setCell ⟨rb,5,none⟩ (.int .i64 c)).setCell ⟨rb,6,none⟩ (.int .i64 a)):=i;clear f i
  go_enter Tryz.func59,Tryz.ntmps59
  go_wp2_with fail;rw[<-x.o];refine wp_region_any (by kernel_rfl) ?_;refine wpAny_tail (p:=13) (S:=fun W=>W.cell? ⟨rb,1,none⟩=some (.slice (some ⟨kb,q,none⟩) (j+1) m)) (by kernel_rfl) 13 _ _ _ rfl (clo_start _ _ _) (by kernel_rfl) (by kernel_rfl) ?_
  change wpAnyH _ _ _ _ _ _ _ _ V.drew
  have r:V.drew.cell? ⟨rb,1,none⟩=some (.slice (some ⟨kb,q,none⟩) (j+1) m):=h;refine hTq 0 (ptrR rb) 18 ?_
  simp only[Act.put,zzA,zzB,zzC];refine hTq 1 (ptrR rb) 19 ?_
  simp only[Act.put,zzA,zzB,zzC];refine hTq 2 (ptrR rb) 20 ?_
  simp only[Act.put,zzA,zzB,zzC];refine hTq 3 (.pointer (some ⟨rb,1,none⟩)) 21 ?_
  simp only[Act.put,zzA,zzB,zzC];refine hTr 4 (.slice (some ⟨kb,q,none⟩) (j+1) m) 22 (fun o d W b=>?y4) ?_
  case y4=>cases d;simp[execOp,go_sem,Act.eval,b]
  simp only[Act.put,zzA,zzB,zzC];refine hTq 5 (ptrR rb) 23 ?_
  simp only[Act.put,zzA,zzB,zzC];refine hTq 6 (ptrR rb) 24 ?_
  simp only[Act.put,zzA,zzB,zzC];refine hTq 7 (.pointer (some ⟨rb,1,none⟩)) 25 ?_
  simp only[Act.put,zzA,zzB,zzC];refine hTr 8 (.slice (some ⟨kb,q,none⟩) (j+1) m) 26 (fun o d W b=>?y8) ?_
  case y8=>cases d;simp[execOp,go_sem,Act.eval,b]
  simp only[Act.put,zzA,zzB,zzC];refine hTq 9 (.int .i64 ((j+1:Nat):Int)) 27 ?_
  simp only[Act.put,zzA,zzB,zzC];refine hTr 10 (.int .i64 (j:Int)) 28 (fun o d W b=>?y10) ?_
  case y10=>cases d;simp[execOp,go_sem,Act.eval,IntKind.wrap_i64];omega
  simp only[Act.put,zzA,zzB,zzC];refine hTr 11 (.slice (some ⟨kb,q+j * 5,none⟩) 1 (m-j)) 29 (fun o d W b=>?y11) ?_
  case y11=>cases d;simp[execOp,go_sem,Act.eval,g]
  simp only[Act.put,zzA,zzB,zzC];refine hTq 12 (ptrR rb) 30 ?_
  simp only[Act.put,zzA,zzB,zzC];refine wpAnyH_done (by kernel_rfl) ?_ _;refine tail_store (v:=.pointer (some ⟨rb,1,none⟩)) (w':=V.drew.setCell ⟨rb,1,none⟩ (.slice (some ⟨kb,q+j * 5,none⟩) 1 (m-j))) (some 31) (by rfl) (by rfl) (by rfl) ?_ (by rfl) (by rfl) (by rfl) ?_ ?_
  ·simp[execOp,go_sem,Act.eval]
  ·simp[execOp,go_sem,Act.eval,Act.put,h,u]
  simp only[Act.put,zzA,zzB,zzC]
  go_end0
  refine⟨rfl,?_⟩
  unfold flW
  rw[if_pos rfl,<-x.o]
  rfl
 ·have E:(l == 0)=false:=by simpa using n
  have h:=y;have u:=z;clear f
  go_enter Tryz.func59,Tryz.ntmps59
  go_wp2_with fail;refine wp_region_any (by kernel_rfl) ?_;refine wpAny_tail (p:=13) (S:=fun W=>W.cell? ⟨rb,1,none⟩=some (.slice (some ⟨kb,q,none⟩) (j+1) m)) (by kernel_rfl) 13 _ _ _ rfl (clo_start _ _ _) (by kernel_rfl) (by kernel_rfl) ?_
  change wpAnyH _ _ _ _ _ _ _ _ w.drew
  have r:w.drew.cell? ⟨rb,1,none⟩=some (.slice (some ⟨kb,q,none⟩) (j+1) m):=h;refine hTq 0 (ptrR rb) 18 ?_
  simp only[Act.put,zzA,zzB,zzC];refine hTq 1 (ptrR rb) 19 ?_
  simp only[Act.put,zzA,zzB,zzC];refine hTq 2 (ptrR rb) 20 ?_
  simp only[Act.put,zzA,zzB,zzC];refine hTq 3 (.pointer (some ⟨rb,1,none⟩)) 21 ?_
  simp only[Act.put,zzA,zzB,zzC];refine hTr 4 (.slice (some ⟨kb,q,none⟩) (j+1) m) 22 (fun o d W b=>?y4) ?_
  case y4=>cases d;simp[execOp,go_sem,Act.eval,b]
  simp only[Act.put,zzA,zzB,zzC];refine hTq 5 (ptrR rb) 23 ?_
  simp only[Act.put,zzA,zzB,zzC];refine hTq 6 (ptrR rb) 24 ?_
  simp only[Act.put,zzA,zzB,zzC];refine hTq 7 (.pointer (some ⟨rb,1,none⟩)) 25 ?_
  simp only[Act.put,zzA,zzB,zzC];refine hTr 8 (.slice (some ⟨kb,q,none⟩) (j+1) m) 26 (fun o d W b=>?y8) ?_
  case y8=>cases d;simp[execOp,go_sem,Act.eval,b]
  simp only[Act.put,zzA,zzB,zzC];refine hTq 9 (.int .i64 ((j+1:Nat):Int)) 27 ?_
  simp only[Act.put,zzA,zzB,zzC];refine hTr 10 (.int .i64 (j:Int)) 28 (fun o d W b=>?y10) ?_
  case y10=>cases d;simp[execOp,go_sem,Act.eval,IntKind.wrap_i64];omega
  simp only[Act.put,zzA,zzB,zzC];refine hTr 11 (.slice (some ⟨kb,q+j * 5,none⟩) 1 (m-j)) 29 (fun o d W b=>?y11) ?_
  case y11=>cases d;simp[execOp,go_sem,Act.eval,g]
  simp only[Act.put,zzA,zzB,zzC];refine hTq 12 (ptrR rb) 30 ?_
  simp only[Act.put,zzA,zzB,zzC];refine wpAnyH_done (by kernel_rfl) ?_ _;refine tail_store (v:=.pointer (some ⟨rb,1,none⟩)) (w':=w.drew.setCell ⟨rb,1,none⟩ (.slice (some ⟨kb,q+j * 5,none⟩) 1 (m-j))) (some 31) (by rfl) (by rfl) (by rfl) ?_ (by rfl) (by rfl) (by rfl) ?_ ?_
  ·simp[execOp,go_sem,Act.eval]
  ·simp[execOp,go_sem,Act.eval,Act.put,h,u]
  simp only[Act.put,zzA,zzB,zzC]
  go_end0
  refine⟨rfl,?_⟩
  unfold flW
  rw[if_neg n]
  rfl
section
variable {w1:World}{rb vb kb kc:Nat}{ov sv:Value}{T:List Cel}{L:Int}{all:List Tok}{k:Nat}{s:RS}{w:World}
end
theorem OwnC.stay {w w':World}{B:Nat}{p:Option Addr}{n c:Nat}{l:List Cel}(h:OwnC w B p n c l)(z:w.heap.size<=w'.heap.size)(t:∀ k,B<=k->k<w.heap.size->w'.heap[k]?=w.heap[k]?):OwnC w' B p n c l:=by
 obtain⟨rfl,C,x,u,a,ha⟩:=h;refine⟨rfl,C,x,⟨u.1,?_⟩,fun i b=>⟨(a i b).1,(a i b).2.1,(a i b).2.2.other z (fun g y e=>?_)⟩,ha⟩
 ·rcases u.2 with v | ⟨g,d,f,A,o,q,r⟩
  ·exact .inl v
  ·exact .inr ⟨g,d,f,A,o,(t g (by omega) (Array.getElem?_eq_some_iff.1 q).1).trans q,r⟩
 ·obtain⟨D,m,o,j,_⟩:=(a i b).2.2.2 y
  rw[e] at m
  cases m
  exact t g (by omega) j
theorem OwnC.lower {w:World}{B f:Nat}{p:Option Addr}{n c:Nat}{j:List Cel}(h:OwnC w B p n c j)(A:f<=B):OwnC w f p n c j:=by
 obtain⟨rfl,z,v,l,d,ha⟩:=h;refine⟨rfl,z,v,⟨l.1,?_⟩,fun i e=>⟨(d i e).1,(d i e).2.1,?_⟩,ha⟩
 ·rcases l.2 with q | ⟨g,a,b,y,t,u,r⟩
  ·exact .inl q
  ·exact .inr ⟨g,a,b,y,by omega,u,r⟩
 ·have:=(d i e).2.2
  refine⟨this.1,fun x=>?_⟩;obtain⟨o,m,t,r⟩:=this.2 x;exact⟨o,m,by omega,r⟩
theorem Sty.up {rb:Nat}{w0 w1 d:World}(h:Sty rb rb w0 w1)(k:Sty rb rb w1 d):Sty rb rb w0 d:=⟨k.os.trans h.os,k.tape.trans h.tape,k.output.trans h.output,Nat.le_trans h.size k.size,fun x c a b=>(k.block x (Nat.lt_of_lt_of_le c h.size) a b).trans (h.block x c a b)⟩
theorem Sty.of (rb:Nat){w w':World}(h:Below w.heap.size w w'):Sty rb rb w w':=(Sty.refl rb rb w).below h
theorem put3_off {w:World}{q j:Nat}(h:j≠q)(a b c:Value):(((w.setCell ⟨q,0,none⟩ a).setCell ⟨q,1,none⟩ b).setCell ⟨q,2,none⟩ c).heap[j]?=w.heap[j]?:=by
 rw[Below.heap_setCell _ _ _ _ h,Below.heap_setCell _ _ _ _ h,Below.heap_setCell _ _ _ _ h]
theorem Sty.put3 {rb q:Nat}{w w':World}(h:Sty rb rb w w')(g:w.heap.size<=q)(a b c:Value):Sty rb rb w (((w'.setCell ⟨q,0,none⟩ a).setCell ⟨q,1,none⟩ b).setCell ⟨q,2,none⟩ c):=⟨h.os,h.tape,h.output,by simpa using h.size,fun j f d e=>(put3_off (by omega) a b c).trans (h.block j f d e)⟩
def flF (ft:Option (Int×Int))(c a:Int):Option (Int×Int):=some (ft.getD (c,a))
section
variable {w0:World}{rb kb kc:Nat}{ov sv:Value}{T:List Cel}{L:Int}{all:List Tok}{k:Nat}{ft:Option (Int×Int)}{w:World}
theorem RP.below {w':World}(h:RP w0 rb kb kc ov sv all k ft w)(b:Below w.heap.size w w'):RP w0 rb kb kc ov sv all k ft w':=by
 have a:∀ p v,w.cell? p=some v->w'.cell? p=some v:=fun p v h=>(b.cell (World.block_lt_of_cell? _ _ h)).trans h
 obtain⟨e,c⟩:=h.c3;obtain⟨f,d⟩:=h.c4;exact⟨h.sty.below b,a _ _ h.c0,a _ _ h.c1,a _ _ h.c2,⟨e,a _ _ c⟩,⟨f,a _ _ d⟩,a _ _ h.c5,a _ _ h.c6,fun o=>(b.frozen (p:=⟨rb,o,none⟩) (show rb<_ from World.block_lt_of_cell? _ _ h.c0)).trans (h.fz o),h.ts,h.fo⟩
theorem RP.put (h:RP w0 rb kb kc ov sv all k ft w){q:Nat}(d:q≠rb)(n:w0.heap.size<=q)(o:Nat)(v:Value):RP w0 rb kb kc ov sv all k ft (w.setCell ⟨q,o,none⟩ v):=by
 have a:∀ j u,w.cell? ⟨rb,j,none⟩=some u->(w.setCell ⟨q,o,none⟩ v).cell? ⟨rb,j,none⟩=some u:=fun j u a=>(World.cell?_setCell_other _ _ _ _ (fun e=>d (by simpa using congrArg Addr.block e))).trans a
 obtain⟨l,f⟩:=h.c3;obtain⟨m,g⟩:=h.c4;exact⟨⟨h.sty.os,h.sty.tape,h.sty.output,by simpa using h.sty.size,fun j i b c=>(Below.heap_setCell _ _ _ _ (by show j≠q;omega)).trans (h.sty.block j i b c)⟩,a _ _ h.c0,a _ _ h.c1,a _ _ h.c2,⟨l,a _ _ f⟩,⟨m,a _ _ g⟩,a _ _ h.c5,a _ _ h.c6,fun o=>by rw[World.frozen?_setCell];exact h.fz o,h.ts,h.fo⟩
theorem RI.rp {w1:World}{vb:Nat}{s:RS}(h:RI w1 rb vb kb kc ov sv all k s w)(d:Sty rb rb w0 w):RP w0 rb kb kc ov sv all k s.ft w:=by
 obtain⟨p,n,c,b,_⟩:=h.c4;exact⟨d,h.c0,h.c1,h.c2,⟨_,h.c3⟩,⟨_,b⟩,h.c5,h.c6,h.fz,h.ts.1,fun c a=>⟨(h.fo c a).1,h.ts.2▸(h.fo c a).2⟩⟩
theorem RP.toks (h:RP w0 rb kb kc ov sv all k ft w)(b:Nat)(j:b<=all.length)(d:∀ c,ft=some c->all.drop b = []):RP w0 rb kb kc ov sv all b ft (w.setCell ⟨rb,1,none⟩ (.slice (some ⟨kb,b * 5,none⟩) (all.length+1-b) (kc-b))):=by
 have a:∀ o v u,o≠1->w.cell? ⟨rb,o,none⟩=some v->(w.setCell ⟨rb,1,none⟩ u).cell? ⟨rb,o,none⟩=some v:=fun o v u l h=>(World.cell?_setCell_other _ _ _ _ (fun e=>l (by simpa using(congrArg Addr.off e).symm))).trans h
 obtain⟨m,g⟩:=h.c3;obtain⟨n,i⟩:=h.c4;exact⟨h.sty.set _ _,a _ _ _ (by decide) h.c0,World.cell?_setCell_same' _ _ _ (by rw[h.c1];rfl),a _ _ _ (by decide) h.c2,⟨m,a _ _ _ (by decide) g⟩,⟨n,a _ _ _ (by decide) i⟩,a _ _ _ (by decide) h.c5,a _ _ _ (by decide) h.c6,fun o=>by rw[World.frozen?_setCell];exact h.fz o,j,fun c f=>⟨(h.fo c f).1,d c f⟩⟩
theorem failP_any (P:PEnv w0 rb kb kc ov sv T L all)(h:RP w0 rb kb kc ov sv all k ft w)(c a:Int)(y:c≠0):Calls Tryz.prog 59 #[ptrR rb,.int .i64 c,.int .i64 a] w fun e f=>e = .returned (.tuple #[])/\RP w0 rb kb kc ov sv all all.length (flF ft c a) f/\Sty rb rb w f:=by
 have C:=h.ts;have g:=h.c1
 obtain⟨j,q⟩:∃ j,j+1=all.length+1-k:=⟨all.length-k,by omega⟩
 rw[<-q] at g;refine(fail_raw rb kb (k * 5) j (kc-k) c a _ _ w g h.c5 h.c6 h.fz (by have:=P.len;omega) (by have:=P.cap;omega) (by have:=P.cap;omega) (by have:=P.len;omega)).mono ?_;rintro e f ⟨rfl,rfl⟩;refine⟨rfl,?_,flW_sty _ _ _ _ _ _ _ _ _⟩
 have n:k * 5+j * 5=all.length * 5:=by omega
 have p:kc-k-j=kc-all.length:=by omega
 unfold flW
 rw[n,p];refine RP.below ?_ ((Below.refl _ _).drew);obtain⟨A,r⟩:=h.c3;obtain⟨B,t⟩:=h.c4
 have b:∀ (W:World) (i o:Nat) (v u:Value),o≠i->W.cell? ⟨rb,o,none⟩=some v->(W.setCell ⟨rb,i,none⟩ u).cell? ⟨rb,o,none⟩=some v:=fun W i o v u z h=>(World.cell?_setCell_other _ _ _ _ (fun e=>z (by simpa using(congrArg Addr.off e).symm))).trans h
 have l:all.length+1-all.length=1:=by omega
 cases ft with
 | none=>
   rw[if_pos (by rfl)];refine⟨((h.sty.set _ _).set _ _).set _ _,?_,?_,?_,⟨A,?_⟩,⟨B,?_⟩,?_,?_,fun o=>?_,Nat.le_refl _,fun x d=>?_⟩
   ·exact b _ _ _ _ _ (by decide) (b _ _ _ _ _ (by decide) (b _ _ _ _ _ (by decide) h.c0))
   ·rw[l]
    exact World.cell?_setCell_same' _ _ _ (by rw[b _ _ _ _ _ (by decide) (b _ _ _ _ _ (by decide) h.c1)];rfl)
   ·exact b _ _ _ _ _ (by decide) (b _ _ _ _ _ (by decide) (b _ _ _ _ _ (by decide) h.c2))
   ·exact b _ _ _ _ _ (by decide) (b _ _ _ _ _ (by decide) (b _ _ _ _ _ (by decide) r))
   ·exact b _ _ _ _ _ (by decide) (b _ _ _ _ _ (by decide) (b _ _ _ _ _ (by decide) t))
   ·exact b _ _ _ _ _ (by decide) (b _ _ _ _ _ (by decide) (World.cell?_setCell_same' _ _ _ (by rw[h.c5];rfl)))
   ·exact b _ _ _ _ _ (by decide) (World.cell?_setCell_same' _ _ _ (by rw[b _ _ _ _ _ (by decide) h.c6];rfl))
   ·rw[World.frozen?_setCell,World.frozen?_setCell,World.frozen?_setCell];exact h.fz o
   ·cases d;exact⟨y,by simp⟩
 | some x=>
   have d:=(h.fo x rfl).1;rw[if_neg (by simpa using d)];have m:=h.toks all.length (Nat.le_refl _) (fun _ _=>by simp);rw[l] at m;exact m
theorem RP.tok (P:PEnv w0 rb kb kc ov sv T L all)(h:RP w0 rb kb kc ov sv all k ft w):∃ p c,w.cell? ⟨kb,k * 5,none⟩=some (.int .i64 ((all.drop k).headD (senT L)).1.1)/\w.cell? ⟨kb,k * 5+1,none⟩=some (.int .i64 ((all.drop k).headD (senT L)).1.2.1)/\w.cell? ⟨kb,k * 5+2,none⟩=some (.int .i64 ((all.drop k).headD (senT L)).1.2.2.1)/\
  w.cell? ⟨kb,k * 5+3,none⟩=some (.slice p ((all.drop k).headD (senT L)).2.length c)/\w.cell? ⟨kb,k * 5+4,none⟩=some (.int .i64 ((all.drop k).headD (senT L)).1.2.2.2):=by
 obtain⟨p,c,a,b,d,e,f,g⟩:=P.tok k h.ts;exact⟨p,c,h.sty.cell a P.ne P.ne,h.sty.cell b P.ne P.ne,h.sty.cell d P.ne P.ne,h.sty.cell e P.ne P.ne,h.sty.cell f P.ne P.ne⟩
theorem nextP_any (P:PEnv w0 rb kb kc ov sv T L all)(h:RP w0 rb kb kc ov sv all k ft w):Calls Tryz.prog 68 #[ptrR rb] w fun e G=>∃ p c,e = .returned (tokVR ((all.drop k).headD (senT L)) p c)/\Below w.heap.size w G:=by
 have ha:=h.below (new_low w zTok);obtain⟨p,c,x,y,z,i,A⟩:=ha.tok P;have j:=ha.c1;have D:=h.ts
 obtain⟨n,u⟩:∃ n,n=all.length+1-k:=⟨_,rfl⟩
 obtain⟨m,r⟩:∃ m,m=kc-k:=⟨_,rfl⟩
 rw[<-u,<-r] at j
 have I:0<n:=by omega
 have F:n<=1000000:=by have:=P.len;omega
 have H:n<=m:=by have:=P.cap;omega
 have E:k<=10000:=by have:=P.len;omega
 generalize (all.drop k).headD (senT L)=t at *
 obtain⟨⟨d,b,f,g⟩,B⟩:=t;simp only at x y z i A
 obtain⟨q,eq⟩:∃ q,q=k * 5:=⟨_,rfl⟩
 obtain⟨l,a⟩:∃ l,l=B.length:=⟨_,rfl⟩
 have C:Hid (l=B.length):=a;rw[<-eq] at j x y z i A;rw[<-a] at i;clear h P u r ha D eq a
 go_enter Tryz.func68,Tryz.ntmps68
 go_wp2_with fail;exact bodyPost_ret (v:=.agg #[.int .i64 d,.int .i64 b,.int .i64 f,.slice p l c,.int .i64 g]) (by simp[results,Tryz.results68,go_sem]) rfl ⟨p,c,by rw[C.o],new_low _ _⟩
abbrev zCla:Obj:=.cells #[.slice none 0 0,.slice none 0 0,.int .i64 0] 28
theorem clause_any (P:PEnv w0 rb kb kc ov sv T L all)(h:RP w0 rb kb kc ov sv all k ft w)(x:Tr)(v:Value)(p:Option Addr)(n c:Nat)(a:Int)(hv:FoC w x.fo [v])(X:okH x.fo)(hl:x.2.cells.length<=3000000) :
  Calls Tryz.prog 34 #[ptrR rb,.agg #[v,.slice p n c,.int .i64 a]] w fun e D=>∃ q m f,e = .returned (.agg #[.slice q m f,.slice p n c,.int .i64 a])/\OwnC D w.heap.size q m f (itC x)/\Sty rb rb w D/\
   (if validB (itC x)=true then RP w0 rb kb kc ov sv all k ft D else RP w0 rb kb kc ov sv all all.length (flF ft 3 a) D):=by
 obtain⟨V,H⟩:∃ V,V=(w.alloc (.cells #[v,.slice p n c,.int .i64 a] 67)).alloc zCla:=⟨_,rfl⟩
 have G:Below w.heap.size w V:=by rw[H];exact((Below.refl _ _).alloc (Nat.le_refl _) _).alloc (by simp) _
 have Y:V.heap.size=w.heap.size+2:=by rw[H];simp
 have Z:FoC V x.fo [v]:=hv.below G;obtain⟨C,E,rfl⟩:∃ t y,v = .iface t y:=FoC.iface hv;have HC:=cellsH_any x.1 x.2 (.iface C E) V X Z hl
 have b0:V.heap[w.heap.size]?=some (.cells #[.iface C E,.slice p n c,.int .i64 a] 67):=by
  rw[H];exact((new_low _ zCla).block _ (by simp)).trans (heap_alloc_new _ _)
 have b1:V.heap[w.heap.size+1]?=some zCla:=by
  have:=heap_alloc_new (w.alloc (.cells #[.iface C E,.slice p n c,.int .i64 a] 67)) zCla;rw[<-H] at this
  simpa using this
 have s0:V.cell? ⟨w.heap.size,0,none⟩=some (.iface C E):=by unfold World.cell?;rw[b0];rfl
 have HV:Hid (V=(w.alloc (.cells #[.iface C E,.slice p n c,.int .i64 a] 67)).alloc zCla):=H
 have R:Hid (∀ W q m f,OwnC W V.heap.size q m f (itC x)->Calls Tryz.prog 73 #[.slice q m f] W fun e D=>e = .returned (.bool (validB (itC x)))/\Below W.heap.size W D):=fun W q m f hO=>by
  have e:=hO.1;subst e;exact implValid_any q f (itC x) W (by simp[itC];omega) hO.cin
 have K:Hid (∀ W,Below w.heap.size w W->Calls Tryz.prog 59 #[ptrR rb,.int .i64 3,.int .i64 a] W fun e D=>e = .returned (.tuple #[])/\RP w0 rb kb kc ov sv all all.length (flF ft 3 a) D/\Sty rb rb W D):=fun W hW=>failP_any P (h.below hW) 3 a (by decide)
 have Q:Hid (∀ W,Below w.heap.size w W->RP w0 rb kb kc ov sv all k ft W):=fun W hW=>h.below hW
 have M:Hid (rb<w0.heap.size/\w0.heap.size<=w.heap.size):=⟨P.lt.1,h.sty.size⟩
 have b:Hid (Below w.heap.size w V/\V.heap.size=w.heap.size+2):=⟨G,Y⟩
 have h5:Hid (V.heap[w.heap.size]?=some (.cells #[.iface C E,.slice p n c,.int .i64 a] 67)):=b0;have h6:Hid (V.heap[w.heap.size+1]?=some zCla):=b1;clear P h hv Z X hl G Y b0 b1 H
 go_enter Tryz.func34,Tryz.ntmps34
 go_wp2_with fail;rw[<-HV.o];refine HC.mono ?_;rintro e W1 ⟨q,m,f,rfl,F,U⟩;have I:=R.o W1 q m f F;have N:Hid (OwnC W1 V.heap.size q m f (itC x)):=F;have HB:Hid (Below V.heap.size V W1):=U;clear HC F U R;go_wp2_with fail;refine I.mono ?_;rintro e d ⟨rfl,B⟩;have r:Below V.heap.size V d:=Below.on HB.o B;have h4:Below w.heap.size w d:=Below.on b.o.1 r;have S:OwnC d V.heap.size q m f (itC x):=N.o.stay B.size (fun j _ hj=>B.block j hj);have u:Hid (Below w.heap.size w d):=h4;have O:Hid (OwnC d V.heap.size q m f (itC x)):=S;have l:=(r.block _ (by rw[b.o.2];omega)).trans h5.o;have g:=(r.block _ (by rw[b.o.2];omega)).trans h6.o;have h9:Hid (V.heap.size<=d.heap.size):=r.size;clear I B r h4 S HB N s0
 by_cases h3:validB (itC x)=true
 ·rw[h3]
  have t0:d.cell? ⟨w.heap.size,0,none⟩=some (.iface C E):=by unfold World.cell?;rw[l];rfl
  have t1:d.cell? ⟨w.heap.size,1,none⟩=some (.slice p n c):=by unfold World.cell?;rw[l];rfl
  have t2:d.cell? ⟨w.heap.size,2,none⟩=some (.int .i64 a):=by unfold World.cell?;rw[l];rfl
  have g0:d.cell? ⟨w.heap.size+1,0,none⟩=some (.slice none 0 0):=by unfold World.cell?;rw[g];rfl
  have g1:d.cell? ⟨w.heap.size+1,1,none⟩=some (.slice none 0 0):=by unfold World.cell?;rw[g];rfl
  have g2:d.cell? ⟨w.heap.size+1,2,none⟩=some (.int .i64 0):=by unfold World.cell?;rw[g];rfl
  have A:∀ i,d.frozen? ⟨w.heap.size+1,i,none⟩=false:=fun i=>by unfold World.frozen?;rw[g];simp
  have z0:=A 0;have z1:=A 1;have z2:=A 2;clear l g A;go_wp2_with fail;refine bodyPost_ret (v:=.agg #[.slice q m f,.slice p n c,.int .i64 a]) (by simp[results,Tryz.results34,go_sem,g0,g1,g2,t0,t1,t2]) rfl ⟨q,m,f,rfl,?_,?_,?_⟩
  ·exact(O.o.stay (by simp) (fun j hj _=>put3_off (by have:=b.o.2;omega) _ _ _)).lower (by have:=b.o.2;omega)
  ·exact(Sty.of rb u.o).put3 (by omega) _ _ _
  ·exact Q.o _ (low_put (low_put (low_put u.o (by omega) _ _) (by omega) _ _) (by omega) _ _)
 ·have e2:validB (itC x)=false:=by simpa using h3
  rw[e2];have J:=K.o d u.o
  have t2:d.cell? ⟨w.heap.size,2,none⟩=some (.int .i64 a):=by unfold World.cell?;rw[l];rfl
  have h7:Hid (d.heap[w.heap.size]?=some (.cells #[.iface C E,.slice p n c,.int .i64 a] 67)):=l;have h8:Hid (d.heap[w.heap.size+1]?=some zCla):=g;clear l g K Q;go_wp2_with fail;refine J.mono ?_;rintro e z ⟨rfl,hR,hs⟩
  have e4:rb<w.heap.size:=by have:=M.o;omega
  have e3:w.heap.size+2<=d.heap.size:=by have:=b.o.2;have:=h9.o;omega
  have HR:Hid (RP w0 rb kb kc ov sv all all.length (flF ft 3 a) z):=hR;have HS:Hid (Sty rb rb d z):=hs;have l:=(hs.block w.heap.size (by omega) (by omega) (by omega)).trans h7.o;have g:=(hs.block (w.heap.size+1) (by omega) (by omega) (by omega)).trans h8.o;clear J hR hs t2
  have t0:z.cell? ⟨w.heap.size,0,none⟩=some (.iface C E):=by unfold World.cell?;rw[l];rfl
  have t1:z.cell? ⟨w.heap.size,1,none⟩=some (.slice p n c):=by unfold World.cell?;rw[l];rfl
  have t2:z.cell? ⟨w.heap.size,2,none⟩=some (.int .i64 a):=by unfold World.cell?;rw[l];rfl
  have g0:z.cell? ⟨w.heap.size+1,0,none⟩=some (.slice none 0 0):=by unfold World.cell?;rw[g];rfl
  have g1:z.cell? ⟨w.heap.size+1,1,none⟩=some (.slice none 0 0):=by unfold World.cell?;rw[g];rfl
  have g2:z.cell? ⟨w.heap.size+1,2,none⟩=some (.int .i64 0):=by unfold World.cell?;rw[g];rfl
  have A:∀ i,z.frozen? ⟨w.heap.size+1,i,none⟩=false:=fun i=>by unfold World.frozen?;rw[g];simp
  have z0:=A 0;have z1:=A 1;have z2:=A 2;clear l g A;go_wp2_with fail;refine bodyPost_ret (v:=.agg #[.slice q m f,.slice p n c,.int .i64 a]) (by simp[results,Tryz.results34,go_sem,g0,g1,g2,t0,t1,t2]) rfl ⟨q,m,f,rfl,?_,?_,?_⟩
  ·exact((O.o.stay HS.o.size (fun j hj e1=>HS.o.block j e1 (by have:=b.o.2;omega) (by have:=b.o.2;omega))).stay (by simp) (fun j hj _=>put3_off (by have:=b.o.2;omega) _ _ _)).lower (by have:=b.o.2;omega)
  ·exact((Sty.of rb u.o).up HS.o).put3 (by omega) _ _ _
  ·have h1:w.heap.size+1≠rb:=by omega
   have h2:w0.heap.size<=w.heap.size+1:=by have:=M.o;omega
   exact((HR.o.put h1 h2 _ _).put h1 h2 _ _).put h1 h2 _ _
end
end Go.Proofs.YtlkhmmoimplokaaGreatDoor
