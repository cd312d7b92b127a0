/- Texts of RdK, RdL, RdM, RdN, RdO. Own work of the verifier. -/
import Derived.Test.YtlkhmmoimplokaaGreatDoorUqbh
import Derived.Test.YtlkhmmoimplokaaGreatDoorUqbb
namespace Go.Proofs.YtlkhmmoimplokaaGreatDoor
set_option maxHeartbeats 2000000
set_option maxRecDepth 100000
open Go Go.RowKit Go.Maps
set_option linter.unusedVariables false
set_option linter.unusedSimpArgs false
def contR (rd:Int->RS->Tr×RS)(g:Nat)(s:RS):List Tr×RS:=if s.isP [44]=true then serR rd g s.tk else([],s)
theorem ser_cont (a:Int->RS->Tr×RS)(g:Nat)(s:RS):serR a (g+1) s=((a 999 s).1 :: (contR a g (a 999 s).2).1,(contR a g (a 999 s).2).2):=by
 unfold contR
 rw[serR]
 split <;> rfl
def ROut (w1:World)(rb vb kb kc:Nat)(ov sv:Value)(all:List Tok)(w:World)(x:Tr×RS)(e:Ending)(w':World):Prop:=∃ v,e = .returned v/\FoB w' w.heap.size x.1.fo [v]/\RJ w1 rb vb kb kc ov sv all x.2 w'/\RFr rb vb w w'
def RdOk (w1:World)(rb vb kb kc:Nat)(ov sv:Value)(T:List Cel)(L:Int)(all:List Tok)(f:Nat):Prop:=∀ (pri:Int) (s:RS) (k:Nat) (w:World),0<=pri->pri<=1200->s.ts.length<f->RI w1 rb vb kb kc ov sv all k s w->
 Calls Tryz.prog 69 #[ptrR rb,.int .i64 pri] w (ROut w1 rb vb kb kc ov sv all w (rdR T L f pri s))
section
variable {w1:World}{rb vb kb kc:Nat}{ov sv:Value}{T:List Cel}{L:Int}{all:List Tok}{k f:Nat}{s:RS}{w:World}
theorem foC_iface {w:World}{B:Nat}{x:Tr}{v:Value}(h:FoB w B x.fo [v]):∃ t y,v = .iface t y:=FoB.iface h
theorem argument_any (H:RdOk w1 rb vb kb kc ov sv T L all f)(h:RI w1 rb vb kb kc ov sv all k s w)(a:s.ts.length<f):Calls Tryz.prog 155 #[ptrR rb] w (ROut w1 rb vb kb kc ov sv all w (rdR T L f 999 s)):=by
 have c:=H 999 s k w (by decide) (by decide) a h
 generalize rdR T L f 999 s=r at *
 clear H h a
 go_enter Tryz.func155,Tryz.ntmps155
 go_wp2_with fail;refine c.mono ?_;rintro e W ⟨v,rfl,b,d,a⟩;obtain⟨i,j,rfl⟩:=foC_iface b
 have g:Hid (ROut w1 rb vb kb kc ov sv all w r (.returned (.iface i j)) W):=⟨_,rfl,b,d,a⟩
 clear c b d a;go_wp2_with fail;go_ret;exact g.o
theorem comma_any (E:REnv w1 rb vb kb kc ov sv T L all)(h:RI w1 rb vb kb kc ov sv all k s w):Calls Tryz.prog 156 #[ptrR rb] w fun e g=>e = .returned (.bool (s.isP [44]))/\RJ w1 rb vb kb kc ov sv all (if s.isP [44]=true then s.tk else s) g/\RFr rb vb w g:=by
 have a:=accept_any E h [44] ⟨#[44]⟩ rfl (fun x l=>by simp at l;omega)
 generalize (if s.isP [44]=true then s.tk else s)=s2 at *
 generalize s.isP [44]=d at *
 clear h E
 go_enter Tryz.func156,Tryz.ntmps156
 go_wp2_with fail;refine a.mono ?_;rintro e W ⟨rfl,b,c⟩;have j:Hid _:=b;have i:=hid c;clear a b c;go_wp2_with fail;go_ret;exact⟨rfl,j.o,i.o⟩
theorem inside_any (E:REnv w1 rb vb kb kc ov sv T L all)(H:RdOk w1 rb vb kb kc ov sv T L all f)(h:RI w1 rb vb kb kc ov sv all k s w)(d:s.ts.length<f)(m:List Int)(S:ByteArray)(z:strOfNums m=S)(A:Byte m):Calls Tryz.prog 109 #[ptrR rb,.string S] w (ROut w1 rb vb kb kc ov sv all w (insR (rdR T L f) L m s)):=by
 have g:=H 1200 s k w (by decide) (by decide) d h
 unfold insR
 obtain⟨r,p⟩:∃ r,r=rdR T L f 1200 s:=⟨_,rfl⟩
 rw[<-p] at g ⊢
 have n:Hid (∀ W k,RI w1 rb vb kb kc ov sv all k r.2 W->Calls Tryz.prog 157 #[ptrR rb,.string S] W (RUnit w1 rb vb kb kc ov sv all W (r.2.must L m))):=fun W k b=>must_any E b m S z A
 clear H h d E p
 go_enter Tryz.func109,Tryz.ntmps109
 go_wp2_with fail;refine g.mono ?_;rintro e W ⟨v,rfl,j,⟨q,b⟩,d⟩;obtain⟨t,u,rfl⟩:=foC_iface j;have l:=n.o W q b
 have i:Hid (FoB W w.heap.size r.1.fo [.iface t u]/\RI w1 rb vb kb kc ov sv all q r.2 W/\RFr rb vb w W):=⟨j,b,d⟩
 clear g j b d n;go_wp2_with fail;refine l.mono ?_;rintro e y ⟨rfl,c,a⟩
 have x:Hid (ROut w1 rb vb kb kc ov sv all w (r.1,r.2.must L m) (.returned (.iface t u)) y):=⟨_,rfl,i.o.2.1.tree a i.o.1,c,i.o.2.2.trans a⟩
 clear l c a;go_wp2_with fail;go_ret;exact x.o
theorem parens_any (E:REnv w1 rb vb kb kc ov sv T L all)(H:RdOk w1 rb vb kb kc ov sv T L all f)(h:RI w1 rb vb kb kc ov sv all k s w)(b:s.tk.ts.length<f)(l:Int):Calls Tryz.prog 66 #[ptrR rb,.int .i64 l] w (RStt w1 rb vb kb kc ov sv all w (((insR (rdR T L f) L [41] s.tk).1,0),(insR (rdR T L f) L [41] s.tk).2)):=by
 have t:=take_any E h
 have q:Hid (∀ W k,RI w1 rb vb kb kc ov sv all k s.tk W->Calls Tryz.prog 109 #[ptrR rb,.string ⟨#[41]⟩] W (ROut w1 rb vb kb kc ov sv all W (insR (rdR T L f) L [41] s.tk))):=fun W k g=>inside_any E H g b [41] ⟨#[41]⟩ rfl (fun x y=>by simp at y;omega)
 generalize insR (rdR T L f) L [41] s.tk=r at *
 clear H h b E
 go_enter Tryz.func66,Tryz.ntmps66
 go_wp2_with fail;refine t.mono ?_;rintro e W ⟨p,c,z,rfl,_,g,b⟩;have m:=q.o W z g;have n:=hid b;clear t g b q;go_wp2_with fail;refine m.mono ?_;rintro e u ⟨v,rfl,j,a,d⟩;obtain⟨A,B,rfl⟩:=foC_iface j
 have i:Hid (RStt w1 rb vb kb kc ov sv all w ((r.1,0),r.2) (.returned (.tuple #[.iface A B,.int .i64 0])) u):=⟨_,rfl,j.mono n.o.size,a,n.o.trans d⟩
 clear m j a d;go_wp2_with fail
 go_ret2
 exact i.o
end
section
variable {w1:World}{rb vb kb kc:Nat}{ov sv:Value}{T:List Cel}{L:Int}{all:List Tok}{k f:Nat}{s:RS}{w:World}
def RowC (w:World)(B:Nat)(g n c:Nat)(vs:List Value)(ts:List Tr):Prop:=w.ownsRow B 65 1 (.slice (some ⟨g,0,none⟩) n c) n vs/\n=ts.length/\0<n/\FoCX w g B (itsF ts) vs
theorem foB_cat {w:World}{g:Nat} : ∀ (A B:Fo) (d b:List Value),FoB w g A d->FoB w g B b->FoB w g (A.cat B) (d ++ b)
 | .nil,B,d,b,h,k=>by rw[show d = [] from h];exact k
 | .node c a r,B,d,b,⟨v,vr,e,hn,hr⟩,k=>by rw[e];exact⟨v,vr ++ b,rfl,hn,foB_cat r B vr b hr k⟩
theorem RowC.first {w:World}{B g n c:Nat}{m:List Value}{b:List Tr}(h:RowC w B g n c m b):∃ t x,w.cell? ⟨g,0,none⟩=some (.iface t x):=by
 obtain⟨d,i,o,j⟩:=h
 cases b with
 | nil=>simp at i;omega
 | cons a r=>
   obtain⟨v,p,e,l,_⟩:=j;obtain⟨t,x,rfl⟩:=l.iface;have:=d.cellAt 0 (by omega);rw[e] at this;exact⟨t,x,by simpa using this⟩
theorem strike_heap {W:World}{X k:Nat}(h:k≠X):(strike W X).heap[k]?=W.heap[k]?:=by
 unfold strike World.putObj
 simp[Array.getElem?_modify,Ne.symm h,h]
theorem RFr.strike {w j:World}{g:Nat}(h:RFr rb vb w j)(p:g<w.heap.size):RFr rb vb (strike w g) (Go.Proofs.YtlkhmmoimplokaaGreatDoor.strike j g):=by
 refine⟨h.os,h.tape,h.output,by rw[strike_size,strike_size];exact h.size,fun k d l m n=>?_⟩;rw[strike_size] at d
 by_cases e:k=g
 ·subst e
  have i:k<j.heap.size:=Nat.lt_of_lt_of_le d h.size
  unfold Go.Proofs.YtlkhmmoimplokaaGreatDoor.strike World.putObj
  simp[d,i]
 ·rw[strike_heap e,strike_heap e]
  exact h.block k d l m fun a b c o=>n a b c (strike_of (by simpa using e) o)
theorem RI.treeX {k:Nat}{s:RS}{w c:World}(d:RI w1 rb vb kb kc ov sv all k s w)(i:RFr rb vb w c){g B:Nat}(b:g<w.heap.size){F:Fo}{a:List Value}(h:FoCX w g B F a):FoCX c g B F a:=
 FoB.moveR (fun q v e j=>d.ne (strike_cell b e).2 j) (i.strike b) F a h
theorem RowC.move {w q:World}{B g n c:Nat}{p:List Value}{m:List Tr}(h:RowC w B g n c p m){k:Nat}{s:RS}(j:RI w1 rb vb kb kc ov sv all k s w)(l:RFr rb vb w q):RowC q B g n c p m:=by
 obtain⟨t,x,i⟩:=h.first
 obtain⟨r,u,v,y⟩:=h;obtain⟨z,A⟩:=j.ne i (fun o e=>by cases e);exact⟨rowNN_block r (l.block g (World.block_lt_of_cell? _ _ i) z A (fun a b d e=>by rw[i] at e;cases e)),u,v,j.treeX l (World.block_lt_of_cell? _ _ i) y⟩
theorem RI.row (E:REnv w1 rb vb kb kc ov sv T L all){k:Nat}{s:RS}{W D:World}(h:RI w1 rb vb kb kc ov sv all k s W){g:Nat}{t:Nat}{x:Value}(P:W.cell? ⟨g,0,none⟩=some (.iface t x))(hw:w1.heap.size<=g)(u:W.grownBy D (some g)):RI w1 rb vb kb kc ov sv all k s D:=by
 have N:=h.sty.size
 have y:∀ j,j<W.heap.size->j≠g->D.heap[j]?=W.heap[j]?:=fun j I M=>u.block j I (fun e=>M (Option.some.inj e))
 have q:rb<W.heap.size/\rb≠g:=⟨by have:=E.lt.1;omega,by have:=E.lt.1;omega⟩
 have C:vb<W.heap.size/\vb≠g:=⟨by have:=E.lt.2.1;omega,by have:=E.lt.2.1;omega⟩
 have l:∀ o v,W.cell? ⟨rb,o,none⟩=some v->D.cell? ⟨rb,o,none⟩=some v:=fun o v l=>(World.cell?_of_block (a:=⟨rb,o,none⟩) (y rb q.1 q.2)).trans l
 obtain⟨p,n,c,h4,R⟩:=h.c4;refine⟨⟨u.os.trans h.sty.os,u.tape.trans h.sty.tape,u.output.trans h.sty.output,Nat.le_trans N u.size,fun j I Z h2=>(y j (by omega) (by omega)).trans (h.sty.block j I Z h2)⟩,l _ _ h.c0,l _ _ h.c1,l _ _ h.c2,l _ _ h.c3,⟨p,n,c,l _ _ h4,?_⟩,l _ _ h.c5,l _ _ h.c6,fun o=>(World.frozen?_of_block (a:=⟨rb,o,none⟩) (y rb q.1 q.2)).trans (h.fz o),h.ts,h.vm.of_block (y vb C.1 C.2),h.ov,h.fo,h.nb⟩;have B:=R.row;obtain⟨hn,K,rs,hl,S,U,ha⟩:=R;refine⟨hn,K,rs,hl,⟨S.1,?_⟩,fun i Q=>(U i Q).other u.size fun b z e=>?_,ha⟩
 ·rcases S.2 with Y | ⟨H,F,G,V,hB,A,r⟩
  ·exact .inl Y
  ·refine .inr ⟨H,F,G,V,hB,(y H (Array.getElem?_eq_some_iff.1 A).1 fun e=>?_).trans A,r⟩
   subst e;obtain⟨_,_,a,b,d,m⟩:=B H (by rw[V];rfl)
   rw[P] at m;cases m
 ·obtain⟨b',O,_,J,m⟩:=(U i Q).2 z
  rw[e] at O;cases O
  refine y b J fun X=>?_
  subst X;have:=(m 0 z).1
  rw[P] at this;cases this
def SerOut (w1:World)(rb vb kb kc:Nat)(ov sv:Value)(all:List Tok)(w:World)(x:List Tr×RS)(e:Ending)(w':World):Prop:=∃ g n c vs,e = .returned (.slice (some ⟨g,0,none⟩) n c)/\RowC w' w.heap.size g n c vs x.1/\RJ w1 rb vb kb kc ov sv all x.2 w'/\RFr rb vb w w'
theorem its_snoc (a:List Tr)(x:Tr):itsF (a ++ [x])=(itsF a).cat x.fo:=itsF_snoc a x
abbrev argF0 (rb:Nat):Value:=.func (.func 155) #[ptrR rb] #[]
abbrev comF0 (rb:Nat):Value:=.func (.func 156) #[ptrR rb] #[]
theorem series_any (E:REnv w1 rb vb kb kc ov sv T L all)(H:RdOk w1 rb vb kb kc ov sv T L all f)(h:RI w1 rb vb kb kc ov sv all k s w)(U:s.ts.length<f):Calls Tryz.prog 154 #[argF0 rb,comF0 rb] w (SerOut w1 rb vb kb kc ov sv all w (serR (rdR T L f) (s.ts.length+1) s)):=by
 have HG:Hid (∀ G s,RdG s (rdR T L f G s).1 (rdR T L f G s).2):=fun G s=>rd_g T L f G s
 have HA:Hid (∀ (s:RS) k W,s.ts.length<f->RI w1 rb vb kb kc ov sv all k s W->Calls Tryz.prog 155 #[ptrR rb] W (ROut w1 rb vb kb kc ov sv all W (rdR T L f 999 s))):=fun s k W S C=>argument_any H C S
 have e9:Hid (∀ (s:RS) k W,RI w1 rb vb kb kc ov sv all k s W->Calls Tryz.prog 156 #[ptrR rb] W fun e w'=>e = .returned (.bool (s.isP [44]))/\RJ w1 rb vb kb kc ov sv all (if s.isP [44]=true then s.tk else s) w'/\RFr rb vb W w'):=fun s k W C=>comma_any E C
 have h8:Hid (s.ts.length<=10000/\s.ts.length<f):=⟨by have:=E.len;have:=h.nb.2;omega,U⟩
 have HS:Hid (serR (rdR T L f) (s.ts.length+1) s=((rdR T L f 999 s).1 :: (contR (rdR T L f) s.ts.length (rdR T L f 999 s).2).1,(contR (rdR T L f) s.ts.length (rdR T L f 999 s).2).2)):=ser_cont _ _ _;have k1:=hid E;have k9:=hid h.sty.size
 obtain⟨i,e3⟩:∃ i,i=rdR T L f:=⟨_,rfl⟩
 rw[<-e3] at HG HA HS ⊢;have h5:=HA.o s k w U h;obtain⟨i0,hi,x8,x9,w2⟩:=info_parts infoTerm;have hM:s.ts.length<=10000:=h8.o.1;clear H h U E e3
 go_enter Tryz.func154,Tryz.ntmps154
 go_wp2_with fail;refine h5.mono ?_;rintro e W ⟨v,rfl,hv,⟨k2,hR⟩,U⟩;obtain⟨tv,xv,rfl⟩:=foC_iface hv;have D:Below W.heap.size W (W.alloc (.cells #[.iface tv xv] 65)):=new_low W _;have k7:=hid (hR.below D);have k5:=hid (U.trans (RFr.of rb vb D))
 have k8:Hid (RowC (W.alloc (.cells #[.iface tv xv] 65)) w.heap.size W.heap.size 1 1 [.iface tv xv] [(i 999 s).1]):=by
  refine⟨World.ownsRow_lit (base:=w.heap.size) (e:=65) (size:=1) W #[.iface tv xv] 1 U.size (by unfold maxLen;omega) rfl,rfl,by decide,hv.foCX D⟩
 clear h5 hv hR U D;go_wp2_with fail
 go_loopw [5] (fun v wr=>∃ (g n c N:Nat) (vs:List Value) (done:List Tr) (a:RS) (kk:Nat),v = .slice (some ⟨g,0,none⟩) n c/\n<=20000/\Hid (n+a.ts.length<=s.ts.length+1/\a.ts.length<=N)/\Hid (serR i (s.ts.length+1) s=(done ++ (contR i N a).1,(contR i N a).2))/\Hid (RowC wr w.heap.size g n c vs done)/\Hid (RI w1 rb vb kb kc ov sv all kk a wr)/\Hid (RFr rb vb w wr)) (fun v _=>s.ts.length+2-lenOf v)
 case atStart=>
  refine⟨_,_,_,s.ts.length,_,[(i 999 s).1],_,k2,rfl,by omega,⟨?_,?_⟩,?_,k8,k7,k5⟩
  ·have:=sub_len (HG.o 999 s).sub;omega
  ·exact sub_len (HG.o 999 s).sub
  ·show _=_
   rw[HS.o];rfl
 case round=>
  obtain⟨g,n,c,N,vs,done,a,kk,rfl,hn,Z,HQ,A,B,P⟩:=hrel;have I:=e9.o a kk wr B.o
  cases hp:a.isP [44] with
  | false=>
    rw[hp] at I
    have HX:Hid (contR i N a=([],a)):=by show _=_;unfold contR;rw[if_neg (by rw[hp];decide)]
    simp only[Bool.false_eq_true,if_false] at I;go_wp2_with fail;refine I.mono ?_;rintro e W2 ⟨rfl,t,q⟩
    have h6:Hid (SerOut w1 rb vb kb kc ov sv all w (serR i (s.ts.length+1) s) (.returned (.slice (some ⟨g,0,none⟩) n c)) W2):=by
     refine⟨g,n,c,vs,rfl,?_,?_,P.o.trans q⟩
     ·rw[HQ.o,HX.o];simpa using A.o.move B.o q
     ·rw[HQ.o,HX.o];exact t
    clear I t q;go_wp2_with fail;go_ret;exact h6.o
  | true=>
    rw[hp] at I;simp only[if_true] at I;have F:=isP_ne hp;have x5:=ne_len F;have x6:=tk_len a
    obtain⟨gp,R⟩:∃ gp,N=gp+1:=⟨N-1,by have:=Z.o.2;omega⟩
    have HX:Hid (contR i N a=((i 999 a.tk).1 :: (contR i gp (i 999 a.tk).2).1,(contR i gp (i 999 a.tk).2).2)):=by
     show _=_
     unfold contR
     rw[if_pos hp,R,ser_cont]
     rfl
    have y:Hid (a.tk.ts.length<f/\a.tk.ts.length+1=a.ts.length):=⟨by have:=Z.o.1;have:=h8.o.2;have:=A.o.2.2.1;omega,by omega⟩
    have Q:=hid (sub_len (HG.o 999 a.tk).sub);have k6:=hid R;clear F x5 x6 R;go_wp2_with fail;refine I.mono ?_;rintro e W2 ⟨rfl,⟨k3,t⟩,q⟩;have h4:=HA.o a.tk k3 W2 y.o.1 t;have x:=hid (A.o.move B.o q);have J:=hid t;have u:=hid (P.o.trans q);clear I t q A B P;go_wp2_with fail;refine h4.mono ?_;rintro e z ⟨v3,rfl,Y,⟨k4,e4⟩,V⟩;obtain⟨t3,x3,rfl⟩:=foC_iface Y;have r:=hid (x.o.move J.o V)
    have K:Hid (RI w1 rb vb kb kc ov sv all k4 (i 999 a.tk).2 z/\FoB z W2.heap.size (i 999 a.tk).1.fo [.iface t3 x3]):=⟨e4,Y⟩
    have e2:Hid (w.heap.size<=W2.heap.size/\g<W2.heap.size):=⟨u.o.size,by obtain⟨t0,x0,d⟩:=x.o.first;exact World.block_lt_of_cell? _ _ d⟩
    have l:=hid (u.o.trans V);have x7:w.heap.size<=z.heap.size:=l.o.size;have O:=r.o.1;clear h4 Y e4 V x J u;go_wp2_with (at_builtin;refine wpList_append_lies _ rfl _ _ 119 rfl w.heap.size 65 i0 .nilIface 1 16 Tryz.underlying119 hi x8 x9 w2 rfl (by decide) (.slice (some ⟨g,0,none⟩) n c) n vs rfl (O.alloc _) ⟨z.heap.size,0,none⟩ 1 1 [.iface t3 x3] rfl rfl (cell_one_new _ _ _) (one_iface t3 x3) (by decide) (by unfold maxLen;omega) (by omega) (by simp;omega) _ rfl ?_;intro g5 M w5 X b e6 w3)
    obtain⟨t0,x0,d⟩:=r.o.first
    have x2:g<z.heap.size:=World.block_lt_of_cell? _ _ d;have x4:w.heap.size<=g:=(O.lt g rfl).1;have e5:=new_low z (.cells #[.iface t3 x3] 65)
    have m:z.grownBy w5 (some g):=⟨b.os,b.tape,b.output,Nat.le_trans e5.size b.size,fun j hj F=>(b.block j (by simp;omega) F).trans (e5.block j hj)⟩
    have h9:RI w1 rb vb kb kc ov sv all k4 (i 999 a.tk).2 w5:=K.o.1.row k1.o d (Nat.le_trans k9.o x4) m
    have h7:RFr rb vb w w5:=⟨m.os.trans l.o.os,m.tape.trans l.o.tape,m.output.trans l.o.output,Nat.le_trans x7 m.size,fun j hj S C h3=>(m.block j (by omega) (fun e=>by have:=Option.some.inj e;omega)).trans (l.o.block j hj S C h3)⟩
    have x1:∀ p:Addr,p.block≠g->p.block<z.heap.size->p.block≠g5:=fun p S C e=>by
     rcases e6 with h' | h'
     ·have:g=g5:=Option.some.inj h'
      omega
     ·simp at h';omega
    have e1:RowC w5 w.heap.size g5 (n+1) M (vs ++ [.iface t3 x3]) (done ++ [(i 999 a.tk).1]):=by
     refine⟨X,by simp[r.o.2.1],by omega,?_⟩;rw[its_snoc];have e8:FoB (strike z g) w.heap.size (itsF done) vs:=r.o.2.2.2;have e7:FoB (strike z g) w.heap.size (i 999 a.tk).1.fo [.iface t3 x3]:=FoB.imp e2.o.1 (by rw[strike_size];exact Nat.le_refl _) _ _ (fun p v hp hc=>strike_of (by have:=e2.o.2;omega) hc) K.o.2;refine FoB.imp (Nat.le_refl _) (by rw[strike_size,strike_size];exact m.size) _ _ (fun p v _ hc=>?_) (foB_cat _ _ _ _ e8 e7);obtain⟨S,C⟩:=strike_cell x2 hc;have h3:=World.block_lt_of_cell? _ _ C;exact strike_of (x1 p S h3) ((World.cell?_of_block (m.block p.block h3 (fun e=>S (Option.some.inj e)))).trans C)
    go_roundw
    case rel=>
     refine⟨g5,n+1,M,gp,_,done ++ [(i 999 a.tk).1],_,k4,rfl,?_,⟨?_,?_⟩,?_,e1,h9,h7⟩
     ·have:=Z.o.1;have:=y.o.2;have:=Q.o;omega
     ·have:=Z.o.1;have:=y.o.2;have:=Q.o;omega
     ·have:=Z.o.2;have:=y.o.2;have:=Q.o;have:=k6.o;omega
     ·show _=_
      rw[HQ.o,HX.o];simp
    case measure=>simp[lenOf];have:=Z.o.1;have:=y.o.2;omega
end
def ifP:Value->Nat×Value
 | .iface t x=>(t,x)
 | _=>(0,.nilIface)
theorem foB_at {w:World}{B:Nat} : ∀ (c:List Tr) (b:List Value),FoB w B (itsF c) b->∀ j (h:j<c.length),FoB w B (.node (c[j]'h).1 (c[j]'h).2 .nil) [.iface ((b.map ifP)[j]?.getD (0,.nilIface)).1 ((b.map ifP)[j]?.getD (0,.nilIface)).2]/\b.getD j .nilIface = .iface ((b.map ifP)[j]?.getD (0,.nilIface)).1 ((b.map ifP)[j]?.getD (0,.nilIface)).2
 | [],b,_,j,h=>by simp at h
 | a :: r,b,⟨v,vr,e,hn,hr⟩,0,_=>by
   obtain⟨t,x,rfl⟩:=hn.iface;subst e;exact⟨⟨_,[],rfl,hn,rfl⟩,rfl⟩
 | a :: r,b,⟨v,vr,e,hn,hr⟩,j+1,h=>by
   subst e;have:=foB_at r vr hr j (by simpa using h)
   simpa using this
section
variable {w1:World}{rb vb kb kc:Nat}{ov sv:Value}{T:List Cel}{L:Int}{all:List Tok}{k f:Nat}{s:RS}{w:World}
theorem listR_any {W:World}{B g n c:Nat}{d:List Value}{i:List Tr}(h:RowC W B g n c d i)(z:B<=W.heap.size)(D:n<=1000000)(l:Tr)(m:Nat)(o:Value)(p:FoB W B l.fo [.iface m o]) :
  Calls Tryz.prog 104 #[.slice (some ⟨g,0,none⟩) n c,.iface m o] W fun e u=>∃ v,e = .returned v/\FoB u B (lstT l i).fo [v]/\Below W.heap.size W u:=by
 obtain⟨E,F,a⟩:=h.first
 have t:g<W.heap.size:=World.block_lt_of_cell? _ _ a;obtain⟨r,x,C,y⟩:=h;have b:=foB_at i d (y.foC t);rw[x];refine listOfC_any i (d.map ifP) g c B (some ⟨g,0,none⟩) (fun _=>rfl) l m o W p (by omega) t z (fun j q=>?_) (fun j q=>(b j q).1)
 have A:d.length=n:=by have:=r.1;omega
 rw[r.cellAt j (by omega),<-(b j q).2]
 simp[List.getD,List.getElem?_eq_getElem (show j<d.length by omega)]
theorem comp_rowR {W:World}{B g n c:Nat}{m:List Value}{q:List Tr}(h:RowC W B g n c m q)(t:B<=W.heap.size)(b:List Int):FoB (W.alloc (.cells #[.string (strOfNums b),.slice (some ⟨g,0,none⟩) n c] 162)) B (cmpT b q).fo [.iface 159 (ptrR W.heap.size)]:=by
 obtain⟨z,A,a⟩:=h.first
 have j:g<W.heap.size:=World.block_lt_of_cell? _ _ a;obtain⟨d,x,y,r⟩:=h;have e:=new_low W (.cells #[.string (strOfNums b),.slice (some ⟨g,0,none⟩) n c] 162);have o:=heap_alloc_new W (.cells #[.string (strOfNums b),.slice (some ⟨g,0,none⟩) n c] 162)
 have l:m.length=n:=by have:=d.1;omega
 refine⟨_,_,rfl,.inr (.inr (.inr ⟨rfl,W.heap.size,g,c,m,rfl,t,(d.lt g rfl).1,?_,?_,Nat.lt_of_lt_of_le j e.size,fun i v=>?_,(r.foC j).below e⟩)),rfl⟩
 ·unfold World.cell?;rw[o];rfl
 ·unfold World.cell?;rw[o,l];rfl
 ·have u:=d.cellAt i (by omega)
  rw[(e.cell (p:=⟨g,i,none⟩) j),u]
  simp[List.getD,List.getElem?_eq_getElem v]
theorem row_one {W:World}{B:Nat}{x:Tr}{t:Nat}{y:Value}(a:B<=W.heap.size)(b:FoB W B x.fo [.iface t y]):RowC (W.alloc (.cells #[.iface t y] 65)) B W.heap.size 1 1 [.iface t y] [x]:=
 ⟨World.ownsRow_lit (base:=B) (e:=65) (size:=1) W #[.iface t y] 1 a (by unfold maxLen;omega) rfl,rfl,by decide,b.foCX (new_low W _)⟩
theorem curly_any (E:REnv w1 rb vb kb kc ov sv T L all)(H:RdOk w1 rb vb kb kc ov sv T L all f)(h:RI w1 rb vb kb kc ov sv all k s w)(b:s.ts.length<f):Calls Tryz.prog 108 #[ptrR rb] w (ROut w1 rb vb kb kc ov sv all w (curR (rdR T L f) L s)):=by
 have a:=accept_any E h [125] ⟨#[125]⟩ rfl (fun x y=>by simp at y;omega)
 have q:Hid (∀ W k,RI w1 rb vb kb kc ov sv all k s W->Calls Tryz.prog 109 #[ptrR rb,.string ⟨#[125]⟩] W (ROut w1 rb vb kb kc ov sv all W (insR (rdR T L f) L [125] s))):=fun W k d=>inside_any E H d b [125] ⟨#[125]⟩ rfl (fun x y=>by simp at y;omega)
 unfold curR
 generalize insR (rdR T L f) L [125] s=r at *
 clear H h b E
 cases C:s.isP [125] with
 | true=>
   rw[C] at a;simp only[if_true] at a ⊢
   go_enter Tryz.func108,Tryz.ntmps108
   go_wp2_with fail;refine a.mono ?_;rintro e W ⟨rfl,d,b⟩
   have l:Hid (ROut w1 rb vb kb kc ov sv all w (atmT [123,125],s.tk) (.returned (.iface 154 (.string ⟨#[123,125]⟩))) W):=⟨_,rfl,foR_atom _ _ [123,125],d,b⟩
   clear a d b q;go_wp2_with fail;go_ret;exact l.o
 | false=>
   rw[C] at a;simp only[Bool.false_eq_true,if_false] at a ⊢
   go_enter Tryz.func108,Tryz.ntmps108
   go_wp2_with fail;refine a.mono ?_;rintro e W ⟨rfl,⟨D,d⟩,b⟩;have B:=q.o W D d;have l:=hid b;clear a d b q;go_wp2_with fail;refine B.mono ?_;rintro e j ⟨v,rfl,t,⟨F,n⟩,i⟩;obtain⟨z,A,rfl⟩:=foC_iface t;have u:w.heap.size<=j.heap.size:=(l.o.trans i).size;have c:=row_one u (t.mono l.o.size);have p:=comp_rowR c (by simp;omega) [123,125];have g:=Below.on (new_low j (.cells #[.iface z A] 65)) (new_low _ (.cells #[.string (strOfNums [123,125]),.slice (some ⟨j.heap.size,0,none⟩) 1 1] 162))
   have m:Hid (ROut w1 rb vb kb kc ov sv all w (cmpT [123,125] [r.1],r.2) (.returned (.iface 159 (ptrR (j.alloc (.cells #[.iface z A] 65)).heap.size))) ((j.alloc (.cells #[.iface z A] 65)).alloc (.cells #[.string (strOfNums [123,125]),.slice (some ⟨j.heap.size,0,none⟩) 1 1] 162))):=⟨_,rfl,p,⟨F,n.below g⟩,(l.o.trans i).trans (RFr.of rb vb g)⟩
   rw[World.size_alloc] at m;clear B t n i c p g;go_wp2_with fail;go_ret;exact m.o
theorem ser_len (a:Int->RS->Tr×RS):∀ (g:Nat) (s:RS),(serR a g s).1.length<=g+1
 | 0,s=>by simp[serR]
 | g+1,s=>by
   rw[ser_cont]
   unfold contR
   split
   ·have:=ser_len a g (a 999 s).2.tk;simp only[List.length_cons];omega
   ·simp
theorem list_anyR (E:REnv w1 rb vb kb kc ov sv T L all)(H:RdOk w1 rb vb kb kc ov sv T L all f)(h:RI w1 rb vb kb kc ov sv all k s w)(N:s.ts.length<f):Calls Tryz.prog 107 #[ptrR rb] w (ROut w1 rb vb kb kc ov sv all w (lisR (rdR T L f) L s)):=by
 have J:=accept_any E h [93] ⟨#[93]⟩ rfl (fun x hx=>by simp at hx;omega)
 have I:Hid (∀ W k,RI w1 rb vb kb kc ov sv all k s W->Calls Tryz.prog 154 #[argF0 rb,comF0 rb] W (SerOut w1 rb vb kb kc ov sv all W (serR (rdR T L f) (s.ts.length+1) s))):=fun W k z=>series_any E H z N
 have e6:=ser_len (rdR T L f) (s.ts.length+1) s;have e7:=sub_len (ser_g (fun k7 s=>rd_g T L f k7 s) (s.ts.length+1) s).2.1
 have e5:s.ts.length<=10000:=by have:=E.len;have:=h.nb.2;omega
 have O:Hid (∀ (q:RS) W k,RI w1 rb vb kb kc ov sv all k q W->Calls Tryz.prog 106 #[ptrR rb,.string ⟨#[124]⟩] W fun e w'=>e = .returned (.bool (q.isP [124]))/\RJ w1 rb vb kb kc ov sv all (if q.isP [124]=true then q.tk else q) w'/\RFr rb vb W w'):=fun q W k z=>accept_any E z [124] ⟨#[124]⟩ rfl (fun x hx=>by simp at hx;omega)
 have u:Hid (∀ (q:RS) W k,RI w1 rb vb kb kc ov sv all k q W->Calls Tryz.prog 157 #[ptrR rb,.string ⟨#[93]⟩] W (RUnit w1 rb vb kb kc ov sv all W (q.must L [93]))):=fun q W k z=>must_any E z [93] ⟨#[93]⟩ rfl (fun x hx=>by simp at hx;omega)
 have D:Hid (∀ (q:RS) W k,q.ts.length<f->RI w1 rb vb kb kc ov sv all k q W->Calls Tryz.prog 155 #[ptrR rb] W (ROut w1 rb vb kb kc ov sv all W (rdR T L f 999 q))):=fun q W k h1 h2=>argument_any H h2 h1
 unfold lisR
 obtain⟨q,eq⟩:∃ q,q=serR (rdR T L f) (s.ts.length+1) s:=⟨_,rfl⟩
 rw[<-eq] at I e6 e7 ⊢
 have e9:Hid (q.2.tk.ts.length<f):=by have:=tk_len q.2;show q.2.tk.ts.length<f;omega
 have e8:Hid (q.1.length<=10002):=by show q.1.length<=10002;omega
 obtain⟨C,e2⟩:∃ C,C=rdR T L f:=⟨_,rfl⟩
 rw[<-e2] at D ⊢;clear H h N E eq e6 e7 e5 e2
 cases hp:s.isP [93] with
 | true=>
   rw[hp] at J;simp only[if_true] at J ⊢
   go_enter Tryz.func107,Tryz.ntmps107
   go_wp2_with fail;refine J.mono ?_;rintro e W ⟨rfl,z,N⟩
   have HF:Hid (ROut w1 rb vb kb kc ov sv all w (nilT,s.tk) (.returned (.iface 154 (.string ⟨#[91,93]⟩))) W):=⟨_,rfl,foR_nil _ _,z,N⟩
   clear J z N I O u D;go_wp2_with fail;go_ret;exact HF.o
 | false=>
   rw[hp] at J;simp only[Bool.false_eq_true,if_false] at J ⊢
   obtain⟨Z,eZ⟩:∃ Z,Z=(if q.2.isP [124]=true then(lstT (C 999 q.2.tk).1 q.1,(C 999 q.2.tk).2.must L [93]) else(lstT nilT q.1,q.2.must L [93])):=⟨_,rfl⟩
   rw[<-eZ];have S:=hid eZ;clear eZ
   go_enter Tryz.func107,Tryz.ntmps107
   go_wp2_with fail;refine J.mono ?_;rintro e W ⟨rfl,⟨k2,z⟩,N⟩;have HC:=I.o W k2 z;have HF:=hid N;clear J z N I;go_wp2_with fail;refine HC.mono ?_;rintro e W1 ⟨g,n,c,vs,rfl,B,⟨k3,V⟩,e4⟩;have d:=O.o q.2 W1 k3 V;have G:=hid B;have F:=hid V;have h7:=hid (HF.o.trans e4)
   have k8:n<=10002:=by have:=B.2.1;have:=e8.o;omega
   clear HC B V e4 O
   have h9:Hid (∀ U en et ex,RowC U W.heap.size g n c vs q.1->W.heap.size<=U.heap.size->FoB U W.heap.size en.fo [.iface et ex]->Calls Tryz.prog 104 #[.slice (some ⟨g,0,none⟩) n c,.iface et ex] U fun e w'=>∃ v,e = .returned v/\FoB w' W.heap.size (lstT en q.1).fo [v]/\Below U.heap.size U w'):=fun U en et ex h1 h2 h3=>listR_any h1 h2 (by omega) en et ex h3
   cases hq:q.2.isP [124] with
   | false=>
     rw[hq] at d;simp only[Bool.false_eq_true,if_false] at d
     have HZ:Hid ((if q.2.isP [124]=true then(lstT (C 999 q.2.tk).1 q.1,(C 999 q.2.tk).2.must L [93]) else(lstT nilT q.1,q.2.must L [93]))=(lstT nilT q.1,q.2.must L [93])):=by show _=_;rw[if_neg (by rw[hq];decide)]
     go_wp2_with fail;refine d.mono ?_;rintro e W2 ⟨rfl,⟨k4,i⟩,j⟩;have p:=u.o q.2 W2 k4 i;have a:=hid (G.o.move F.o j);have y:=hid i;have Q:=hid (h7.o.trans j);clear d i j G F u;go_wp2_with fail;refine p.mono ?_;rintro e M ⟨rfl,⟨k5,m⟩,b⟩;have h6:W.heap.size<=M.heap.size:=Nat.le_trans (by obtain⟨t0,x0,h0⟩:=a.o.first;have:=World.block_lt_of_cell? _ _ h0;have:=(a.o.1.lt g rfl).1;simp at *;omega) b.size;have t:=h9.o M nilT _ _ (a.o.move y.o b) h6 (foR_nil _ _)
     have l:Hid (RI w1 rb vb kb kc ov sv all k5 (q.2.must L [93]) M/\RFr rb vb w M):=⟨m,Q.o.trans b⟩
     clear p m b a y;go_wp2_with fail;refine t.mono ?_;rintro e W4 ⟨v,rfl,hv,X⟩;obtain⟨tv,xv,rfl⟩:=foC_iface hv
     have R:Hid (ROut w1 rb vb kb kc ov sv all w (lstT nilT q.1,q.2.must L [93]) (.returned (.iface tv xv)) W4):=⟨_,rfl,hv.mono HF.o.size,⟨k5,l.o.1.below X⟩,l.o.2.trans (RFr.of rb vb X)⟩
     clear t hv X;go_wp2_with fail;go_ret;rw[S.o,HZ.o];exact R.o
   | true=>
     rw[hq] at d;simp only[if_true] at d
     have HZ:Hid ((if q.2.isP [124]=true then(lstT (C 999 q.2.tk).1 q.1,(C 999 q.2.tk).2.must L [93]) else(lstT nilT q.1,q.2.must L [93]))=(lstT (C 999 q.2.tk).1 q.1,(C 999 q.2.tk).2.must L [93])):=by show _=_;rw[if_pos hq]
     go_wp2_with fail;refine d.mono ?_;rintro e W2 ⟨rfl,⟨k4,i⟩,j⟩;have P:=D.o q.2.tk W2 k4 e9.o i;have a:=hid (G.o.move F.o j);have y:=hid i;have Q:=hid (h7.o.trans j);clear d i j G F D
     obtain⟨r,er⟩:∃ r,r=C 999 q.2.tk:=⟨_,rfl⟩
     rw[<-er] at P HZ S;clear er;go_wp2_with fail;refine P.mono ?_;rintro e M ⟨v3,rfl,h4,⟨k5,m⟩,b⟩;obtain⟨t3,x3,rfl⟩:=foC_iface h4;have p:=u.o r.2 M k5 m
     have h5:W.heap.size<=W2.heap.size:=by obtain⟨t0,x0,h0⟩:=a.o.first;have:=World.block_lt_of_cell? _ _ h0;have:=(a.o.1.lt g rfl).1;simp at *;omega
     have K:=hid (a.o.move y.o b);have k1:=hid (h4.mono h5);have l:=hid m
     have h8:Hid (RFr rb vb w M/\W.heap.size<=M.heap.size):=⟨Q.o.trans b,Nat.le_trans h5 b.size⟩
     clear P m b h4 a y u h5;go_wp2_with fail;refine p.mono ?_;rintro e W4 ⟨rfl,⟨k6,e3⟩,A⟩;have h6:W.heap.size<=W4.heap.size:=Nat.le_trans h8.o.2 A.size;have t:=h9.o W4 r.1 _ _ (K.o.move l.o A) h6 (l.o.tree A k1.o)
     have e1:Hid (RI w1 rb vb kb kc ov sv all k6 (r.2.must L [93]) W4/\RFr rb vb w W4):=⟨e3,h8.o.1.trans A⟩
     clear p e3 A K l;go_wp2_with fail;refine t.mono ?_;rintro e W5 ⟨v,rfl,hv,Y⟩;obtain⟨tv,xv,rfl⟩:=foC_iface hv
     have R:Hid (ROut w1 rb vb kb kc ov sv all w (lstT r.1 q.1,r.2.must L [93]) (.returned (.iface tv xv)) W5):=⟨_,rfl,hv.mono HF.o.size,⟨k6,e1.o.1.below Y⟩,e1.o.2.trans (RFr.of rb vb Y)⟩
     clear t hv Y;go_wp2_with fail;go_ret;rw[S.o,HZ.o];exact R.o
theorem arguments_any (E:REnv w1 rb vb kb kc ov sv T L all)(H:RdOk w1 rb vb kb kc ov sv T L all f)(h:RI w1 rb vb kb kc ov sv all k s w)(F:s.kd=6)(t:s.tk.ts.length<f):Calls Tryz.prog 110 #[ptrR rb] w (SerOut w1 rb vb kb kc ov sv all w ((serR (rdR T L f) (s.tk.ts.length+1) s.tk).1,(serR (rdR T L f) (s.tk.ts.length+1) s.tk).2.must L [41])):=by
 have v:=mustBe_any E h 6
 have p:Hid (∀ W k,RI w1 rb vb kb kc ov sv all k s.tk W->Calls Tryz.prog 154 #[argF0 rb,comF0 rb] W (SerOut w1 rb vb kb kc ov sv all W (serR (rdR T L f) (s.tk.ts.length+1) s.tk))):=fun W k j=>series_any E H j t
 have m:Hid (∀ (q:RS) W k,RI w1 rb vb kb kc ov sv all k q W->Calls Tryz.prog 157 #[ptrR rb,.string ⟨#[41]⟩] W (RUnit w1 rb vb kb kc ov sv all W (q.must L [41]))):=fun q W k j=>must_any E j [41] ⟨#[41]⟩ rfl (fun x K=>by simp at K;omega)
 have G:s.mustBe L 6=s.tk:=by unfold RS.mustBe;rw[if_pos F]
 rw[G] at v
 generalize serR (rdR T L f) (s.tk.ts.length+1) s.tk=q at *
 clear H h t E F G
 go_enter Tryz.func110,Tryz.ntmps110
 go_wp2_with fail;refine v.mono ?_;rintro e W ⟨rfl,⟨M,j⟩,t⟩;have D:=p.o W M j;have y:=hid t;clear v j t p;go_wp2_with fail;refine D.mono ?_;rintro e I ⟨g,n,c,O,rfl,b,⟨N,d⟩,u⟩;have l:=m.o q.2 I N d;have C:=hid b;have B:=hid d;have z:=hid (y.o.trans u);clear D b d u m;go_wp2_with fail;refine l.mono ?_;rintro e J ⟨rfl,r,i⟩;have a:=C.o.move B.o i
 have A:Hid (SerOut w1 rb vb kb kc ov sv all w (q.1,q.2.must L [41]) (.returned (.slice (some ⟨g,0,none⟩) n c)) J):=⟨g,n,c,O,rfl,⟨a.1.mono y.o.size,a.2.1,a.2.2.1,FoB.mono a.2.2.2 y.o.size⟩,r,z.o.trans i⟩
 clear l r i a;go_wp2_with fail;go_ret;exact A.o
end
section
variable {w1:World}{rb vb kb kc:Nat}{ov sv:Value}{T:List Cel}{L:Int}{all:List Tok}{k f:Nat}{s:RS}{w:World}
theorem ROut.stt {W:World}{x:Tr×RS}{v:Value}{b:World}(h:ROut w1 rb vb kb kc ov sv all W x (.returned v) b)(a:RFr rb vb w W):RStt w1 rb vb kb kc ov sv all w ((x.1,0),x.2) (.returned (.tuple #[v,.int .i64 0])) b:=by
 obtain⟨u,e,c,d,g⟩:=h
 cases e
 exact⟨_,rfl,c.mono a.size,d,a.trans g⟩
theorem bracket_any (E:REnv w1 rb vb kb kc ov sv T L all)(H:RdOk w1 rb vb kb kc ov sv T L all f)(h:RI w1 rb vb kb kc ov sv all k s w)(h5:s.kd=5)(U:s.tk.ts.length<f)(V:Int):Calls Tryz.prog 65 #[ptrR rb,.int .i64 V] w (RStt w1 rb vb kb kc ov sv all w (braR (rdR T L f) L s)):=by
 have K:=next_any E h;have h2:=hd_byte E h
 have A:Hid (∀ W p c,BIn W p (s.hd L).2->Calls Tryz.prog 105 #[tokVR (s.hd L) p c,.string ⟨#[40]⟩] W fun e O=>e = .returned (.bool (s.isP [40]))/\Below W.heap.size W O):=fun W p c r=>by
  rw[<-isP_hd (L:=L)];exact isPunct_any (s.hd L) p c [40] ⟨#[40]⟩ rfl W (fun x hx=>by simp at hx;omega) h2.1 r
 have Z:Hid (∀ W k,RI w1 rb vb kb kc ov sv all k s W->Calls Tryz.prog 66 #[ptrR rb,.int .i64 V] W (RStt w1 rb vb kb kc ov sv all W (((insR (rdR T L f) L [41] s.tk).1,0),(insR (rdR T L f) L [41] s.tk).2))):=fun W k z=>parens_any E H z U V
 have i:Hid (∀ W k,RI w1 rb vb kb kc ov sv all k s W->Calls Tryz.prog 106 #[ptrR rb,.string ⟨#[91]⟩] W fun e O=>e = .returned (.bool (s.isP [91]))/\RJ w1 rb vb kb kc ov sv all (if s.isP [91]=true then s.tk else s) O/\RFr rb vb W O):=fun W k z=>accept_any E z [91] ⟨#[91]⟩ rfl (fun x hx=>by simp at hx;omega)
 have j:Hid (∀ W k,RI w1 rb vb kb kc ov sv all k s W->Calls Tryz.prog 106 #[ptrR rb,.string ⟨#[123]⟩] W fun e O=>e = .returned (.bool (s.isP [123]))/\RJ w1 rb vb kb kc ov sv all (if s.isP [123]=true then s.tk else s) O/\RFr rb vb W O):=fun W k z=>accept_any E z [123] ⟨#[123]⟩ rfl (fun x hx=>by simp at hx;omega)
 have Y:Hid (∀ W k,RI w1 rb vb kb kc ov sv all k s.tk W->Calls Tryz.prog 107 #[ptrR rb] W (ROut w1 rb vb kb kc ov sv all W (lisR (rdR T L f) L s.tk))):=fun W k z=>list_anyR E H z U
 have X:Hid (∀ W k,RI w1 rb vb kb kc ov sv all k s.tk W->Calls Tryz.prog 108 #[ptrR rb] W (ROut w1 rb vb kb kc ov sv all W (curR (rdR T L f) L s.tk))):=fun W k z=>curly_any E H z U
 have h1:Hid (∀ W k,RI w1 rb vb kb kc ov sv all k s W->Calls Tryz.prog 70 #[ptrR rb] W fun e O=>e = .returned (.tuple #[.iface 154 (.string ⟨#[91,93]⟩),.int .i64 0])/\RI w1 rb vb kb kc ov sv all all.length (s.stop L) O/\RFr rb vb W O):=fun W k z=>stop_any E z
 have P:=hid h
 unfold braR
 generalize insR (rdR T L f) L [41] s.tk=r1 at *
 generalize lisR (rdR T L f) L s.tk=r2 at *
 generalize curR (rdR T L f) L s.tk=r3 at *
 clear H h U E h2 h5
 obtain⟨⟨⟨tk,ta,tl,tn⟩,tx⟩,et⟩:∃ t,s.hd L=t:=⟨_,rfl⟩
 rw[et] at K A;simp only[tokVR] at K A;clear et
 cases h3:s.isP [40] with
 | true=>
   rw[h3] at A;simp only[if_true]
   go_enter Tryz.func65,Tryz.ntmps65
   go_wp2_with fail;refine K.mono ?_;rintro e W ⟨p,c,rfl,a,r⟩;have B:=A.o W p c (a W (P.o.sty.below r));have Q:=hid r;clear K r a A;go_wp2_with fail;refine B.mono ?_;rintro e F ⟨rfl,g⟩;have b:Below w.heap.size w F:=Below.on Q.o g;have d:=Z.o F k (P.o.below b);have l:=hid b;clear B g b Z;go_wp2_with fail;refine d.mono ?_;rintro e M ⟨v,rfl,N,z,U⟩
   have R:Hid (RStt w1 rb vb kb kc ov sv all w ((r1.1,0),r1.2) (.returned (.tuple #[v,.int .i64 0])) M):=⟨_,rfl,N.mono l.o.size,z,(RFr.of rb vb l.o).trans U⟩
   clear d N z U;go_wp2_with fail
   go_ret2
   exact R.o
 | false=>
   rw[h3] at A;simp only[Bool.false_eq_true,if_false]
   cases h4:s.isP [91] with
   | true=>
     rw[h4] at i;simp only[if_true] at i ⊢
     go_enter Tryz.func65,Tryz.ntmps65
     go_wp2_with fail;refine K.mono ?_;rintro e W ⟨p,c,rfl,a,r⟩;have B:=A.o W p c (a W (P.o.sty.below r));have Q:=hid r;clear K r a A;go_wp2_with fail;refine B.mono ?_;rintro e F ⟨rfl,g⟩;have b:Below w.heap.size w F:=Below.on Q.o g;have d:=i.o F k (P.o.below b);have l:=hid b;clear B g b i;go_wp2_with fail;refine d.mono ?_;rintro e M ⟨rfl,⟨k3,n⟩,u⟩;have m:=Y.o M k3 n;have D:Hid (RFr rb vb w M):=(RFr.of rb vb l.o).trans u;clear d n u Y;go_wp2_with fail;refine m.mono ?_;rintro e W4 J;obtain⟨v,rfl,N,q,y⟩:=J;obtain⟨tv,xv,rfl⟩:=foC_iface N;have R:Hid (RStt w1 rb vb kb kc ov sv all w ((r2.1,0),r2.2) (.returned (.tuple #[.iface tv xv,.int .i64 0])) W4):=ROut.stt ⟨_,rfl,N,q,y⟩ D.o
     clear m N q y;go_wp2_with fail
     go_ret2
     exact R.o
   | false=>
     rw[h4] at i;simp only[Bool.false_eq_true,if_false] at i ⊢
     cases h6:s.isP [123] with
     | true=>
       rw[h6] at j;simp only[if_true] at j ⊢
       go_enter Tryz.func65,Tryz.ntmps65
       go_wp2_with fail;refine K.mono ?_;rintro e W ⟨p,c,rfl,a,r⟩;have B:=A.o W p c (a W (P.o.sty.below r));have Q:=hid r;clear K r a A;go_wp2_with fail;refine B.mono ?_;rintro e F ⟨rfl,g⟩;have b:Below w.heap.size w F:=Below.on Q.o g;have d:=i.o F k (P.o.below b);have l:=hid b;clear B g b i;go_wp2_with fail;refine d.mono ?_;rintro e M ⟨rfl,⟨k3,n⟩,u⟩;have m:=j.o M k3 n;have D:Hid (RFr rb vb w M):=(RFr.of rb vb l.o).trans u;clear d n u j;go_wp2_with fail;refine m.mono ?_;rintro e W4 ⟨rfl,⟨k4,q⟩,y⟩;have C:=X.o W4 k4 q;have S:=hid (D.o.trans y);clear m q y X;go_wp2_with fail;refine C.mono ?_;rintro e W5 J;obtain⟨v,rfl,N,G,I⟩:=J
       obtain⟨tv,xv,rfl⟩:=foC_iface N;have R:Hid (RStt w1 rb vb kb kc ov sv all w ((r3.1,0),r3.2) (.returned (.tuple #[.iface tv xv,.int .i64 0])) W5):=ROut.stt ⟨_,rfl,N,G,I⟩ S.o;clear C N G I;go_wp2_with fail
       go_ret2
       exact R.o
     | false=>
       rw[h6] at j;simp only[Bool.false_eq_true,if_false] at j ⊢
       go_enter Tryz.func65,Tryz.ntmps65
       go_wp2_with fail;refine K.mono ?_;rintro e W ⟨p,c,rfl,a,r⟩;have B:=A.o W p c (a W (P.o.sty.below r));have Q:=hid r;clear K r a A;go_wp2_with fail;refine B.mono ?_;rintro e F ⟨rfl,g⟩;have b:Below w.heap.size w F:=Below.on Q.o g;have d:=i.o F k (P.o.below b);have l:=hid b;clear B g b i;go_wp2_with fail;refine d.mono ?_;rintro e M ⟨rfl,⟨k3,n⟩,u⟩;have m:=j.o M k3 n;have D:Hid (RFr rb vb w M):=(RFr.of rb vb l.o).trans u;clear d n u j;go_wp2_with fail;refine m.mono ?_;rintro e W4 ⟨rfl,⟨k4,q⟩,y⟩;have C:=h1.o W4 k4 q;have S:=hid (D.o.trans y);clear m q y h1;go_wp2_with fail;refine C.mono ?_;rintro e W5 ⟨rfl,G,I⟩
       have R:Hid (RStt w1 rb vb kb kc ov sv all w ((nilT,0),s.stop L) (.returned (.tuple #[.iface 154 (.string ⟨#[91,93]⟩),.int .i64 0])) W5):=⟨_,rfl,foR_nil _ _,⟨_,G⟩,S.o.trans I⟩
       clear C G I;go_wp2_with fail
       go_ret2
       exact R.o
end
def numV (b:Int):Value:=.iface 149 (.int .i64 b)
section
variable {w1:World}{rb vb kb kc:Nat}{ov sv:Value}{T:List Cel}{L:Int}{all:List Tok}{k f:Nat}{s:RS}{w:World}
theorem codes_any (E:REnv w1 rb vb kb kc ov sv T L all)(h:RI w1 rb vb kb kc ov sv all k s w)(h4:s.kd=4)(e1:Int):Calls Tryz.prog 64 #[ptrR rb,.int .i64 e1] w (RStt w1 rb vb kb kc ov sv all w ((codT s.tx,0),s.tk)):=by
 have M:=take_any E h;have m:=hd_byte E h;have hX:(s.hd L).2=s.tx:=hd_tx L s;rw[hX] at m;have e5:=fieldT3
 have h6:Hid (0<w.heap.size):=by show 0<w.heap.size;have:=h.sty.size;have:=E.lt.1;omega
 obtain⟨⟨⟨tk,ta,tl,tn⟩,tx⟩,et⟩:∃ t,s.hd L=t:=⟨_,rfl⟩
 rw[et] at M hX;simp only at hX;subst hX;simp only[tokVR] at M
 obtain⟨l,el⟩:∃ l,l=s.tx.length:=⟨_,rfl⟩
 rw[<-el] at M;have X:=hid el
 have hl:l<=100:=by have:=m.2;omega
 obtain⟨i0,O,S,U,V⟩:=info_parts infoTerm
 obtain⟨d,ex⟩:∃ d,d=s.tx:=⟨_,rfl⟩
 rw[<-ex] at M m X ⊢;have h3:=hid m.1;clear h E et el h4 m ex
 go_enter Tryz.func64,Tryz.ntmps64
 go_wp2_with fail;refine M.mono ?_;rintro e W ⟨p,c,k',rfl,x,hR,hf⟩;have h2:=hid (x W hR.sty);have HR:=hid hR;have HF:=hid hf;clear M x hR hf;go_wp2_with fail
 go_loopw [6,13] (fun v i wr=>∃ (j:Nat) (J:Option Addr) (n N:Nat),j<=l/\i = .int .i64 j/\v = .slice J n N/\n<=100/\Hid (n=j)/\Hid (wr.ownsRow W.heap.size 65 1 (.slice J n N) n ((d.take j).map numV))/\Hid (Below W.heap.size W wr)) (fun _ i _=>l-(intOf i).toNat)
 case atStart=>exact⟨0,none,0,0,Nat.zero_le _,rfl,rfl,by omega,rfl,World.ownsRow_nil _ _ _ _,Below.refl _ _⟩
 case round=>
  obtain⟨j,J,n,N,hj,rfl,rfl,hn,HN,HO,K⟩:=hrel
  by_cases h8:j<l
  ·have q:j<d.length:=by rw[<-X.o];exact h8
   obtain⟨b,o,rfl,hc⟩:=h2.o (by omega);have B:wr.cell? ⟨b,o+j,none⟩=some (.int .u8 (d.getD j 0)):=(K.o.cell (World.block_lt_of_cell? _ _ (hc j q))).trans (hc j q);have r:=h3.o (d.getD j 0) (by simp[List.getD,q])
   obtain⟨y,ey⟩:∃ y,y=d.getD j 0:=⟨_,rfl⟩
   rw[<-ey] at B r
   have z:Hid ((d.take (j+1)).map numV=(d.take j).map numV ++ [numV y]):=by
    show _=_
    rw[ey,List.take_add_one,List.getElem?_eq_getElem q,List.map_append]
    simp[List.getD,List.getElem?_eq_getElem q]
   have a:=HO.o;have I:W.heap.size<=wr.heap.size:=K.o.size;clear hc ey;go_wp2_with (at_builtin;refine wpList_append_lies _ rfl _ _ 119 rfl W.heap.size 65 i0 .nilIface 1 16 Tryz.underlying119 O S U V rfl (by decide) (.slice J n N) n _ rfl (a.alloc _) ⟨wr.heap.size,0,none⟩ 1 1 [numV y] rfl rfl (cell_one_new _ _ _) (one_iface _ _) (by decide) (by unfold maxLen;omega) (by omega) (by simp;omega) _ rfl ?_;intro g5 Q w5 D u e2 e3);have h1:Below W.heap.size W w5:=(K.o.alloc I _).trans ((Below.refl _ _).grown u (by simp;omega) (fun k hk=>(a.lt k hk).1));go_roundw
   case rel=>exact⟨j+1,_,n+1,Q,by omega,by go_num,rfl,by have:=HN.o;omega,by show _=_;have:=HN.o;omega,by show World.ownsRow _ _ _ _ _ _ _;rw[z.o];exact D,h1⟩
   case measure=>simp[intOf];omega
  ·obtain rfl:j=l:=by omega
   have z:Hid (d.take j=d):=by show _=_;rw[X.o];simp
   have H:n=d.length:=by have:=HN.o;have:=X.o;omega
   have a:=HO.o;rw[z.o] at a;have I:W.heap.size<=wr.heap.size:=K.o.size
   obtain⟨Y,r,F⟩:∃ Y,Y<wr.heap.size/\(0<n->J=some ⟨Y,0,none⟩):=by
    by_cases Z:0<n
    ·obtain⟨g,e4,G,_,_⟩:=a.form Z
     simp only[Value.slice.injEq] at G;exact⟨g,(a.lt g (by rw[G.1];rfl)).2,fun _=>G.1⟩
    ·exact⟨0,by have:=h6.o;have:=HF.o.size;omega,fun h=>absurd h Z⟩
   have R:Calls Tryz.prog 104 #[.slice J n N,.iface 154 (.string ⟨#[91,93]⟩)] wr fun e w'=>∃ v,e = .returned v/\FoB w' W.heap.size (codT d).fo [v]/\Below wr.heap.size wr w':=by
    have hl:=listOfC_any (d.map numT) (d.map fun b=>(149,Value.int .i64 b)) Y N W.heap.size J (fun Z=>F (by simpa [H] using Z)) nilT _ _ wr (foR_nil _ _) (by simp;omega) r I (fun i O=>?_) (fun i O=>?_)
    ·rw[List.length_map,<-H] at hl
     exact hl
    ·have C:i<d.length:=by simpa using O
     have h9:=F (by omega);rw[h9] at a;rw[a.cellAt i (by omega)]
     simp[numV,List.getElem?_eq_getElem C]
    ·have C:i<d.length:=by simpa using O
     simp only[List.getElem_map,List.getElem?_map,List.getElem?_eq_getElem C,Option.map_some,Option.getD_some];exact foR_num _ _ _
   have P:Hid (RI w1 rb vb kb kc ov sv all k' s.tk wr/\RFr rb vb w wr):=⟨HR.o.below K.o,HF.o.trans (RFr.of rb vb K.o)⟩
   have h7:=hid HF.o.size;clear a F r H O S U V;go_wp2_with fail;refine R.mono ?_;rintro e W4 ⟨v,rfl,G,A⟩;obtain⟨tv,xv,rfl⟩:=foC_iface G
   have h5:Hid (RStt w1 rb vb kb kc ov sv all w ((codT d,0),s.tk) (.returned (.tuple #[.iface tv xv,.int .i64 0])) W4):=⟨_,rfl,G.mono h7.o,⟨k',P.o.1.below A⟩,P.o.2.trans (RFr.of rb vb A)⟩
   clear R G A;go_wp2_with fail
   go_ret2
   exact h5.o
end
end Go.Proofs.YtlkhmmoimplokaaGreatDoor
