/- Texts of MdT. Own work of the verifier. -/
import Derived.Test.YtlkhmmoimplokaaGreatDoorUqbv
import Derived.Test.YtlkhmmoimplokaaGreatDoorUqbf
import Derived.Test.YtlkhmmoimplokaaGreatDoorUqbr
namespace Go.Proofs.YtlkhmmoimplokaaGreatDoor
set_option maxHeartbeats 8000000
set_option maxRecDepth 100000
open Go Go.RowKit
set_option linter.unusedVariables false
set_option linter.unusedSimpArgs false
section
variable {w0:World}{pb:Nat}{po:Option Addr}{co:Nat}{kp:Option Addr}{kc:Nat}{T:List Cel}{L:Int}{all:List Tok}{s:RS}{k:Nat}{b:Int}{w:World}
structure MC (w0:World)(pb:Nat)(po:Option Addr)(co:Nat)(kp:Option Addr)(kc:Nat)(T:List Cel)(L:Int)(all:List Tok)(s:RS)(k:Nat)(b:Int)(w:World):Prop where
 mf:MF pb w0 w
 c0:w.cell? ⟨pb,0,none⟩=some (.slice po T.length co)
 c1:w.cell? ⟨pb,1,none⟩=some (.slice kp all.length kc)
 c2:w.cell? ⟨pb,2,none⟩=some (.int .i64 k)
 c3:w.cell? ⟨pb,3,none⟩=some (.int .i64 b)
 c4:∃ v,w.cell? ⟨pb,4,none⟩=some v
 fz:∀ o,w.frozen? ⟨pb,o,none⟩=false
 kl:k<=all.length+1
 rel:(s.ft=none/\b = -1/\s.ts=all.drop k)∨∃ i:Nat,b=i/\i<=all.length/\s.ft=some (2,plM all L i)/\s.ts = []
theorem MS.mc (h:MS w0 pb po co kp kc T L all s k b w):MC w0 pb po co kp kc T L all s k b w:=by
 obtain⟨p,n,c,a,_⟩:=h.c4;exact⟨h.mf,h.c0,h.c1,h.c2,h.c3,⟨_,a⟩,h.fz,by have:=h.kl;omega,h.rel⟩
theorem MC.of {w':World}(h:MC w0 pb po co kp kc T L all s k b w)(d:MF pb w0 w')(e:w'.heap[pb]?=w.heap[pb]?):MC w0 pb po co kp kc T L all s k b w':=by
 have c:∀ o v,w.cell? ⟨pb,o,none⟩=some v->w'.cell? ⟨pb,o,none⟩=some v:=fun o v c=>(World.cell?_of_block (a:=⟨pb,o,none⟩) e).trans c
 obtain⟨v,f⟩:=h.c4;exact⟨d,c _ _ h.c0,c _ _ h.c1,c _ _ h.c2,c _ _ h.c3,⟨v,c _ _ f⟩,fun o=>(World.frozen?_of_block (a:=⟨pb,o,none⟩) e).trans (h.fz o),h.kl,h.rel⟩
theorem MC.below {w':World}(h:MC w0 pb po co kp kc T L all s k b w)(a:Below w.heap.size w w'):MC w0 pb po co kp kc T L all s k b w':=h.of (h.mf.below a) (a.block _ (World.block_lt_of_cell? _ _ h.c0))
theorem MF.put3 {w a:World}(h:MF pb w a){R:Nat}(f:w.heap.size<=R)(x y z:Value):MF pb w (put3 a R x y z):=⟨h.os,h.tape,h.output,by rw[put3_size];exact h.size,fun k e c d=>(put3_heap _ _ _ _ _ (by omega)).trans (h.block k e c d)⟩
theorem MC.put3 (h:MC w0 pb po co kp kc T L all s k b w)(c:pb<w0.heap.size){R:Nat}(a:w0.heap.size<=R)(x y z:Value):MC w0 pb po co kp kc T L all s k b (put3 w R x y z):=h.of (h.mf.put3 a _ _ _) (put3_heap _ _ _ _ _ (by omega))
theorem MC.halt (h:MC w0 pb po co kp kc T L all s k b w)(a:s.ft=none)(e:k<=all.length):MC w0 pb po co kp kc T L all (s.stop L) k (k:Nat) (w.setCell ⟨pb,3,none⟩ (.int .i64 (k:Nat))):=by
 obtain⟨v,d⟩:=h.c4
 have f:s.ts=all.drop k:=by
  rcases h.rel with ⟨_,_,c⟩ | ⟨i,_,_,c,_⟩
  ·exact c
  ·rw[a] at c;cases c
 refine⟨h.mf.trans (.set _ _ _ _),cell_pbD _ _ (by decide) h.c0,cell_pbD _ _ (by decide) h.c1,cell_pbD _ _ (by decide) h.c2,World.cell?_setCell_same' _ _ _ (by rw[h.c3];rfl),⟨v,cell_pbD _ _ (by decide) d⟩,fun o=>by rw[World.frozen?_setCell];exact h.fz o,h.kl,.inr ⟨k,rfl,e,?_,rfl⟩⟩
 unfold RS.stop plM
 rw[a,<-f];rfl
theorem MC.start (h:MC w0 pb po co kp kc T L all s k b w)(d:k<=all.length)(e:pb<w0.heap.size):MS w0 pb po co kp kc T L all ⟨s.ts,[],s.ft⟩ k b (w.setCell ⟨pb,4,none⟩ (.slice none 0 0)):=by
 obtain⟨v,c⟩:=h.c4;refine⟨h.mf.trans (.set _ _ _ _),cell_pbD _ _ (by decide) h.c0,cell_pbD _ _ (by decide) h.c1,cell_pbD _ _ (by decide) h.c2,cell_pbD _ _ (by decide) h.c3,⟨none,0,0,World.cell?_setCell_same' _ _ _ (by rw[c];rfl),NmO.nil _ _ _⟩,fun o=>by rw[World.frozen?_setCell];exact h.fz o,d,h.rel,(fun g f=>by cases f),?_⟩
 rcases h.rel with ⟨_,_,a⟩ | ⟨i,_,_,_,a⟩
 ·simp[a]
 ·simp[a]
theorem l4stopC_any (h:MC w0 pb po co kp kc T L all s k b w)(a:s.ft=none)(m:k<=all.length)(l:all.length<=10000):Calls Tryz.prog 27 #[ptrM pb] w fun e f=>e = .returned (.tuple #[])/\MC w0 pb po co kp kc T L all (s.stop L) k (k:Nat) f/\MF pb w f:=by
 have n:=h.c2;have j:=h.c3;have p:=h.fz 3
 have d:b = -1:=by
  rcases h.rel with ⟨_,c,_⟩ | ⟨i,_,_,c,_⟩
  ·exact c
  ·rw[a] at c;cases c
 have g:Hid (MC w0 pb po co kp kc T L all (s.stop L) k (k:Nat) (w.setCell ⟨pb,3,none⟩ (.int .i64 (k:Nat)))):=h.halt a m;rw[d] at j;clear h d
 go_enter Tryz.func27,Tryz.ntmps27
 go_wp2_with fail
 go_end0
 exact⟨rfl,g.o,.set _ _ _ _⟩
def ClO (w0:World)(pb:Nat)(po:Option Addr)(co:Nat)(kp:Option Addr)(kc:Nat)(T:List Cel)(L:Int)(all:List Tok)(w:World)(x:Tr)(s1:RS)(e:Ending)(w':World):Prop:=
 ∃ q n c p m cp k' b',e = .returned (.agg #[.slice q n c,.slice p m cp,.int .i64 0])/\MF pb w w'/\MC w0 pb po co kp kc T L all s1 k' b' w'/\(s1.ft=none->k'<=all.length/\∃ t,OwnC w' w.heap.size q n c t/\t.length<=2001/\(∀ y ∈ t,y.2.2.length<=100)/\Cut t (itC x)/\OwnV w' w.heap.size p m cp s1.ns/\(∀ xs ∈ s1.ns,xs.length<=100)/\s1.ns.length<=10000)
theorem tl_bd:∀ (t:List Cel),(∀ y ∈ t,y.2.2.length<=100)->tl t<=100 * t.length
 | [],_=>by simp[tl]
 | x :: r,h=>by
   have:=tl_bd r (fun y a=>h y (List.mem_cons_of_mem _ a));have c:=h x (List.mem_cons_self ..);simp only[tl,List.length_cons];omega
theorem OwnV.lower {w:World}{B a:Nat}{p:Option Addr}{n c:Nat}{e:List (List Int)}(h:OwnV w B p n c e)(d:a<=B):OwnV w a p n c e:=by
 obtain⟨l,f,q,j,m,o,ha⟩:=h;exact⟨l,f,q,j,ownsRow_down m d,fun i g=>(o i g).mono d,ha⟩
def CIv (W6:World)(C:Nat)(q6:Option Addr)(n6 c6:Nat)(ns:List (List Int))(wr:World)(j:Nat)(pv:Option Addr)(cv:Nat):Prop:=
 wr.heap[C]?=some (.cells #[.slice q6 n6 c6,.slice pv j cv,.int .i64 0] 28)/\OwnV wr (C+1) pv j cv (ns.take j)/\Below W6.heap.size W6 wr
def NmI (W:World)(pb:Nat)(p:Option Addr)(n c:Nat)(ns:List (List Int)):Prop:=W.cell? ⟨pb,4,none⟩=some (.slice p n c)/\n=ns.length/\∀ i,i<ns.length->∃ g q cq,p=some ⟨g,0,none⟩/\W.cell? ⟨g,i,none⟩=some (.slice q (ns.getD i []).length cq)/\BIn W q (ns.getD i [])
theorem NmI.below {W d:World}{p:Option Addr}{n c:Nat}{j:List (List Int)}(h:NmI W pb p n c j)(a:Below W.heap.size W d):NmI d pb p n c j:=⟨(a.cell (World.block_lt_of_cell? _ _ h.1)).trans h.1,h.2.1,fun i o=>by
 obtain⟨g,q,l,e,f,m⟩:=h.2.2 i o
 exact⟨g,q,l,e,(a.cell (World.block_lt_of_cell? _ _ f)).trans f,m.below a⟩⟩
theorem l4clause_any (E:MEnv w0 pb po co kp kc T L all)(a6:MOk w0 pb po co kp kc T L all (all.length+1))(h:MC w0 pb po co kp kc T L all s k b w)(hk:k<=all.length)(c5:w0.heap.size<=w.heap.size) :
  Calls Tryz.prog 26 #[ptrM pb] w (ClO w0 pb po co kp kc T L all w (rdR T L (all.length+1) 1200 ⟨s.ts,[],s.ft⟩).1 ((rdR T L (all.length+1) 1200 ⟨s.ts,[],s.ft⟩).2.mustBe L 7)):=by
 have g8:pb<w.heap.size:=Nat.lt_of_lt_of_le E.lt c5
 have h6:Hid (pb<w0.heap.size/\w0.heap.size<=w.heap.size/\pb<w.heap.size):=⟨E.lt,c5,g8⟩
 obtain⟨Q,eA⟩:∃ Q,Q=w.alloc (.cells #[.slice none 0 0,.slice none 0 0,.int .i64 0] 28):=⟨_,rfl⟩
 have b7:Below w.heap.size w Q:=by rw[eA];exact bel_alloc _ _
 have h3:=h.below b7;have i6:Hid (Q=w.alloc (.cells #[.slice none 0 0,.slice none 0 0,.int .i64 0] 28)):=eA
 have i1:Q.heap.size=w.heap.size+1:=by rw[eA];simp
 have g9:Q.heap[w.heap.size]?=some (.cells #[.slice none 0 0,.slice none 0 0,.int .i64 0] 28):=by rw[eA];exact heap_alloc_new _ _
 have j3:Hid (∀ W,MF pb Q W->W.heap[w.heap.size]?=some (.cells #[.slice none 0 0,.slice none 0 0,.int .i64 0] 28)):=fun W hW=>hW.tag g9 (by decide) (by omega)
 have x4:=h3.start hk E.lt;obtain⟨v4,a4⟩:=h3.c4;have j6:=h3.fz 4
 obtain⟨A1,k6⟩:∃ A1,A1=Q.setCell ⟨pb,4,none⟩ (.slice none 0 0):=⟨_,rfl⟩
 have i5:Hid (A1=Q.setCell ⟨pb,4,none⟩ (.slice none 0 0)):=k6;rw[<-k6] at x4
 have j1:Hid (MF pb Q A1):=by rw[k6];exact .set _ _ _ _
 have i2:(⟨s.ts,[],s.ft⟩:RS).ts.length<all.length+1:=by have:=x4.nb.2;simp only[List.length_nil] at this ⊢;omega
 have w1:=a6 1200 ⟨s.ts,[],s.ft⟩ k b A1 x4 i2
 generalize rdR T L (all.length+1) 1200 ⟨s.ts,[],s.ft⟩=y at w1 ⊢
 obtain⟨S1,b3⟩:∃ S1,S1=y.2.mustBe L 7:=⟨_,rfl⟩
 rw[<-b3];have a8:Hid (S1=y.2.mustBe L 7):=b3;clear b3
 have HK:Hid (∀ (k':Nat) (b':Int) (W:World),MS w0 pb po co kp kc T L all y.2 k' b' W->∀ W',Below W.heap.size W W'->Calls Tryz.prog 54 #[ptrM pb,.int .i64 0] W' fun e w'=>e = .returned (.int .i64 y.2.kd)/\Below W'.heap.size W' w'):=fun k' b' W hs=>l4kind0 E hs
 have b1:Hid (∀ (k':Nat) (b':Int) (W:World),MS w0 pb po co kp kc T L all y.2 k' b' W->Calls Tryz.prog 27 #[ptrM pb] W (MUnit w0 pb po co kp kc T L all W (y.2.stop L) (.tuple #[]))):=fun k' b' W hs=>l4stop_any E hs
 have c7:Hid (all.length<=10000):=E.len
 have x9:Hid (Below w.heap.size w Q/\Q.heap.size=w.heap.size+1):=⟨b7,i1⟩
 have m9:=fieldP0;clear a6 h E hk c5 g8 eA b7 h3 i1 g9 x4 k6 i2
 go_enter Tryz.func26,Tryz.ntmps26
 go_upto_region 1 with fail
 rw[<-i6.o]
 go_upto_region 2 with fail
 rw[<-i5.o];go_wp2_with fail;refine w1.mono ?_;rintro e W2 ⟨q,n,c,t,p2,rfl,f3,hl,hcut,⟨k2,b2,b9⟩,f5⟩;have w5:=HK.o k2 b2 W2 b9 W2 (Below.refl _ _)
 have u:Hid (CT W2 pb q n c t/\t.length<=2001/\(y.2.ft=none->Cut t (itC y.1))/\MS w0 pb po co kp kc T L all y.2 k2 b2 W2/\MF pb Q W2):=⟨f3,hl,hcut,b9,j1.o.trans f5⟩
 clear f3 hl hcut b9 f5 w1 HK a4 j6;go_wp2_with fail;refine w5.mono ?_;rintro e W3 ⟨rfl,K⟩
 by_cases h7:y.2.kd=7
 rotate_right
 case' _=>
  have l2:(y.2.kd != 7)=true:=by simpa using h7
  have w6:=b1.o k2 b2 W3 (u.o.2.2.2.1.below K)
  have HV:Hid (S1=y.2.stop L):=by show _=_;rw[a8.o];unfold RS.mustBe;rw[if_neg h7]
  have a5:Hid (MF pb W2 W3):=MF.of pb K
  have r:Hid ((y.2.stop L).ns=y.2.ns/\(y.2.stop L).ft≠none):=⟨rfl,by simp[RS.stop]⟩
  generalize y.2.stop L=s1 at w6 r HV
  generalize y.2.kd=kd at *
  clear h7 w5 b1 K;go_wp2_with fail;refine w6.mono ?_;rintro e W4 ⟨rfl,⟨k4,b4,N⟩,f6⟩;have u2:=N.c2;have uz:=N.fz 2;have m1:=N.kl;have l6:=c7.o;have m4:IntKind.i64.wrap ((k4:Int)+1)=(k4:Int)+1:=wrapM (by omega) (by omega)
  obtain⟨l,x⟩:∃ l,l=W4.setCell ⟨pb,2,none⟩ (.int .i64 ((k4:Int)+1)):=⟨_,rfl⟩
  have d2:Hid (l=W4.setCell ⟨pb,2,none⟩ (.int .i64 ((k4:Int)+1))):=x
  have X:MF pb W2 l:=by rw[x];exact(a5.o.trans f6).trans (.set _ _ _ _)
  obtain⟨pn,H,cn,h4,h5⟩:=N.c4
  have d6:l.cell? ⟨pb,4,none⟩=some (.slice pn H cn):=by rw[x];exact cell_pbD _ _ (by decide) h4
  have x1:NmO l pb w0.heap.size pn H cn s1.ns:=by rw[x];exact h5.of (MF.set _ _ _ _).sf fun g hg=>Below.heap_setCell _ _ _ _ (by have:=(h5.lt g hg).1;have:=h6.o;show g≠pb;omega)
  have d:Hid (CT l pb q n c t/\t.length<=2001/\MF pb Q l/\NmI l pb pn H cn y.2.ns/\(∀ xs ∈ y.2.ns,Byte xs/\xs.length<=100)/\y.2.ns.length<=10000):=by
   rw[r.o.1] at x1;have f7:=N.nb;rw[r.o.1] at f7;exact⟨u.o.1.move X.sf,u.o.2.1,u.o.2.2.2.2.trans X,⟨d6,x1.1,fun i hi=>by obtain⟨g,q',cq,e1,e2,e3⟩:=x1.at i hi;exact⟨g,q',cq,e1,e2,e3.bin⟩⟩,f7.1,by omega⟩
  have m:MC w0 pb po co kp kc T L all s1 (k4+1) b4 l:=by
   have V:=N.mc;obtain⟨v9,l3⟩:=V.c4;rw[x];refine⟨V.mf.trans (.set _ _ _ _),cell_pbD _ _ (by decide) V.c0,cell_pbD _ _ (by decide) V.c1,?_,cell_pbD _ _ (by decide) V.c3,⟨v9,cell_pbD _ _ (by decide) l3⟩,fun o=>by rw[World.frozen?_setCell];exact V.fz o,by have:=N.kl;omega,?_⟩
   ·rw[show((k4+1:Nat):Int)=(k4:Int)+1 by omega]
    exact World.cell?_setCell_same' _ _ _ (by rw[V.c2];rfl)
   ·rcases V.rel with ⟨h',_⟩ | h'
    ·exact absurd h' r.o.2
    ·exact .inr h'
  have w8:Hid (∀ F,MF pb w0 F->F.heap[pb]?=l.heap[pb]?->∃ k' b',MC w0 pb po co kp kc T L all s1 k' b' F/\(s1.ft=none->k'<=all.length)):=fun F hF hp=>⟨_,_,m.of hF hp,fun h0=>absurd h0 r.o.2⟩
  have w7:Hid (s1.ft=none->Cut t (itC y.1)):=fun h0=>absurd h0 r.o.2
  have a7:Hid (MF pb w0 l):=m.mf;have e4:Hid (s1.ns=y.2.ns):=r.o.1;clear N m x X h4 h5 d6 x1 w6 u f6 a5 r
 rotate_right
 case' _=>
  have l2:(y.2.kd != 7)=false:=by simp[h7]
  have f8:=kd_ne h7 (by decide);have k3:=u.o.2.2.2.1.below K;have m:=k3.adv h6.o.1 f8;have u2:=k3.c2;have uz:=k3.fz 2;have m1:=k3.kl;have l6:=c7.o;have m4:IntKind.i64.wrap ((k2:Int)+1)=(k2:Int)+1:=wrapM (by omega) (by omega)
  have HV:Hid (S1=y.2.tk):=by show _=_;rw[a8.o];unfold RS.mustBe;rw[if_pos h7]
  obtain⟨l,x⟩:∃ l,l=W3.setCell ⟨pb,2,none⟩ (.int .i64 ((k2:Int)+1)):=⟨_,rfl⟩
  have d2:Hid (l=W3.setCell ⟨pb,2,none⟩ (.int .i64 ((k2:Int)+1))):=x;rw[<-x] at m
  have X:MF pb W2 l:=by rw[x];exact(MF.of pb K).trans (.set _ _ _ _)
  obtain⟨pn,H,cn,h4,h5⟩:=m.c4
  have d:Hid (CT l pb q n c t/\t.length<=2001/\MF pb Q l/\NmI l pb pn H cn y.2.ns/\(∀ xs ∈ y.2.ns,Byte xs/\xs.length<=100)/\y.2.ns.length<=10000):=⟨u.o.1.move X.sf,u.o.2.1,u.o.2.2.2.2.trans X,⟨h4,h5.1,fun i hi=>by obtain⟨g,q',cq,e1,e2,e3⟩:=h5.at i hi;exact⟨g,q',cq,e1,e2,e3.bin⟩⟩,m.nb.1,by have:=m.nb.2;have e:y.2.tk.ns=y.2.ns:=rfl;rw[e] at this;omega⟩
  have w8:Hid (∀ F,MF pb w0 F->F.heap[pb]?=l.heap[pb]?->∃ k' b',MC w0 pb po co kp kc T L all y.2.tk k' b' F/\(y.2.tk.ft=none->k'<=all.length)):=fun F hF hp=>⟨_,_,m.mc.of hF hp,fun _=>m.kl⟩
  have w7:Hid (y.2.tk.ft=none->Cut t (itC y.1)):=u.o.2.2.1;have a7:Hid (MF pb w0 l):=m.mf;have e4:Hid (y.2.tk.ns=y.2.ns):=rfl
  generalize y.2.tk=s1 at w8 w7 e4 HV
  generalize y.2.kd=kd at *
  clear k3 m f8 h7 x X h4 h5 w5 b1 u K
 all_goals
  go_upto_region 6 with fail
  rw[<-d2.o];have c8:=l2copy_any q n c t l d.o.1.1 (by have:=tl_bd t d.o.1.bd;have:=d.o.2.1;omega) d.o.1.cin;clear u2 uz;go_wp2_with fail;refine c8.mono ?_;rintro e U ⟨P,O,I,rfl,g5,b6⟩
  obtain⟨WL,k8⟩:∃ WL,WL=U.alloc (.cells #[.slice P O I,.slice none 0 0,.int .i64 0] 28):=⟨_,rfl⟩
  have j5:Hid (WL=U.alloc (.cells #[.slice P O I,.slice none 0 0,.int .i64 0] 28)):=k8
  obtain⟨C,eC⟩:∃ C,C=U.heap.size:=⟨_,rfl⟩
  have Y:Hid (C=U.heap.size):=eC
  have f2:Below U.heap.size U WL:=by rw[k8];exact bel_alloc _ _
  have e6:=d.o.2.2.2.1.below b6
  have w9:Hid (NmI U pb pn H cn y.2.ns/\(∀ xs ∈ y.2.ns,Byte xs/\xs.length<=100)/\y.2.ns.length<=10000):=⟨e6,d.o.2.2.2.2⟩
  have n1:H<=10000:=by rw[e6.2.1];exact d.o.2.2.2.2.2
  have e5:Hid (OwnC U l.heap.size P O I t/\Below l.heap.size l U):=⟨g5,b6⟩
  have i8:Hid (CIv U C P O I y.2.ns WL 0 none 0):=⟨by rw[k8,eC];exact heap_alloc_new _ _,by rw[List.take_zero];exact OwnV.nil _ _,f2⟩
  have j2:Hid (pb<C):=by
   show pb<C
   have V:=World.block_lt_of_cell? _ _ e6.1;rw[eC];exact V
  have h8:Hid (H=y.2.ns.length):=e6.2.1;clear c8 g5 b6 k8 eC f2 e6;go_wp2_with fail;rw[<-j5.o,<-Y.o]
  go_loopw [5] (fun i wr=>∃ (j:Nat) (D:Option Addr) (B:Nat),j<=H/\i = .int .i64 j/\Hid (CIv U C P O I y.2.ns wr j D B)) (fun i _=>H-(intOf i).toNat)
  case atStart=>exact⟨0,none,0,Nat.zero_le _,rfl,i8⟩
  case round=>
   obtain⟨j,D,B,hj,rfl,R⟩:=hrel;have x5:=w9.o.1.below R.o.2.2;have f4:=x5.1;obtain⟨j7,d3,j8,j9,m5,l1⟩:=res3 R.o.1
   by_cases x3:j<H
   ·obtain⟨g,qj,cj,rfl,y1,y2⟩:=x5.2.2 j (by rw[<-h8.o];exact x3)
    have b8:Byte (y.2.ns.getD j [])/\(y.2.ns.getD j []).length<=100:=by
     have e8:j<y.2.ns.length:=by rw[<-h8.o];exact x3
     rw[List.getD,List.getElem?_eq_getElem e8];exact w9.o.2.1 _ (List.getElem_mem e8)
    have a9:Hid (y.2.ns.take (j+1)=y.2.ns.take j ++ [y.2.ns.getD j []]):=by
     have e8:j<y.2.ns.length:=by rw[<-h8.o];exact x3
     show _=_
     rw[List.take_succ_eq_append_getElem e8,List.getD,List.getElem?_eq_getElem e8];rfl
    have k5:=l1copy_all qj (y.2.ns.getD j []).length cj (y.2.ns.getD j []) wr.drew rfl (by have:=b8.2;omega) y2
    generalize y.2.ns.getD j []=nm at y1 y2 b8 a9 k5
    obtain⟨lj,d5⟩:∃ lj,lj=nm.length:=⟨_,rfl⟩
    rw[<-d5] at y1 k5
    have l7:(0:Int)<=(j:Int):=by omega
    have l8:(j:Int)<(H:Int):=by omega
    have a3:Hid (Calls Tryz.prog 56 #[.slice qj lj cj] wr.drew fun e w'=>∃ p' n' c',e = .returned (.slice p' n' c')/\OwnS w' wr.drew.heap.size p' n' c' nm/\Below wr.drew.heap.size wr.drew w'):=k5
    have hD:∀ W,Below wr.heap.size wr W->W.cell? ⟨C,1,none⟩=some (.slice D j B)/\W.cell? ⟨pb,4,none⟩=some (.slice (some ⟨g,0,none⟩) H cn)/\W.cell? ⟨g,j,none⟩=some (.slice qj lj cj):=fun W hW=>⟨(hW.cell (World.block_lt_of_cell? _ _ d3)).trans d3,(hW.cell (World.block_lt_of_cell? _ _ f4)).trans f4,(hW.cell (World.block_lt_of_cell? _ _ y1)).trans y1⟩
    have HD:Hid (∀ W,Below wr.heap.size wr W->W.cell? ⟨C,1,none⟩=some (.slice D j B)/\W.cell? ⟨pb,4,none⟩=some (.slice (some ⟨g,0,none⟩) H cn)/\W.cell? ⟨g,j,none⟩=some (.slice qj lj cj)):=hD
    have i7:Hid (g<C):=by
     obtain⟨g',_,_,e9,V,_⟩:=w9.o.1.2.2 j (by rw[<-h8.o];exact x3)
     cases e9
     rw[Y.o];exact World.block_lt_of_cell? _ _ V
    clear x5 y2 b8 d5 k5 hD j7 j8 j9 l1;go_wp2_with fail;refine wp_region_any (by kernel_rfl) ?_;refine wpAny_tail (p:=12) (S:=fun W=>W.cell? ⟨C,1,none⟩=some (.slice D j B)/\W.cell? ⟨pb,4,none⟩=some (.slice (some ⟨g,0,none⟩) H cn)/\W.cell? ⟨g,j,none⟩=some (.slice qj lj cj)) (by kernel_rfl) 12 _ _ _ rfl (clo_start _ _ _) (by kernel_rfl) (by kernel_rfl) ?_
    change wpAnyH _ _ _ _ _ _ _ _ wr.drew
    have l5:=HD.o wr.drew (Below.refl _ _).drew;refine hTq 0 (.pointer (some ⟨C,1,none⟩)) 36 ?_
    simp only[Act.put,zzA,zzB,zzC];refine hTr 1 (.slice D j B) 37 (fun o G W h1=>?y1) ?_
    case y1=>cases G;obtain⟨s0,s2,s3⟩:=h1;simp[execOp,go_sem,Act.eval,s0]
    simp only[Act.put,zzA,zzB,zzC];refine hTq 2 (ptrM pb) 38 ?_
    simp only[Act.put,zzA,zzB,zzC];refine hTq 3 (ptrM pb) 39 ?_
    simp only[Act.put,zzA,zzB,zzC];refine hTq 4 (.pointer (some ⟨pb,4,none⟩)) 40 ?_
    simp only[Act.put,zzA,zzB,zzC];refine hTr 5 (.slice (some ⟨g,0,none⟩) H cn) 41 (fun o G W h1=>?y5) ?_
    case y5=>cases G;obtain⟨s0,s2,s3⟩:=h1;simp[execOp,go_sem,Act.eval,s2]
    simp only[Act.put,zzA,zzB,zzC];refine hTq 6 (.int .i64 j) 42 ?_
    simp only[Act.put,zzA,zzB,zzC];refine hTr 7 (.pointer (some ⟨g,j,none⟩)) 43 (fun o G W h1=>?y7) ?_
    case y7=>cases G;simp[execOp,go_sem,Act.eval,l7,l8]
    simp only[Act.put,zzA,zzB,zzC];refine hTr 8 (.slice qj lj cj) 44 (fun o G W h1=>?y8) ?_
    case y8=>cases G;obtain⟨s0,s2,s3⟩:=h1;simp[execOp,go_sem,Act.eval,s3]
    simp only[Act.put,zzA,zzB,zzC];refine hCallE (i:=9) (f:=56) (args:=#[.slice qj lj cj]) (some 45) (by kernel_rfl) (by kernel_rfl) (by kernel_rfl) (fun o G=>?c9) a3.o ?k9 (fun ch w' hh=>by obtain⟨_,_,_,h,_⟩:=hh;cases h) (fun w' hh=>by obtain⟨_,_,_,h,_⟩:=hh;cases h)
    case c9=>cases G;simp[execOp,go_sem,Act.eval]
    case k9=>
     rintro z w2 ⟨p',n',c',hu,f9,x6⟩;obtain rfl:=Ending.returned.inj hu;have x2:Below wr.heap.size wr w2:=((Below.refl wr.heap.size wr).drew).trans x6;have d8:=HD.o w2 x2;have g6:OwnT w2 wr.heap.size p' n' c' nm:=f9.toT;clear hu x6 f9;refine⟨d8,?_⟩;simp only[Act.put,zzA,zzB,zzC]
     obtain⟨V1,k7⟩:∃ V1,V1=w2.alloc (.cells #[.slice p' n' c'] 23):=⟨_,rfl⟩
     have j4:Hid (w2.alloc (.cells #[.slice p' n' c'] 23)=V1):=k7.symm
     have M:Below wr.heap.size wr V1:=by rw[k7];exact Below.on x2 (bel_alloc _ _)
     have f1:=HD.o V1 M;have i3:C+1<=wr.heap.size:=(Array.getElem?_eq_some_iff.1 R.o.1).1;obtain⟨g3,J,w3,k1,g4,A⟩:=run_app_name wr w2 (C+1) D j B (y.2.ns.take j) R.o.2.1 x2 i3 p' n' c' nm g6 (by omega);rw[<-k7] at k1 A
     have x8:∀ k,Value.ownBlock (.slice D j B)=some k->C+1<=k/\k<wr.heap.size:=fun k hk=>by
      have V:=R.o.2.1.row k hk;exact⟨V.1,V.2.1⟩
     have h2:∀ k,k<C+1->w3.heap[k]?=wr.heap[k]?:=fun k hk=>(A.block k (by have:=M.size;omega) (fun e=>by have:=(x8 k e.symm).1;omega)).trans (M.block k (by omega))
     have d9:w3.cell? ⟨C,1,none⟩=some (.slice D j B)/\w3.cell? ⟨pb,4,none⟩=some (.slice (some ⟨g,0,none⟩) H cn)/\w3.cell? ⟨g,j,none⟩=some (.slice qj lj cj):=by
      obtain⟨e0,e1,e2⟩:=HD.o wr (Below.refl _ _);exact⟨(World.cell?_of_block (a:=⟨C,1,none⟩) (h2 C (by omega))).trans e0,(World.cell?_of_block (a:=⟨pb,4,none⟩) (h2 pb (by have:=j2.o;omega))).trans e1,(World.cell?_of_block (a:=⟨g,j,none⟩) (h2 g (by have:=i7.o;omega))).trans e2⟩
     refine hStep (i:=10) (v:=.slice (some ⟨w2.heap.size,0,none⟩) 1 1) (w':=V1) (some 46) (by kernel_rfl) (by kernel_rfl) (by kernel_rfl) (fun o G=>?y10) f1 ?_
     case y10=>
      cases G
      simp[execOp,go_sem,Act.eval]
      exact j4.o
     simp only[Act.put,zzA,zzB,zzC];refine hStep (i:=11) (v:=.slice (some ⟨g3,0,none⟩) (j+1) J) (w':=w3) (some 47) (by kernel_rfl) (by kernel_rfl) (by kernel_rfl) (fun o G=>?ya) d9 ?_
     case ya=>
      cases G
      exact exec_appN rfl rfl rfl rfl k1
     simp only[Act.put,zzA,zzB,zzC];have b5:w3.heap[C]?=some (.cells #[.slice P O I,.slice D j B,.int .i64 0] 28):=(h2 C (by omega)).trans R.o.1;obtain⟨_,d1,_,_,d4,_⟩:=res3 b5
     obtain⟨w4,Z⟩:∃ w4,w4=w3.setCell ⟨C,1,none⟩ (.slice (some ⟨g3,0,none⟩) (j+1) J):=⟨_,rfl⟩
     have i4:∀ k,k≠C->w4.heap[k]?=w3.heap[k]?:=fun k hk=>by rw[Z];exact Below.heap_setCell _ _ _ _ hk
     have d7:CIv U C P O I y.2.ns w4 (j+1) (some ⟨g3,0,none⟩) J:=by
      refine⟨by rw[Z];exact set1_box b5,?_,?_⟩
      ·rw[a9.o]
       exact g4.of (by rw[Z];simp) fun k hk _=>i4 k (by omega)
      ·have K:Below U.heap.size U w3:=⟨A.os.trans (M.os.trans R.o.2.2.os),A.tape.trans (M.tape.trans R.o.2.2.tape),A.output.trans (M.output.trans R.o.2.2.output),Nat.le_trans R.o.2.2.size (Nat.le_trans M.size A.size),fun k hk=>(h2 k (by rw[Y.o];omega)).trans (R.o.2.2.block k hk)⟩
       rw[Z];exact below_set K (by rw[Y.o];exact Nat.le_refl _) _ _
     refine wpAnyH_done (by kernel_rfl) ?_ _;refine tail_store (v:=.pointer (some ⟨C,1,none⟩)) (w':=w4) (some 48) (by rfl) (by rfl) (by rfl) ?_ (by rfl) (by rfl) (by rfl) ?_ ?_
     ·simp[execOp,go_sem,Act.eval]
     ·rw[Z]
      simp[execOp,go_sem,Act.eval,Act.put,d1,d4]
     simp only[Act.put,zzA,zzB,zzC];have i9:Hid (CIv U C P O I y.2.ns w4 (j+1) (some ⟨g3,0,none⟩) J):=d7;clear d7 i4 Z d1 d4 b5 d9 h2 x8 A g4 k1 f1 M k7 g6 d8 x2 l5;go_wp2_with fail;go_roundw
     case rel=>exact⟨j+1,_,J,by omega,by go_num,i9⟩
     case measure=>simp[intOf];omega
   ·obtain rfl:j=H:=by omega
    have HF:Hid (ClO w0 pb po co kp kc T L all w y.1 S1 (.returned (.agg #[.slice P O I,.slice D j B,.int .i64 0])) (put3 wr w.heap.size (.slice P O I) (.slice D j B) (.int .i64 0))):=by
     rw[HV.o];have x7:=R.o.2.2;have e7:Below l.heap.size l wr:=Below.on e5.o.2 x7
     have m8:w.heap.size<l.heap.size:=by have:=d.o.2.2.1.size;have:=x9.o.2;omega
     have h3:MF pb Q wr:=d.o.2.2.1.below e7;have m3:MF pb w (put3 wr w.heap.size (.slice P O I) (.slice D j B) (.int .i64 0)):=((MF.of pb x9.o.1).trans h3).put3 (Nat.le_refl _) _ _ _;have m2:MF pb w0 (put3 wr w.heap.size (.slice P O I) (.slice D j B) (.int .i64 0)):=(a7.o.below e7).put3 h6.o.2.1 _ _ _;have g7:pb<l.heap.size:=Nat.lt_of_lt_of_le h6.o.2.2 (by omega);obtain⟨k',b',m,l9⟩:=w8.o _ m2 ((put3_heap _ _ _ _ _ (by have:=h6.o;omega)).trans (e7.block _ g7));refine⟨P,O,I,D,j,B,k',b',rfl,m3,m,fun h0=>⟨l9 h0,t,?_,d.o.2.1,d.o.1.bd,w7.o h0,?_,fun xs hx=>(d.o.2.2.2.2.1 xs (by rw[e4.o] at hx;exact hx)).2,by rw[e4.o];exact d.o.2.2.2.2.2⟩⟩
     ·have G:=(e5.o.1.below x7).stay (w':=put3 wr w.heap.size (.slice P O I) (.slice D j B) (.int .i64 0)) (by rw[put3_size];exact Nat.le_refl _) (fun k hk _=>put3_heap _ _ _ _ _ (by omega))
      exact G.lower (by omega)
     ·rw[e4.o]
      have G:=R.o.2.1;rw[List.take_of_length_le (by rw[<-h8.o];exact Nat.le_refl _)] at G
      have m6:w.heap.size<=C:=by rw[Y.o];have:=e5.o.2.size;omega
      exact(G.of (w':=put3 wr w.heap.size (.slice P O I) (.slice D j B) (.int .i64 0)) (by rw[put3_size];exact Nat.le_refl _) (fun k hk _=>put3_heap _ _ _ _ _ (by omega))).lower (by omega)
    have r0:=j3.o wr (d.o.2.2.1.below (Below.on e5.o.2 R.o.2.2));obtain⟨g0,g1,g2,z0,z1,z2⟩:=res3 r0
    have l4:¬ C=w.heap.size:=by rw[Y.o];have:=e5.o.2.size;have:=d.o.2.2.1.size;have:=x9.o.2;omega
    have m7:¬ w.heap.size=C:=fun e=>l4 e.symm
    unfold put3 at HF
    clear x5 r0 R;go_wp2_with fail;obtain⟨a0,a1,a2⟩:=set3 g0 g1 g2 (.slice P O I) (.slice D j B) (.int .i64 0);refine bodyPost_ret (v:=.agg #[.slice P O I,.slice D j B,.int .i64 0]) (by simp[results,Tryz.results26,go_sem,a0,a1,a2]) rfl ?_;exact HF.o
end
end Go.Proofs.YtlkhmmoimplokaaGreatDoor
