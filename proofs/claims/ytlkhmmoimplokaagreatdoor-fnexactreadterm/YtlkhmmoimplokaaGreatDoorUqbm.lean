/- Texts of MdD. Own work of the verifier. -/
import Derived.Test.YtlkhmmoimplokaaGreatDoorUqbl
namespace Go.Proofs.YtlkhmmoimplokaaGreatDoor
set_option maxRecDepth 100000
set_option maxHeartbeats 4000000
open Go Go.RowKit
set_option linter.unusedVariables false
set_option linter.unusedSimpArgs false
section
variable {w0:World}{pb:Nat}{po:Option Addr}{co:Nat}{kp:Option Addr}{kc:Nat}{T:List Cel}{L:Int}{all:List Tok}{s:RS}{k:Nat}{b:Int}{w:World}
theorem MS.kdr (E:MEnv w0 pb po co kp kc T L all)(h:MS w0 pb po co kp kc T L all s k b w):s.kd=0∨s.kd=1∨s.kd=2∨s.kd=3∨s.kd=4∨s.kd=5∨s.kd=6∨s.kd=7:=by
 by_cases a:s.ts = []
 ·exact .inl (kd_nil a)
 ·obtain⟨_,_,t,d,c⟩:=h.head a
  have:=(E.tg t (List.mem_of_getElem? d)).kd;rw[kd_cons c]
  omega
theorem strM_ne {a m:List Int}{c:ByteArray}(f:Byte a)(d:Byte m)(e:c=strOfNums a)(h:a≠m):(c.toList == (strOfNums m).toList)=false:=by rw[e,strOf_eq f d];simpa using h
theorem l3findM (E:MEnv w0 pb po co kp kc T L all)(d:Option Addr)(l f:Nat)(a:List Int)(c:Bool)(j:l=a.length)(W:World)(h:SF pb w0 W)(i:BIn W d a) :
  Calls Tryz.prog 120 #[.slice po T.length co,.slice d l f,.bool c] W fun e g=>e = .returned (.int .i64 (findW T a c))/\Below W.heap.size W g:=by
 refine(l3find_any po co T d l f a c W j (by have:=E.tln;omega) (E.oin W h) i).mono ?_;rintro e g ⟨rfl,m,rfl⟩;exact⟨rfl,⟨by simp[World.drewN],by simp[World.drewN],by simp[World.drewN],by simp[World.drewN],fun k _=>by simp[World.drewN]⟩⟩
theorem findM_rng (T:List Cel)(c:List Int)(a:Bool):findW T c a = -1∨(0<=findW T c a/\findW T c a<T.length):=by
 have e:∀ (s:List UInt8) (T:List Cel) (k:Nat),fIdx s a k T = -1∨∃ j,j<T.length/\fIdx s a k T=((k+j:Nat):Int):=fun s T=>by
  induction T with
  | nil=>exact fun k=>.inl rfl
  | cons x r g=>
    intro k
    unfold fIdx
    split
    ·exact .inr ⟨0,by simp,by simp⟩
    ·rcases g (k+1) with h | ⟨j,f,d⟩
     ·exact .inl h
     ·exact .inr ⟨j+1,by simpa using f,by rw[d];congr 1;omega⟩
 rcases e (strOfNums c).toList T 0 with h | ⟨j,f,d⟩
 ·exact .inl h
 ·right
  unfold findW
  rw[d];omega
theorem l4begins_any (E:MEnv w0 pb po co kp kc T L all)(h:MS w0 pb po co kp kc T L all s k b w):Calls Tryz.prog 175 #[ptrM pb,.int .i64 0] w fun e w'=>e = .returned (.bool (s.begins T))/\Below w.heap.size w w':=by
 have HK:Hid _:=l4kind0 E h;have Q:=h.c0;have H:=h.c1;have I:=h.c2;have hk:=h.kl;have hl:=E.len;have c9:=E.cap;have b7:=h.kdr E
 obtain⟨n,en⟩:∃ n,n=all.length:=⟨_,rfl⟩
 by_cases h1:s.kd=1
 ·obtain⟨_,_,t,h7,k3⟩:=h.head (kd_ne h1 (by decide))
  obtain⟨g,p,c,rfl,hW⟩:=E.tok _ _ h7
  have hx:s.tx=t.2:=by unfold RS.tx;rw[k3]
  have a3:s.pl 0=t.1.2.1:=by unfold RS.pl;rw[k3]
  have a5:s.ln=t.1.2.2.1:=by unfold RS.ln;rw[k3]
  have ht:=E.tg t (List.mem_of_getElem? h7);have h9:=hid (l4kind1 E h)
  have k9:Hid (∀ W pf,Below w.heap.size w W->Calls Tryz.prog 120 #[.slice po T.length co,.slice p t.2.length c,.bool pf] W fun e w'=>e = .returned (.int .i64 (findW T t.2 pf))/\Below W.heap.size W w'):=fun W pf hB=>l3findM E p t.2.length c t.2 pf rfl W (h.mfw hB) ((hW W (h.mfw hB)).2.2.2.2.2)
  have z:=findM_rng T t.2 true;have A:=findM_rng T t.2 false;have d9:=E.tln
  obtain⟨U,D⟩:∃ U,U=strOfNums t.2:=⟨_,rfl⟩
  have C:Hid (∀ W,Below w.heap.size w W->(convert 23 9 (.slice p t.2.length c)).run Tryz.prog W = .ok (.string U) W):=fun W hB=>by
   rw[D];exact conv_str ((hW W (h.mfw hB)).2.2.2.2.2) _ c rfl 9 Tryz.underlying9
  obtain⟨d0,d1,d2,d3,d4,_⟩:=hW w h.mf.sf
  have N:Hid (s.begins T=(!needL T t.2 || (decide (s.tk.kd=6) || negB t.2 (t.1.2.1+t.1.2.2.1) s.tk))):=by
   show _=_
   unfold RS.begins
   rw[if_pos h1,hx,a3,a5]
  have x4:Hid (s.tk.kd=3->∃ u,all[k+1]?=some u/\s.tk.pl 0=u.1.2.1/\∀ W,SF pb w0 W->W.cell? ⟨g,(k+1) * 5+1,none⟩=some (.int .i64 u.1.2.1)):=fun h3=>by
   rcases h.look 1 with ⟨_,k6⟩ | ⟨_,_,k6⟩ | ⟨_,u,hu,a1⟩
   ·rw[RS.at1] at k6;exact absurd (kd_nil k6) (by rw[h3];decide)
   ·rw[RS.at1] at k6;exact absurd (kd_nil k6) (by rw[h3];decide)
   ·rw[RS.at1] at a1
    obtain⟨f9,q,cq,e,hq⟩:=E.tok _ _ hu
    cases e
    exact⟨u,hu,by unfold RS.pl;rw[a1],fun W hW=>(hq W hW).2.1⟩
  have hn:k<n:=by rw[en];exact(List.getElem?_eq_some_iff.1 h7).1
  have w9:Hid (∀ W,Below w.heap.size w W->SF pb w0 W):=fun W hB=>h.mfw hB
  have f5:=ht.at_;have d5:=ht.ln;have c5:=ht.tx.1
  have k4:∀ u,all[k+1]?=some u->k+1<n/\0<=u.1.2.1/\u.1.2.1<=10000:=fun u hu=>⟨by rw[en];exact(List.getElem?_eq_some_iff.1 hu).1,(E.tg u (List.mem_of_getElem? hu)).at_⟩
  rw[<-en] at H hl hk c9;rw[h1] at HK
  have f7:(0:Int)<=(k:Int):=by omega
  have d6:(k:Int)<(n:Int):=by omega
  have f6:IntKind.i64.wrap (k:Int)=(k:Int):=wrapM (by omega) (by omega)
  obtain⟨u,eu⟩:∃ u,u=s.tk.kd:=⟨_,rfl⟩
  have k2:Hid (negB t.2 (t.1.2.1+t.1.2.2.1) s.tk=(decide (t.2 = [45]) && (decide (u=3) && decide (t.1.2.1+t.1.2.2.1=s.tk.pl 0)))):=by rw[eu];rfl
  obtain⟨tn,a6⟩:∃ tn,tn=t.1.2.2.2:=⟨_,rfl⟩
  obtain⟨G,a7⟩:∃ G,G=t.1.2.2.1:=⟨_,rfl⟩
  obtain⟨F,a4⟩:∃ F,F=t.1.2.1:=⟨_,rfl⟩
  obtain⟨tk,a8⟩:∃ tk,tk=t.1.1:=⟨_,rfl⟩
  obtain⟨l,el⟩:∃ l,l=t.2.length:=⟨_,rfl⟩
  obtain⟨tx,w2⟩:∃ tx,tx=t.2:=⟨_,rfl⟩
  rw[<-el] at k9 C d3;rw[<-a6] at d4;rw[<-a7] at d2 N k2 d5;rw[<-a4] at d1 N k2 f5;rw[<-a8] at d0;rw[<-w2] at N k2 k9 z A D c5;rw[<-eu] at h9 x4 N;have b4:IntKind.i64.wrap (F+G)=F+G:=wrapM (by omega) (by omega)
  have w6:tx = [45]->U=⟨#[45]⟩:=fun e=>by rw[D,e];rfl
  have c3:tx≠[45]->¬ U.toList = [45]:=fun e e2=>by
   have:=strM_ne (m:=[45]) c5 (byte_small (by decide)) D e;rw[e2] at this;simp[show(strOfNums [45])=⟨#[45]⟩ from rfl] at this
  obtain⟨f1,w7⟩:∃ f1,f1=findW T tx true:=⟨_,rfl⟩
  obtain⟨f2,b1⟩:∃ f2,f2=findW T tx false:=⟨_,rfl⟩
  have b3:Hid (∀ W,Below w.heap.size w W->Calls Tryz.prog 120 #[.slice po T.length co,.slice p l c,.bool true] W fun e w'=>e = .returned (.int .i64 f1)/\Below W.heap.size W w'):=fun W hB=>by rw[w7];exact k9.o W true hB
  have b2:Hid (∀ W,Below w.heap.size w W->Calls Tryz.prog 120 #[.slice po T.length co,.slice p l c,.bool false] W fun e w'=>e = .returned (.int .i64 f2)/\Below W.heap.size W w'):=fun W hB=>by rw[b1];exact k9.o W false hB
  have e5:Hid (needL T tx=(decide (0<=f2) && !decide (0<=f1))):=by rw[w7,b1];rfl
  rw[<-w7] at z;rw[<-b1] at A
  generalize T.length=tl0 at Q z A d9 b3 b2
  clear h E h1 h7 k3 hW hx a3 a5 ht D el en b7 w2 a4 a7 a8 a6 eu k9 w7 b1 c5
  have c4:tx≠[45]∨(tx = [45]/\u≠3)∨(tx = [45]/\u=3/\F+G=s.tk.pl 0)∨(tx = [45]/\u=3/\F+G≠s.tk.pl 0):=by
   by_cases a:tx = [45]
   ·by_cases b:u=3
    ·by_cases c:F+G=s.tk.pl 0
     ·exact .inr (.inr (.inl ⟨a,b,c⟩))
     ·exact .inr (.inr (.inr ⟨a,b,c⟩))
    ·exact .inr (.inl ⟨a,b⟩)
   ·exact .inl a
  rcases c4 with h8 | ⟨h8,h3⟩ | ⟨h8,h3,h4⟩ | ⟨h8,h3,h4⟩
  ·go_enter Tryz.func175,Tryz.ntmps175
   go_wp2_with fail;refine(HK.o _ (Below.refl _ _)).mono ?_;rintro e d ⟨rfl,j⟩;have P:=hid j;have g1:d.cell? ⟨pb,1,none⟩=some (.slice (some ⟨g,0,none⟩) n kc):=(j.cell (World.block_lt_of_cell? _ _ H)).trans H;have g2:d.cell? ⟨pb,2,none⟩=some (.int .i64 k):=(j.cell (World.block_lt_of_cell? _ _ I)).trans I;have e0:d.cell? ⟨g,k * 5,none⟩=some (.int .i64 tk):=(j.cell (World.block_lt_of_cell? _ _ d0)).trans d0;have e1:d.cell? ⟨g,k * 5+1,none⟩=some (.int .i64 F):=(j.cell (World.block_lt_of_cell? _ _ d1)).trans d1;have e2:d.cell? ⟨g,k * 5+2,none⟩=some (.int .i64 G):=(j.cell (World.block_lt_of_cell? _ _ d2)).trans d2;have e3:d.cell? ⟨g,k * 5+3,none⟩=some (.slice p l c):=(j.cell (World.block_lt_of_cell? _ _ d3)).trans d3;have e4:d.cell? ⟨g,k * 5+4,none⟩=some (.int .i64 tn):=(j.cell (World.block_lt_of_cell? _ _ d4)).trans d4
   clear HK j;go_wp2_with fail
   go_region_held3 (fun W=>W.cell? ⟨pb,1,none⟩=some (.slice (some ⟨g,0,none⟩) n kc)/\W.cell? ⟨pb,2,none⟩=some (.int .i64 k)/\W.cell? ⟨g,k * 5,none⟩=some (.int .i64 tk)/\W.cell? ⟨g,k * 5+1,none⟩=some (.int .i64 F)/\W.cell? ⟨g,k * 5+2,none⟩=some (.int .i64 G)/\W.cell? ⟨g,k * 5+3,none⟩=some (.slice p l c)/\W.cell? ⟨g,k * 5+4,none⟩=some (.int .i64 tn)) (go_keep) (fail)
   obtain⟨V,K⟩:∃ V,V=(d.alloc (.cells #[.int .i64 tk,.int .i64 F,.int .i64 G,.slice p l c,.int .i64 tn] 86)).drew:=⟨_,rfl⟩
   rw[<-K]
   have r:Below w.heap.size w V:=by rw[K];exact(P.o.alloc P.o.size _).drew
   have x1:V.cell? ⟨d.heap.size,1,none⟩=some (.int .i64 F):=by rw[K];show(d.alloc _).cell? _=_;simp[World.cell?_alloc_new]
   have x2:V.cell? ⟨d.heap.size,2,none⟩=some (.int .i64 G):=by rw[K];show(d.alloc _).cell? _=_;simp[World.cell?_alloc_new]
   have x3:V.cell? ⟨d.heap.size,3,none⟩=some (.slice p l c):=by rw[K];show(d.alloc _).cell? _=_;simp[World.cell?_alloc_new]
   obtain⟨X,eX⟩:∃ X,X=d.heap.size:=⟨_,rfl⟩
   rw[<-eX] at x1 x2 x3 ⊢;have v0:V.cell? ⟨pb,0,none⟩=some (.slice po tl0 co):=(r.cell (World.block_lt_of_cell? _ _ Q)).trans Q;have v1:V.cell? ⟨pb,1,none⟩=some (.slice (some ⟨g,0,none⟩) n kc):=(r.cell (World.block_lt_of_cell? _ _ H)).trans H;have v2:V.cell? ⟨pb,2,none⟩=some (.int .i64 k):=(r.cell (World.block_lt_of_cell? _ _ I)).trans I;clear K eX P g1 g2 e0 e1 e2 e3 e4;go_wp2_with fail;have hy:=c3 h8;refine wp_region_held_drew (S:=fun W=>(convert 23 9 (.slice p l c)).run Tryz.prog W = .ok (.string U) W) (by kernel_rfl) ?_ (fun b8=>?_)
   ·exact C.o V.drew r.drew
   refine hTq 0 (.slice p l c) 68 ?_
   simp only[Act.put,zzA,zzB,zzC];refine hTr 1 (.string U) 69 (fun o ho W k5=>?y1) ?_
   case y1=>cases ho;simp[execOp,go_sem,Act.eval,k5]
   simp only[Act.put,zzA,zzB,zzC];refine hTr 2 (.bool false) 70 (fun o ho W k5=>?y2) ?_
   case y2=>cases ho;simp[execOp,go_sem,Act.eval,hy]
   simp only[Act.put,zzA,zzB,zzC];refine hTq 3 (.bool false) 71 ?_
   simp only[Act.put,zzA,zzB,zzC];refine hSq 4 72 ?_;refine hSq 5 73 ?_;refine hSq 6 74 ?_;refine hSq 7 75 ?_;simp only[Act.put,zzA,zzB,zzC];refine hSq 8 76 ?_;simp only[Act.put,zzA,zzB,zzC];refine hTq 9 (.bool false) 77 ?_
   simp only[Act.put,zzA,zzB,zzC];refine hTq 10 (.bool false) 78 ?_
   simp only[Act.put,zzA,zzB,zzC];refine hSq 11 79 ?_;refine hSq 12 80 ?_;refine hSq 13 81 ?_;refine hSq 14 82 ?_;simp only[Act.put,zzA,zzB,zzC];refine hSq 15 83 ?_;refine hSq 16 84 ?_;refine hSq 17 85 ?_;refine hSq 18 86 ?_;simp only[Act.put,zzA,zzB,zzC];refine hSq 19 87 ?_;refine hSq 20 88 ?_;refine hSq 21 89 ?_;refine hSq 22 90 ?_;simp only[Act.put,zzA,zzB,zzC];refine hSq 23 91 ?_;refine hSq 24 92 ?_;refine hSq 25 93 ?_;refine hSq 26 94 ?_;simp only[Act.put,zzA,zzB,zzC];refine hSq 27 95 ?_;refine hSq 28 96 ?_;refine hSq 29 97 ?_;refine hSq 30 98 ?_;simp only[Act.put,zzA,zzB,zzC]
   refine hTq 31 (.bool false) 99 ?_
   simp only[Act.put,zzA,zzB,zzC];refine wpAnyH_done (by kernel_rfl) ?_ _
   change Exit.then _ _ _ _ V.drew
   go_wp2_with fail;refine(h9.o V.drew r.drew).mono ?_;rintro e W2 ⟨rfl,e7⟩;have x:Below w.heap.size w W2:=Below.on r.drew e7;have q0:W2.cell? ⟨pb,0,none⟩=some (.slice po tl0 co):=(x.cell (World.block_lt_of_cell? _ _ Q)).trans Q;clear e7
   by_cases h6:u=6
   ·have Y:Hid (s.begins T=true):=by show _=_;rw[N.o];simp[h6]
    have w8:(u == 6)=true:=by simpa using h6
    go_wp2_with fail;go_ret;exact⟨by rw[Y.o];rfl,x⟩
   ·have w8:(u == 6)=false:=by simpa using h6
    go_wp2_with fail;refine(b3.o W2 x).mono ?_;rintro e W3 ⟨rfl,e6⟩;have v:Below w.heap.size w W3:=Below.on x e6;have r0:W3.cell? ⟨pb,0,none⟩=some (.slice po tl0 co):=(v.cell (World.block_lt_of_cell? _ _ Q)).trans Q;clear e6 q0
    rcases z with z | ⟨z,_⟩
    ·subst z
     go_wp2_with fail;refine(b2.o W3 v).mono ?_;rintro e W4 ⟨rfl,e8⟩;have O:Below w.heap.size w W4:=Below.on v e8;clear e8 r0
     rcases A with A | ⟨A,_⟩
     ·subst A
      have Y:Hid (s.begins T=true):=by show _=_;rw[N.o,e5.o];simp
      go_wp2_with fail;go_ret;exact⟨by rw[Y.o];rfl,O⟩
     ·have Y:Hid (s.begins T=false):=by show _=_;rw[N.o,e5.o,k2.o];simp[A,h6,h8]
      have w5:¬ f2<0:=by omega
      go_wp2_with fail;go_ret;exact⟨by rw[Y.o];simp[w5],O⟩
    ·have Y:Hid (s.begins T=true):=by show _=_;rw[N.o,e5.o];simp[z]
     go_wp2_with fail;go_ret;exact⟨by rw[Y.o];rfl,v⟩
  ·go_enter Tryz.func175,Tryz.ntmps175
   go_wp2_with fail;refine(HK.o _ (Below.refl _ _)).mono ?_;rintro e d ⟨rfl,j⟩;have P:=hid j;have g1:d.cell? ⟨pb,1,none⟩=some (.slice (some ⟨g,0,none⟩) n kc):=(j.cell (World.block_lt_of_cell? _ _ H)).trans H;have g2:d.cell? ⟨pb,2,none⟩=some (.int .i64 k):=(j.cell (World.block_lt_of_cell? _ _ I)).trans I;have e0:d.cell? ⟨g,k * 5,none⟩=some (.int .i64 tk):=(j.cell (World.block_lt_of_cell? _ _ d0)).trans d0;have e1:d.cell? ⟨g,k * 5+1,none⟩=some (.int .i64 F):=(j.cell (World.block_lt_of_cell? _ _ d1)).trans d1;have e2:d.cell? ⟨g,k * 5+2,none⟩=some (.int .i64 G):=(j.cell (World.block_lt_of_cell? _ _ d2)).trans d2;have e3:d.cell? ⟨g,k * 5+3,none⟩=some (.slice p l c):=(j.cell (World.block_lt_of_cell? _ _ d3)).trans d3;have e4:d.cell? ⟨g,k * 5+4,none⟩=some (.int .i64 tn):=(j.cell (World.block_lt_of_cell? _ _ d4)).trans d4
   clear HK j;go_wp2_with fail
   go_region_held3 (fun W=>W.cell? ⟨pb,1,none⟩=some (.slice (some ⟨g,0,none⟩) n kc)/\W.cell? ⟨pb,2,none⟩=some (.int .i64 k)/\W.cell? ⟨g,k * 5,none⟩=some (.int .i64 tk)/\W.cell? ⟨g,k * 5+1,none⟩=some (.int .i64 F)/\W.cell? ⟨g,k * 5+2,none⟩=some (.int .i64 G)/\W.cell? ⟨g,k * 5+3,none⟩=some (.slice p l c)/\W.cell? ⟨g,k * 5+4,none⟩=some (.int .i64 tn)) (go_keep) (fail)
   obtain⟨V,K⟩:∃ V,V=(d.alloc (.cells #[.int .i64 tk,.int .i64 F,.int .i64 G,.slice p l c,.int .i64 tn] 86)).drew:=⟨_,rfl⟩
   rw[<-K]
   have r:Below w.heap.size w V:=by rw[K];exact(P.o.alloc P.o.size _).drew
   have x1:V.cell? ⟨d.heap.size,1,none⟩=some (.int .i64 F):=by rw[K];show(d.alloc _).cell? _=_;simp[World.cell?_alloc_new]
   have x2:V.cell? ⟨d.heap.size,2,none⟩=some (.int .i64 G):=by rw[K];show(d.alloc _).cell? _=_;simp[World.cell?_alloc_new]
   have x3:V.cell? ⟨d.heap.size,3,none⟩=some (.slice p l c):=by rw[K];show(d.alloc _).cell? _=_;simp[World.cell?_alloc_new]
   obtain⟨X,eX⟩:∃ X,X=d.heap.size:=⟨_,rfl⟩
   rw[<-eX] at x1 x2 x3 ⊢;have v0:V.cell? ⟨pb,0,none⟩=some (.slice po tl0 co):=(r.cell (World.block_lt_of_cell? _ _ Q)).trans Q;have v1:V.cell? ⟨pb,1,none⟩=some (.slice (some ⟨g,0,none⟩) n kc):=(r.cell (World.block_lt_of_cell? _ _ H)).trans H;have v2:V.cell? ⟨pb,2,none⟩=some (.int .i64 k):=(r.cell (World.block_lt_of_cell? _ _ I)).trans I;clear K eX P g1 g2 e0 e1 e2 e3 e4;go_wp2_with fail;have hy:=w6 h8;subst hy
   have d7:(u == 3)=false:=by simpa using h3
   refine wp_region_held_drew (S:=fun W=>(convert 23 9 (.slice p l c)).run Tryz.prog W = .ok (.string ⟨#[45]⟩) W) (by kernel_rfl) ?_ (fun b8=>?_)
   ·exact C.o V.drew r.drew
   refine hTq 0 (.slice p l c) 68 ?_
   simp only[Act.put,zzA,zzB,zzC];refine hTr 1 (.string ⟨#[45]⟩) 69 (fun o ho W k5=>?y1) ?_
   case y1=>cases ho;simp[execOp,go_sem,Act.eval,k5]
   simp only[Act.put,zzA,zzB,zzC];refine hTq 2 (.bool true) 70 ?_
   simp only[Act.put,zzA,zzB,zzC];refine hTq 3 (.bool true) 71 ?_
   simp only[Act.put,zzA,zzB,zzC];refine hTq 4 (ptrM pb) 72 ?_
   simp only[Act.put,zzA,zzB,zzC];refine hTq 5 (.int .i64 0) 73 ?_
   simp only[Act.put,zzA,zzB,zzC];refine hTr 6 (.int .i64 1) 74 (fun o ho W k5=>?y6) ?_
   case y6=>cases ho;simp[execOp,go_sem,Act.eval,show IntKind.i64.wrap 1=1 from rfl]
   simp only[Act.put,zzA,zzB,zzC];refine hCallE (i:=7) (f:=54) (args:=#[ptrM pb,.int .i64 1]) (some 75) (by kernel_rfl) (by kernel_rfl) (by kernel_rfl) (fun o ho=>?c7) (h9.o V.drew r.drew) ?k7 (fun ch w' hh=>by cases hh.1) (fun w' hh=>by cases hh.1)
   case c7=>cases ho;simp[execOp,go_sem,Act.eval]
   case k7=>
    rintro y J ⟨hu,e9⟩;obtain rfl:=Ending.returned.inj hu;have h2:Below w.heap.size w J:=Below.on r.drew e9;clear hu e9;have f4:=C.o J h2;refine⟨f4,?_⟩;simp only[Act.put,zzA,zzB,zzC];refine hTr 8 (.bool false) 76 (fun o ho W k5=>?y8) ?_
    case y8=>cases ho;simp[execOp,go_sem,Act.eval,d7,h3]
    simp only[Act.put,zzA,zzB,zzC];refine hTq 9 (.bool false) 77 ?_
    simp only[Act.put,zzA,zzB,zzC];refine hTq 10 (.bool false) 78 ?_
    simp only[Act.put,zzA,zzB,zzC];refine hSq 11 79 ?_;simp only[Act.put,zzA,zzB,zzC];refine hSq 12 80 ?_;refine hSq 13 81 ?_;refine hSq 14 82 ?_;refine hSq 15 83 ?_;simp only[Act.put,zzA,zzB,zzC];refine hSq 16 84 ?_;refine hSq 17 85 ?_;refine hSq 18 86 ?_;refine hSq 19 87 ?_;simp only[Act.put,zzA,zzB,zzC];refine hSq 20 88 ?_;refine hSq 21 89 ?_;refine hSq 22 90 ?_;refine hSq 23 91 ?_;simp only[Act.put,zzA,zzB,zzC]
    refine hSq 24 92 ?_;refine hSq 25 93 ?_;refine hSq 26 94 ?_;refine hSq 27 95 ?_;simp only[Act.put,zzA,zzB,zzC];refine hSq 28 96 ?_;refine hSq 29 97 ?_;refine hSq 30 98 ?_;simp only[Act.put,zzA,zzB,zzC]
    refine hTq 31 (.bool false) 99 ?_
    simp only[Act.put,zzA,zzB,zzC];refine wpAnyH_done (by kernel_rfl) ?_ _
    change Exit.then _ _ _ _ J
    go_wp2_with fail;refine(h9.o J h2).mono ?_;rintro e W2 ⟨rfl,e7⟩;have x:Below w.heap.size w W2:=Below.on h2 e7;have q0:W2.cell? ⟨pb,0,none⟩=some (.slice po tl0 co):=(x.cell (World.block_lt_of_cell? _ _ Q)).trans Q;clear e7
    by_cases h6:u=6
    ·have Y:Hid (s.begins T=true):=by show _=_;rw[N.o];simp[h6]
     have w8:(u == 6)=true:=by simpa using h6
     go_wp2_with fail;go_ret;exact⟨by rw[Y.o];rfl,x⟩
    ·have w8:(u == 6)=false:=by simpa using h6
     go_wp2_with fail;refine(b3.o W2 x).mono ?_;rintro e W3 ⟨rfl,e6⟩;have v:Below w.heap.size w W3:=Below.on x e6;have r0:W3.cell? ⟨pb,0,none⟩=some (.slice po tl0 co):=(v.cell (World.block_lt_of_cell? _ _ Q)).trans Q;clear e6 q0
     rcases z with z | ⟨z,_⟩
     ·subst z
      go_wp2_with fail;refine(b2.o W3 v).mono ?_;rintro e W4 ⟨rfl,e8⟩;have O:Below w.heap.size w W4:=Below.on v e8;clear e8 r0
      rcases A with A | ⟨A,_⟩
      ·subst A
       have Y:Hid (s.begins T=true):=by show _=_;rw[N.o,e5.o];simp
       go_wp2_with fail;go_ret;exact⟨by rw[Y.o];rfl,O⟩
      ·have Y:Hid (s.begins T=false):=by show _=_;rw[N.o,e5.o,k2.o];simp[A,h6,h3]
       have w5:¬ f2<0:=by omega
       go_wp2_with fail;go_ret;exact⟨by rw[Y.o];simp[w5],O⟩
     ·have Y:Hid (s.begins T=true):=by show _=_;rw[N.o,e5.o];simp[z]
      go_wp2_with fail;go_ret;exact⟨by rw[Y.o];rfl,v⟩
  ·go_enter Tryz.func175,Tryz.ntmps175
   go_wp2_with fail;refine(HK.o _ (Below.refl _ _)).mono ?_;rintro e d ⟨rfl,j⟩;have P:=hid j;have g1:d.cell? ⟨pb,1,none⟩=some (.slice (some ⟨g,0,none⟩) n kc):=(j.cell (World.block_lt_of_cell? _ _ H)).trans H;have g2:d.cell? ⟨pb,2,none⟩=some (.int .i64 k):=(j.cell (World.block_lt_of_cell? _ _ I)).trans I;have e0:d.cell? ⟨g,k * 5,none⟩=some (.int .i64 tk):=(j.cell (World.block_lt_of_cell? _ _ d0)).trans d0;have e1:d.cell? ⟨g,k * 5+1,none⟩=some (.int .i64 F):=(j.cell (World.block_lt_of_cell? _ _ d1)).trans d1;have e2:d.cell? ⟨g,k * 5+2,none⟩=some (.int .i64 G):=(j.cell (World.block_lt_of_cell? _ _ d2)).trans d2;have e3:d.cell? ⟨g,k * 5+3,none⟩=some (.slice p l c):=(j.cell (World.block_lt_of_cell? _ _ d3)).trans d3;have e4:d.cell? ⟨g,k * 5+4,none⟩=some (.int .i64 tn):=(j.cell (World.block_lt_of_cell? _ _ d4)).trans d4
   clear HK j;go_wp2_with fail
   go_region_held3 (fun W=>W.cell? ⟨pb,1,none⟩=some (.slice (some ⟨g,0,none⟩) n kc)/\W.cell? ⟨pb,2,none⟩=some (.int .i64 k)/\W.cell? ⟨g,k * 5,none⟩=some (.int .i64 tk)/\W.cell? ⟨g,k * 5+1,none⟩=some (.int .i64 F)/\W.cell? ⟨g,k * 5+2,none⟩=some (.int .i64 G)/\W.cell? ⟨g,k * 5+3,none⟩=some (.slice p l c)/\W.cell? ⟨g,k * 5+4,none⟩=some (.int .i64 tn)) (go_keep) (fail)
   obtain⟨V,K⟩:∃ V,V=(d.alloc (.cells #[.int .i64 tk,.int .i64 F,.int .i64 G,.slice p l c,.int .i64 tn] 86)).drew:=⟨_,rfl⟩
   rw[<-K]
   have r:Below w.heap.size w V:=by rw[K];exact(P.o.alloc P.o.size _).drew
   have x1:V.cell? ⟨d.heap.size,1,none⟩=some (.int .i64 F):=by rw[K];show(d.alloc _).cell? _=_;simp[World.cell?_alloc_new]
   have x2:V.cell? ⟨d.heap.size,2,none⟩=some (.int .i64 G):=by rw[K];show(d.alloc _).cell? _=_;simp[World.cell?_alloc_new]
   have x3:V.cell? ⟨d.heap.size,3,none⟩=some (.slice p l c):=by rw[K];show(d.alloc _).cell? _=_;simp[World.cell?_alloc_new]
   obtain⟨X,eX⟩:∃ X,X=d.heap.size:=⟨_,rfl⟩
   rw[<-eX] at x1 x2 x3 ⊢;have v0:V.cell? ⟨pb,0,none⟩=some (.slice po tl0 co):=(r.cell (World.block_lt_of_cell? _ _ Q)).trans Q;have v1:V.cell? ⟨pb,1,none⟩=some (.slice (some ⟨g,0,none⟩) n kc):=(r.cell (World.block_lt_of_cell? _ _ H)).trans H;have v2:V.cell? ⟨pb,2,none⟩=some (.int .i64 k):=(r.cell (World.block_lt_of_cell? _ _ I)).trans I;clear K eX P g1 g2 e0 e1 e2 e3 e4;go_wp2_with fail;have hy:=w6 h8;subst hy
   have b5:Hid (∀ W,Below w.heap.size w W->Calls Tryz.prog 54 #[ptrM pb,.int .i64 1] W fun e w'=>e = .returned (.int .i64 3)/\Below W.heap.size W w'):=by rw[h3] at h9;exact h9
   obtain⟨nx,w3,x7,x9⟩:=x4.o h3;obtain⟨b6,f3,a9⟩:=k4 nx w3;have z1:=x9 w (w9.o w (Below.refl _ _))
   have k8:IntKind.i64.wrap ((k:Int)+1)=((k+1:Nat):Int):=by rw[wrapM (by omega) (by omega)];omega
   have c8:(0:Int)<=((k+1:Nat):Int):=by omega
   have b9:((k+1:Nat):Int)<(n:Int):=by omega
   have w4:nx.1.2.1=F+G:=by rw[<-x7,<-h4]
   rw[w4] at z1
   obtain⟨ua,x8⟩:∃ ua,ua=F+G:=⟨_,rfl⟩
   rw[<-x8] at z1
   have d8:IntKind.i64.wrap (F+G)=ua:=by rw[b4,x8]
   have H4:=hid h4;clear b4 x8 h4 w4
   obtain⟨k1,x5⟩:∃ k1,k1=k+1:=⟨_,rfl⟩
   rw[<-x5] at z1 k8 c8 b9;have vz:V.cell? ⟨g,k1 * 5+1,none⟩=some (.int .i64 ua):=(r.cell (World.block_lt_of_cell? _ _ z1)).trans z1;have x6:=C.o V.drew r.drew;clear x4 w3 x7 x9 b6 k4 x5 w9
   go_region_held3 (fun W=>(convert 23 9 (.slice p l c)).run Tryz.prog W = .ok (.string ⟨#[45]⟩) W/\W.cell? ⟨pb,1,none⟩=some (.slice (some ⟨g,0,none⟩) n kc)/\W.cell? ⟨pb,2,none⟩=some (.int .i64 k)/\W.cell? ⟨g,k1 * 5+1,none⟩=some (.int .i64 ua)/\W.cell? ⟨X,1,none⟩=some (.int .i64 F)/\W.cell? ⟨X,2,none⟩=some (.int .i64 G)) (first | exact c6 | go_keep)
    ((go_at_call 54;refine(b5.o _ r.drew).mono ?_;rintro e J ⟨rfl,e9⟩;have h2:Below w.heap.size w J:=Below.on r.drew e9;have R:Below V.heap.size V J:=((Below.refl V.heap.size V).drew).trans e9;have c6:(convert 23 9 (.slice p l c)).run Tryz.prog J = .ok (.string ⟨#[45]⟩) J/\J.cell? ⟨pb,1,none⟩=some (.slice (some ⟨g,0,none⟩) n kc)/\J.cell? ⟨pb,2,none⟩=some (.int .i64 k)/\J.cell? ⟨g,k1 * 5+1,none⟩=some (.int .i64 ua)/\J.cell? ⟨X,1,none⟩=some (.int .i64 F)/\J.cell? ⟨X,2,none⟩=some (.int .i64 G):=⟨C.o J h2,(R.cell (World.block_lt_of_cell? _ _ v1)).trans v1,(R.cell (World.block_lt_of_cell? _ _ v2)).trans v2,(R.cell (World.block_lt_of_cell? _ _ vz)).trans vz,(R.cell (World.block_lt_of_cell? _ _ x1)).trans x1,(R.cell (World.block_lt_of_cell? _ _ x2)).trans x2⟩))
   have Y:Hid (s.begins T=true):=by show _=_;rw[N.o,k2.o];simp[h8,H4.o,h3]
   go_wp2_with fail;go_ret;exact⟨by rw[Y.o];rfl,h2⟩
  ·go_enter Tryz.func175,Tryz.ntmps175
   go_wp2_with fail;refine(HK.o _ (Below.refl _ _)).mono ?_;rintro e d ⟨rfl,j⟩;have P:=hid j;have g1:d.cell? ⟨pb,1,none⟩=some (.slice (some ⟨g,0,none⟩) n kc):=(j.cell (World.block_lt_of_cell? _ _ H)).trans H;have g2:d.cell? ⟨pb,2,none⟩=some (.int .i64 k):=(j.cell (World.block_lt_of_cell? _ _ I)).trans I;have e0:d.cell? ⟨g,k * 5,none⟩=some (.int .i64 tk):=(j.cell (World.block_lt_of_cell? _ _ d0)).trans d0;have e1:d.cell? ⟨g,k * 5+1,none⟩=some (.int .i64 F):=(j.cell (World.block_lt_of_cell? _ _ d1)).trans d1;have e2:d.cell? ⟨g,k * 5+2,none⟩=some (.int .i64 G):=(j.cell (World.block_lt_of_cell? _ _ d2)).trans d2;have e3:d.cell? ⟨g,k * 5+3,none⟩=some (.slice p l c):=(j.cell (World.block_lt_of_cell? _ _ d3)).trans d3;have e4:d.cell? ⟨g,k * 5+4,none⟩=some (.int .i64 tn):=(j.cell (World.block_lt_of_cell? _ _ d4)).trans d4
   clear HK j;go_wp2_with fail
   go_region_held3 (fun W=>W.cell? ⟨pb,1,none⟩=some (.slice (some ⟨g,0,none⟩) n kc)/\W.cell? ⟨pb,2,none⟩=some (.int .i64 k)/\W.cell? ⟨g,k * 5,none⟩=some (.int .i64 tk)/\W.cell? ⟨g,k * 5+1,none⟩=some (.int .i64 F)/\W.cell? ⟨g,k * 5+2,none⟩=some (.int .i64 G)/\W.cell? ⟨g,k * 5+3,none⟩=some (.slice p l c)/\W.cell? ⟨g,k * 5+4,none⟩=some (.int .i64 tn)) (go_keep) (fail)
   obtain⟨V,K⟩:∃ V,V=(d.alloc (.cells #[.int .i64 tk,.int .i64 F,.int .i64 G,.slice p l c,.int .i64 tn] 86)).drew:=⟨_,rfl⟩
   rw[<-K]
   have r:Below w.heap.size w V:=by rw[K];exact(P.o.alloc P.o.size _).drew
   have x1:V.cell? ⟨d.heap.size,1,none⟩=some (.int .i64 F):=by rw[K];show(d.alloc _).cell? _=_;simp[World.cell?_alloc_new]
   have x2:V.cell? ⟨d.heap.size,2,none⟩=some (.int .i64 G):=by rw[K];show(d.alloc _).cell? _=_;simp[World.cell?_alloc_new]
   have x3:V.cell? ⟨d.heap.size,3,none⟩=some (.slice p l c):=by rw[K];show(d.alloc _).cell? _=_;simp[World.cell?_alloc_new]
   obtain⟨X,eX⟩:∃ X,X=d.heap.size:=⟨_,rfl⟩
   rw[<-eX] at x1 x2 x3 ⊢;have v0:V.cell? ⟨pb,0,none⟩=some (.slice po tl0 co):=(r.cell (World.block_lt_of_cell? _ _ Q)).trans Q;have v1:V.cell? ⟨pb,1,none⟩=some (.slice (some ⟨g,0,none⟩) n kc):=(r.cell (World.block_lt_of_cell? _ _ H)).trans H;have v2:V.cell? ⟨pb,2,none⟩=some (.int .i64 k):=(r.cell (World.block_lt_of_cell? _ _ I)).trans I;clear K eX P g1 g2 e0 e1 e2 e3 e4;go_wp2_with fail;have hy:=w6 h8;subst hy
   have b5:Hid (∀ W,Below w.heap.size w W->Calls Tryz.prog 54 #[ptrM pb,.int .i64 1] W fun e w'=>e = .returned (.int .i64 3)/\Below W.heap.size W w'):=by rw[h3] at h9;exact h9
   obtain⟨nx,w3,x7,x9⟩:=x4.o h3;obtain⟨b6,f3,a9⟩:=k4 nx w3;have z1:=x9 w (w9.o w (Below.refl _ _))
   have k8:IntKind.i64.wrap ((k:Int)+1)=((k+1:Nat):Int):=by rw[wrapM (by omega) (by omega)];omega
   have c8:(0:Int)<=((k+1:Nat):Int):=by omega
   have b9:((k+1:Nat):Int)<(n:Int):=by omega
   have w4:¬ nx.1.2.1=F+G:=fun e=>h4 (by rw[x7,e])
   obtain⟨ua,x8⟩:∃ ua,ua=nx.1.2.1:=⟨_,rfl⟩
   rw[<-x8] at z1 w4
   have f8:(ua == F+G)=false:=by simpa using w4
   obtain⟨k1,x5⟩:∃ k1,k1=k+1:=⟨_,rfl⟩
   rw[<-x5] at z1 k8 c8 b9;have vz:V.cell? ⟨g,k1 * 5+1,none⟩=some (.int .i64 ua):=(r.cell (World.block_lt_of_cell? _ _ z1)).trans z1;have x6:=C.o V.drew r.drew;clear x4 w3 x7 x9 b6 k4 x5 w9
   go_region_held3 (fun W=>(convert 23 9 (.slice p l c)).run Tryz.prog W = .ok (.string ⟨#[45]⟩) W/\W.cell? ⟨pb,1,none⟩=some (.slice (some ⟨g,0,none⟩) n kc)/\W.cell? ⟨pb,2,none⟩=some (.int .i64 k)/\W.cell? ⟨g,k1 * 5+1,none⟩=some (.int .i64 ua)/\W.cell? ⟨X,1,none⟩=some (.int .i64 F)/\W.cell? ⟨X,2,none⟩=some (.int .i64 G)) (first | exact c6 | go_keep)
    ((go_at_call 54;refine(b5.o _ r.drew).mono ?_;rintro e J ⟨rfl,e9⟩;have h2:Below w.heap.size w J:=Below.on r.drew e9;have R:Below V.heap.size V J:=((Below.refl V.heap.size V).drew).trans e9;have c6:(convert 23 9 (.slice p l c)).run Tryz.prog J = .ok (.string ⟨#[45]⟩) J/\J.cell? ⟨pb,1,none⟩=some (.slice (some ⟨g,0,none⟩) n kc)/\J.cell? ⟨pb,2,none⟩=some (.int .i64 k)/\J.cell? ⟨g,k1 * 5+1,none⟩=some (.int .i64 ua)/\J.cell? ⟨X,1,none⟩=some (.int .i64 F)/\J.cell? ⟨X,2,none⟩=some (.int .i64 G):=⟨C.o J h2,(R.cell (World.block_lt_of_cell? _ _ v1)).trans v1,(R.cell (World.block_lt_of_cell? _ _ v2)).trans v2,(R.cell (World.block_lt_of_cell? _ _ vz)).trans vz,(R.cell (World.block_lt_of_cell? _ _ x1)).trans x1,(R.cell (World.block_lt_of_cell? _ _ x2)).trans x2⟩))
   go_wp2_with fail;refine(h9.o J h2).mono ?_;rintro e W2 ⟨rfl,e7⟩;have x:Below w.heap.size w W2:=Below.on h2 e7;have q0:W2.cell? ⟨pb,0,none⟩=some (.slice po tl0 co):=(x.cell (World.block_lt_of_cell? _ _ Q)).trans Q;clear e7
   by_cases h6:u=6
   ·omega
   ·have w8:(u == 6)=false:=by simpa using h6
    go_wp2_with fail;refine(b3.o W2 x).mono ?_;rintro e W3 ⟨rfl,e6⟩;have v:Below w.heap.size w W3:=Below.on x e6;have r0:W3.cell? ⟨pb,0,none⟩=some (.slice po tl0 co):=(v.cell (World.block_lt_of_cell? _ _ Q)).trans Q;clear e6 q0
    rcases z with z | ⟨z,_⟩
    ·subst z
     go_wp2_with fail;refine(b2.o W3 v).mono ?_;rintro e W4 ⟨rfl,e8⟩;have O:Below w.heap.size w W4:=Below.on v e8;clear e8 r0
     rcases A with A | ⟨A,_⟩
     ·subst A
      have Y:Hid (s.begins T=true):=by show _=_;rw[N.o,e5.o];simp
      go_wp2_with fail;go_ret;exact⟨by rw[Y.o];rfl,O⟩
     ·have Y:Hid (s.begins T=false):=by show _=_;rw[N.o,e5.o,k2.o];simp[A,h6,h4]
      have w5:¬ f2<0:=by omega
      go_wp2_with fail;go_ret;exact⟨by rw[Y.o];simp[w5],O⟩
    ·have Y:Hid (s.begins T=true):=by show _=_;rw[N.o,e5.o];simp[z]
     go_wp2_with fail;go_ret;exact⟨by rw[Y.o];rfl,v⟩
 ·by_cases h5:s.kd=5
  ·obtain⟨_,_,t,h7,k3⟩:=h.head (kd_ne h5 (by decide))
   obtain⟨g,p,c,rfl,hW⟩:=E.tok _ _ h7
   have hx:s.tx=t.2:=by unfold RS.tx;rw[k3]
   have ht:=E.tg t (List.mem_of_getElem? h7)
   obtain⟨U,D⟩:∃ U,U=strOfNums t.2:=⟨_,rfl⟩
   obtain⟨l,el⟩:∃ l,l=t.2.length:=⟨_,rfl⟩
   have C:Hid (∀ W,Below w.heap.size w W->(convert 23 9 (.slice p l c)).run Tryz.prog W = .ok (.string U) W):=fun W hB=>by
    rw[D];exact conv_str ((hW W (h.mfw hB)).2.2.2.2.2) l c el 9 Tryz.underlying9
   have d3:=(hW w h.mf.sf).2.2.2.1;rw[<-el] at d3
   have N:Hid (s.begins T=(decide (t.2 = [40]) || (decide (t.2 = [91]) || decide (t.2 = [123])))):=by
    show _=_
    unfold RS.begins
    rw[if_neg h1,if_pos h5,hx]
   have hn:k<n:=by rw[en];exact(List.getElem?_eq_some_iff.1 h7).1
   rw[<-en] at H hl hk c9;rw[h5] at HK
   have f7:(0:Int)<=(k:Int):=by omega
   have d6:(k:Int)<(n:Int):=by omega
   have f6:IntKind.i64.wrap (k:Int)=(k:Int):=wrapM (by omega) (by omega)
   have M:∀ m:List Int,t.2=m->U=strOfNums m:=fun m e=>by rw[D,e]
   have B:∀ m:List Int,Byte m->t.2≠m->(U.toList == (strOfNums m).toList)=false:=fun m hm e=>strM_ne ht.tx.1 hm D e
   have HC:Hid (t.2 = [40]∨t.2 = [91]∨t.2 = [123]∨(t.2≠[40]/\t.2≠[91]/\t.2≠[123])):=by
    show _∨_
    by_cases a:t.2 = [40]
    ·exact .inl a
    by_cases b:t.2 = [91]
    ·exact .inr (.inl b)
    by_cases c:t.2 = [123]
    ·exact .inr (.inr (.inl c))
    ·exact .inr (.inr (.inr ⟨a,b,c⟩))
   obtain⟨tx,w2⟩:∃ tx,tx=t.2:=⟨_,rfl⟩
   rw[<-w2] at N HC M B;clear h E h5 h7 k3 hW hx ht D el en b7 h1 w2 Q
   rcases HC.o with e | e | e | ⟨e1,e2,e3⟩
   ·have D:U=⟨#[40]⟩:=M _ e
    have Z:s.begins T=true:=by rw[N.o,e];decide
    rw[Z];clear N HC M B e Z
    go_enter Tryz.func175,Tryz.ntmps175
    go_wp2_with fail;refine(HK.o _ (Below.refl _ _)).mono ?_;rintro e d ⟨rfl,j⟩;have P:=hid j;have d1:d.cell? ⟨pb,1,none⟩=some (.slice (some ⟨g,0,none⟩) n kc):=(j.cell (World.block_lt_of_cell? _ _ H)).trans H;have d2:d.cell? ⟨pb,2,none⟩=some (.int .i64 k):=(j.cell (World.block_lt_of_cell? _ _ I)).trans I;have d4:d.cell? ⟨g,k * 5+3,none⟩=some (.slice p l c):=(j.cell (World.block_lt_of_cell? _ _ d3)).trans d3;have x6:=C.o d.drew j.drew;clear HK j H I d3 C;go_wp2_with fail
    go_region_held3 (fun W=>W.cell? ⟨pb,1,none⟩=some (.slice (some ⟨g,0,none⟩) n kc)/\W.cell? ⟨pb,2,none⟩=some (.int .i64 k)/\W.cell? ⟨g,k * 5+3,none⟩=some (.slice p l c)/\(convert 23 9 (.slice p l c)).run Tryz.prog W = .ok (.string U) W) (go_keep) (fail)
    subst D;go_wp2_with fail;go_ret;exact⟨rfl,P.o.drew⟩
   ·have D:U=⟨#[91]⟩:=M _ e
    have Z:s.begins T=true:=by rw[N.o,e];decide
    rw[Z];clear N HC M B e Z
    go_enter Tryz.func175,Tryz.ntmps175
    go_wp2_with fail;refine(HK.o _ (Below.refl _ _)).mono ?_;rintro e d ⟨rfl,j⟩;have P:=hid j;have d1:d.cell? ⟨pb,1,none⟩=some (.slice (some ⟨g,0,none⟩) n kc):=(j.cell (World.block_lt_of_cell? _ _ H)).trans H;have d2:d.cell? ⟨pb,2,none⟩=some (.int .i64 k):=(j.cell (World.block_lt_of_cell? _ _ I)).trans I;have d4:d.cell? ⟨g,k * 5+3,none⟩=some (.slice p l c):=(j.cell (World.block_lt_of_cell? _ _ d3)).trans d3;have x6:=C.o d.drew j.drew;clear HK j H I d3 C;go_wp2_with fail
    go_region_held3 (fun W=>W.cell? ⟨pb,1,none⟩=some (.slice (some ⟨g,0,none⟩) n kc)/\W.cell? ⟨pb,2,none⟩=some (.int .i64 k)/\W.cell? ⟨g,k * 5+3,none⟩=some (.slice p l c)/\(convert 23 9 (.slice p l c)).run Tryz.prog W = .ok (.string U) W) (go_keep) (fail)
    subst D;go_wp2_with fail;go_ret;exact⟨rfl,P.o.drew⟩
   ·have D:U=⟨#[123]⟩:=M _ e
    have Z:s.begins T=true:=by rw[N.o,e];decide
    rw[Z];clear N HC M B e Z
    go_enter Tryz.func175,Tryz.ntmps175
    go_wp2_with fail;refine(HK.o _ (Below.refl _ _)).mono ?_;rintro e d ⟨rfl,j⟩;have P:=hid j;have d1:d.cell? ⟨pb,1,none⟩=some (.slice (some ⟨g,0,none⟩) n kc):=(j.cell (World.block_lt_of_cell? _ _ H)).trans H;have d2:d.cell? ⟨pb,2,none⟩=some (.int .i64 k):=(j.cell (World.block_lt_of_cell? _ _ I)).trans I;have d4:d.cell? ⟨g,k * 5+3,none⟩=some (.slice p l c):=(j.cell (World.block_lt_of_cell? _ _ d3)).trans d3;have x6:=C.o d.drew j.drew;clear HK j H I d3 C;go_wp2_with fail
    go_region_held3 (fun W=>W.cell? ⟨pb,1,none⟩=some (.slice (some ⟨g,0,none⟩) n kc)/\W.cell? ⟨pb,2,none⟩=some (.int .i64 k)/\W.cell? ⟨g,k * 5+3,none⟩=some (.slice p l c)/\(convert 23 9 (.slice p l c)).run Tryz.prog W = .ok (.string U) W) (go_keep) (fail)
    subst D;go_wp2_with fail;go_ret;exact⟨rfl,P.o.drew⟩
   ·have x1:=B [40] (byte_small (by decide)) e1
    have x2:=B [91] (byte_small (by decide)) e2;have x3:=B [123] (byte_small (by decide)) e3;simp only[show(strOfNums [40])=⟨#[40]⟩ from rfl,show(strOfNums [91])=⟨#[91]⟩ from rfl,show(strOfNums [123])=⟨#[123]⟩ from rfl] at x1 x2 x3
    have y1:¬ U.toList = [40]:=fun e=>by rw[e] at x1;simp at x1
    have y2:¬ U.toList = [91]:=fun e=>by rw[e] at x2;simp at x2
    have y3:¬ U.toList = [123]:=fun e=>by rw[e] at x3;simp at x3
    have Z:s.begins T=false:=by rw[N.o];simp[e1,e2,e3]
    rw[Z];clear N HC M B e1 e2 e3 Z
    go_enter Tryz.func175,Tryz.ntmps175
    go_wp2_with fail;refine(HK.o _ (Below.refl _ _)).mono ?_;rintro e d ⟨rfl,j⟩;have P:=hid j;have d1:d.cell? ⟨pb,1,none⟩=some (.slice (some ⟨g,0,none⟩) n kc):=(j.cell (World.block_lt_of_cell? _ _ H)).trans H;have d2:d.cell? ⟨pb,2,none⟩=some (.int .i64 k):=(j.cell (World.block_lt_of_cell? _ _ I)).trans I;have d4:d.cell? ⟨g,k * 5+3,none⟩=some (.slice p l c):=(j.cell (World.block_lt_of_cell? _ _ d3)).trans d3;have x6:=C.o d.drew j.drew;clear HK j H I d3 C;go_wp2_with fail
    go_region_held3 (fun W=>W.cell? ⟨pb,1,none⟩=some (.slice (some ⟨g,0,none⟩) n kc)/\W.cell? ⟨pb,2,none⟩=some (.int .i64 k)/\W.cell? ⟨g,k * 5+3,none⟩=some (.slice p l c)/\(convert 23 9 (.slice p l c)).run Tryz.prog W = .ok (.string U) W) (go_keep) (fail)
    go_wp2_with fail;go_ret;exact⟨by simp[y1,y2,y3],P.o.drew⟩
  ·have hR:s.begins T=decide (s.kd=2∨s.kd=3∨s.kd=4∨s.kd=6):=by unfold RS.begins;rw[if_neg h1,if_neg h5]
   have a2:s.kd=0∨s.kd=2∨s.kd=3∨s.kd=4∨s.kd=6∨s.kd=7:=by omega
   clear h E Q H I hk hl c9 b7 en h1 h5
   rcases a2 with e | e | e | e | e | e
   all_goals
    rw[e] at HK hR;rw[hR];clear hR e
    go_enter Tryz.func175,Tryz.ntmps175
    go_wp2_with fail;refine(HK.o _ (Below.refl _ _)).mono ?_;rintro e d ⟨rfl,j⟩;have P:=hid j;clear HK j;go_wp2_with fail;go_ret;exact⟨rfl,P.o⟩
end
end Go.Proofs.YtlkhmmoimplokaaGreatDoor
