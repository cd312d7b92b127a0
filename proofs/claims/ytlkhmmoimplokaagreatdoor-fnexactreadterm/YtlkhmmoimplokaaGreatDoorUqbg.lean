/- Texts of RdG. Own work of the verifier. -/
import Derived.Test.YtlkhmmoimplokaaGreatDoorUqbe
namespace Go.Proofs.YtlkhmmoimplokaaGreatDoor
set_option maxRecDepth 100000
set_option maxHeartbeats 2000000
open Go Go.RowKit Go.Maps
set_option linter.unusedVariables false
set_option linter.unusedSimpArgs false
def opR (T:List Cel)(xs:List Int)(pf:Bool):ByteArray×Int×Int:=if 0<=findW T xs pf then(strOfNums (opW T (findW T xs pf)).2.2,(opW T (findW T xs pf)).1,(opW T (findW T xs pf)).2.1) else(⟨#[]⟩,0,0)
theorem OpMap.lookD {w:World}{b N:Nat}{T:List Cel}(h:OpMap w b N T)(d:List Int)(x:d.length<=1000000)(c:Bool) :
  (Instr.lookup 74 (.map (some b)) (.agg #[.string (strOfNums d),.int .i64 (sortI c)]) true).run Tryz.prog w = .ok (.tuple #[.agg #[.string (opR T d c).1,.int .i64 (opR T d c).2.1,.int .i64 (opR T d c).2.2],.bool (decide (0<=findW T d c))]) w:=by
 obtain⟨I,M,to,g,m⟩:=h.look d x c
 by_cases n:0<=findW T d c
 ·rw[g,(m n).1]
  unfold opR
  rw[if_pos n]
  rfl
 ·obtain⟨D,j,G,E,J,z,C⟩:=h
  have K:(strOfNums d).size<=1000000:=by simpa [strOfNums,ByteArray.size] using x
  have i:=keyOk (strOfNums d,sortI c) K (by show(0:Int)<=sortI c;unfold sortI;cases c <;> decide) (by show sortI c<=(1000000:Int);unfold sortI;cases c <;> decide);obtain⟨v,R,f,t⟩:=j.look_ok lawOk Tryz.underlying74 (zeroOpW w) (zd:=zD) (zp:=[]) rfl i;rw[g] at f;have e:=congrArg (fun r=>match r with | Result.ok v _=>v | _=>undef) f;simp only[Value.tuple.injEq] at e
  have H:(Value.agg #[.string I,.int .i64 M,.int .i64 to])=v:=by have:=congrArg (fun a=>a[0]?) e;simpa using this
  have B:decide (0<=findW T d c)=has D (okk (strOfNums d,sortI c)):=by have:=congrArg (fun a=>a[1]?) e;simpa using this
  have o:has D (okk (strOfNums d,sortI c))=false:=by rw[<-B];simpa using n
  rw[atKey_of_not_has o] at t;obtain⟨⟨A,Q,P⟩,q,u⟩:=opElem_inv t;rw[g,H,q];simp only[zD,Prod.mk.injEq,DataW.agg.injEq,List.cons.injEq,DataW.lit.injEq,Lit.string.injEq,Lit.int.injEq,true_and,and_true] at u
  unfold opR
  rw[if_neg n];obtain⟨⟨y,F,O⟩,_⟩:=u
  have p:A=⟨#[]⟩:=by
   obtain⟨⟨l⟩⟩:=A;simp only at y;rw[<-y]
  rw[p,<-F,<-O]
section
variable {w1:World}{rb vb kb kc:Nat}{ov sv:Value}{T:List Cel}{L:Int}{all:List Tok}{k:Nat}{s:RS}{w:World}
abbrev opV (so:ByteArray)(po to:Int):Value:=.agg #[.string so,.int .i64 po,.int .i64 to]
abbrev zOp:Obj:=.cells #[.string ⟨#[]⟩,.int .i64 0,.int .i64 0] 126
def OpbOut (w:World)(r:Option Cel)(e:Ending)(w':World):Prop:=∃ so po to,e = .returned (.tuple #[opV so po to,.bool r.isSome])/\(∀ o,r=some o->so=strOfNums o.2.2/\po=o.1/\to=o.2.1)/\Below w.heap.size w w'
theorem opBehind_any (E:REnv w1 rb vb kb kc ov sv T L all)(h:RI w1 rb vb kb kc ov sv all k s w):Calls Tryz.prog 115 #[ptrR rb] w (OpbOut w (opB T s)):=by
 have Z:=next_any E (h.alloc zOp);have h2:=hd_byte E h
 have HP:Hid (∀ W p c m S,strOfNums m=S->Byte m->BIn W p (s.hd L).2->Calls Tryz.prog 105 #[tokVR (s.hd L) p c,.string S] W fun e w'=>e = .returned (.bool (s.isP m))/\Below W.heap.size W w'):=fun W p c m S hS hm y=>by
  rw[<-isP_hd (L:=L)];exact isPunct_any (s.hd L) p c m S hS W hm h2.1 y
 have HE:=hid E;have HI:=hid h;have hK:=hd_kd L s;have hX:=hd_tx L s;clear h E
 obtain⟨⟨⟨tk,ta,tl,tn⟩,q⟩,et⟩:∃ t,s.hd L=t:=⟨_,rfl⟩
 rw[et] at Z HP hK hX h2;simp only[tokVR] at Z HP hK hX h2
 obtain⟨l,el⟩:∃ l,l=q.length:=⟨_,rfl⟩
 rw[<-el] at Z HP;have HL:=hid el;have e5:=hid hK;have w2:=hid hX;clear et el hK hX;have h4:strOfNums [124]=⟨#[124]⟩:=rfl;have k7:strOfNums [44]=⟨#[44]⟩:=rfl
 have h3:Byte [124]:=fun x hx=>by simp at hx;omega
 have x6:Byte [44]:=fun x hx=>by simp at hx;omega
 cases O:s.isP [124] with
 | true=>
   have HO:Hid (opB T s=some (1100,1,[59])):=by show _=_;unfold opB;rw[if_pos O]
   rw[HO.o]
   go_enter Tryz.func115,Tryz.ntmps115
   go_wp2_with fail;refine Z.mono ?_;rintro e W ⟨p,c,rfl,g,y⟩;have f:Below w.heap.size w W:=Below.on (new_low w zOp) y;have u:W.heap[w.heap.size]?=some zOp:=(y.block _ (by simp)).trans (heap_alloc_new w zOp)
   have M:w.heap.size<W.heap.size:=by have:=y.size;simp at this;omega
   have K:=HP.o (W.alloc (.cells #[.int .i64 tk,.int .i64 ta,.int .i64 tl,.slice p l c,.int .i64 tn] 86)) p c [124] _ h4 h3 (g _ (HI.o.sty.below (Below.on f (new_low W _))));rw[O] at K;have HB:=hid f;have HX:=hid u;clear Z y g f u HP;go_wp2_with fail;refine K.mono ?_;rintro e n ⟨rfl,a⟩;have j:n.heap[w.heap.size]?=some zOp:=(a.block _ (by simp;omega)).trans (((new_low W _).block _ M).trans HX.o)
   have g0:n.cell? ⟨w.heap.size,0,none⟩=some (.string ⟨#[]⟩):=by unfold World.cell?;rw[j];rfl
   have g1:n.cell? ⟨w.heap.size,1,none⟩=some (.int .i64 0):=by unfold World.cell?;rw[j];rfl
   have g2:n.cell? ⟨w.heap.size,2,none⟩=some (.int .i64 0):=by unfold World.cell?;rw[j];rfl
   have Y:∀ i,n.frozen? ⟨w.heap.size,i,none⟩=false:=fun i=>by unfold World.frozen?;rw[j];simp
   have x7:=Y 0;have k8:=Y 1;have e9:=Y 2;have w3:Hid (Below w.heap.size w n):=Below.on (Below.on HB.o (new_low W _)) a;clear K a j;go_wp2_with fail;exact bodyPost_ret (v:=.tuple #[opV ⟨#[59]⟩ 1100 1,.bool true]) (by simp[results,Tryz.results115,go_sem,g0,g1,g2]) rfl ⟨_,_,_,rfl,fun o B=>by cases B;exact⟨rfl,rfl,rfl⟩,low_put (low_put (low_put w3.o (Nat.le_refl _) _ _) (Nat.le_refl _) _ _) (Nat.le_refl _) _ _⟩
 | false=>
   by_cases h1:tk=1
   rotate_right
   case' _=>
    cases a:s.isP [44]
    ·have x9:(tk == 1)=false:=by simpa using h1
     have h6:Hid (opB T s=none):=by show _=_;unfold opB;rw[if_neg (by rw[O];decide),if_pos ⟨by rw[<-e5.o];exact h1,a⟩]
     go_enter Tryz.func115,Tryz.ntmps115
     go_wp2_with fail;refine Z.mono ?_;rintro e W ⟨p,c,rfl,g,y⟩;have f:Below w.heap.size w W:=Below.on (new_low w zOp) y;have u:W.heap[w.heap.size]?=some zOp:=(y.block _ (by simp)).trans (heap_alloc_new w zOp)
     have M:w.heap.size<W.heap.size:=by have:=y.size;simp at this;omega
     have V:=hid g;have K:=HP.o (W.alloc (.cells #[.int .i64 tk,.int .i64 ta,.int .i64 tl,.slice p l c,.int .i64 tn] 86)) p c [124] _ h4 h3 (g _ (HI.o.sty.below (Below.on f (new_low W _))));rw[O] at K;have HB:=hid f;have HX:=hid u;clear Z y g f u;go_wp2_with fail;refine K.mono ?_;rintro e n ⟨rfl,a⟩;have j:n.heap[w.heap.size]?=some zOp:=(a.block _ (by simp;omega)).trans (((new_low W _).block _ M).trans HX.o);have b:n.heap[W.heap.size]?=some (.cells #[.int .i64 tk,.int .i64 ta,.int .i64 tl,.slice p l c,.int .i64 tn] 86):=(a.block _ (by simp)).trans (heap_alloc_new W _);have F:Below w.heap.size w n:=Below.on (Below.on HB.o (new_low W _)) a
     have t0:n.cell? ⟨W.heap.size,0,none⟩=some (.int .i64 tk):=by unfold World.cell?;rw[b];rfl
     have t1:n.cell? ⟨W.heap.size,1,none⟩=some (.int .i64 ta):=by unfold World.cell?;rw[b];rfl
     have t2:n.cell? ⟨W.heap.size,2,none⟩=some (.int .i64 tl):=by unfold World.cell?;rw[b];rfl
     have t3:n.cell? ⟨W.heap.size,3,none⟩=some (.slice p l c):=by unfold World.cell?;rw[b];rfl
     have t4:n.cell? ⟨W.heap.size,4,none⟩=some (.int .i64 tn):=by unfold World.cell?;rw[b];rfl
     have x1:Hid _:=b;have G:=hid j;have H:=hid F;clear K a j b F;have J:=HP.o n p c [44] _ k7 x6 (V.o _ (HI.o.sty.below H.o));rw[a] at J;go_wp2_with fail;refine J.mono ?_;rintro e W3 ⟨rfl,C⟩;have k9:Hid (W3.heap[w.heap.size]?=some zOp):=(C.block _ (Array.getElem?_eq_some_iff.1 G.o).1).trans G.o;have x4:=hid (Below.on H.o C);have X:W3.cell? ⟨W.heap.size,3,none⟩=some (.slice p l c):=(C.cell (World.block_lt_of_cell? _ _ t3)).trans t3;clear t0 t1 t2 t3 t4 J C;have t3:=X;clear X;have z:W3.heap[w.heap.size]?=some zOp:=k9.o
     have g0:W3.cell? ⟨w.heap.size,0,none⟩=some (.string ⟨#[]⟩):=by unfold World.cell?;rw[z];rfl
     have g1:W3.cell? ⟨w.heap.size,1,none⟩=some (.int .i64 0):=by unfold World.cell?;rw[z];rfl
     have g2:W3.cell? ⟨w.heap.size,2,none⟩=some (.int .i64 0):=by unfold World.cell?;rw[z];rfl
     have Y:∀ i,W3.frozen? ⟨w.heap.size,i,none⟩=false:=fun i=>by unfold World.frozen?;rw[z];simp
     have x7:=Y 0;have k8:=Y 1;have e9:=Y 2;have e4:w.heap.size<W3.heap.size:=(Array.getElem?_eq_some_iff.1 z).1;clear z;go_wp2_with fail;have hF:=low_put (low_put (low_put x4.o (Nat.le_refl _) 0 (.string ⟨#[]⟩)) (Nat.le_refl _) 1 (.int .i64 0)) (Nat.le_refl _) 2 (.int .i64 0);exact bodyPost_ret (v:=.tuple #[opV ⟨#[]⟩ 0 0,.bool false]) (by simp[results,Tryz.results115,go_sem,e4,g0,g1,g2]) rfl (by rw[h6.o];exact⟨_,_,_,rfl,(fun o B=>by cases B),hF⟩)
    have k5:Hid (¬ (s.kd≠1/\s.isP [44]=false)):=fun hh=>by rw[a] at hh;cases hh.2
    have e7:=hid (isP_ne a)
    have x9:(tk == 1)=false:=by simpa using h1
    go_enter Tryz.func115,Tryz.ntmps115
    go_wp2_with fail;refine Z.mono ?_;rintro e W ⟨p,c,rfl,g,y⟩;have f:Below w.heap.size w W:=Below.on (new_low w zOp) y;have u:W.heap[w.heap.size]?=some zOp:=(y.block _ (by simp)).trans (heap_alloc_new w zOp)
    have M:w.heap.size<W.heap.size:=by have:=y.size;simp at this;omega
    have V:=hid g;have K:=HP.o (W.alloc (.cells #[.int .i64 tk,.int .i64 ta,.int .i64 tl,.slice p l c,.int .i64 tn] 86)) p c [124] _ h4 h3 (g _ (HI.o.sty.below (Below.on f (new_low W _))));rw[O] at K;have HB:=hid f;have HX:=hid u;clear Z y g f u;go_wp2_with fail;refine K.mono ?_;rintro e n ⟨rfl,a⟩;have j:n.heap[w.heap.size]?=some zOp:=(a.block _ (by simp;omega)).trans (((new_low W _).block _ M).trans HX.o);have b:n.heap[W.heap.size]?=some (.cells #[.int .i64 tk,.int .i64 ta,.int .i64 tl,.slice p l c,.int .i64 tn] 86):=(a.block _ (by simp)).trans (heap_alloc_new W _);have F:Below w.heap.size w n:=Below.on (Below.on HB.o (new_low W _)) a
    have t0:n.cell? ⟨W.heap.size,0,none⟩=some (.int .i64 tk):=by unfold World.cell?;rw[b];rfl
    have t1:n.cell? ⟨W.heap.size,1,none⟩=some (.int .i64 ta):=by unfold World.cell?;rw[b];rfl
    have t2:n.cell? ⟨W.heap.size,2,none⟩=some (.int .i64 tl):=by unfold World.cell?;rw[b];rfl
    have t3:n.cell? ⟨W.heap.size,3,none⟩=some (.slice p l c):=by unfold World.cell?;rw[b];rfl
    have t4:n.cell? ⟨W.heap.size,4,none⟩=some (.int .i64 tn):=by unfold World.cell?;rw[b];rfl
    have x1:Hid _:=b;have G:=hid j;have H:=hid F;clear K a j b F;have J:=HP.o n p c [44] _ k7 x6 (V.o _ (HI.o.sty.below H.o));rw[a] at J;go_wp2_with fail;refine J.mono ?_;rintro e r ⟨rfl,C⟩;have h5:Hid (r.heap[w.heap.size]?=some zOp):=(C.block _ (Array.getElem?_eq_some_iff.1 G.o).1).trans G.o;have Q:=hid (Below.on H.o C);have X:r.cell? ⟨W.heap.size,3,none⟩=some (.slice p l c):=(C.cell (World.block_lt_of_cell? _ _ t3)).trans t3;clear t0 t1 t2 t3 t4 J C;have t3:=X;clear X
   rotate_right
   case' _=>
    have k5:Hid (¬ (s.kd≠1/\s.isP [44]=false)):=fun hh=>hh.1 (by rw[<-e5.o];exact h1)
    have e7:Hid (s.ts≠[]):=kd_ne (k:=1) (by rw[<-e5.o];exact h1) (by decide);subst h1
    go_enter Tryz.func115,Tryz.ntmps115
    go_wp2_with fail;refine Z.mono ?_;rintro e W ⟨p,c,rfl,g,y⟩;have f:Below w.heap.size w W:=Below.on (new_low w zOp) y;have u:W.heap[w.heap.size]?=some zOp:=(y.block _ (by simp)).trans (heap_alloc_new w zOp)
    have M:w.heap.size<W.heap.size:=by have:=y.size;simp at this;omega
    have V:=hid g;have K:=HP.o (W.alloc (.cells #[.int .i64 1,.int .i64 ta,.int .i64 tl,.slice p l c,.int .i64 tn] 86)) p c [124] _ h4 h3 (g _ (HI.o.sty.below (Below.on f (new_low W _))));rw[O] at K;have HB:=hid f;have HX:=hid u;clear Z y g f u;go_wp2_with fail;refine K.mono ?_;rintro e r ⟨rfl,a⟩;have j:r.heap[w.heap.size]?=some zOp:=(a.block _ (by simp;omega)).trans (((new_low W _).block _ M).trans HX.o);have b:r.heap[W.heap.size]?=some (.cells #[.int .i64 1,.int .i64 ta,.int .i64 tl,.slice p l c,.int .i64 tn] 86):=(a.block _ (by simp)).trans (heap_alloc_new W _);have F:Below w.heap.size w r:=Below.on (Below.on HB.o (new_low W _)) a
    have t0:r.cell? ⟨W.heap.size,0,none⟩=some (.int .i64 1):=by unfold World.cell?;rw[b];rfl
    have t1:r.cell? ⟨W.heap.size,1,none⟩=some (.int .i64 ta):=by unfold World.cell?;rw[b];rfl
    have t2:r.cell? ⟨W.heap.size,2,none⟩=some (.int .i64 tl):=by unfold World.cell?;rw[b];rfl
    have t3:r.cell? ⟨W.heap.size,3,none⟩=some (.slice p l c):=by unfold World.cell?;rw[b];rfl
    have t4:r.cell? ⟨W.heap.size,4,none⟩=some (.int .i64 tn):=by unfold World.cell?;rw[b];rfl
    have x1:Hid _:=b;have h5:=hid j;have Q:=hid F;clear K a j b F
   all_goals
    have k1:=hid t3;have A:r.heap[w.heap.size]?=some zOp:=h5.o
    have g0:r.cell? ⟨w.heap.size,0,none⟩=some (.string ⟨#[]⟩):=by unfold World.cell?;rw[A];rfl
    have g1:r.cell? ⟨w.heap.size,1,none⟩=some (.int .i64 0):=by unfold World.cell?;rw[A];rfl
    have g2:r.cell? ⟨w.heap.size,2,none⟩=some (.int .i64 0):=by unfold World.cell?;rw[A];rfl
    have Y:∀ i,r.frozen? ⟨w.heap.size,i,none⟩=false:=fun i=>by unfold World.frozen?;rw[A];simp
    have x7:=Y 0;have k8:=Y 1;have e9:=Y 2;have e4:w.heap.size<r.heap.size:=(Array.getElem?_eq_some_iff.1 A).1;clear A;have e1:r.cell? ⟨W.heap.size,3,none⟩=some (.slice p l c):=k1.o;obtain⟨ob,N,x3,x5⟩:=HE.o.ops (fun e0=>e7.o (by rw[HI.o.ts.2,e0];simp));have c0:=HI.o.c0;have k3:rb<w.heap.size:=Nat.lt_of_lt_of_le HE.o.lt.1 HI.o.sty.size
    obtain⟨str,es⟩:∃ str,str=strOfNums q:=⟨_,rfl⟩
    have P:Hid (∀ D,Below r.heap.size r D->(D.cell? ⟨rb,0,none⟩=some (.map (some ob))/\D.cell? ⟨W.heap.size,3,none⟩=some (.slice p l c))/\(convert 23 9 (.slice p l c)).run Tryz.prog D = .ok (.string str) D/\(Instr.lookup 74 (.map (some ob)) (.agg #[.string str,.int .i64 1]) true).run Tryz.prog D = .ok (.tuple #[opV (opR T q false).1 (opR T q false).2.1 (opR T q false).2.2,.bool (decide (0<=findW T q false))]) D):=fun D k4=>by
     have e3:Below w.heap.size w D:=Below.on Q.o k4;refine⟨⟨?_,(k4.cell (World.block_lt_of_cell? _ _ e1)).trans e1⟩,?_,?_⟩
     ·rw[(e3.cell (p:=⟨rb,0,none⟩) k3),c0,x3]
     ·rw[es];exact conv_str (V.o D (HI.o.sty.below e3)) l c HL.o 9 Tryz.underlying9
     ·rw[es];exact(x5 D (HI.o.sty.below e3)).lookD q (by have:=h2.2;omega) false
    have x2:Hid (opB T s=if 0<=findW T q false then some (opW T (findW T q false)) else none):=by
     show _=_
     unfold opB
     rw[if_neg (by rw[O];decide),if_neg k5.o,w2.o]
    have h8:Hid (∀ o,(if 0<=findW T q false then some (opW T (findW T q false)) else none)=some o->(opR T q false).1=strOfNums o.2.2/\(opR T q false).2.1=o.1/\(opR T q false).2.2=o.2.1):=fun o B=>by
     by_cases hf:0<=findW T q false
     ·rw[if_pos hf] at B;cases B;unfold opR;rw[if_pos hf];exact⟨rfl,rfl,rfl⟩
     ·rw[if_neg hf] at B;cases B
    have h7:Hid ((if 0<=findW T q false then some (opW T (findW T q false)) else none).isSome=decide (0<=findW T q false)):=by
     show _=_
     by_cases hf:0<=findW T q false
     ·rw[if_pos hf];simp[hf]
     ·rw[if_neg hf];simp[hf]
    obtain⟨RR,h9⟩:∃ RR:Option Cel,RR=(if 0<=findW T q false then some (opW T (findW T q false)) else none):=⟨_,rfl⟩
    rw[<-h9] at h8 h7;have h6:=hid (x2.o.trans h9.symm)
    obtain⟨d,ed⟩:∃ d,d=decide (0<=findW T q false):=⟨_,rfl⟩
    rw[<-ed] at P h7
    obtain⟨R,e8⟩:∃ R,R=(opR T q false).1:=⟨_,rfl⟩
    obtain⟨U,k2⟩:∃ U,U=(opR T q false).2.1:=⟨_,rfl⟩
    obtain⟨to,e6⟩:∃ to,to=(opR T q false).2.2:=⟨_,rfl⟩
    rw[<-e8,<-k2,<-e6] at P h8;clear e1 c0 k3 x5 h9 ed e8 k2 e6 es x3;go_wp2_with fail;refine wp_region_held_drew (S:=fun D=>(D.cell? ⟨rb,0,none⟩=some (.map (some ob))/\D.cell? ⟨W.heap.size,3,none⟩=some (.slice p l c))/\(convert 23 9 (.slice p l c)).run Tryz.prog D = .ok (.string str) D/\(Instr.lookup 74 (.map (some ob)) (.agg #[.string str,.int .i64 1]) true).run Tryz.prog D = .ok (.tuple #[opV R U to,.bool d]) D) (by kernel_rfl) ?_ (fun e2=>?_)
    ·exact P.o _ (Below.refl _ _).drew
    have w4:=P.o _ ((Below.refl _ _).drew);refine hTq 0 (ptrR rb) 22 ?_
    simp only[Act.put,zzA,zzB,zzC];refine hTq 1 (ptrR rb) 23 ?_
    simp only[Act.put,zzA,zzB,zzC];refine hTq 2 (ptrR rb) 24 ?_
    simp only[Act.put,zzA,zzB,zzC];refine hTr 3 (.map (some ob)) 25 (fun o B W I=>?y3) ?_
    case y3=>cases B;simp[execOp,go_sem,Act.eval,I.1.1]
    simp only[Act.put,zzA,zzB,zzC];refine hTq 4 (.pointer (some ⟨W.heap.size,3,none⟩)) 26 ?_
    simp only[Act.put,zzA,zzB,zzC];refine hTr 5 (.slice p l c) 27 (fun o B W I=>?y5) ?_
    case y5=>cases B;simp[execOp,go_sem,Act.eval,I.1.2]
    simp only[Act.put,zzA,zzB,zzC];refine hTr 6 (.string str) 28 (fun o B W I=>?y6) ?_
    case y6=>cases B;simp[execOp,go_sem,Act.eval,I.2.1]
    simp only[Act.put,zzA,zzB,zzC];refine hTq 7 (.agg #[.string str,.int .i64 1]) 29 ?_
    simp only[Act.put,zzA,zzB,zzC];refine hTr 8 (.tuple #[opV R U to,.bool d]) 30 (fun o B W I=>?y8) ?_
    case y8=>cases B;simp[execOp,go_sem,Act.eval,I.2.2]
    simp only[Act.put,zzA,zzB,zzC];refine hTq 9 (.tuple #[opV R U to,.bool d]) 21 ?_
    simp only[Act.put,zzA,zzB,zzC];refine hTq 10 (opV R U to) 31 ?_
    simp only[Act.put,zzA,zzB,zzC];refine hTq 11 (.bool d) 32 ?_
    simp only[Act.put,zzA,zzB,zzC];have k6:=P.o _ (((Below.refl _ _).drew).alloc (by simp) zOp);refine hStep (i:=12) (v:=.pointer (some ⟨r.heap.size,0,none⟩)) (w':=r.drew.alloc zOp) (some 5) (by kernel_rfl) (by kernel_rfl) (by kernel_rfl) (fun o B=>?y12) k6 ?_
    case y12=>cases B;simp[execOp,go_sem,Act.eval]
    simp only[Act.put,zzA,zzB,zzC];have x8:=P.o _ (((Below.refl _ _).drew).alloc (by simp) (.cells #[.string R,.int .i64 U,.int .i64 to] 126));refine hStore (i:=13) (w':=r.drew.alloc (.cells #[.string R,.int .i64 U,.int .i64 to] 126)) (by kernel_rfl) (by kernel_rfl) (by kernel_rfl) (fun o B=>?st) x8 ?_
    case st=>cases B;simp[execOp,go_sem,Act.eval]
    refine hTq 14 (.bool d) 6 ?_
    simp only[Act.put,zzA,zzB,zzC];refine wpAnyH_done (by kernel_rfl) ?_ _
    change Exit.then _ _ _ _ (r.drew.alloc (.cells #[.string R,.int .i64 U,.int .i64 to] 126))
    clear P w4 k6 x8 e2;go_wp2_with fail;have hF:=((low_put (low_put (low_put Q.o (Nat.le_refl _) 0 (.string R)) (Nat.le_refl _) 1 (.int .i64 U)) (Nat.le_refl _) 2 (.int .i64 to)).alloc (by simpa using Q.o.size) (.cells #[.string R,.int .i64 U,.int .i64 to] 126)).drew;exact bodyPost_ret (v:=.tuple #[opV R U to,.bool d]) (by simp[results,Tryz.results115,go_sem,e4,g0,g1,g2]) rfl (by rw[h6.o];exact⟨R,U,to,by rw[h7.o],h8.o,hF⟩)
end
end Go.Proofs.YtlkhmmoimplokaaGreatDoor
