/- Texts of Lx7, Lx8, Lx9, LxA, LxB. Own work of the verifier. -/
import Derived.Test.YtlkhmmoimplokaaGreatDoorUqav
import Derived.Test.YtlkhmmoimplokaaGreatDoorUqaw
namespace Go.Proofs.YtlkhmmoimplokaaGreatDoor
set_option maxHeartbeats 8000000
set_option maxRecDepth 100000
open Go Go.RowKit
set_option linter.unusedVariables false
theorem cls_all:(List.range 256).all (fun c=>(isOfB c 1 == smallB c) && (isOfB c 4 == digitB c) && (isOfB c 2 == (alnumB c && !smallB c && !digitB c)) && (isOfB c 8 == symbolB c) && (isOfB c 32 == (decide ((c:Int)=33) || decide ((c:Int)=59))) &&
  (isOfB c 64 == (decide ((c:Int)=40) || decide ((c:Int)=41) || decide ((c:Int)=91) || decide ((c:Int)=93) || decide ((c:Int)=123) || decide ((c:Int)=125) || decide ((c:Int)=44) || decide ((c:Int)=124))) && (isOfB c 7 == alnumB c))=true:=by decide +kernel
theorem cls_at {c:Int}(j:0<=c)(a:c<256):isOfB c 1=smallB c/\isOfB c 4=digitB c/\isOfB c 2=(alnumB c && !smallB c && !digitB c)/\isOfB c 8=symbolB c/\isOfB c 32=(decide (c=33) || decide (c=59))/\
  isOfB c 64=(decide (c=40) || decide (c=41) || decide (c=91) || decide (c=93) || decide (c=123) || decide (c=125) || decide (c=44) || decide (c=124))/\isOfB c 7=alnumB c:=by
 have h:=List.all_eq_true.1 cls_all c.toNat (by simp;omega);rw[show((c.toNat:Nat):Int)=c by omega] at h;simp only[Bool.and_eq_true,beq_iff_eq] at h;obtain⟨⟨⟨⟨⟨⟨a,b⟩,d⟩,e⟩,f⟩,g⟩,i⟩:=h;exact⟨a,b,d,e,f,g,i⟩
theorem runLen_congr {f g:Int->Bool} : ∀ (a:List Int),(∀ x ∈ a,f x=g x)->runLen f a=runLen g a
 | [],_=>rfl
 | x :: r,h=>by
   unfold runLen
   rw[h x (List.mem_cons_self ..),runLen_congr r (fun y b=>h y (List.mem_cons_of_mem _ b))]
theorem runI_alnum {b:List Int}(c:Bytes b)(a:Nat):runI 7 b a=runLen (clsB false) (b.drop a):=runLen_congr _ (fun x d=>by
 have:=c x (List.mem_of_mem_drop d)
 exact(cls_at this.1 this.2).2.2.2.2.2.2)
theorem runI_symbol {b:List Int}(c:Bytes b)(a:Nat):runI 8 b a=runLen (clsB true) (b.drop a):=runLen_congr _ (fun x d=>by
 have:=c x (List.mem_of_mem_drop d)
 exact(cls_at this.1 this.2).2.2.2.1)
def TokSOut (w:World)(pos:Nat)(r:TokR)(e:Ending)(w':World):Prop:=
 match r with
 | .ok (kind,len,ys,v)=>∃ p n c,e = .returned (.tuple #[tokV kind pos len p n c v,.int .i64 0])/\OwnS w' w.heap.size p n c ys/\Below w.heap.size w w'
 | .error code=>∃ k a l v,e = .returned (.tuple #[tokV k a l none 0 0 v,.int .i64 code])/\Below w.heap.size w w'
theorem tokSOut_of {w c:World}{a:Nat}{e:Ending}{r b:TokR}(h:TokSOut w a r e c)(d:b=r):TokSOut w a b e c:=d▸h
theorem tokBad_any (b q c:Nat)(l:Bool)(d:List Int)(w:World)(E:Bytes d)(U:d.length<=10000)(H:c<d.length)(F:∀ m,m<d.length->w.cell? ⟨b,m,none⟩=some (.int .u8 (d.getD m 0)))
  (r:digitB (d.getD c 0)=false) (ha:alnumB (d.getD c 0)=false) (p:symbolB (d.getD c 0)=false) (h:isOfB (d.getD c 0) 32=false) (k:isOfB (d.getD c 0) 64=false) (j:d.getD c 0≠39) (i:d.getD c 0≠34) :
  Calls Tryz.prog 52 #[.slice (some ⟨b,0,none⟩) d.length q,.int .i64 c,.bool l] w (TokSOut w c (.error 2)):=by
 obtain⟨n,C⟩:∃ n,n=d.length:=⟨_,rfl⟩
 have s:=F c H;have g:=E.at c
 obtain⟨x,D⟩:∃ x,x=d.getD c 0:=⟨_,rfl⟩
 rw[<-D] at s g r ha p h k j i;obtain⟨q1,X,Y,Z,o,f,q7⟩:=cls_at g.1 g.2;rw[h] at o;rw[k] at f;simp only[Bool.or_eq_false_iff,decide_eq_false_iff_not,eq_comm (a:=false)] at o f
 have u:=fun W=>digit_any x W g.1 g.2
 have t:=fun W=>alnum_any x W g.1 g.2
 have y:=fun W=>symbol_any x W g.1 g.2
 rw[r] at u;rw[ha] at t;rw[p] at y;rw[<-C] at H U ⊢
 have J:(x == 33)=false:=by simpa using o.1
 have Q:(x == 59)=false:=by simpa using o.2
 have L:(x == 39)=false:=by simpa using j
 have K:(x == 34)=false:=by simpa using i
 have P:(x == 46)=false:=by
  cases G:(x == 46) with
  | false=>rfl
  | true=>simp at G;subst G;exact absurd p (by decide)
 have M:(x == 40)=false:=by simpa using f.1.1.1.1.1.1.1
 have N:(x == 41)=false:=by simpa using f.1.1.1.1.1.1.2
 have R:(x == 91)=false:=by simpa using f.1.1.1.1.1.2
 have S:(x == 93)=false:=by simpa using f.1.1.1.1.2
 have z:(x == 123)=false:=by simpa using f.1.1.1.2
 have B:(x == 125)=false:=by simpa using f.1.1.2
 have O:(x == 44)=false:=by simpa using f.1.2
 have A:(x == 124)=false:=by simpa using f.2
 have V:((w.alloc tokO).alloc tokO).cell? ⟨b,c,none⟩=some (.int .u8 x):=Lib.cell?_alloc_marked _ (Lib.cell?_alloc_marked _ s);have T:b<w.heap.size:=World.block_lt_of_cell? _ _ s;clear E F D q1 X Y Z o f q7 h k r ha p j i C
 go_enter Tryz.func52,Tryz.ntmps52
 go_wp2_with (first | (go_at_call 86;refine(u _).mono ?_;rintro e I ⟨rfl,rfl⟩) | (go_at_call 88;refine(t _).mono ?_;rintro e I ⟨rfl,rfl⟩) | (go_at_call 91;refine(y _).mono ?_;rintro e I ⟨rfl,rfl⟩));refine bodyPost_ret (v:=.tuple #[tokV 0 0 0 none 0 0 0,.int .i64 2]) (by simp[results,Tryz.results52,go_sem]) rfl ?_;exact⟨0,0,0,0,rfl,((Below.refl _ _).alloc (Nat.le_refl _) _).alloc (by simp) _⟩
abbrev tokB (k a l:Int):Obj:=.cells #[.int .i64 k,.int .i64 a,.int .i64 l,.slice none 0 0,.int .i64 0] 86
theorem five_cells {w:World}{g:Nat}{u0 u1 u2 u3 u4:Value}(h:w.heap[g]?=some (.cells #[u0,u1,u2,u3,u4] 86)):(w.cell? ⟨g,0,none⟩=some u0/\w.cell? ⟨g,1,none⟩=some u1/\w.cell? ⟨g,2,none⟩=some u2/\w.cell? ⟨g,3,none⟩=some u3/\w.cell? ⟨g,4,none⟩=some u4)/\∀ i,w.frozen? ⟨g,i,none⟩=false:=
 ⟨⟨by unfold World.cell?;rw[h];rfl,by unfold World.cell?;rw[h];rfl,by unfold World.cell?;rw[h];rfl,by unfold World.cell?;rw[h];rfl,by unfold World.cell?;rw[h];rfl⟩,fun i=>frozen_of_row _ _ _ _ _ h⟩
theorem bin_part {w:World}{b a l:Nat}{c:List Int}(e:∀ m,m<c.length->w.cell? ⟨b,m,none⟩=some (.int .u8 (c.getD m 0)))(g:a+l<=c.length):BIn w (some ⟨b,a,none⟩) ((c.drop a).take l):=fun _=>⟨b,a,rfl,fun i f=>by
 have d:i<l:=by simp at f;omega
 rw[e (a+i) (by omega),List.getD,List.getD,List.getElem?_take_of_lt d,List.getElem?_drop]⟩
theorem OwnS.mono' {w:World}{B a:Nat}{p:Option Addr}{n c:Nat}{b:List Int}(h:OwnS w B p n c b)(d:a<=B):OwnS w a p n c b:=h.mono d
theorem OwnS.setLow {w:World}{B:Nat}{p:Option Addr}{n c:Nat}{b:List Int}(h:OwnS w B p n c b){a:Addr}(ha:a.block<B)(u:Value):OwnS (w.setCell a u) B p n c b:=by
 refine⟨h.1,ownsRow_setCell_other h.2 (fun e=>?_) u⟩;have:=(h.2.lt a.block e).1
 omega
theorem tok_fin {w b d:World}{k:Option Addr}{i h:Nat}{l:List Int}(e:Below w.heap.size w b)(n:b.heap.size=w.heap.size+1+1)(f:Below b.heap.size b d)(g:OwnS d b.heap.size k i h l)(u u0 u1 u2 u3 u4:Value) :
  OwnS ((((((d.setCell ⟨w.heap.size+1,3,none⟩ u).setCell ⟨w.heap.size,0,none⟩ u0).setCell ⟨w.heap.size,1,none⟩ u1).setCell ⟨w.heap.size,2,none⟩ u2).setCell ⟨w.heap.size,3,none⟩ u3).setCell ⟨w.heap.size,4,none⟩ u4) w.heap.size k i h l/\
  Below w.heap.size w ((((((d.setCell ⟨w.heap.size+1,3,none⟩ u).setCell ⟨w.heap.size,0,none⟩ u0).setCell ⟨w.heap.size,1,none⟩ u1).setCell ⟨w.heap.size,2,none⟩ u2).setCell ⟨w.heap.size,3,none⟩ u3).setCell ⟨w.heap.size,4,none⟩ u4):=by
 have c:∀ j,(⟨w.heap.size,j,none⟩:Addr).block<b.heap.size:=fun j=>by show w.heap.size<_;omega
 refine⟨((((((g.setLow (a:=⟨w.heap.size+1,3,none⟩) (by show w.heap.size+1<_;omega) u).setLow (c 0) u0).setLow (c 1) u1).setLow (c 2) u2).setLow (c 3) u3).setLow (c 4) u4).mono' (by omega),?_⟩;have m:Below w.heap.size w d:=Below.on e f;exact(((((m.setCell (p:=⟨w.heap.size+1,3,none⟩) (by show w.heap.size<=w.heap.size+1;omega) u).setCell (p:=⟨w.heap.size,0,none⟩) (Nat.le_refl _) u0).setCell (p:=⟨w.heap.size,1,none⟩) (Nat.le_refl _) u1).setCell (p:=⟨w.heap.size,2,none⟩) (Nat.le_refl _) u2).setCell (p:=⟨w.heap.size,3,none⟩) (Nat.le_refl _) u3).setCell (p:=⟨w.heap.size,4,none⟩) (Nat.le_refl _) u4
theorem tokOne_any (b f a:Nat)(l:Bool)(d:List Int)(w:World)(L:Bytes d)(hn:d.length<=10000)(p:d.length<=f)(s:a<d.length)(C:∀ m,m<d.length->w.cell? ⟨b,m,none⟩=some (.int .u8 (d.getD m 0)))
  (c:d.getD a 0=33∨d.getD a 0=59) :
  Calls Tryz.prog 52 #[.slice (some ⟨b,0,none⟩) d.length f,.int .i64 a,.bool l] w (TokSOut w a (.ok (1,1,[d.getD a 0],0))):=by
 obtain⟨n,J⟩:∃ n,n=d.length:=⟨_,rfl⟩
 have R:=C a s;have k:=L.at a
 have q:(d.drop a).take 1 = [d.getD a 0]:=by
  rw[List.getD,List.getElem?_eq_getElem s,List.drop_eq_getElem_cons s];rfl
 have i:Below w.heap.size w ((w.alloc tokO).alloc (tokB 1 a 1)):=((Below.refl _ _).alloc (Nat.le_refl _) _).alloc (by simp) _;have g:=l1copy_all (some ⟨b,a,none⟩) 1 (f-a) ((d.drop a).take 1) ((w.alloc tokO).alloc (tokB 1 a 1)) (by simp;omega) (by simp) ((bin_part C (by omega)).below i);rw[q] at g
 obtain⟨x,K⟩:∃ x,x=d.getD a 0:=⟨_,rfl⟩
 rw[<-K] at R k c g ⊢;rw[<-J] at hn p s ⊢
 have N:digitB x=false:=by rcases c with rfl | rfl <;> decide
 have ha:alnumB x=false:=by rcases c with rfl | rfl <;> decide
 have P:symbolB x=false:=by rcases c with rfl | rfl <;> decide
 have Z:(x == 46)=false:=by rcases c with rfl | rfl <;> decide
 have H:=fun W=>digit_any x W k.1 k.2
 have G:=fun W=>alnum_any x W k.1 k.2
 have I:=fun W=>symbol_any x W k.1 k.2
 rw[N] at H;rw[ha] at G;rw[P] at I;have h1:b<w.heap.size:=World.block_lt_of_cell? _ _ R
 have M:¬ f=a:=by omega
 have h2:(0:Int)<=(a:Int):=by omega
 have h3:(0:Int)<=(a:Int)+1:=by omega
 have h4:(a:Int)+1<=(f:Int):=by omega
 have h5:(a:Int)<=(a:Int)+1:=by omega
 have h6:((a:Int)+1).toNat=a+1:=by omega
 have Q:a+1-a=1:=by omega
 have E:((w.alloc tokO).alloc (tokB 1 a 1)).heap[w.heap.size]?=some tokO:=(Below.heap_alloc _ _ _ (by simp)).trans (heap_alloc_new _ _)
 have F:((w.alloc tokO).alloc (tokB 1 a 1)).heap[w.heap.size+1]?=some (tokB 1 a 1):=by
  have:=heap_alloc_new (w.alloc tokO) (tokB 1 a 1)
  rwa[World.size_alloc] at this
 have z:Hid _:=E;have A:Hid _:=F;have y:Hid _:=i;clear L C K N ha P J q i E F
 rcases c with rfl | rfl
 all_goals
  go_enter Tryz.func52,Tryz.ntmps52
  go_wp2_with (first | (go_at_call 86;refine(H _).mono ?_;rintro e S ⟨rfl,rfl⟩) | (go_at_call 88;refine(G _).mono ?_;rintro e S ⟨rfl,rfl⟩) | (go_at_call 91;refine(I _).mono ?_;rintro e S ⟨rfl,rfl⟩));refine g.mono ?_;rintro e w5 ⟨t,n5,r,rfl,j,h⟩;obtain⟨⟨T,U,V,X,Y⟩,af⟩:=five_cells ((h.block _ (by simp;omega)).trans z.o);obtain⟨⟨e0,e1,e2,e3,e4⟩,ef⟩:=five_cells ((h.block _ (by simp)).trans A.o);have B:Hid _:=j;have u:Hid _:=h;have D:n5=1:=j.1;subst D;clear j h g;go_wp2_with fail;refine bodyPost_ret (v:=.tuple #[tokV 1 a 1 t 1 r 0,.int .i64 0]) (by simp[results,Tryz.results52,go_sem,T,U,V,X,Y]) rfl ?_;have O:=tok_fin y.o (by simp) u.o B.o (.slice t 1 r) (.int .i64 1) (.int .i64 a) (.int .i64 1) (.slice t 1 r) (.int .i64 0)
  exact⟨t,1,r,rfl,O.1,O.2⟩
theorem tokSmall_any (b f a:Nat)(J:Bool)(c:List Int)(w:World)(Q:Bytes c)(hn:c.length<=10000)(O:c.length<=f)(hp:a<c.length)(N:∀ m,m<c.length->w.cell? ⟨b,m,none⟩=some (.int .u8 (c.getD m 0)))(V:digitB (c.getD a 0)=false)(ha:alnumB (c.getD a 0)=true)(Y:smallB (c.getD a 0)=true) :
  Calls Tryz.prog 52 #[.slice (some ⟨b,0,none⟩) c.length f,.int .i64 a,.bool J] w (TokSOut w a (runR c a 1 7)):=by
 have t:=runI_alnum Q a;have B:=runLen_le (clsB false) (c.drop a);rw[List.length_drop] at B;have D:Below w.heap.size w ((w.alloc tokO).alloc (tokB 1 a 0)):=((Below.refl _ _).alloc (Nat.le_refl _) _).alloc (by simp) _;have j:=l1run_any b f c a false ((w.alloc tokO).alloc (tokB 1 a 0)) Q (by omega) (by omega) (fun i hi=>(D.cell (World.block_lt_of_cell? _ _ (N i hi))).trans (N i hi))
 have d:runR c a 1 7=if 100<runI 7 c a then .error 3 else .ok (1,runI 7 c a,(c.drop a).take (runI 7 c a),0):=rfl
 rw[t] at d
 obtain⟨L,eL⟩:∃ L,L=runLen (clsB false) (c.drop a):=⟨_,rfl⟩
 rw[<-eL] at B j d;have h:Hid _:=d;have u:Below w.heap.size w ((w.alloc tokO).alloc (tokB 1 a L)):=((Below.refl _ _).alloc (Nat.le_refl _) _).alloc (by simp) _
 have M:a+L<=c.length:=by omega
 have k:((c.drop a).take L).length=L:=by simp;omega
 have y:=l1copy_all (some ⟨b,a,none⟩) L (f-a) ((c.drop a).take L) ((w.alloc tokO).alloc (tokB 1 a L)) k.symm (by omega) ((bin_part N M).below u);have q:Hid (((c.drop a).take L).length=L):=k;have hx:=N a hp;have p:=Q.at a
 obtain⟨ys,K⟩:∃ ys,ys=(c.drop a).take L:=⟨_,rfl⟩
 rw[<-K] at y q h
 obtain⟨n,en⟩:∃ n,n=c.length:=⟨_,rfl⟩
 obtain⟨x,ex⟩:∃ x,x=c.getD a 0:=⟨_,rfl⟩
 rw[<-ex] at hx p V ha Y
 have HD:=fun W=>digit_any x W p.1 p.2
 have HA:=fun W=>alnum_any x W p.1 p.2
 have HS:=fun W=>symbol_any x W p.1 p.2
 have H:=fun W=>small_any x W p.1 p.2
 rw[<-en] at hn O hp j ⊢;have h4:b<w.heap.size:=World.block_lt_of_cell? _ _ hx
 have h3:L<=10000:=by omega
 have h1:¬ f=a:=by omega
 have h5:(0:Int)<=(a:Int):=by omega
 have h6:(0:Int)<=(a:Int)+L:=by omega
 have h7:(a:Int)+L<=(f:Int):=by omega
 have h8:(a:Int)<=(a:Int)+L:=by omega
 have h9:((a:Int)+L).toNat=a+L:=by omega
 have h2:a+L-a=L:=by omega
 have Z:((w.alloc tokO).alloc (tokB 1 a L)).heap[w.heap.size]?=some tokO:=(Below.heap_alloc _ _ _ (by simp)).trans (heap_alloc_new _ _)
 have G2:((w.alloc tokO).alloc (tokB 1 a L)).heap[w.heap.size+1]?=some (tokB 1 a L):=by
  have:=heap_alloc_new (w.alloc tokO) (tokB 1 a L)
  rwa[World.size_alloc] at this
 have T:Hid _:=Z;have U:Hid _:=G2;have F:Hid _:=u;clear Q N ex en D u Z G2 K eL B t d k M;rw[V] at HD;rw[ha] at HA;rw[Y] at H;clear V ha Y
 go_enter Tryz.func52,Tryz.ntmps52
 go_wp2_with (first | (go_at_call 86;refine(HD _).mono ?_;rintro e S ⟨rfl,rfl⟩) | (go_at_call 88;refine(HA _).mono ?_;rintro e S ⟨rfl,rfl⟩) | (go_at_call 91;refine(HS _).mono ?_;rintro e S ⟨rfl,rfl⟩) | (go_at_call 89;refine j.mono ?_;rintro e S ⟨rfl,rfl⟩) | (go_at_call 90;refine(H _).mono ?_;rintro e S ⟨rfl,rfl⟩));refine y.mono ?_;rintro e w5 ⟨P,g,I,rfl,C,l⟩;obtain⟨⟨a0,a1,a2,a3,a4⟩,af⟩:=five_cells ((l.block _ (by simp;omega)).trans T.o);obtain⟨⟨e0,e1,e2,e3,e4⟩,ef⟩:=five_cells ((l.block _ (by simp)).trans U.o);have G:Hid _:=C;have E:Hid _:=l;have X:g=L:=C.1.trans q.o;subst X;clear C l y
 by_cases s:100<g
 ·have A:(100:Int)<g:=by omega
  have d:=h.o;rw[if_pos s] at d;have z:Hid _:=d;clear d h;go_wp2_with fail;refine bodyPost_ret (v:=.tuple #[tokV 0 0 0 none 0 0 0,.int .i64 3]) (by simp[results,Tryz.results52,go_sem,a0,a1,a2,a3,a4]) rfl ?_;have R:=tok_fin F.o (by simp) E.o G.o (.slice P g I) (.int .i64 0) (.int .i64 0) (.int .i64 0) (.slice none 0 0) (.int .i64 0);exact tokSOut_of (r:=.error 3) ⟨0,0,0,0,rfl,R.2⟩ z.o
 ·have A:¬ (100:Int)<g:=by omega
  have d:=h.o;rw[if_neg s] at d;have z:Hid _:=d;clear d h;go_wp2_with fail;refine bodyPost_ret (v:=.tuple #[tokV 1 a g P g I 0,.int .i64 0]) (by simp[results,Tryz.results52,go_sem,a0,a1,a2,a3,a4]) rfl ?_;have R:=tok_fin F.o (by simp) E.o G.o (.slice P g I) (.int .i64 1) (.int .i64 a) (.int .i64 g) (.slice P g I) (.int .i64 0);exact tokSOut_of (r:=.ok (1,g,_,0)) ⟨P,g,I,rfl,R.1,R.2⟩ z.o
theorem tokLarge_any (b f a:Nat)(J:Bool)(c:List Int)(w:World)(Q:Bytes c)(hn:c.length<=10000)(O:c.length<=f)(hp:a<c.length)(N:∀ m,m<c.length->w.cell? ⟨b,m,none⟩=some (.int .u8 (c.getD m 0)))(V:digitB (c.getD a 0)=false)(ha:alnumB (c.getD a 0)=true)(Y:smallB (c.getD a 0)=false) :
  Calls Tryz.prog 52 #[.slice (some ⟨b,0,none⟩) c.length f,.int .i64 a,.bool J] w (TokSOut w a (runR c a 2 7)):=by
 have t:=runI_alnum Q a;have B:=runLen_le (clsB false) (c.drop a);rw[List.length_drop] at B;have D:Below w.heap.size w ((w.alloc tokO).alloc (tokB 1 a 0)):=((Below.refl _ _).alloc (Nat.le_refl _) _).alloc (by simp) _;have j:=l1run_any b f c a false ((w.alloc tokO).alloc (tokB 1 a 0)) Q (by omega) (by omega) (fun i hi=>(D.cell (World.block_lt_of_cell? _ _ (N i hi))).trans (N i hi))
 have d:runR c a 2 7=if 100<runI 7 c a then .error 3 else .ok (2,runI 7 c a,(c.drop a).take (runI 7 c a),0):=rfl
 rw[t] at d
 obtain⟨L,eL⟩:∃ L,L=runLen (clsB false) (c.drop a):=⟨_,rfl⟩
 rw[<-eL] at B j d;have h:Hid _:=d;have u:Below w.heap.size w ((w.alloc tokO).alloc (tokB 2 a L)):=((Below.refl _ _).alloc (Nat.le_refl _) _).alloc (by simp) _
 have M:a+L<=c.length:=by omega
 have k:((c.drop a).take L).length=L:=by simp;omega
 have y:=l1copy_all (some ⟨b,a,none⟩) L (f-a) ((c.drop a).take L) ((w.alloc tokO).alloc (tokB 2 a L)) k.symm (by omega) ((bin_part N M).below u);have q:Hid (((c.drop a).take L).length=L):=k;have hx:=N a hp;have p:=Q.at a
 obtain⟨ys,K⟩:∃ ys,ys=(c.drop a).take L:=⟨_,rfl⟩
 rw[<-K] at y q h
 obtain⟨n,en⟩:∃ n,n=c.length:=⟨_,rfl⟩
 obtain⟨x,ex⟩:∃ x,x=c.getD a 0:=⟨_,rfl⟩
 rw[<-ex] at hx p V ha Y
 have HD:=fun W=>digit_any x W p.1 p.2
 have HA:=fun W=>alnum_any x W p.1 p.2
 have HS:=fun W=>symbol_any x W p.1 p.2
 have H:=fun W=>small_any x W p.1 p.2
 rw[<-en] at hn O hp j ⊢;have h4:b<w.heap.size:=World.block_lt_of_cell? _ _ hx
 have h3:L<=10000:=by omega
 have h1:¬ f=a:=by omega
 have h5:(0:Int)<=(a:Int):=by omega
 have h6:(0:Int)<=(a:Int)+L:=by omega
 have h7:(a:Int)+L<=(f:Int):=by omega
 have h8:(a:Int)<=(a:Int)+L:=by omega
 have h9:((a:Int)+L).toNat=a+L:=by omega
 have h2:a+L-a=L:=by omega
 have Z:((w.alloc tokO).alloc (tokB 2 a L)).heap[w.heap.size]?=some tokO:=(Below.heap_alloc _ _ _ (by simp)).trans (heap_alloc_new _ _)
 have G2:((w.alloc tokO).alloc (tokB 2 a L)).heap[w.heap.size+1]?=some (tokB 2 a L):=by
  have:=heap_alloc_new (w.alloc tokO) (tokB 2 a L)
  rwa[World.size_alloc] at this
 have T:Hid _:=Z;have U:Hid _:=G2;have F:Hid _:=u;clear Q N ex en D u Z G2 K eL B t d k M;rw[V] at HD;rw[ha] at HA;rw[Y] at H;clear V ha Y
 go_enter Tryz.func52,Tryz.ntmps52
 go_wp2_with (first | (go_at_call 86;refine(HD _).mono ?_;rintro e S ⟨rfl,rfl⟩) | (go_at_call 88;refine(HA _).mono ?_;rintro e S ⟨rfl,rfl⟩) | (go_at_call 91;refine(HS _).mono ?_;rintro e S ⟨rfl,rfl⟩) | (go_at_call 89;refine j.mono ?_;rintro e S ⟨rfl,rfl⟩) | (go_at_call 90;refine(H _).mono ?_;rintro e S ⟨rfl,rfl⟩));refine y.mono ?_;rintro e w5 ⟨P,g,I,rfl,C,l⟩;obtain⟨⟨a0,a1,a2,a3,a4⟩,af⟩:=five_cells ((l.block _ (by simp;omega)).trans T.o);obtain⟨⟨e0,e1,e2,e3,e4⟩,ef⟩:=five_cells ((l.block _ (by simp)).trans U.o);have G:Hid _:=C;have E:Hid _:=l;have X:g=L:=C.1.trans q.o;subst X;clear C l y
 by_cases s:100<g
 ·have A:(100:Int)<g:=by omega
  have d:=h.o;rw[if_pos s] at d;have z:Hid _:=d;clear d h;go_wp2_with fail;refine bodyPost_ret (v:=.tuple #[tokV 0 0 0 none 0 0 0,.int .i64 3]) (by simp[results,Tryz.results52,go_sem,a0,a1,a2,a3,a4]) rfl ?_;have R:=tok_fin F.o (by simp) E.o G.o (.slice P g I) (.int .i64 0) (.int .i64 0) (.int .i64 0) (.slice none 0 0) (.int .i64 0);exact tokSOut_of (r:=.error 3) ⟨0,0,0,0,rfl,R.2⟩ z.o
 ·have A:¬ (100:Int)<g:=by omega
  have d:=h.o;rw[if_neg s] at d;have z:Hid _:=d;clear d h;go_wp2_with fail;refine bodyPost_ret (v:=.tuple #[tokV 2 a g P g I 0,.int .i64 0]) (by simp[results,Tryz.results52,go_sem,a0,a1,a2,a3,a4]) rfl ?_;have R:=tok_fin F.o (by simp) E.o G.o (.slice P g I) (.int .i64 2) (.int .i64 a) (.int .i64 g) (.slice P g I) (.int .i64 0);exact tokSOut_of (r:=.ok (2,g,_,0)) ⟨P,g,I,rfl,R.1,R.2⟩ z.o
theorem tokSym_any (b f a:Nat)(J:Bool)(c:List Int)(w:World)(Q:Bytes c)(hn:c.length<=10000)(O:c.length<=f)(hp:a<c.length)(N:∀ m,m<c.length->w.cell? ⟨b,m,none⟩=some (.int .u8 (c.getD m 0)))(V:digitB (c.getD a 0)=false)(ha:alnumB (c.getD a 0)=false)(Y:symbolB (c.getD a 0)=true)(B:c.getD a 0≠46) :
  Calls Tryz.prog 52 #[.slice (some ⟨b,0,none⟩) c.length f,.int .i64 a,.bool J] w (TokSOut w a (runR c a 1 8)):=by
 have t:=runI_symbol Q a;have C:=runLen_le (clsB true) (c.drop a);rw[List.length_drop] at C;have E:Below w.heap.size w ((w.alloc tokO).alloc (tokB 1 a 0)):=((Below.refl _ _).alloc (Nat.le_refl _) _).alloc (by simp) _;have j:=l1run_any b f c a true ((w.alloc tokO).alloc (tokB 1 a 0)) Q (by omega) (by omega) (fun i hi=>(E.cell (World.block_lt_of_cell? _ _ (N i hi))).trans (N i hi))
 have d:runR c a 1 8=if 100<runI 8 c a then .error 3 else .ok (1,runI 8 c a,(c.drop a).take (runI 8 c a),0):=rfl
 rw[t] at d
 obtain⟨L,eL⟩:∃ L,L=runLen (clsB true) (c.drop a):=⟨_,rfl⟩
 rw[<-eL] at C j d;have h:Hid _:=d;have u:Below w.heap.size w ((w.alloc tokO).alloc (tokB 1 a L)):=((Below.refl _ _).alloc (Nat.le_refl _) _).alloc (by simp) _
 have M:a+L<=c.length:=by omega
 have k:((c.drop a).take L).length=L:=by simp;omega
 have y:=l1copy_all (some ⟨b,a,none⟩) L (f-a) ((c.drop a).take L) ((w.alloc tokO).alloc (tokB 1 a L)) k.symm (by omega) ((bin_part N M).below u);have q:Hid (((c.drop a).take L).length=L):=k;have hx:=N a hp;have p:=Q.at a
 obtain⟨ys,K⟩:∃ ys,ys=(c.drop a).take L:=⟨_,rfl⟩
 rw[<-K] at y q h
 obtain⟨n,en⟩:∃ n,n=c.length:=⟨_,rfl⟩
 obtain⟨x,ex⟩:∃ x,x=c.getD a 0:=⟨_,rfl⟩
 rw[<-ex] at hx p V ha Y B
 have HD:=fun W=>digit_any x W p.1 p.2
 have HA:=fun W=>alnum_any x W p.1 p.2
 have HS:=fun W=>symbol_any x W p.1 p.2
 have U:=fun W=>small_any x W p.1 p.2
 rw[<-en] at hn O hp j ⊢;have h5:b<w.heap.size:=World.block_lt_of_cell? _ _ hx
 have h4:L<=10000:=by omega
 have h1:¬ f=a:=by omega
 have h6:(0:Int)<=(a:Int):=by omega
 have h7:(0:Int)<=(a:Int)+L:=by omega
 have h8:(a:Int)+L<=(f:Int):=by omega
 have h9:(a:Int)<=(a:Int)+L:=by omega
 have e5:((a:Int)+L).toNat=a+L:=by omega
 have h2:a+L-a=L:=by omega
 have G1:((w.alloc tokO).alloc (tokB 1 a L)).heap[w.heap.size]?=some tokO:=(Below.heap_alloc _ _ _ (by simp)).trans (heap_alloc_new _ _)
 have G2:((w.alloc tokO).alloc (tokB 1 a L)).heap[w.heap.size+1]?=some (tokB 1 a L):=by
  have:=heap_alloc_new (w.alloc tokO) (tokB 1 a L)
  rwa[World.size_alloc] at this
 have S:Hid _:=G1;have T:Hid _:=G2;have G:Hid _:=u;clear Q N ex en E u G1 G2 K eL C t d k M;rw[V] at HD;rw[ha] at HA;rw[Y] at HS
 have h3:(x == 46)=false:=by simpa using B
 clear V ha Y B U
 go_enter Tryz.func52,Tryz.ntmps52
 go_wp2_with (first | (go_at_call 86;refine(HD _).mono ?_;rintro e Z ⟨rfl,rfl⟩) | (go_at_call 88;refine(HA _).mono ?_;rintro e Z ⟨rfl,rfl⟩) | (go_at_call 91;refine(HS _).mono ?_;rintro e Z ⟨rfl,rfl⟩) | (go_at_call 89;refine j.mono ?_;rintro e Z ⟨rfl,rfl⟩));refine y.mono ?_;rintro e w5 ⟨P,g,I,rfl,D,l⟩;obtain⟨⟨a0,a1,a2,a3,a4⟩,af⟩:=five_cells ((l.block _ (by simp;omega)).trans S.o);obtain⟨⟨e0,e1,e2,e3,e4⟩,ef⟩:=five_cells ((l.block _ (by simp)).trans T.o);have H:Hid _:=D;have F:Hid _:=l;have X:g=L:=D.1.trans q.o;subst X;clear D l y
 by_cases s:100<g
 ·have A:(100:Int)<g:=by omega
  have d:=h.o;rw[if_pos s] at d;have z:Hid _:=d;clear d h;go_wp2_with fail;refine bodyPost_ret (v:=.tuple #[tokV 0 0 0 none 0 0 0,.int .i64 3]) (by simp[results,Tryz.results52,go_sem,a0,a1,a2,a3,a4]) rfl ?_;have R:=tok_fin G.o (by simp) F.o H.o (.slice P g I) (.int .i64 0) (.int .i64 0) (.int .i64 0) (.slice none 0 0) (.int .i64 0);exact tokSOut_of (r:=.error 3) ⟨0,0,0,0,rfl,R.2⟩ z.o
 ·have A:¬ (100:Int)<g:=by omega
  have d:=h.o;rw[if_neg s] at d;have z:Hid _:=d;clear d h;go_wp2_with fail;refine bodyPost_ret (v:=.tuple #[tokV 1 a g P g I 0,.int .i64 0]) (by simp[results,Tryz.results52,go_sem,a0,a1,a2,a3,a4]) rfl ?_;have R:=tok_fin G.o (by simp) F.o H.o (.slice P g I) (.int .i64 1) (.int .i64 a) (.int .i64 g) (.slice P g I) (.int .i64 0);exact tokSOut_of (r:=.ok (1,g,_,0)) ⟨P,g,I,rfl,R.1,R.2⟩ z.o
theorem tokPoint_any (b f a:Nat)(P:Bool)(c:List Int)(w:World)(T:Bytes c)(hn:c.length<=10000)(U:c.length<=f)(hp:a<c.length)(H:∀ m,m<c.length->w.cell? ⟨b,m,none⟩=some (.int .u8 (c.getD m 0)))(R:c.getD a 0=46)(h1:a+1<c.length)(D:blankB (c.getD (a+1) 0)=false)(C:c.getD (a+1) 0≠37) :
  Calls Tryz.prog 52 #[.slice (some ⟨b,0,none⟩) c.length f,.int .i64 a,.bool P] w (TokSOut w a (runR c a 1 8)):=by
 have t:=runI_symbol T a;have E:=runLen_le (clsB true) (c.drop a);rw[List.length_drop] at E;have I:Below w.heap.size w ((w.alloc tokO).alloc (tokB 1 a 0)):=((Below.refl _ _).alloc (Nat.le_refl _) _).alloc (by simp) _;have j:=l1run_any b f c a true ((w.alloc tokO).alloc (tokB 1 a 0)) T (by omega) (by omega) (fun i hi=>(I.cell (World.block_lt_of_cell? _ _ (H i hi))).trans (H i hi))
 have d:runR c a 1 8=if 100<runI 8 c a then .error 3 else .ok (1,runI 8 c a,(c.drop a).take (runI 8 c a),0):=rfl
 rw[t] at d
 obtain⟨L,eL⟩:∃ L,L=runLen (clsB true) (c.drop a):=⟨_,rfl⟩
 rw[<-eL] at E j d;have h:Hid _:=d;have u:Below w.heap.size w ((w.alloc tokO).alloc (tokB 1 a L)):=((Below.refl _ _).alloc (Nat.le_refl _) _).alloc (by simp) _
 have S:a+L<=c.length:=by omega
 have k:((c.drop a).take L).length=L:=by simp;omega
 have z:=l1copy_all (some ⟨b,a,none⟩) L (f-a) ((c.drop a).take L) ((w.alloc tokO).alloc (tokB 1 a L)) k.symm (by omega) ((bin_part H S).below u);have q:Hid (((c.drop a).take L).length=L):=k;have hx:=H a hp;have p:=T.at a
 obtain⟨ys,Q⟩:∃ ys,ys=(c.drop a).take L:=⟨_,rfl⟩
 rw[<-Q] at z q h;have hy:=H (a+1) h1;have G:=T.at (a+1)
 obtain⟨y,ey⟩:∃ y,y=c.getD (a+1) 0:=⟨_,rfl⟩
 rw[<-ey] at hy G D C
 obtain⟨n,en⟩:∃ n,n=c.length:=⟨_,rfl⟩
 obtain⟨x,ex⟩:∃ x,x=c.getD a 0:=⟨_,rfl⟩
 rw[<-ex] at hx p R
 have HD:=fun W=>digit_any x W p.1 p.2
 have HA:=fun W=>alnum_any x W p.1 p.2
 have HS:=fun W=>symbol_any x W p.1 p.2
 have h3:=fun W=>small_any x W p.1 p.2
 rw[<-en] at hn U hp j ⊢;have e6:b<w.heap.size:=World.block_lt_of_cell? _ _ hx
 have e5:L<=10000:=by omega
 have h5:¬ f=a:=by omega
 have e7:(0:Int)<=(a:Int):=by omega
 have e8:(0:Int)<=(a:Int)+L:=by omega
 have e9:(a:Int)+L<=(f:Int):=by omega
 have k1:(a:Int)<=(a:Int)+L:=by omega
 have k2:((a:Int)+L).toNat=a+L:=by omega
 have h6:a+L-a=L:=by omega
 have G1:((w.alloc tokO).alloc (tokB 1 a L)).heap[w.heap.size]?=some tokO:=(Below.heap_alloc _ _ _ (by simp)).trans (heap_alloc_new _ _)
 have G2:((w.alloc tokO).alloc (tokB 1 a L)).heap[w.heap.size+1]?=some (tokB 1 a L):=by
  have:=heap_alloc_new (w.alloc tokO) (tokB 1 a L)
  rwa[World.size_alloc] at this
 have Z:Hid _:=G1;have h2:Hid _:=G2;have K:Hid _:=u;rw[<-en] at h1;clear T H ex en I u G1 G2 Q eL E t d k S;subst R
 have M:=fun W=>blank_any y W G.1 G.2
 rw[D] at M;rw[show digitB 46=false from by decide] at HD;rw[show alnumB 46=false from by decide] at HA;rw[show symbolB 46=true from by decide] at HS
 have k3:(y == 37)=false:=by simpa using C
 have h9:¬ ((a:Int)+1=n):=by omega
 have h8:(((a:Int)+1) == (n:Int))=false:=by simp;omega
 have h7:(a:Int)+1<n:=by omega
 clear D C h3 ey
 go_enter Tryz.func52,Tryz.ntmps52
 go_wp2_with (first | (go_at_call 86;refine(HD _).mono ?_;rintro e Y ⟨rfl,rfl⟩) | (go_at_call 88;refine(HA _).mono ?_;rintro e Y ⟨rfl,rfl⟩) | (go_at_call 91;refine(HS _).mono ?_;rintro e Y ⟨rfl,rfl⟩) | (go_at_call 89;refine j.mono ?_;rintro e Y ⟨rfl,rfl⟩) | (go_at_call 85;refine(M _).mono ?_;rintro e Y ⟨rfl,rfl⟩));refine z.mono ?_;rintro e w5 ⟨V,g,O,rfl,F,l⟩;obtain⟨⟨a0,a1,a2,a3,a4⟩,af⟩:=five_cells ((l.block _ (by simp;omega)).trans Z.o);obtain⟨⟨e0,e1,e2,e3,e4⟩,ef⟩:=five_cells ((l.block _ (by simp)).trans h2.o);have N:Hid _:=F;have J:Hid _:=l;have h4:g=L:=F.1.trans q.o;subst h4;clear F l z
 by_cases s:100<g
 ·have B:(100:Int)<g:=by omega
  have d:=h.o;rw[if_pos s] at d;have A:Hid _:=d;clear d h;go_wp2_with fail;refine bodyPost_ret (v:=.tuple #[tokV 0 0 0 none 0 0 0,.int .i64 3]) (by simp[results,Tryz.results52,go_sem,a0,a1,a2,a3,a4]) rfl ?_;have X:=tok_fin K.o (by simp) J.o N.o (.slice V g O) (.int .i64 0) (.int .i64 0) (.int .i64 0) (.slice none 0 0) (.int .i64 0);exact tokSOut_of (r:=.error 3) ⟨0,0,0,0,rfl,X.2⟩ A.o
 ·have B:¬ (100:Int)<g:=by omega
  have d:=h.o;rw[if_neg s] at d;have A:Hid _:=d;clear d h;go_wp2_with fail;refine bodyPost_ret (v:=.tuple #[tokV 1 a g V g O 0,.int .i64 0]) (by simp[results,Tryz.results52,go_sem,a0,a1,a2,a3,a4]) rfl ?_;have X:=tok_fin K.o (by simp) J.o N.o (.slice V g O) (.int .i64 1) (.int .i64 a) (.int .i64 g) (.slice V g O) (.int .i64 0);exact tokSOut_of (r:=.ok (1,g,_,0)) ⟨V,g,O,rfl,X.1,X.2⟩ A.o
theorem tokEnd_any (b q a:Nat)(p:Bool)(c:List Int)(w:World)(H:Bytes c)(P:c.length<=10000)(s:c.length<=q)(I:a<c.length)(E:∀ m,m<c.length->w.cell? ⟨b,m,none⟩=some (.int .u8 (c.getD m 0)))(r:c.getD a 0=46)(d:endsI (byteI c (a+1))=true) :
  Calls Tryz.prog 52 #[.slice (some ⟨b,0,none⟩) c.length q,.int .i64 a,.bool p] w (TokSOut w a (.ok (7,1,[],0))):=by
 have J:=E a I
 obtain⟨n,t⟩:∃ n,n=c.length:=⟨_,rfl⟩
 rw[r] at J;have K:Hid (n=c.length):=t;have j:Hid (Bytes c):=H
 have z:Hid (∀ m,m<n->w.cell? ⟨b,m,none⟩=some (.int .u8 (c.getD m 0))):=by rw[t];exact E
 rw[<-t] at P s I ⊢;have O:b<w.heap.size:=World.block_lt_of_cell? _ _ J
 have A:=fun W=>digit_any 46 W (by decide) (by decide)
 have x:=fun W=>alnum_any 46 W (by decide) (by decide)
 rw[show digitB 46=false from by decide] at A;rw[show alnumB 46=false from by decide] at x;have l:Hid (Below w.heap.size w ((w.alloc (.cells #[.int .i64 7,.int .i64 a,.int .i64 1,.slice none 0 0,.int .i64 0] 86)).alloc (tokB 1 a 0))):=((Below.refl _ _).alloc (Nat.le_refl _) _).alloc (by simp) _;clear H E t r
 by_cases G:a+1<n
 ·have Q:=z.o (a+1) G
  have g:=j.o.at (a+1);have k:byteI c (a+1)=c.getD (a+1) 0:=byteI_lt (by rw[<-K.o];exact G)
  obtain⟨y,F⟩:∃ y,y=c.getD (a+1) 0:=⟨_,rfl⟩
  rw[<-F] at Q g k;rw[k] at d
  have i:=fun W=>blank_any y W g.1 g.2
  have B:(((a:Int)+1) == (n:Int))=false:=by simp;omega
  have N:¬ ((a:Int)+1=n):=by omega
  have L:(a:Int)+1<n:=by omega
  clear k F z j
  cases f:blankB y
  rotate_right
  case' _=>
   rw[f] at i
  rotate_right
  case' _=>
   have C:y=37:=by
    have D:¬ (endsI y=true/\y≠-1/\y≠37):=fun h=>by rw[(blank_ends g.1).2 h] at f;cases f
    rcases Int.decEq y 37 with h | h
    ·exact absurd ⟨d,by omega,h⟩ D
    ·exact h
   rw[f] at i;subst C
  all_goals
   clear d f
   go_enter Tryz.func52,Tryz.ntmps52
   go_wp2_with (first | (go_at_call 86;refine(A _).mono ?_;rintro e u ⟨rfl,rfl⟩) | (go_at_call 88;refine(x _).mono ?_;rintro e u ⟨rfl,rfl⟩) | (go_at_call 85;refine(i _).mono ?_;rintro e u ⟨rfl,rfl⟩));refine bodyPost_ret (v:=.tuple #[tokV 7 a 1 none 0 0 0,.int .i64 0]) (by simp[results,Tryz.results52,go_sem]) rfl ?_;exact⟨none,0,0,rfl,OwnS.nil _ _,l.o⟩
 ·have M:(a:Int)+1=n:=by omega
  have B:(((a:Int)+1) == (n:Int))=true:=by simp;omega
  clear d z j
  go_enter Tryz.func52,Tryz.ntmps52
  go_wp2_with (first | (go_at_call 86;refine(A _).mono ?_;rintro e u ⟨rfl,rfl⟩) | (go_at_call 88;refine(x _).mono ?_;rintro e u ⟨rfl,rfl⟩));refine bodyPost_ret (v:=.tuple #[tokV 7 a 1 none 0 0 0,.int .i64 0]) (by simp[results,Tryz.results52,go_sem]) rfl ?_;exact⟨none,0,0,rfl,OwnS.nil _ _,l.o⟩
theorem tokPunct_any (b f a:Nat)(l:Bool)(d:List Int)(w:World)(L:Bytes d)(hn:d.length<=10000)(p:d.length<=f)(s:a<d.length)(C:∀ m,m<d.length->w.cell? ⟨b,m,none⟩=some (.int .u8 (d.getD m 0)))
  (c:d.getD a 0=41∨d.getD a 0=91∨d.getD a 0=93∨d.getD a 0=123∨d.getD a 0=125∨d.getD a 0=44∨d.getD a 0=124) :
  Calls Tryz.prog 52 #[.slice (some ⟨b,0,none⟩) d.length f,.int .i64 a,.bool l] w (TokSOut w a (.ok (5,1,[d.getD a 0],0))):=by
 obtain⟨n,J⟩:∃ n,n=d.length:=⟨_,rfl⟩
 have R:=C a s;have k:=L.at a
 have q:(d.drop a).take 1 = [d.getD a 0]:=by
  rw[List.getD,List.getElem?_eq_getElem s,List.drop_eq_getElem_cons s];rfl
 have i:Below w.heap.size w ((w.alloc tokO).alloc (tokB 5 a 1)):=((Below.refl _ _).alloc (Nat.le_refl _) _).alloc (by simp) _;have g:=l1copy_all (some ⟨b,a,none⟩) 1 (f-a) ((d.drop a).take 1) ((w.alloc tokO).alloc (tokB 5 a 1)) (by simp;omega) (by simp) ((bin_part C (by omega)).below i);rw[q] at g
 obtain⟨x,K⟩:∃ x,x=d.getD a 0:=⟨_,rfl⟩
 rw[<-K] at R k c g ⊢;rw[<-J] at hn p s ⊢
 have N:digitB x=false:=by rcases c with rfl | rfl | rfl | rfl | rfl | rfl | rfl <;> decide
 have ha:alnumB x=false:=by rcases c with rfl | rfl | rfl | rfl | rfl | rfl | rfl <;> decide
 have P:symbolB x=false:=by rcases c with rfl | rfl | rfl | rfl | rfl | rfl | rfl <;> decide
 have Z:(x == 46)=false:=by rcases c with rfl | rfl | rfl | rfl | rfl | rfl | rfl <;> decide
 have H:=fun W=>digit_any x W k.1 k.2
 have G:=fun W=>alnum_any x W k.1 k.2
 have I:=fun W=>symbol_any x W k.1 k.2
 rw[N] at H;rw[ha] at G;rw[P] at I;have h1:b<w.heap.size:=World.block_lt_of_cell? _ _ R
 have M:¬ f=a:=by omega
 have h2:(0:Int)<=(a:Int):=by omega
 have h3:(0:Int)<=(a:Int)+1:=by omega
 have h4:(a:Int)+1<=(f:Int):=by omega
 have h5:(a:Int)<=(a:Int)+1:=by omega
 have h6:((a:Int)+1).toNat=a+1:=by omega
 have Q:a+1-a=1:=by omega
 have E:((w.alloc tokO).alloc (tokB 5 a 1)).heap[w.heap.size]?=some tokO:=(Below.heap_alloc _ _ _ (by simp)).trans (heap_alloc_new _ _)
 have F:((w.alloc tokO).alloc (tokB 5 a 1)).heap[w.heap.size+1]?=some (tokB 5 a 1):=by
  have:=heap_alloc_new (w.alloc tokO) (tokB 5 a 1)
  rwa[World.size_alloc] at this
 have z:Hid _:=E;have A:Hid _:=F;have y:Hid _:=i;clear L C K N ha P J q i E F
 rcases c with rfl | rfl | rfl | rfl | rfl | rfl | rfl
 all_goals
  go_enter Tryz.func52,Tryz.ntmps52
  go_wp2_with (first | (go_at_call 86;refine(H _).mono ?_;rintro e S ⟨rfl,rfl⟩) | (go_at_call 88;refine(G _).mono ?_;rintro e S ⟨rfl,rfl⟩) | (go_at_call 91;refine(I _).mono ?_;rintro e S ⟨rfl,rfl⟩));refine g.mono ?_;rintro e w5 ⟨t,n5,r,rfl,j,h⟩;obtain⟨⟨T,U,V,X,Y⟩,af⟩:=five_cells ((h.block _ (by simp;omega)).trans z.o);obtain⟨⟨e0,e1,e2,e3,e4⟩,ef⟩:=five_cells ((h.block _ (by simp)).trans A.o);have B:Hid _:=j;have u:Hid _:=h;have D:n5=1:=j.1;subst D;clear j h g;go_wp2_with fail;refine bodyPost_ret (v:=.tuple #[tokV 5 a 1 t 1 r 0,.int .i64 0]) (by simp[results,Tryz.results52,go_sem,T,U,V,X,Y]) rfl ?_;have O:=tok_fin y.o (by simp) u.o B.o (.slice t 1 r) (.int .i64 5) (.int .i64 a) (.int .i64 1) (.slice t 1 r) (.int .i64 0)
  exact⟨t,1,r,rfl,O.1,O.2⟩
theorem tokParen_any (b f a:Nat)(i:Bool)(d:List Int)(w:World)(M:Bytes d)(hn:d.length<=10000)(p:d.length<=f)(s:a<d.length)(C:∀ m,m<d.length->w.cell? ⟨b,m,none⟩=some (.int .u8 (d.getD m 0)))
  (c:d.getD a 0=40) (D:i=false) :
  Calls Tryz.prog 52 #[.slice (some ⟨b,0,none⟩) d.length f,.int .i64 a,.bool i] w (TokSOut w a (.ok (5,1,[d.getD a 0],0))):=by
 subst D
 obtain⟨n,K⟩:∃ n,n=d.length:=⟨_,rfl⟩
 have S:=C a s;have l:=M.at a
 have q:(d.drop a).take 1 = [d.getD a 0]:=by
  rw[List.getD,List.getElem?_eq_getElem s,List.drop_eq_getElem_cons s];rfl
 have j:Below w.heap.size w ((w.alloc tokO).alloc (tokB 5 a 1)):=((Below.refl _ _).alloc (Nat.le_refl _) _).alloc (by simp) _;have g:=l1copy_all (some ⟨b,a,none⟩) 1 (f-a) ((d.drop a).take 1) ((w.alloc tokO).alloc (tokB 5 a 1)) (by simp;omega) (by simp) ((bin_part C (by omega)).below j);rw[q] at g
 obtain⟨x,L⟩:∃ x,x=d.getD a 0:=⟨_,rfl⟩
 rw[<-L] at S l c g ⊢;rw[<-K] at hn p s ⊢
 have O:digitB x=false:=by rw[c];decide
 have ha:alnumB x=false:=by rw[c];decide
 have Q:symbolB x=false:=by rw[c];decide
 have h1:(x == 46)=false:=by rw[c];decide
 have I:=fun W=>digit_any x W l.1 l.2
 have H:=fun W=>alnum_any x W l.1 l.2
 have J:=fun W=>symbol_any x W l.1 l.2
 rw[O] at I;rw[ha] at H;rw[Q] at J;have h2:b<w.heap.size:=World.block_lt_of_cell? _ _ S
 have N:¬ f=a:=by omega
 have h3:(0:Int)<=(a:Int):=by omega
 have h4:(0:Int)<=(a:Int)+1:=by omega
 have h5:(a:Int)+1<=(f:Int):=by omega
 have h6:(a:Int)<=(a:Int)+1:=by omega
 have h7:((a:Int)+1).toNat=a+1:=by omega
 have R:a+1-a=1:=by omega
 have F:((w.alloc tokO).alloc (tokB 5 a 1)).heap[w.heap.size]?=some tokO:=(Below.heap_alloc _ _ _ (by simp)).trans (heap_alloc_new _ _)
 have G:((w.alloc tokO).alloc (tokB 5 a 1)).heap[w.heap.size+1]?=some (tokB 5 a 1):=by
  have:=heap_alloc_new (w.alloc tokO) (tokB 5 a 1)
  rwa[World.size_alloc] at this
 have z:Hid _:=F;have A:Hid _:=G;have y:Hid _:=j;clear M C L O ha Q K q j F G;subst c
 all_goals
  go_enter Tryz.func52,Tryz.ntmps52
  go_wp2_with (first | (go_at_call 86;refine(I _).mono ?_;rintro e T ⟨rfl,rfl⟩) | (go_at_call 88;refine(H _).mono ?_;rintro e T ⟨rfl,rfl⟩) | (go_at_call 91;refine(J _).mono ?_;rintro e T ⟨rfl,rfl⟩));refine g.mono ?_;rintro e w5 ⟨t,n5,r,rfl,k,h⟩;obtain⟨⟨U,V,X,Y,Z⟩,af⟩:=five_cells ((h.block _ (by simp;omega)).trans z.o);obtain⟨⟨e0,e1,e2,e3,e4⟩,ef⟩:=five_cells ((h.block _ (by simp)).trans A.o);have B:Hid _:=k;have u:Hid _:=h;have E:n5=1:=k.1;subst E;clear k h g;go_wp2_with fail;refine bodyPost_ret (v:=.tuple #[tokV 5 a 1 t 1 r 0,.int .i64 0]) (by simp[results,Tryz.results52,go_sem,U,V,X,Y,Z]) rfl ?_;have P:=tok_fin y.o (by simp) u.o B.o (.slice t 1 r) (.int .i64 5) (.int .i64 a) (.int .i64 1) (.slice t 1 r) (.int .i64 0)
  exact⟨t,1,r,rfl,P.1,P.2⟩
theorem tokCall_any (b f a:Nat)(i:Bool)(d:List Int)(w:World)(M:Bytes d)(hn:d.length<=10000)(p:d.length<=f)(s:a<d.length)(C:∀ m,m<d.length->w.cell? ⟨b,m,none⟩=some (.int .u8 (d.getD m 0)))
  (c:d.getD a 0=40) (D:i=true) :
  Calls Tryz.prog 52 #[.slice (some ⟨b,0,none⟩) d.length f,.int .i64 a,.bool i] w (TokSOut w a (.ok (6,1,[d.getD a 0],0))):=by
 subst D
 obtain⟨n,K⟩:∃ n,n=d.length:=⟨_,rfl⟩
 have S:=C a s;have l:=M.at a
 have q:(d.drop a).take 1 = [d.getD a 0]:=by
  rw[List.getD,List.getElem?_eq_getElem s,List.drop_eq_getElem_cons s];rfl
 have j:Below w.heap.size w ((w.alloc tokO).alloc (tokB 6 a 1)):=((Below.refl _ _).alloc (Nat.le_refl _) _).alloc (by simp) _;have g:=l1copy_all (some ⟨b,a,none⟩) 1 (f-a) ((d.drop a).take 1) ((w.alloc tokO).alloc (tokB 6 a 1)) (by simp;omega) (by simp) ((bin_part C (by omega)).below j);rw[q] at g
 obtain⟨x,L⟩:∃ x,x=d.getD a 0:=⟨_,rfl⟩
 rw[<-L] at S l c g ⊢;rw[<-K] at hn p s ⊢
 have O:digitB x=false:=by rw[c];decide
 have ha:alnumB x=false:=by rw[c];decide
 have Q:symbolB x=false:=by rw[c];decide
 have h1:(x == 46)=false:=by rw[c];decide
 have I:=fun W=>digit_any x W l.1 l.2
 have H:=fun W=>alnum_any x W l.1 l.2
 have J:=fun W=>symbol_any x W l.1 l.2
 rw[O] at I;rw[ha] at H;rw[Q] at J;have h2:b<w.heap.size:=World.block_lt_of_cell? _ _ S
 have N:¬ f=a:=by omega
 have h3:(0:Int)<=(a:Int):=by omega
 have h4:(0:Int)<=(a:Int)+1:=by omega
 have h5:(a:Int)+1<=(f:Int):=by omega
 have h6:(a:Int)<=(a:Int)+1:=by omega
 have h7:((a:Int)+1).toNat=a+1:=by omega
 have R:a+1-a=1:=by omega
 have F:((w.alloc tokO).alloc (tokB 6 a 1)).heap[w.heap.size]?=some tokO:=(Below.heap_alloc _ _ _ (by simp)).trans (heap_alloc_new _ _)
 have G:((w.alloc tokO).alloc (tokB 6 a 1)).heap[w.heap.size+1]?=some (tokB 6 a 1):=by
  have:=heap_alloc_new (w.alloc tokO) (tokB 6 a 1)
  rwa[World.size_alloc] at this
 have z:Hid _:=F;have A:Hid _:=G;have y:Hid _:=j;clear M C L O ha Q K q j F G;subst c
 all_goals
  go_enter Tryz.func52,Tryz.ntmps52
  go_wp2_with (first | (go_at_call 86;refine(I _).mono ?_;rintro e T ⟨rfl,rfl⟩) | (go_at_call 88;refine(H _).mono ?_;rintro e T ⟨rfl,rfl⟩) | (go_at_call 91;refine(J _).mono ?_;rintro e T ⟨rfl,rfl⟩));refine g.mono ?_;rintro e w5 ⟨t,n5,r,rfl,k,h⟩;obtain⟨⟨U,V,X,Y,Z⟩,af⟩:=five_cells ((h.block _ (by simp;omega)).trans z.o);obtain⟨⟨e0,e1,e2,e3,e4⟩,ef⟩:=five_cells ((h.block _ (by simp)).trans A.o);have B:Hid _:=k;have u:Hid _:=h;have E:n5=1:=k.1;subst E;clear k h g;go_wp2_with fail;refine bodyPost_ret (v:=.tuple #[tokV 6 a 1 t 1 r 0,.int .i64 0]) (by simp[results,Tryz.results52,go_sem,U,V,X,Y,Z]) rfl ?_;have P:=tok_fin y.o (by simp) u.o B.o (.slice t 1 r) (.int .i64 6) (.int .i64 a) (.int .i64 1) (.slice t 1 r) (.int .i64 0)
  exact⟨t,1,r,rfl,P.1,P.2⟩
theorem num_shape {c:List Int}{a:Nat}{k:Int}{l:Nat}{b:List Int}{v:Int}(h:numR c a = .ok (k,l,b,v)):k=3/\b = []:=by
 unfold numR at h
 split at h
 ·cases h
 ·split at h
  ·cases h
  ·split at h
   ·cases h
   ·cases h;exact⟨rfl,rfl⟩
theorem tok_fin1 {w a d:World}(b:Below w.heap.size w a)(c:Below a.heap.size a d)(u0 u1 u2 u3 u4:Value) :
  Below w.heap.size w (((((d.setCell ⟨w.heap.size,0,none⟩ u0).setCell ⟨w.heap.size,1,none⟩ u1).setCell ⟨w.heap.size,2,none⟩ u2).setCell ⟨w.heap.size,3,none⟩ u3).setCell ⟨w.heap.size,4,none⟩ u4):=by
 have e:Below w.heap.size w d:=Below.on b c;exact((((e.setCell (p:=⟨w.heap.size,0,none⟩) (Nat.le_refl _) u0).setCell (p:=⟨w.heap.size,1,none⟩) (Nat.le_refl _) u1).setCell (p:=⟨w.heap.size,2,none⟩) (Nat.le_refl _) u2).setCell (p:=⟨w.heap.size,3,none⟩) (Nat.le_refl _) u3).setCell (p:=⟨w.heap.size,4,none⟩) (Nat.le_refl _) u4
theorem tok_fin2 {w a c:World}{k:Option Addr}{i g:Nat}{l:List Int}(d:Below w.heap.size w a)(n:a.heap.size=w.heap.size+1+1)(e:Below a.heap.size a c)(f:OwnS c a.heap.size k i g l)(u v u0 u1 u2 u3 u4:Value) :
  OwnS (((((((c.setCell ⟨w.heap.size+1,3,none⟩ u).setCell ⟨w.heap.size+1,2,none⟩ v).setCell ⟨w.heap.size,0,none⟩ u0).setCell ⟨w.heap.size,1,none⟩ u1).setCell ⟨w.heap.size,2,none⟩ u2).setCell ⟨w.heap.size,3,none⟩ u3).setCell ⟨w.heap.size,4,none⟩ u4) w.heap.size k i g l/\
  Below w.heap.size w (((((((c.setCell ⟨w.heap.size+1,3,none⟩ u).setCell ⟨w.heap.size+1,2,none⟩ v).setCell ⟨w.heap.size,0,none⟩ u0).setCell ⟨w.heap.size,1,none⟩ u1).setCell ⟨w.heap.size,2,none⟩ u2).setCell ⟨w.heap.size,3,none⟩ u3).setCell ⟨w.heap.size,4,none⟩ u4):=by
 have b:∀ j,(⟨w.heap.size,j,none⟩:Addr).block<a.heap.size:=fun j=>by show w.heap.size<_;omega
 have h:∀ j,(⟨w.heap.size+1,j,none⟩:Addr).block<a.heap.size:=fun j=>by show w.heap.size+1<_;omega
 refine⟨(((((((f.setLow (h 3) u).setLow (h 2) v).setLow (b 0) u0).setLow (b 1) u1).setLow (b 2) u2).setLow (b 3) u3).setLow (b 4) u4).mono' (by omega),?_⟩;have m:Below w.heap.size w c:=Below.on d e;exact((((((m.setCell (p:=⟨w.heap.size+1,3,none⟩) (Nat.le_succ _) u).setCell (p:=⟨w.heap.size+1,2,none⟩) (Nat.le_succ _) v).setCell (p:=⟨w.heap.size,0,none⟩) (Nat.le_refl _) u0).setCell (p:=⟨w.heap.size,1,none⟩) (Nat.le_refl _) u1).setCell (p:=⟨w.heap.size,2,none⟩) (Nat.le_refl _) u2).setCell (p:=⟨w.heap.size,3,none⟩) (Nat.le_refl _) u3).setCell (p:=⟨w.heap.size,4,none⟩) (Nat.le_refl _) u4
theorem tokNum_any (b h a:Nat)(t:Bool)(d:List Int)(w:World)(D:Bytes d)(N:d.length<=10000)(u:d.length<=h)(F:a<d.length)(y:∀ m,m<d.length->w.cell? ⟨b,m,none⟩=some (.int .u8 (d.getD m 0)))(E:digitB (d.getD a 0)=true) :
  Calls Tryz.prog 52 #[.slice (some ⟨b,0,none⟩) d.length h,.int .i64 a,.bool t] w (TokSOut w a (numR d a)):=by
 have O:=y a F;have G:=D.at a;have g:Below w.heap.size w ((w.alloc tokO).alloc (tokB 1 a 0)):=((Below.refl _ _).alloc (Nat.le_refl _) _).alloc (by simp) _;have f:=numberS_any b h a d ((w.alloc tokO).alloc (tokB 1 a 0)) D N F (fun i M=>(g.cell (World.block_lt_of_cell? _ _ (y i M))).trans (y i M))
 obtain⟨n,J⟩:∃ n,n=d.length:=⟨_,rfl⟩
 obtain⟨x,K⟩:∃ x,x=d.getD a 0:=⟨_,rfl⟩
 rw[<-K] at O G E;rw[<-J] at N u F f ⊢;have X:b<w.heap.size:=World.block_lt_of_cell? _ _ O
 have I:=fun W=>digit_any x W G.1 G.2
 rw[E] at I;have H:((w.alloc tokO).alloc (tokB 1 a 0)).heap[w.heap.size]?=some tokO:=(Below.heap_alloc _ _ _ (by simp)).trans (heap_alloc_new _ _);have B:Hid _:=H;have A:Hid _:=g
 obtain⟨r,C⟩:∃ r,r=numS (numR d a):=⟨_,rfl⟩
 rw[<-C] at f;have P:Hid (r=numS (numR d a)):=C;obtain⟨v,l,V⟩:=r;clear D y K J E C g H
 go_enter Tryz.func52,Tryz.ntmps52
 go_wp2_with (first | (go_at_call 86;refine(I _).mono ?_;rintro e w' ⟨rfl,rfl⟩));refine f.mono ?_;rintro e w5 ⟨rfl,j⟩;obtain⟨⟨Q,R,S,T,U⟩,Y⟩:=five_cells ((j.block _ (by simp;omega)).trans B.o);have z:Hid _:=j;clear j f;simp only;go_wp2_with fail;refine bodyPost_ret (v:=.tuple #[tokV 3 a l none 0 0 v,.int .i64 V]) (by simp[results,Tryz.results52,go_sem,Q,R,S,T,U]) rfl ?_;have L:=tok_fin1 A.o z.o (.int .i64 3) (.int .i64 a) (.int .i64 l) (.slice none 0 0) (.int .i64 v);have s:=P.o
 cases p:numR d a with
 | error c=>
   rw[p] at s;simp only[numS,Prod.mk.injEq] at s;obtain⟨rfl,rfl,rfl⟩:=s;exact⟨3,a,_,_,rfl,L⟩
 | ok q=>
   obtain⟨k,Z,ys,v'⟩:=q;rw[p] at s;simp only[numS,Prod.mk.injEq] at s;obtain⟨rfl,rfl,rfl⟩:=s;obtain⟨rfl,rfl⟩:=num_shape p;exact⟨none,0,0,rfl,OwnS.nil _ _,L⟩
theorem tokQuote_any (b z a:Nat)(I:Bool)(f:List Int)(w:World)(hb:Bytes f)(hn:f.length<=10000)(J:f.length<=z)(T:a<f.length)(S:∀ m,m<f.length->w.cell? ⟨b,m,none⟩=some (.int .u8 (f.getD m 0)))(U:f.getD a 0=39) :
  Calls Tryz.prog 52 #[.slice (some ⟨b,0,none⟩) f.length z,.int .i64 a,.bool I] w (TokSOut w a (quoR f 1 a)):=by
 have hx:=S a T;have t:Below w.heap.size w ((w.alloc tokO).alloc (tokB 1 a 0)):=((Below.refl _ _).alloc (Nat.le_refl _) _).alloc (by simp) _;have g:=textS_any b z a 39 f ((w.alloc tokO).alloc (tokB 1 a 0)) hb hn T U (by omega) (fun i hi=>(t.cell (World.block_lt_of_cell? _ _ (S i hi))).trans (S i hi))
 have k:quoR f 1 a=match txtI f 39 (a+1) [] with
  | none=>.error 2
  | some (C,j)=>if 100<C.length then .error 3 else .ok (1,j-a,C,0):=by rw[quoR,byteI_lt T,U];rfl
 obtain⟨n,en⟩:∃ n,n=f.length:=⟨_,rfl⟩
 rw[U] at hx;rw[<-en] at hn J T g ⊢;have h3:b<w.heap.size:=World.block_lt_of_cell? _ _ hx
 have X:=fun W=>digit_any 39 W (by decide) (by decide)
 have V:=fun W=>alnum_any 39 W (by decide) (by decide)
 have Z:=fun W=>symbol_any 39 W (by decide) (by decide)
 rw[show digitB 39=false from by decide] at X;rw[show alnumB 39=false from by decide] at V;rw[show symbolB 39=false from by decide] at Z;have G1:((w.alloc tokO).alloc (tokB 1 a 0)).heap[w.heap.size]?=some tokO:=(Below.heap_alloc _ _ _ (by simp)).trans (heap_alloc_new _ _)
 have G2:((w.alloc tokO).alloc (tokB 1 a 0)).heap[w.heap.size+1]?=some (tokB 1 a 0):=by
  have:=heap_alloc_new (w.alloc tokO) (tokB 1 a 0)
  rwa[World.size_alloc] at this
 have E:Hid _:=G1;have Y:Hid _:=G2;have u:Hid _:=t;clear hb S en U t G1 G2
 cases q:txtI f 39 (a+1) [] with
 | none=>
   rw[q] at g k;have x:Hid (quoR f 1 a = .error 2):=k;clear q k
   go_enter Tryz.func52,Tryz.ntmps52
   go_wp2_with (first | (go_at_call 86;refine(X _).mono ?_;rintro e M ⟨rfl,rfl⟩) | (go_at_call 88;refine(V _).mono ?_;rintro e M ⟨rfl,rfl⟩) | (go_at_call 91;refine(Z _).mono ?_;rintro e M ⟨rfl,rfl⟩));refine g.mono ?_;rintro e w5 ⟨rfl,c⟩;obtain⟨⟨N,O,P,Q,R⟩,af⟩:=five_cells ((c.block _ (by simp;omega)).trans E.o);have p:Hid _:=c;clear c g;go_wp2_with fail;refine bodyPost_ret (v:=.tuple #[tokV 0 0 0 none 0 0 0,.int .i64 2]) (by simp[results,Tryz.results52,go_sem,N,O,P,Q,R]) rfl ?_;have D:=tok_fin1 u.o p.o (.int .i64 0) (.int .i64 0) (.int .i64 0) (.slice none 0 0) (.int .i64 0);exact tokSOut_of (r:=.error 2) ⟨0,0,0,0,rfl,D⟩ x.o
 | some r=>
   obtain⟨C,j⟩:=r;rw[q] at g k;have x:Hid (quoR f 1 a=if 100<C.length then .error 3 else .ok (1,j-a,C,0)):=k;clear q k
   go_enter Tryz.func52,Tryz.ntmps52
   go_wp2_with (first | (go_at_call 86;refine(X _).mono ?_;rintro e M ⟨rfl,rfl⟩) | (go_at_call 88;refine(V _).mono ?_;rintro e M ⟨rfl,rfl⟩) | (go_at_call 91;refine(Z _).mono ?_;rintro e M ⟨rfl,rfl⟩));refine g.mono ?_;rintro e w5 ⟨L,l,H,rfl,B,c,h1,h2⟩;obtain⟨⟨N,O,P,Q,R⟩,af⟩:=five_cells ((c.block _ (by simp;omega)).trans E.o);obtain⟨⟨e0,e1,e2,e3,e4⟩,ef⟩:=five_cells ((c.block _ (by simp)).trans Y.o);have G:Hid _:=B;have p:Hid _:=c;have F:Hid (l=C.length):=B.1
   obtain⟨d,ed⟩:∃ d,d=j-a:=⟨_,rfl⟩
   rw[<-ed] at x ⊢
   have h5:1<=d:=by omega
   have h6:d<=30001:=by omega
   have h4:((d:Int) == 0)=false:=by simp;omega
   have K:l<=1000000∨True:=.inr trivial;clear B c g ed h1 h2 K
   by_cases s:100<l
   ·have A:(100:Int)<l:=by omega
    have h:=x.o;rw[if_pos (by rw[<-F.o];exact s)] at h;have y:Hid _:=h;clear h x;go_wp2_with fail;refine bodyPost_ret (v:=.tuple #[tokV 0 0 0 none 0 0 0,.int .i64 3]) (by simp[results,Tryz.results52,go_sem,N,O,P,Q,R]) rfl ?_;have D:=tok_fin2 u.o (by simp) p.o G.o (.slice L l H) (.int .i64 d) (.int .i64 0) (.int .i64 0) (.int .i64 0) (.slice none 0 0) (.int .i64 0);exact tokSOut_of (r:=.error 3) ⟨0,0,0,0,rfl,D.2⟩ y.o
   ·have A:¬ (100:Int)<l:=by omega
    have h:=x.o;rw[if_neg (by rw[<-F.o];exact s)] at h;have y:Hid _:=h;clear h x;go_wp2_with fail;refine bodyPost_ret (v:=.tuple #[tokV 1 a d L l H 0,.int .i64 0]) (by simp[results,Tryz.results52,go_sem,N,O,P,Q,R]) rfl ?_;have D:=tok_fin2 u.o (by simp) p.o G.o (.slice L l H) (.int .i64 d) (.int .i64 1) (.int .i64 a) (.int .i64 d) (.slice L l H) (.int .i64 0);exact tokSOut_of (r:=.ok (1,d,C,0)) ⟨L,l,H,rfl,D.1,D.2⟩ y.o
theorem tokString_any (b z a:Nat)(I:Bool)(f:List Int)(w:World)(hb:Bytes f)(hn:f.length<=10000)(J:f.length<=z)(T:a<f.length)(S:∀ m,m<f.length->w.cell? ⟨b,m,none⟩=some (.int .u8 (f.getD m 0)))(U:f.getD a 0=34) :
  Calls Tryz.prog 52 #[.slice (some ⟨b,0,none⟩) f.length z,.int .i64 a,.bool I] w (TokSOut w a (quoR f 4 a)):=by
 have hx:=S a T;have t:Below w.heap.size w ((w.alloc tokO).alloc (tokB 4 a 0)):=((Below.refl _ _).alloc (Nat.le_refl _) _).alloc (by simp) _;have g:=textS_any b z a 34 f ((w.alloc tokO).alloc (tokB 4 a 0)) hb hn T U (by omega) (fun i hi=>(t.cell (World.block_lt_of_cell? _ _ (S i hi))).trans (S i hi))
 have k:quoR f 4 a=match txtI f 34 (a+1) [] with
  | none=>.error 2
  | some (C,j)=>if 100<C.length then .error 3 else .ok (4,j-a,C,0):=by rw[quoR,byteI_lt T,U];rfl
 obtain⟨n,en⟩:∃ n,n=f.length:=⟨_,rfl⟩
 rw[U] at hx;rw[<-en] at hn J T g ⊢;have h3:b<w.heap.size:=World.block_lt_of_cell? _ _ hx
 have X:=fun W=>digit_any 34 W (by decide) (by decide)
 have V:=fun W=>alnum_any 34 W (by decide) (by decide)
 have Z:=fun W=>symbol_any 34 W (by decide) (by decide)
 rw[show digitB 34=false from by decide] at X;rw[show alnumB 34=false from by decide] at V;rw[show symbolB 34=false from by decide] at Z;have G1:((w.alloc tokO).alloc (tokB 4 a 0)).heap[w.heap.size]?=some tokO:=(Below.heap_alloc _ _ _ (by simp)).trans (heap_alloc_new _ _)
 have G2:((w.alloc tokO).alloc (tokB 4 a 0)).heap[w.heap.size+1]?=some (tokB 4 a 0):=by
  have:=heap_alloc_new (w.alloc tokO) (tokB 4 a 0)
  rwa[World.size_alloc] at this
 have E:Hid _:=G1;have Y:Hid _:=G2;have u:Hid _:=t;clear hb S en U t G1 G2
 cases q:txtI f 34 (a+1) [] with
 | none=>
   rw[q] at g k;have x:Hid (quoR f 4 a = .error 2):=k;clear q k
   go_enter Tryz.func52,Tryz.ntmps52
   go_wp2_with (first | (go_at_call 86;refine(X _).mono ?_;rintro e M ⟨rfl,rfl⟩) | (go_at_call 88;refine(V _).mono ?_;rintro e M ⟨rfl,rfl⟩) | (go_at_call 91;refine(Z _).mono ?_;rintro e M ⟨rfl,rfl⟩));refine g.mono ?_;rintro e w5 ⟨rfl,c⟩;obtain⟨⟨N,O,P,Q,R⟩,af⟩:=five_cells ((c.block _ (by simp;omega)).trans E.o);have p:Hid _:=c;clear c g;go_wp2_with fail;refine bodyPost_ret (v:=.tuple #[tokV 0 0 0 none 0 0 0,.int .i64 2]) (by simp[results,Tryz.results52,go_sem,N,O,P,Q,R]) rfl ?_;have D:=tok_fin1 u.o p.o (.int .i64 0) (.int .i64 0) (.int .i64 0) (.slice none 0 0) (.int .i64 0);exact tokSOut_of (r:=.error 2) ⟨0,0,0,0,rfl,D⟩ x.o
 | some r=>
   obtain⟨C,j⟩:=r;rw[q] at g k;have x:Hid (quoR f 4 a=if 100<C.length then .error 3 else .ok (4,j-a,C,0)):=k;clear q k
   go_enter Tryz.func52,Tryz.ntmps52
   go_wp2_with (first | (go_at_call 86;refine(X _).mono ?_;rintro e M ⟨rfl,rfl⟩) | (go_at_call 88;refine(V _).mono ?_;rintro e M ⟨rfl,rfl⟩) | (go_at_call 91;refine(Z _).mono ?_;rintro e M ⟨rfl,rfl⟩));refine g.mono ?_;rintro e w5 ⟨L,l,H,rfl,B,c,h1,h2⟩;obtain⟨⟨N,O,P,Q,R⟩,af⟩:=five_cells ((c.block _ (by simp;omega)).trans E.o);obtain⟨⟨e0,e1,e2,e3,e4⟩,ef⟩:=five_cells ((c.block _ (by simp)).trans Y.o);have G:Hid _:=B;have p:Hid _:=c;have F:Hid (l=C.length):=B.1
   obtain⟨d,ed⟩:∃ d,d=j-a:=⟨_,rfl⟩
   rw[<-ed] at x ⊢
   have h5:1<=d:=by omega
   have h6:d<=30001:=by omega
   have h4:((d:Int) == 0)=false:=by simp;omega
   have K:l<=1000000∨True:=.inr trivial;clear B c g ed h1 h2 K
   by_cases s:100<l
   ·have A:(100:Int)<l:=by omega
    have h:=x.o;rw[if_pos (by rw[<-F.o];exact s)] at h;have y:Hid _:=h;clear h x;go_wp2_with fail;refine bodyPost_ret (v:=.tuple #[tokV 0 0 0 none 0 0 0,.int .i64 3]) (by simp[results,Tryz.results52,go_sem,N,O,P,Q,R]) rfl ?_;have D:=tok_fin2 u.o (by simp) p.o G.o (.slice L l H) (.int .i64 d) (.int .i64 0) (.int .i64 0) (.int .i64 0) (.slice none 0 0) (.int .i64 0);exact tokSOut_of (r:=.error 3) ⟨0,0,0,0,rfl,D.2⟩ y.o
   ·have A:¬ (100:Int)<l:=by omega
    have h:=x.o;rw[if_neg (by rw[<-F.o];exact s)] at h;have y:Hid _:=h;clear h x;go_wp2_with fail;refine bodyPost_ret (v:=.tuple #[tokV 4 a d L l H 0,.int .i64 0]) (by simp[results,Tryz.results52,go_sem,N,O,P,Q,R]) rfl ?_;have D:=tok_fin2 u.o (by simp) p.o G.o (.slice L l H) (.int .i64 d) (.int .i64 4) (.int .i64 a) (.int .i64 d) (.slice L l H) (.int .i64 0);exact tokSOut_of (r:=.ok (4,d,C,0)) ⟨L,l,H,rfl,D.1,D.2⟩ y.o
end Go.Proofs.YtlkhmmoimplokaaGreatDoor
