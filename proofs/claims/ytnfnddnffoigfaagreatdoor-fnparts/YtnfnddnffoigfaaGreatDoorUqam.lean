/- Texts of CoS, Dt2, Dt4, Dt5. Own work of the verifier. -/
import Derived.Test.YtnfnddnffoigfaaGreatDoorUqal
namespace Go.Proofs.YtnfnddnffoigfaaGreatDoor
set_option maxHeartbeats 4000000
set_option maxRecDepth 100000
open Go Go.RowKit
set_option linter.unusedVariables false
theorem own_one {w:World}{B g l f:Nat}{k n:Int}{c:Option Addr}{s:List Int}(o:w.heap[g]?=some (.cells #[.int .i64 k,.int .i64 n,.slice c l f] 27))(m:B<=g)(q:OwnT w B c l f s)(d:∀ a,c=some a->a.block≠g):OwnC w B (some ⟨g,0,none⟩) 1 1 [(k,n,s)]:=by
 refine⟨rfl,[(k,n,c,l,f)],rfl,⟨rfl,.inr ⟨g,1,_,rfl,m,o,Nat.le_refl _,by decide,rfl,rfl⟩⟩,fun i b=>?_,?_⟩
 ·obtain rfl:i=0:=by simp at b;omega
  exact⟨rfl,rfl,q⟩
 ·refine⟨fun i b h=>?_,fun i j b p h=>?_⟩
  ·obtain rfl:i=0:=by simp at b;omega
   exact fun e=>d _ e rfl
  ·simp at b p
   omega
theorem l2atomS_any (s:List Int)(v:Byte s)(w:World):Calls Tryz.prog 105 #[.string (strOfNums s)] w fun e m=>∃ p,e = .returned (.slice p 1 1)/\CIn m p [(2,0,s)]/\Below w.heap.size w m:=by
 obtain⟨b,a,h,c,k⟩:=conv_bytes w s v 9 Tryz.underlying9
 obtain⟨l,f⟩:∃ l,l=s.length:=⟨_,rfl⟩
 rw[<-f] at h k;have g:Below b.heap.size b (b.alloc (Obj.cells #[Value.int IntKind.i64 2,Value.int IntKind.i64 0,Value.slice (some ⟨w.heap.size,0,none⟩) l a] 27)):=(Below.refl _ _).alloc (Nat.le_refl _) _;have d:Hid (Box3 (b.alloc (Obj.cells #[Value.int IntKind.i64 2,Value.int IntKind.i64 0,Value.slice (some ⟨w.heap.size,0,none⟩) l a] 27)) b.heap.size (.int .i64 2) (.int .i64 0) (.slice (some ⟨w.heap.size,0,none⟩) l a)):=Box3.of_block (t:=27) (heap_alloc_new b _);have r:Hid _:=(k.below g).bin;have q:=hid f;have n:=hid (Below.on c g);clear c k g f
 go_enter Tryz.func105,Tryz.ntmps105
 go_wp2_with fail;go_ret;refine⟨_,rfl,fun _=>⟨b.heap.size,0,rfl,fun i u=>?_⟩,n.o⟩
 have j:i=0:=by simp at u;omega
 subst j;exact⟨_,a,d.o.1,d.o.2.1,by show _=some (Value.slice (some ⟨w.heap.size,0,none⟩) s.length a);rw[<-q.o];exact d.o.2.2.1,r.o⟩
def RowsIn (w:World)(g:Nat)(dss:List (List Cel)):Prop:=∀ j,j<dss.length->∃ q c,w.cell? ⟨g,j,none⟩=some (.slice q (dss.getD j []).length c)/\CIn w q (dss.getD j [])/\0<(dss.getD j []).length/\(dss.getD j []).length+tl (dss.getD j [])<=100000
theorem RowsIn.below {w w':World}{g:Nat}{a:List (List Cel)}(h:RowsIn w g a)(d:Below w.heap.size w w'):RowsIn w' g a:=fun j i=>by
 obtain⟨q,c,b,e,f⟩:=h j i;exact⟨q,c,(d.cell (World.block_lt_of_cell? _ _ b)).trans b,e.below d,f⟩
theorem l2comp_any (s:List Int)(hs:Byte s)(g n c:Nat)(a:List (List Cel))(w:World)(hn:n=a.length)(h2:n<=20)(hr:RowsIn w g a) :
  Calls Tryz.prog 108 #[.string (strOfNums s),.slice (some ⟨g,0,none⟩) n c] w fun e w'=>∃ q m c2,e = .returned (.slice q m c2)/\OwnC w' w.heap.size q m c2 ((3,(n:Int),s) :: a.flatten)/\Below w.heap.size w w':=by
 obtain⟨k,b,V,t,J⟩:=conv_bytes w s hs 9 Tryz.underlying9
 obtain⟨l,el⟩:∃ l,l=s.length:=⟨_,rfl⟩
 rw[<-el] at V J
 have G:w.heap.size<k.heap.size∨l=0:=by
  rcases Nat.eq_zero_or_pos l with h | h
  ·exact .inr h
  ·obtain⟨g',e,_,h3,_⟩:=J.2 h
   cases e
   exact .inl h3
 have u:Below k.heap.size k (k.alloc (Obj.cells #[Value.int IntKind.i64 3,Value.int IntKind.i64 n,Value.slice (some ⟨w.heap.size,0,none⟩) l b] 27)):=(Below.refl _ _).alloc (Nat.le_refl _) _;have N:=hid (Below.on t u)
 have R:Hid (OwnC (k.alloc (Obj.cells #[Value.int IntKind.i64 3,Value.int IntKind.i64 n,Value.slice (some ⟨w.heap.size,0,none⟩) l b] 27)) w.heap.size (some ⟨k.heap.size,0,none⟩) 1 1 [(3,(n:Int),s)]):=by
  refine⟨rfl,[(3,(n:Int),some ⟨w.heap.size,0,none⟩,l,b)],rfl,⟨rfl,.inr ⟨k.heap.size,1,_,rfl,t.size,heap_alloc_new k _,Nat.le_refl _,by decide,rfl,rfl⟩⟩,fun i F=>?_,fun i F h=>?_,fun i j F hj h=>?_⟩
  ·obtain rfl:i=0:=by simp at F;omega
   exact⟨rfl,rfl,J.below u⟩
  ·obtain rfl:i=0:=by simp at F;omega
   intro e
   have e2:w.heap.size=k.heap.size:=congrArg Addr.block (Option.some.inj e);have h':0<l:=h
   omega
  ·simp at F hj
   omega
 have HR:=hid hr;have HN:=hid hn;clear t J u G el hr hn
 go_enter Tryz.func108,Tryz.ntmps108
 go_wp2_with fail
 go_loopw [5,6] (fun r i wr=>∃ (j:Nat) (q:Option Addr) (m C:Nat),j<=n/\m<=1+j * 100000/\i = .int .i64 j/\r = .slice q m C/\Hid (OwnC wr w.heap.size q m C ((3,(n:Int),s) :: (a.take j).flatten))/\Hid (Below w.heap.size w wr)) (fun _ i _=>n-(intOf i).toNat)
 case atStart=>exact⟨0,_,1,1,Nat.zero_le _,by omega,rfl,rfl,R,N⟩
 case round=>
  obtain⟨j,q,m,C,hj,hm,rfl,rfl,HO,y⟩:=hrel
  by_cases W:j<n
  ·have v:j<a.length:=by rw[<-HN.o];exact W
   obtain⟨qi,ci,L,x1,x2,x3⟩:=HR.o j v
   obtain⟨I,f⟩:∃ I,I=(a.getD j []).length:=⟨_,rfl⟩
   rw[<-f] at L x2;have y0:=(y.o.cell (World.block_lt_of_cell? _ _ L)).trans L;have A:=l2copy_any qi I ci (a.getD j []) wr f (by omega) (x1.below y.o);have O:=hid f
   have h4:I<=100000:=by omega
   have T:Hid ((a.take (j+1)).flatten=(a.take j).flatten ++ a.getD j []):=by
    show _=_
    rw[List.take_succ_eq_append_getElem v,List.flatten_append]
    simp[List.getD,v]
   have U:w.heap.size<=wr.heap.size:=y.o.size;clear L x1 x3 f;go_wp2_with fail;refine A.mono ?_;rintro e w3 ⟨q3,K,c3,rfl,x,D⟩;have P:=hid x;have z:=hid D
   have B:Hid (K=I):=by show _=_;rw[x.1,O.o]
   have X:0<K:=by have:=B.o;omega
   have h1:K<=100000:=by have:=B.o;omega
   clear x D A;go_wp2_with (at_builtin;refine app_cells wr w3 rfl _ _ rfl w.heap.size q m C _ rfl HO.o z.o U q3 K c3 _ rfl P.o X (by omega) ?_;intro g4 Z p w4 d E Y)
   have Q:Hid (OwnC w4 w.heap.size (some ⟨g4,0,none⟩) Z p ((3,(n:Int),s) :: (a.take (j+1)).flatten)):=by rw[T.o];exact d
   have M:Hid (Below w.heap.size w w4):=(Below.on y.o z.o).trans E
   have H:Z<=1+(j+1) * 100000:=by have:=Y.o;omega
   clear d E;go_roundw
   case rel=>exact⟨j+1,_,Z,p,by omega,H,by go_num,rfl,Q,M⟩
   case measure=>simp[intOf];omega
  ·obtain rfl:j=n:=by omega
   have S:Hid (OwnC wr w.heap.size q m C ((3,(j:Int),s) :: a.flatten)):=by have:=HO.o;rwa[List.take_of_length_le (by rw[<-HN.o];exact Nat.le_refl _)] at this
   go_wp2_with fail;go_ret;exact⟨_,_,_,rfl,S.o,y.o⟩
theorem rows_one {w:World}{g c:Nat}{q:Option Addr}{a:List Cel}(h:w.cell? ⟨g,0,none⟩=some (.slice q a.length c))(d:CIn w q a)(b:0<a.length)(f:a.length+tl a<=100000):RowsIn w g [a]:=fun j e=>by
 obtain rfl:j=0:=by simp at e;omega
 exact⟨q,c,h,d,b,f⟩
theorem rows_two {w:World}{g c c':Nat}{q q':Option Addr}{b a:List Cel}(h:w.cell? ⟨g,0,none⟩=some (.slice q b.length c))(l:CIn w q b)(k:0<b.length)(n:b.length+tl b<=100000)
  (i:w.cell? ⟨g,1,none⟩=some (.slice q' a.length c')) (e:CIn w q' a) (d:0<a.length) (f:a.length+tl a<=100000):RowsIn w g [b,a]:=fun j m=>by
 rcases(by simp at m;omega:j=0∨j=1) with rfl | rfl
 ·exact⟨q,c,h,l,k,n⟩
 ·exact⟨q',c',i,e,d,f⟩
theorem l2pair_any (s:List Int)(G:Byte s)(g h:Option Addr)(v x i j:Nat)(b d:List Cel)(w:World)(t:v=b.length)(u:x=d.length)(ha:CIn w g b)(C:CIn w h d)(k:0<b.length)(n:0<d.length)(l:b.length+tl b<=100000)(r:d.length+tl d<=100000) :
  Calls Tryz.prog 107 #[.string (strOfNums s),.slice g v i,.slice h x j] w fun e E=>∃ q m y,e = .returned (.slice q m y)/\OwnC E w.heap.size q m y ((3,2,s) :: (b ++ d))/\Below w.heap.size w E:=by
 have a:Below w.heap.size w (w.alloc (.cells #[.slice g v i,.slice h x j] 23)):=(Below.refl _ _).alloc (Nat.le_refl _) _;have f:=heap_alloc_new w (Obj.cells #[.slice g v i,.slice h x j] 23);have B:=l2comp_any s G w.heap.size 2 2 [b,d] (w.alloc (.cells #[.slice g v i,.slice h x j] 23)) rfl (by decide) (rows_two (q:=g) (c:=i) (q':=h) (c':=j) (by rw[<-t];exact cell_of_row _ _ 0 _ _ _ f) (ha.below a) k l (by rw[<-u];exact cell_of_row _ _ 1 _ _ _ f) (C.below a) n r);have A:=hid a;clear ha C a f t u k n l r
 go_enter Tryz.func107,Tryz.ntmps107
 go_wp2_with fail;refine B.mono ?_;rintro e H ⟨q,m,y,rfl,D,p⟩
 have F:Hid (OwnC H w.heap.size q m y ((3,2,s) :: (b ++ d))):=by
  have:=D.mono A.o.size
  show OwnC _ _ _ _ _ _
  simpa using this
 have z:=hid (Below.on A.o p);clear D p B;go_wp2_with fail;go_ret;exact⟨_,_,_,rfl,F.o,z.o⟩
theorem RdIn.grow {w a:World}{R:Nat}{p:Option Addr}{c:Nat}{b:List Int}{i:Nat}(h:RdIn w R p c b i)(k:Below w.heap.size w a):RdIn a R p c b i:=h.below k h.lt
theorem left_any (R c i:Nat)(p:Option Addr)(d:List Int)(w:World)(h:RdIn w R p c d i) :
  Calls Tryz.prog 100 #[.pointer (some ⟨R,0,none⟩)] w fun e l=>e = .returned (.int .i64 ((d.length-i:Nat):Int))/\Below w.heap.size w l:=by
 have f:=h.at0;have o:=h.at1;have k:=h.small;have j:=h.le
 obtain⟨n,b⟩:∃ n,n=d.length:=⟨_,rfl⟩
 rw[<-b] at f k j ⊢;have m:=hid b
 have a:((n-i:Nat):Int)=(n:Int)-i:=by omega
 rw[a];have g:Below w.heap.size w w.drew:=below_drewN (Below.refl _ _) 1;clear h b a
 go_enter Tryz.func100,Tryz.ntmps100
 go_wp2
 go_region
 all_goals go_wp2
 all_goals go_ret
 all_goals exact⟨rfl,g⟩
def oddV:List Value:=oddI.map (fun n=>.int .i64 n)
theorem intD_rng (x:Nat) : -1000000000000000<=intD x/\intD x<=1000000000000000:=by
 unfold intD
 split
 ·have h:∀ j,j<8->-1000000000000000<=oddI.getD j 0/\oddI.getD j 0<=1000000000000000:=by decide
  exact h _ (by omega)
 ·omega
theorem odd_at:∀ (j:Nat) (h:j<8),(#[.int .i64 0,.int .i64 1,.int .i64 (-1),.int .i64 42,.int .i64 1000000000000000,.int .i64 (-1000000000000000),.int .i64 255,.int .i64 1000000]:Array Value)[j]'h = .int .i64 (oddI.getD j 0)
 | 0,_=>rfl
 | 1,_=>rfl
 | 2,_=>rfl
 | 3,_=>rfl
 | 4,_=>rfl
 | 5,_=>rfl
 | 6,_=>rfl
 | 7,_=>rfl
theorem l4int_any (R c i:Nat)(p:Option Addr)(a:List Int)(w:World)(h:RdIn w R p c a i) :
  Calls Tryz.prog 102 #[.pointer (some ⟨R,0,none⟩)] w fun e A=>e = .returned (.int .i64 (intD (rdI a i).toNat))/\Keep R (R+1) w A/\RdIn A R p c a (rdN a i):=by
 have B:=hid h;have D:=rdI_rng h.bytes i;clear h
 go_enter Tryz.func102,Tryz.ntmps102
 go_wp2_with fail;refine(next_any R c i p a w B.o).mono ?_;rintro e u ⟨rfl,l,r,f⟩;have C:=hid f
 obtain⟨x,t⟩:∃ x:Nat,rdI a i=x:=⟨(rdI a i).toNat,by omega⟩
 rw[t] at D ⊢
 obtain⟨m,s⟩:∃ m,m=u.alloc (.cells oddV.toArray 3):=⟨_,rfl⟩
 have d:Below u.heap.size u m:=by rw[s];exact(Below.refl _ _).alloc (Nat.le_refl _) _
 have n:Hid (Keep R (R+1) w m/\RdIn m R p c a (rdN a i)):=⟨l.trans (Keep.of_below d),f.grow d⟩
 have y:Hid ((rdI a i).toNat=x):=by show _=_;rw[t];exact Int.toNat_natCast x
 have b:m=u.alloc (Obj.cells #[.int .i64 0,.int .i64 1,.int .i64 (-1),.int .i64 42,.int .i64 1000000000000000,.int .i64 (-1000000000000000),.int .i64 255,.int .i64 1000000] 3):=by rw[s];rfl
 by_cases q:x<40
 ·obtain⟨j,k⟩:∃ j,j=x % 8:=⟨_,rfl⟩
  have z:j<8:=by omega
  have v:Hid (intD x=oddI.getD j 0):=by show _=_;rw[k,intD,if_pos q]
  have g:(x:Int).tmod 8=(j:Int):=by rw[k,Int.tmod_eq_emod_of_nonneg (by omega)];rfl
  clear k d l f t r;go_wp2_with fail;rw[<-b] at *;clear s b;go_wp2_with fail;go_ret;refine⟨?_,n.o⟩;rw[y.o,v.o];exact congrArg Ending.returned (odd_at j z)
 ·have g:(x:Int).tmod 12=((x % 12:Nat):Int):=by rw[Int.tmod_eq_emod_of_nonneg (by omega)];rfl
  obtain⟨j,k⟩:∃ j,j=x % 12:=⟨_,rfl⟩
  have z:j<12:=by omega
  have v:Hid (intD x=(j:Int)-2):=by show _=_;rw[k,intD,if_neg q]
  rw[<-k] at g;clear k d l f t r;go_wp2_with fail;rw[<-b] at *;clear s b;go_wp2_with fail;go_ret;refine⟨?_,n.o⟩;rw[y.o,v.o]
  rfl
theorem own_leaf (w:World)(k n:Int):OwnC (w.alloc (Obj.cells #[Value.int IntKind.i64 k,Value.int IntKind.i64 n,Value.slice none 0 0] 27)) w.heap.size (some ⟨w.heap.size,0,none⟩) 1 1 [(k,n,[])]:=
 own_one (heap_alloc_new w _) (Nat.le_refl _) ⟨rfl,fun h=>absurd h (by decide)⟩ (fun a h=>by cases h)
theorem l2numO_any (n:Int)(w:World):Calls Tryz.prog 101 #[.int .i64 n] w fun e a=>e = .returned (.slice (some ⟨w.heap.size,0,none⟩) 1 1)/\OwnC a w.heap.size (some ⟨w.heap.size,0,none⟩) 1 1 [(1,n,[])]/\Below w.heap.size w a:=by
 have b:Hid _:=own_leaf w 1 n
 go_enter Tryz.func101,Tryz.ntmps101
 go_wp2_with fail;go_ret;exact⟨rfl,b.o,(Below.refl _ _).alloc (Nat.le_refl _) _⟩
theorem l2varO_any (n:Int)(w:World):Calls Tryz.prog 103 #[.int .i64 n] w fun e a=>e = .returned (.slice (some ⟨w.heap.size,0,none⟩) 1 1)/\OwnC a w.heap.size (some ⟨w.heap.size,0,none⟩) 1 1 [(0,n,[])]/\Below w.heap.size w a:=by
 have b:Hid _:=own_leaf w 0 n
 go_enter Tryz.func103,Tryz.ntmps103
 go_wp2_with fail;go_ret;exact⟨rfl,b.o,(Below.refl _ _).alloc (Nat.le_refl _) _⟩
def TermOut (w:World)(R:Nat)(p:Option Addr)(c:Nat)(xs:List Int)(res:List Cel×Nat)(e:Ending)(w':World):Prop:=
 ∃ q n cap,e = .returned (.slice q n cap)/\OwnC w' w.heap.size q n cap res.1/\Keep R (R+1) w w'/\RdIn w' R p c xs res.2
theorem TermOut.of {w W b:World}{R:Nat}{p:Option Addr}{c:Nat}{g:List Int}{d:List Cel}{i:Nat}{q:Option Addr}{n a:Nat}(f:Keep R (R+1) w W)(j:RdIn W R p c g i)(h:OwnC b W.heap.size q n a d)(e:Below W.heap.size W b):TermOut w R p c g (d,i) (.returned (.slice q n a)) b:=
 ⟨q,n,a,rfl,h.mono f.size,f.trans (Keep.of_below e),j.grow e⟩
theorem own_oneN {w:World}{B g c l:Nat}{k n:Int}{d:Option Addr}{s:List Int}(o:w.heap[g]?=some (.cells #[.int .i64 k,.int .i64 n,.slice d c l] 27))(m:B<=g)(q:OwnT w B d c l s)(f:0<c->∀ a,d=some a->a.block≠g):OwnC w B (some ⟨g,0,none⟩) 1 1 [(k,n,s)]:=by
 refine⟨rfl,[(k,n,d,c,l)],rfl,⟨rfl,.inr ⟨g,1,_,rfl,m,o,Nat.le_refl _,by decide,rfl,rfl⟩⟩,fun i b=>?_,?_⟩
 ·obtain rfl:i=0:=by simp at b;omega
  exact⟨rfl,rfl,q⟩
 ·refine⟨fun i b h=>?_,fun i j b p h=>?_⟩
  ·obtain rfl:i=0:=by simp at b;omega
   exact fun e=>f h _ e rfl
  ·simp at b p
   omega
theorem term_low (R c i:Nat)(p:Option Addr)(b:List Int)(D:Int)(w:World)(h:RdIn w R p c b i)(hD : -10<=D/\D<=10)(hc:D<=0) :
  Calls Tryz.prog 34 #[.pointer (some ⟨R,0,none⟩),.int .i64 D] w (TermOut w R p c b (leafT b (rdI b i).toNat (rdN b i))):=by
 have HH:=hid h;have hr:=rdI_rng h.bytes i;have Q:=rdN_le h.le;have h5:=h.small;have I:=rdI_rng h.bytes (rdN b i)
 obtain⟨n,Z⟩:∃ n,n=b.length:=⟨_,rfl⟩
 rw[<-Z] at Q h5;have h6:=hid Z
 obtain⟨d,X⟩:∃ d,d=rdN b i:=⟨_,rfl⟩
 rw[<-X] at Q I ⊢;have U:=hid X;have hd:decide (D<=0)=true:=decide_eq_true hc;clear h Z X
 go_enter Tryz.func34,Tryz.ntmps34
 go_wp2_with fail;refine(next_any R c i p b w HH.o).mono ?_;rintro e S ⟨rfl,P,h4,N⟩;have u:=hid P
 have v:Hid (RdIn S R p c b d):=by rw[U.o];exact N
 obtain⟨x,ex⟩:∃ x:Nat,rdI b i=x:=⟨(rdI b i).toNat,by omega⟩
 rw[ex] at hr ⊢
 have HX:Hid ((rdI b i).toNat=x):=by show _=_;rw[ex];exact Int.toNat_natCast x
 obtain⟨j,Y⟩:∃ j,j=x % 5:=⟨_,rfl⟩
 have hj:j<5:=by omega
 have hm:(x:Int).tmod 5=(j:Int):=by rw[Y,Int.tmod_eq_emod_of_nonneg (by omega)];rfl
 have C:=hid Y;have e1:((x:Nat):Int).toNat=x:=Int.toNat_natCast x;have A:=hid HX.o;clear P h4 N ex Y
 rcases(by omega:j=0∨j=1∨j=2∨3<=j) with hj0 | hj0 | hj0 | hj0
 ·have G:((j:Int) == 0)=true:=by rw[hj0];rfl
  have B:Hid (leafT b x d=([(1,intD (rdI b d).toNat,[])],rdN b d)):=by show _=_;rw[leafT,if_pos (by rw[<-C.o];exact hj0)]
  clear hj0;go_wp2_with fail;refine(l4int_any R c d p b S v.o).mono ?_;rintro e s ⟨rfl,f,k⟩;have q:=hid (u.o.trans f);have r:=hid k;clear f k;go_wp2_with fail;refine(l2numO_any _ s).mono ?_;rintro e w4 ⟨rfl,m,l⟩;have t:Hid _:=TermOut.of q.o r.o m l;clear m l;go_wp2_with fail;go_ret;rw[A.o,B.o];exact t.o
 ·have G:((j:Int) == 0)=false:=by rw[hj0];rfl
  have O:decide ((j:Int)<3)=true:=by rw[hj0];rfl
  have B:Hid (leafT b x d=([(0,(((rdI b d).toNat % 5:Nat):Int),[])],rdN b d)):=by show _=_;rw[leafT,if_neg (by rw[<-C.o,hj0];decide),if_pos (by rw[<-C.o,hj0];decide)]
  clear hj0;go_wp2_with fail;refine(next_any R c d p b S v.o).mono ?_;rintro e s ⟨rfl,f,J,k⟩;have q:=hid (u.o.trans f);have r:=hid k
  obtain⟨y,E⟩:∃ y:Nat,rdI b d=y:=⟨(rdI b d).toNat,by omega⟩
  rw[E] at I ⊢
  obtain⟨z,F⟩:∃ z,z=y % 5:=⟨_,rfl⟩
  have hz:z<5:=by omega
  have h2:(y:Int).tmod 5=(z:Int):=by rw[F,Int.tmod_eq_emod_of_nonneg (by omega)];rfl
  have W:Hid (([(0,(((rdI b d).toNat % 5:Nat):Int),[])]:List Cel) = [(0,(z:Int),[])]):=by show _=_;rw[E,Int.toNat_natCast,F]
  clear f J k E F;go_wp2_with fail;refine(l2varO_any _ s).mono ?_;rintro e w4 ⟨rfl,m,l⟩;have t:Hid _:=TermOut.of q.o r.o m l;clear m l;go_wp2_with fail;go_ret;rw[A.o,B.o,W.o];exact t.o
 ·have G:((j:Int) == 0)=false:=by rw[hj0];rfl
  have O:decide ((j:Int)<3)=true:=by rw[hj0];rfl
  have B:Hid (leafT b x d=([(0,(((rdI b d).toNat % 5:Nat):Int),[])],rdN b d)):=by show _=_;rw[leafT,if_neg (by rw[<-C.o,hj0];decide),if_pos (by rw[<-C.o,hj0];decide)]
  clear hj0;go_wp2_with fail;refine(next_any R c d p b S v.o).mono ?_;rintro e s ⟨rfl,f,J,k⟩;have q:=hid (u.o.trans f);have r:=hid k
  obtain⟨y,E⟩:∃ y:Nat,rdI b d=y:=⟨(rdI b d).toNat,by omega⟩
  rw[E] at I ⊢
  obtain⟨z,F⟩:∃ z,z=y % 5:=⟨_,rfl⟩
  have hz:z<5:=by omega
  have h2:(y:Int).tmod 5=(z:Int):=by rw[F,Int.tmod_eq_emod_of_nonneg (by omega)];rfl
  have W:Hid (([(0,(((rdI b d).toNat % 5:Nat):Int),[])]:List Cel) = [(0,(z:Int),[])]):=by show _=_;rw[E,Int.toNat_natCast,F]
  clear f J k E F;go_wp2_with fail;refine(l2varO_any _ s).mono ?_;rintro e w4 ⟨rfl,m,l⟩;have t:Hid _:=TermOut.of q.o r.o m l;clear m l;go_wp2_with fail;go_ret;rw[A.o,B.o,W.o];exact t.o
 ·have G:((j:Int) == 0)=false:=by simp;omega
  have O:decide ((j:Int)<3)=false:=by simp;omega
  have B:Hid (leafT b x d=([(2,0,numsU (nameAt (rdI b d).toNat))],rdN b d)):=by show _=_;rw[leafT,if_neg (by rw[<-C.o];omega),if_neg (by rw[<-C.o];omega)]
  clear hj0;go_wp2_with fail;refine(l4name_any R c d p b S v.o).mono ?_;rintro e s ⟨g,n3,M,rfl,h3,f,k,hg,T⟩;have q:=hid (u.o.trans f);have r:=hid k;have h7:=hid T;have L:=hid u.o.size;have H:Below s.heap.size s (s.alloc (Obj.cells #[Value.int IntKind.i64 2,Value.int IntKind.i64 0,Value.slice (some ⟨g,0,none⟩) n3 M] 27)):=(Below.refl _ _).alloc (Nat.le_refl _) _
  have V:Hid (OwnC (s.alloc (Obj.cells #[Value.int IntKind.i64 2,Value.int IntKind.i64 0,Value.slice (some ⟨g,0,none⟩) n3 M] 27)) w.heap.size (some ⟨s.heap.size,0,none⟩) 1 1 [(2,0,numsU (nameAt (rdI b d).toNat))]):=by
   refine own_oneN (heap_alloc_new s _) (Nat.le_trans L.o f.size) ((T.mono L.o).below H) (fun h0 a ea=>?_);obtain⟨g',eg,h8,h1,h9⟩:=T.2 h0
   cases eg
   cases ea
   exact Nat.ne_of_lt h1
  have K:Hid _:=H;clear f k T H hg h3;go_wp2_with fail;go_ret;rw[A.o,B.o];exact⟨_,_,_,rfl,V.o,q.o.trans (Keep.of_below K.o),r.o.grow K.o⟩
theorem term_end (R c i:Nat)(p:Option Addr)(b:List Int)(D:Int)(w:World)(h:RdIn w R p c b i)(hD : -10<=D/\D<=10)(hc:0<D)(P:rdN b i=b.length) :
  Calls Tryz.prog 34 #[.pointer (some ⟨R,0,none⟩),.int .i64 D] w (TermOut w R p c b (leafT b (rdI b i).toNat (rdN b i))):=by
 have HH:=hid h;have hr:=rdI_rng h.bytes i;have U:=rdN_le h.le;have h9:=h.small;have J:=rdI_rng h.bytes (rdN b i)
 obtain⟨n,W⟩:∃ n,n=b.length:=⟨_,rfl⟩
 rw[<-W] at U h9;have h2:=hid W
 obtain⟨d,V⟩:∃ d,d=rdN b i:=⟨_,rfl⟩
 rw[<-V] at U J ⊢;have h1:=hid V;have hd:decide (D<=0)=false:=decide_eq_false (by omega);rw[<-V,<-W] at P;have H0:=hid P;clear P;clear h W V
 go_enter Tryz.func34,Tryz.ntmps34
 go_wp2_with fail;refine(next_any R c i p b w HH.o).mono ?_;rintro e w2 ⟨rfl,T,h8,Q⟩;have h3:=hid T
 have N:Hid (RdIn w2 R p c b d):=by rw[h1.o];exact Q
 obtain⟨x,ex⟩:∃ x:Nat,rdI b i=x:=⟨(rdI b i).toNat,by omega⟩
 rw[ex] at hr ⊢
 have HX:Hid ((rdI b i).toNat=x):=by show _=_;rw[ex];exact Int.toNat_natCast x
 obtain⟨j,ej⟩:∃ j,j=x % 5:=⟨_,rfl⟩
 have hj:j<5:=by omega
 have hm:(x:Int).tmod 5=(j:Int):=by rw[ej,Int.tmod_eq_emod_of_nonneg (by omega)];rfl
 have C:=hid ej;have e5:((x:Nat):Int).toNat=x:=Int.toNat_natCast x;have A:=hid HX.o;clear T h8 Q ex ej;go_wp2_with fail;refine(left_any R c d p b w2 N.o).mono ?_;rintro e Z ⟨rfl,I⟩;have v:=hid (N.o.grow I);have u:=hid (h3.o.trans (Keep.of_below I));rw[<-h2.o]
 obtain⟨Y,el⟩:∃ Y,Y=n-d:=⟨_,rfl⟩
 rw[<-el]
 have e4:Y<=500:=by omega
 clear I
 have e6:((Y:Int) == 0)=true:=by rw[el,H0.o,Nat.sub_self];rfl
 clear el
 rcases(by omega:j=0∨j=1∨j=2∨3<=j) with hj0 | hj0 | hj0 | hj0
 ·have G:((j:Int) == 0)=true:=by rw[hj0];rfl
  have B:Hid (leafT b x d=([(1,intD (rdI b d).toNat,[])],rdN b d)):=by show _=_;rw[leafT,if_pos (by rw[<-C.o];exact hj0)]
  clear hj0;go_wp2_with fail;refine(l4int_any R c d p b Z v.o).mono ?_;rintro e s ⟨rfl,f,k⟩;have q:=hid (u.o.trans f);have r:=hid k;clear f k;go_wp2_with fail;refine(l2numO_any _ s).mono ?_;rintro e w4 ⟨rfl,m,l⟩;have t:Hid _:=TermOut.of q.o r.o m l;clear m l;go_wp2_with fail;go_ret;rw[A.o,B.o];exact t.o
 ·have G:((j:Int) == 0)=false:=by rw[hj0];rfl
  have S:decide ((j:Int)<3)=true:=by rw[hj0];rfl
  have B:Hid (leafT b x d=([(0,(((rdI b d).toNat % 5:Nat):Int),[])],rdN b d)):=by show _=_;rw[leafT,if_neg (by rw[<-C.o,hj0];decide),if_pos (by rw[<-C.o,hj0];decide)]
  clear hj0;go_wp2_with fail;refine(next_any R c d p b Z v.o).mono ?_;rintro e s ⟨rfl,f,K,k⟩;have q:=hid (u.o.trans f);have r:=hid k
  obtain⟨y,E⟩:∃ y:Nat,rdI b d=y:=⟨(rdI b d).toNat,by omega⟩
  rw[E] at J ⊢
  obtain⟨z,F⟩:∃ z,z=y % 5:=⟨_,rfl⟩
  have hz:z<5:=by omega
  have h6:(y:Int).tmod 5=(z:Int):=by rw[F,Int.tmod_eq_emod_of_nonneg (by omega)];rfl
  have HZ:Hid (([(0,(((rdI b d).toNat % 5:Nat):Int),[])]:List Cel) = [(0,(z:Int),[])]):=by show _=_;rw[E,Int.toNat_natCast,F]
  clear f K k E F;go_wp2_with fail;refine(l2varO_any _ s).mono ?_;rintro e w4 ⟨rfl,m,l⟩;have t:Hid _:=TermOut.of q.o r.o m l;clear m l;go_wp2_with fail;go_ret;rw[A.o,B.o,HZ.o];exact t.o
 ·have G:((j:Int) == 0)=false:=by rw[hj0];rfl
  have S:decide ((j:Int)<3)=true:=by rw[hj0];rfl
  have B:Hid (leafT b x d=([(0,(((rdI b d).toNat % 5:Nat):Int),[])],rdN b d)):=by show _=_;rw[leafT,if_neg (by rw[<-C.o,hj0];decide),if_pos (by rw[<-C.o,hj0];decide)]
  clear hj0;go_wp2_with fail;refine(next_any R c d p b Z v.o).mono ?_;rintro e s ⟨rfl,f,K,k⟩;have q:=hid (u.o.trans f);have r:=hid k
  obtain⟨y,E⟩:∃ y:Nat,rdI b d=y:=⟨(rdI b d).toNat,by omega⟩
  rw[E] at J ⊢
  obtain⟨z,F⟩:∃ z,z=y % 5:=⟨_,rfl⟩
  have hz:z<5:=by omega
  have h6:(y:Int).tmod 5=(z:Int):=by rw[F,Int.tmod_eq_emod_of_nonneg (by omega)];rfl
  have HZ:Hid (([(0,(((rdI b d).toNat % 5:Nat):Int),[])]:List Cel) = [(0,(z:Int),[])]):=by show _=_;rw[E,Int.toNat_natCast,F]
  clear f K k E F;go_wp2_with fail;refine(l2varO_any _ s).mono ?_;rintro e w4 ⟨rfl,m,l⟩;have t:Hid _:=TermOut.of q.o r.o m l;clear m l;go_wp2_with fail;go_ret;rw[A.o,B.o,HZ.o];exact t.o
 ·have G:((j:Int) == 0)=false:=by simp;omega
  have S:decide ((j:Int)<3)=false:=by simp;omega
  have B:Hid (leafT b x d=([(2,0,numsU (nameAt (rdI b d).toNat))],rdN b d)):=by show _=_;rw[leafT,if_neg (by rw[<-C.o];omega),if_neg (by rw[<-C.o];omega)]
  clear hj0;go_wp2_with fail;refine(l4name_any R c d p b Z v.o).mono ?_;rintro e s ⟨g,n3,O,rfl,h7,f,k,hg,X⟩;have q:=hid (u.o.trans f);have r:=hid k;have e1:=hid X;have M:=hid u.o.size;have H:Below s.heap.size s (s.alloc (Obj.cells #[Value.int IntKind.i64 2,Value.int IntKind.i64 0,Value.slice (some ⟨g,0,none⟩) n3 O] 27)):=(Below.refl _ _).alloc (Nat.le_refl _) _
  have h4:Hid (OwnC (s.alloc (Obj.cells #[Value.int IntKind.i64 2,Value.int IntKind.i64 0,Value.slice (some ⟨g,0,none⟩) n3 O] 27)) w.heap.size (some ⟨s.heap.size,0,none⟩) 1 1 [(2,0,numsU (nameAt (rdI b d).toNat))]):=by
   refine own_oneN (heap_alloc_new s _) (Nat.le_trans M.o f.size) ((X.mono M.o).below H) (fun P a ea=>?_);obtain⟨g',eg,e2,h5,e3⟩:=X.2 P
   cases eg
   cases ea
   exact Nat.ne_of_lt h5
  have L:Hid _:=H;clear f k X H hg h7;go_wp2_with fail;go_ret;rw[A.o,B.o];exact⟨_,_,_,rfl,h4.o,q.o.trans (Keep.of_below L.o),r.o.grow L.o⟩
theorem term_few (R c i:Nat)(p:Option Addr)(b:List Int)(D:Int)(w:World)(h:RdIn w R p c b i)(hD : -10<=D/\D<=10)(hc:0<D)(h0:¬ rdN b i=b.length)(h4:(rdI b i).toNat<50) :
  Calls Tryz.prog 34 #[.pointer (some ⟨R,0,none⟩),.int .i64 D] w (TermOut w R p c b (leafT b (rdI b i).toNat (rdN b i))):=by
 have HH:=hid h;have hr:=rdI_rng h.bytes i;have T:=rdN_le h.le;have h9:=h.small;have J:=rdI_rng h.bytes (rdN b i)
 obtain⟨n,V⟩:∃ n,n=b.length:=⟨_,rfl⟩
 rw[<-V] at T h9;have h1:=hid V
 obtain⟨d,U⟩:∃ d,d=rdN b i:=⟨_,rfl⟩
 rw[<-U] at T J ⊢;have Z:=hid U;have hd:decide (D<=0)=false:=decide_eq_false (by omega);rw[<-U,<-V] at h0;clear h V U
 go_enter Tryz.func34,Tryz.ntmps34
 go_wp2_with fail;refine(next_any R c i p b w HH.o).mono ?_;rintro e w2 ⟨rfl,S,h8,P⟩;have h2:=hid S
 have N:Hid (RdIn w2 R p c b d):=by rw[Z.o];exact P
 obtain⟨x,ex⟩:∃ x:Nat,rdI b i=x:=⟨(rdI b i).toNat,by omega⟩
 rw[ex] at hr ⊢
 have HX:Hid ((rdI b i).toNat=x):=by show _=_;rw[ex];exact Int.toNat_natCast x
 obtain⟨j,ej⟩:∃ j,j=x % 5:=⟨_,rfl⟩
 have hj:j<5:=by omega
 have hm:(x:Int).tmod 5=(j:Int):=by rw[ej,Int.tmod_eq_emod_of_nonneg (by omega)];rfl
 have C:=hid ej;have e6:((x:Nat):Int).toNat=x:=Int.toNat_natCast x;have A:=hid HX.o
 have e1:decide ((x:Int)<50)=true:=by rw[HX.o] at h4;exact decide_eq_true (by omega)
 clear S h8 P ex ej;go_wp2_with fail;refine(left_any R c d p b w2 N.o).mono ?_;rintro e Y ⟨rfl,I⟩;have v:=hid (N.o.grow I);have u:=hid (h2.o.trans (Keep.of_below I));rw[<-h1.o]
 obtain⟨X,el⟩:∃ X,X=n-d:=⟨_,rfl⟩
 rw[<-el]
 have e5:X<=500:=by omega
 clear I
 have e7:((X:Int) == 0)=false:=by simp;omega
 clear el
 rcases(by omega:j=0∨j=1∨j=2∨3<=j) with hj0 | hj0 | hj0 | hj0
 ·have G:((j:Int) == 0)=true:=by rw[hj0];rfl
  have B:Hid (leafT b x d=([(1,intD (rdI b d).toNat,[])],rdN b d)):=by show _=_;rw[leafT,if_pos (by rw[<-C.o];exact hj0)]
  clear hj0;go_wp2_with fail;refine(l4int_any R c d p b Y v.o).mono ?_;rintro e s ⟨rfl,f,k⟩;have q:=hid (u.o.trans f);have r:=hid k;clear f k;go_wp2_with fail;refine(l2numO_any _ s).mono ?_;rintro e w4 ⟨rfl,m,l⟩;have t:Hid _:=TermOut.of q.o r.o m l;clear m l;go_wp2_with fail;go_ret;rw[A.o,B.o];exact t.o
 ·have G:((j:Int) == 0)=false:=by rw[hj0];rfl
  have Q:decide ((j:Int)<3)=true:=by rw[hj0];rfl
  have B:Hid (leafT b x d=([(0,(((rdI b d).toNat % 5:Nat):Int),[])],rdN b d)):=by show _=_;rw[leafT,if_neg (by rw[<-C.o,hj0];decide),if_pos (by rw[<-C.o,hj0];decide)]
  clear hj0;go_wp2_with fail;refine(next_any R c d p b Y v.o).mono ?_;rintro e s ⟨rfl,f,K,k⟩;have q:=hid (u.o.trans f);have r:=hid k
  obtain⟨y,E⟩:∃ y:Nat,rdI b d=y:=⟨(rdI b d).toNat,by omega⟩
  rw[E] at J ⊢
  obtain⟨z,F⟩:∃ z,z=y % 5:=⟨_,rfl⟩
  have hz:z<5:=by omega
  have h6:(y:Int).tmod 5=(z:Int):=by rw[F,Int.tmod_eq_emod_of_nonneg (by omega)];rfl
  have HZ:Hid (([(0,(((rdI b d).toNat % 5:Nat):Int),[])]:List Cel) = [(0,(z:Int),[])]):=by show _=_;rw[E,Int.toNat_natCast,F]
  clear f K k E F;go_wp2_with fail;refine(l2varO_any _ s).mono ?_;rintro e w4 ⟨rfl,m,l⟩;have t:Hid _:=TermOut.of q.o r.o m l;clear m l;go_wp2_with fail;go_ret;rw[A.o,B.o,HZ.o];exact t.o
 ·have G:((j:Int) == 0)=false:=by rw[hj0];rfl
  have Q:decide ((j:Int)<3)=true:=by rw[hj0];rfl
  have B:Hid (leafT b x d=([(0,(((rdI b d).toNat % 5:Nat):Int),[])],rdN b d)):=by show _=_;rw[leafT,if_neg (by rw[<-C.o,hj0];decide),if_pos (by rw[<-C.o,hj0];decide)]
  clear hj0;go_wp2_with fail;refine(next_any R c d p b Y v.o).mono ?_;rintro e s ⟨rfl,f,K,k⟩;have q:=hid (u.o.trans f);have r:=hid k
  obtain⟨y,E⟩:∃ y:Nat,rdI b d=y:=⟨(rdI b d).toNat,by omega⟩
  rw[E] at J ⊢
  obtain⟨z,F⟩:∃ z,z=y % 5:=⟨_,rfl⟩
  have hz:z<5:=by omega
  have h6:(y:Int).tmod 5=(z:Int):=by rw[F,Int.tmod_eq_emod_of_nonneg (by omega)];rfl
  have HZ:Hid (([(0,(((rdI b d).toNat % 5:Nat):Int),[])]:List Cel) = [(0,(z:Int),[])]):=by show _=_;rw[E,Int.toNat_natCast,F]
  clear f K k E F;go_wp2_with fail;refine(l2varO_any _ s).mono ?_;rintro e w4 ⟨rfl,m,l⟩;have t:Hid _:=TermOut.of q.o r.o m l;clear m l;go_wp2_with fail;go_ret;rw[A.o,B.o,HZ.o];exact t.o
 ·have G:((j:Int) == 0)=false:=by simp;omega
  have Q:decide ((j:Int)<3)=false:=by simp;omega
  have B:Hid (leafT b x d=([(2,0,numsU (nameAt (rdI b d).toNat))],rdN b d)):=by show _=_;rw[leafT,if_neg (by rw[<-C.o];omega),if_neg (by rw[<-C.o];omega)]
  clear hj0;go_wp2_with fail;refine(l4name_any R c d p b Y v.o).mono ?_;rintro e s ⟨g,n3,O,rfl,h7,f,k,hg,W⟩;have q:=hid (u.o.trans f);have r:=hid k;have e2:=hid W;have M:=hid u.o.size;have H:Below s.heap.size s (s.alloc (Obj.cells #[Value.int IntKind.i64 2,Value.int IntKind.i64 0,Value.slice (some ⟨g,0,none⟩) n3 O] 27)):=(Below.refl _ _).alloc (Nat.le_refl _) _
  have h3:Hid (OwnC (s.alloc (Obj.cells #[Value.int IntKind.i64 2,Value.int IntKind.i64 0,Value.slice (some ⟨g,0,none⟩) n3 O] 27)) w.heap.size (some ⟨s.heap.size,0,none⟩) 1 1 [(2,0,numsU (nameAt (rdI b d).toNat))]):=by
   refine own_oneN (heap_alloc_new s _) (Nat.le_trans M.o f.size) ((W.mono M.o).below H) (fun h0 a ea=>?_);obtain⟨g',eg,e3,h5,e4⟩:=W.2 h0
   cases eg
   cases ea
   exact Nat.ne_of_lt h5
  have L:Hid _:=H;clear f k W H hg h7;go_wp2_with fail;go_ret;rw[A.o,B.o];exact⟨_,_,_,rfl,h3.o,q.o.trans (Keep.of_below L.o),r.o.grow L.o⟩
theorem Keep.on_below {R U:Nat}{w W a:World}(h:Keep R U w W)(k:Below w.heap.size W a):Keep R U w a:=
 ⟨k.os.trans h.os,k.tape.trans h.tape,k.output.trans h.output,Nat.le_trans h.size k.size,fun j b c=>(k.block j b).trans (h.block j b c)⟩
def TermK (R c:Nat)(p:Option Addr)(xs:List Int)(D:Int)(f:Nat->List Cel×Nat):Prop:=
 ∀ i w,RdIn w R p c xs i->Calls Tryz.prog 34 #[.pointer (some ⟨R,0,none⟩),.int .i64 D] w (TermOut w R p c xs (f i))
theorem tll_flat:∀ a:List (List Cel),tll a=a.flatten.length+tl a.flatten
 | []=>rfl
 | c :: r=>by
   rw[tll,tll_flat r,List.flatten_cons,tl_app,List.length_append];omega
theorem lsL_mk (a:List (List Cel))(b:List Cel):lsL a b=mkL a ++ b:=rfl
theorem OwnCC.rows {w:World}{B U:Nat}{p:Option Addr}{n c:Nat}{a:List (List Cel)}(h:OwnCC w B U p n c a)(o:0<a.length)(i:∀ j,j<a.length->0<(a.getD j []).length/\(a.getD j []).length+tl (a.getD j [])<=100000):∃ g,p=some ⟨g,0,none⟩/\RowsIn w g a:=by
 obtain⟨b,h⟩:=h;have m:=h.len;obtain⟨g,f,e,k,l⟩:=h.row.form (by omega);simp only[Value.slice.injEq,true_and] at e;obtain⟨rfl,rfl⟩:=e;refine⟨g,rfl,fun j d=>⟨(b.getD j It.zero).1,(b.getD j It.zero).2.1,?_,(h.item j d).toC.cin,i j d⟩⟩;rw[h.row.cellAt j (by omega)];exact vals_at b a j d
theorem Sml.few {m:Nat}{a:List Cel}(h:Sml m a)(b:m<=600):0<a.length/\a.length+tl a<=100000:=⟨h.pos,by have:=h.len;have:=h.txt;omega⟩
theorem nilStr:(⟨#[91,93]⟩:ByteArray)=strOfNums [91,93]:=rfl
theorem list_small (f:Nat->List Cel×Nat)(n i m:Nat)(a:List Cel)(q k:Option Addr)(c le l:Nat)(w:World)(z:n<=10)(y:m<=600)(p:∀ i,Sml m (f i).1)(h:le=a.length)(v:0<le)(g:le+tl a<=1000000)(d:CCIn w q (iterT f n i).1)(b:CIn w k a) :
  Calls Tryz.prog 106 #[.slice q n c,.slice k le l] w fun e s=>∃ r m o,e = .returned (.slice r m o)/\OwnC s w.heap.size r m o (lsL (iterT f n i).1 a)/\Below w.heap.size w s:=by
 obtain⟨B,C⟩:=iterT_sml f p n i;obtain⟨t,D⟩:=lsL_len (iterT f n i).1 [];have x:=iterT_len f n i;have A:n * m<=10 * 600:=Nat.mul_le_mul z y;refine l2listE_any (iterT f n i).1 a q k n c le l w h v g x.symm (by omega) (fun j E=>(iterT_at f (P:=fun u=>0<u.length) (fun i=>(p i).pos) n i j (by omega))) (by rw[tll_flat];omega) ?_ d b;rw[lsL_mk,List.append_nil,List.length_nil] at t
 omega
theorem term_list (R c i m0:Nat)(p:Option Addr)(a:List Int)(D:Int)(f g:Nat->List Cel×Nat)(w:World)(h:RdIn w R p c a i)(hD : -10<=D/\D<=10)(hc:0<D)(hF:TermK R c p a (D-1) f)(hG:TermK R c p a (D-2) g)(h9:m0<=600)(hf:∀ i,Sml m0 (f i).1)(hg:∀ i,Sml m0 (g i).1)(h0:¬ rdN a i=a.length)(G:¬ (rdI a i).toNat<50)(H:(rdI a i).toNat<90) :
  Calls Tryz.prog 34 #[.pointer (some ⟨R,0,none⟩),.int .i64 D] w (TermOut w R p c a (nodeT a f g i)):=by
 have HH:=hid h;have HF:=hid hF;have HG:=hid hG;have V:=hid hf;have x3:=hid hg;have E:=hid h9;have hr:=rdI_rng h.bytes i;have h8:=rdN_le h.le;have x7:=h.small;have x4:R<w.heap.size:=h.lt;have x5:=rdI_rng h.bytes (rdN a i)
 have t:Hid (nodeT a f g i=(if (rdI a i).toNat % 4=0 then(lsL (iterT f (1+(rdI a i).toNat % 3) (rdN a i)).1 (g (iterT f (1+(rdI a i).toNat % 3) (rdN a i)).2).1,(g (iterT f (1+(rdI a i).toNat % 3) (rdN a i)).2).2) else(lsL (iterT f (1+(rdI a i).toNat % 3) (rdN a i)).1 [nilC],(iterT f (1+(rdI a i).toNat % 3) (rdN a i)).2))):=by
  show _=_
  unfold nodeT
  simp only;rw[if_neg (by intro hh;rcases hh with hh | hh;exact h0 hh;exact G hh),if_pos H]
 obtain⟨n,en⟩:∃ n,n=a.length:=⟨_,rfl⟩
 rw[<-en] at h8 x7 h0;have e8:=hid en
 obtain⟨b,ei⟩:∃ b,b=rdN a i:=⟨_,rfl⟩
 rw[<-ei] at h8 x5 h0;rw[<-ei] at t;have e7:=hid ei;have hd:decide (D<=0)=false:=decide_eq_false (by omega)
 obtain⟨M,er⟩:∃ M,M=nodeT a f g i:=⟨_,rfl⟩
 rw[<-er];have P:=hid er;clear h en ei hF hG hf hg h9 er
 go_enter Tryz.func34,Tryz.ntmps34
 go_wp2_with fail;refine(next_any R c i p a w HH.o).mono ?_;rintro e w2 ⟨rfl,h7,x6,h1⟩;have e9:=hid h7
 have T:Hid (RdIn w2 R p c a b):=by rw[e7.o];exact h1
 obtain⟨x,ex⟩:∃ x:Nat,rdI a i=x:=⟨(rdI a i).toNat,by omega⟩
 have L:(rdI a i).toNat=x:=by rw[ex];exact Int.toNat_natCast x
 rw[L] at G H;rw[ex] at hr ⊢;rw[L] at t;have w1:decide ((x:Int)<50)=false:=decide_eq_false (by omega);clear h7 x6 h1 ex L;go_wp2_with fail;refine(left_any R c b p a w2 T.o).mono ?_;rintro e wL ⟨rfl,J⟩;have x2:=hid (T.o.grow J);have k4:=hid (e9.o.trans (Keep.of_below J));rw[<-e8.o]
 obtain⟨lf,el⟩:∃ lf,lf=n-b:=⟨_,rfl⟩
 rw[<-el]
 have b1:lf<=500:=by omega
 have b7:((lf:Int) == 0)=false:=by simp;omega
 clear J el;have w8:decide ((x:Int)<90)=true:=decide_eq_true (by omega)
 obtain⟨z3,e3⟩:∃ z,z=x % 3:=⟨_,rfl⟩
 have b8:z3<3:=by omega
 have b3:(x:Int).tmod 3=(z3:Int):=by rw[e3,Int.tmod_eq_emod_of_nonneg (by omega)];rfl
 obtain⟨N,e4⟩:∃ z,z=x % 4:=⟨_,rfl⟩
 have b9:N<4:=by omega
 have b4:(x:Int).tmod 4=(N:Int):=by rw[e4,Int.tmod_eq_emod_of_nonneg (by omega)];rfl
 have w9:=hid e4
 obtain⟨k,X⟩:∃ k,k=1+z3:=⟨_,rfl⟩
 have b5:k<=3:=by omega
 have x9:1<=k:=by omega
 have x8:(1:Int)+(z3:Int)=(k:Int):=by omega
 have HV:Hid (M=if N=0 then(lsL (iterT f k b).1 (g (iterT f k b).2).1,(g (iterT f k b).2).2) else(lsL (iterT f k b).1 [nilC],(iterT f k b).2)):=by
  show _=_
  rw[P.o,t.o,<-e3,<-e4,<-X]
 clear e3 e4 X H G t P;go_wp2_with fail
 go_loopw [6,8] (fun it iv wr=>∃ (j d F:Nat) (q:Option Addr),j<=k/\d=j/\iv = .int .i64 j/\it = .slice q d F/\Hid (OwnCC wr w.heap.size wr.heap.size q d F (iterT f j b).1)/\Hid (Keep R (R+1) w wr)/\Hid (RdIn wr R p c a (iterT f j b).2)) (fun _ iv _=>k-(intOf iv).toNat)
 case atStart=>exact⟨0,0,0,none,Nat.zero_le _,rfl,rfl,rfl,OwnCC.nil _ _ _,k4,x2⟩
 case round=>
  obtain⟨j,d,F,q,hj,rfl,rfl,rfl,HO,HK,HR⟩:=hrel;have Z:w.heap.size<=wr.heap.size:=HK.o.size
  by_cases b2:d<k
  ·have O:=HF.o (iterT f d b).2 wr HR.o
   go_wp2_with fail;refine O.mono ?_;rintro e w3 ⟨q3,n3,c3,rfl,e5,y,h2⟩;have k5:=hid e5;have k8:=hid h2;have k1:=hid (HK.o.trans y);have k7:Hid (OwnCC w3 w.heap.size wr.heap.size q d F (iterT f d b).1):=HO.o.keep y (.inr (by omega));have h5:wr.heap.size<=w3.heap.size:=y.size;clear e5 h2 y O;go_wp2_with (at_builtin;refine app_itemU wr.heap.size w3 rfl _ _ rfl w.heap.size q d F _ rfl k7.o h5 Z q3 n3 c3 _ k5.o rfl (by omega) ?_;intro g4 n4 W w4 s u e1);have k6:=hid s;have I:Below w.heap.size w3 w4:=((Below.refl _ _).alloc (Nat.le_trans Z h5) _).trans u;have k2:=hid (k1.o.on_below I)
   have k9:=hid (k8.o.below I x4);have e2:n4=d+1:=e1.o;clear s u I e1;subst e2;go_roundw
   case rel=>exact⟨d+1,d+1,W,_,by omega,rfl,by go_num,rfl,k6,k2,k9⟩
   case measure=>simp[intOf];omega
  ·obtain rfl:d=k:=by omega
   go_wp2_with fail;rw[nilStr];refine(l2atomS_any [91,93] (fun x hx=>by simp at hx;omega) wr).mono ?_;rintro e w5 ⟨p5,rfl,h6,v⟩;have e6:=hid h6;have C:=hid (HK.o.trans (Keep.of_below v));have U:=hid (HR.o.grow v);have S:=hid (HO.o.below v);have b6:w.heap.size<=w5.heap.size:=C.o.size;clear h6 v
   by_cases Y:N=0
   ·have u:((N:Int) == 0)=true:=by rw[Y];rfl
    have O:=HG.o (iterT f d b).2 w5 U.o;have HW:=hid (HV.o.trans (if_pos Y));clear Y;go_wp2_with fail;refine O.mono ?_;rintro e w6 ⟨q6,n6,c6,rfl,m,K,h3⟩;have A:=x3.o (iterT f d b).2;have Q:=list_small f d b m0 (g (iterT f d b).2).1 q q6 F n6 c6 w6 (by omega) E.o V.o m.1 (by have:=m.1;have:=A.pos;omega) (by have:=m.1;have:=A.len;have:=A.txt;have:=E.o;omega) (S.o.keep K (.inr (by omega))).ccin m.cin;have k3:=hid (C.o.trans K);have x1:=hid h3;clear m K h3 A O;go_wp2_with fail;refine Q.mono ?_;rintro e w7 ⟨q7,n7,c7,rfl,r,l⟩;have B:Hid _:=TermOut.of k3.o x1.o r l;clear r l Q;go_wp2_with fail
    go_ret;rw[HW.o];exact B.o
   ·have u:((N:Int) == 0)=false:=by simp;omega
    have Q:=list_small f d b m0 [nilC] q p5 F 1 1 w5 (by omega) E.o V.o rfl (by decide) (by decide) S.o.ccin e6.o;have HW:=hid (HV.o.trans (if_neg Y));clear Y;go_wp2_with fail;refine Q.mono ?_;rintro e w7 ⟨q7,n7,c7,rfl,r,l⟩;have B:Hid _:=TermOut.of C.o U.o r l;clear r l Q;go_wp2_with fail;go_ret;rw[HW.o];exact B.o
theorem term_many (R c i m0:Nat)(p:Option Addr)(a:List Int)(D:Int)(f g:Nat->List Cel×Nat)(w:World)(h:RdIn w R p c a i)(hD : -10<=D/\D<=10)(hc:0<D)(hF:TermK R c p a (D-1) f)(hG:TermK R c p a (D-2) g)(Y:m0<=600)(hf:∀ i,Sml m0 (f i).1)(hg:∀ i,Sml m0 (g i).1)(h0:¬ rdN a i=a.length)(B:¬ (rdI a i).toNat<50)(m:¬ (rdI a i).toNat<230) :
  Calls Tryz.prog 34 #[.pointer (some ⟨R,0,none⟩),.int .i64 D] w (TermOut w R p c a (nodeT a f g i)):=by
 have HH:=hid h;have HF:=hid hF;have HG:=hid hG;have k6:=hid hf;have x9:=hid hg;have e6:=hid Y;have hr:=rdI_rng h.bytes i;have X:=rdN_le h.le;have x2:=h.small;have k7:R<w.heap.size:=h.lt;have k9:=rdI_rng h.bytes (rdN a i)
 have u:Hid (nodeT a f g i=((3,((1+(rdI a i).toNat % 4:Nat):Int),numsU (nameAt (rdI a (iterT f (1+(rdI a i).toNat % 4) (rdN a i)).2).toNat)) :: (iterT f (1+(rdI a i).toNat % 4) (rdN a i)).1.flatten,rdN a (iterT f (1+(rdI a i).toNat % 4) (rdN a i)).2)):=by
  show _=_
  unfold nodeT
  simp only;rw[if_neg (by intro hh;rcases hh with hh | hh;exact h0 hh;exact B hh),if_neg (by omega),if_neg (by omega),if_neg m]
 obtain⟨n,en⟩:∃ n,n=a.length:=⟨_,rfl⟩
 rw[<-en] at X x2 h0;have h7:=hid en
 obtain⟨d,ei⟩:∃ d,d=rdN a i:=⟨_,rfl⟩
 rw[<-ei] at X k9 h0;rw[<-ei] at u;have h6:=hid ei;have hd:decide (D<=0)=false:=decide_eq_false (by omega)
 obtain⟨A,er⟩:∃ A,A=nodeT a f g i:=⟨_,rfl⟩
 rw[<-er];have H:=hid er;clear h en ei hF hG hf hg Y er
 go_enter Tryz.func34,Tryz.ntmps34
 go_wp2_with fail;refine(next_any R c i p a w HH.o).mono ?_;rintro e w2 ⟨rfl,W,x1,N⟩;have h8:=hid W
 have I:Hid (RdIn w2 R p c a d):=by rw[h6.o];exact N
 obtain⟨x,ex⟩:∃ x:Nat,rdI a i=x:=⟨(rdI a i).toNat,by omega⟩
 have F:(rdI a i).toNat=x:=by rw[ex];exact Int.toNat_natCast x
 rw[F] at B m;rw[ex] at hr ⊢;rw[F] at u;have x7:decide ((x:Int)<50)=false:=decide_eq_false (by omega);clear W x1 N ex F;go_wp2_with fail;refine(left_any R c d p a w2 I.o).mono ?_;rintro e wL ⟨rfl,C⟩;have k5:=hid (I.o.grow C);have e5:=hid (h8.o.trans (Keep.of_below C));rw[<-h7.o]
 obtain⟨lf,el⟩:∃ lf,lf=n-d:=⟨_,rfl⟩
 rw[<-el]
 have w6:lf<=500:=by omega
 have b2:((lf:Int) == 0)=false:=by simp;omega
 clear C el;have x8:decide ((x:Int)<90)=false:=decide_eq_false (by omega);have x3:decide ((x:Int)<180)=false:=decide_eq_false (by omega);have x4:decide ((x:Int)<230)=false:=decide_eq_false (by omega)
 obtain⟨z4,e4⟩:∃ z,z=x % 4:=⟨_,rfl⟩
 have b3:z4<4:=by omega
 have w9:(x:Int).tmod 4=(z4:Int):=by rw[e4,Int.tmod_eq_emod_of_nonneg (by omega)];rfl
 obtain⟨l,L⟩:∃ l,l=1+z4:=⟨_,rfl⟩
 have b1:l<=4:=by omega
 have x6:1<=l:=by omega
 have x5:(1:Int)+(z4:Int)=(l:Int):=by omega
 have HV:Hid (A=((3,(l:Int),numsU (nameAt (rdI a (iterT f l d).2).toNat)) :: (iterT f l d).1.flatten,rdN a (iterT f l d).2)):=by
  show _=_
  rw[H.o,u.o,<-e4,<-L]
 obtain⟨wA,eA⟩:∃ wA,wA=(wL.alloc (.cells (binU.map strV).toArray 9)).alloc (.cells (unaU.map strV).toArray 9):=⟨_,rfl⟩
 have k:Below wL.heap.size wL wA:=by rw[eA];exact((Below.refl _ _).alloc (Nat.le_refl _) _).alloc (by simp) _
 have e3:=hid (e5.o.trans (Keep.of_below k));have k4:=hid (k5.o.grow k);clear e4 L m B k u H;go_wp2_with fail
 have K:wA=(wL.alloc (Obj.cells #[.string ⟨#[45]⟩,.string ⟨#[43]⟩,.string ⟨#[61]⟩,.string ⟨#[44]⟩,.string ⟨#[58,45]⟩,.string ⟨#[59]⟩,.string ⟨#[45,62]⟩,.string ⟨#[105,115]⟩,.string ⟨#[94]⟩,.string ⟨#[42,42]⟩,.string ⟨#[42]⟩,.string ⟨#[64,64]⟩,.string ⟨#[109,111,100]⟩,.string ⟨#[102]⟩,.string ⟨#[45,45,62]⟩,.string ⟨#[114]⟩,.string ⟨#[113]⟩] 9)).alloc (Obj.cells #[.string ⟨#[45]⟩,.string ⟨#[92,43]⟩,.string ⟨#[58,45]⟩,.string ⟨#[43]⟩,.string ⟨#[123,125]⟩,.string ⟨#[100,121,110,97,109,105,99]⟩,.string ⟨#[103]⟩,.string ⟨#[92]⟩,.string ⟨#[112]⟩,.string ⟨#[64,64]⟩,.string ⟨#[91,93]⟩,.string ⟨#[33]⟩] 9):=by rw[eA];rfl
 rw[<-K];clear eA K
 go_loopw [12,14] (fun it iv wr=>∃ (j b G:Nat) (q:Option Addr),j<=l/\b=j/\iv = .int .i64 j/\it = .slice q b G/\Hid (OwnCC wr w.heap.size wr.heap.size q b G (iterT f j d).1)/\Hid (Keep R (R+1) w wr)/\Hid (RdIn wr R p c a (iterT f j d).2)) (fun _ iv _=>l-(intOf iv).toNat)
 case atStart=>exact⟨0,0,0,none,Nat.zero_le _,rfl,rfl,rfl,OwnCC.nil _ _ _,e3,k4⟩
 case round=>
  obtain⟨j,b,G,q,hj,rfl,rfl,rfl,HO,HK,HR⟩:=hrel;have M:w.heap.size<=wr.heap.size:=HK.o.size
  by_cases w8:b<l
  ·have HC:=HF.o (iterT f b d).2 wr HR.o
   go_wp2_with fail;refine HC.mono ?_;rintro e w3 ⟨q3,n3,c3,rfl,h3,v,O⟩;have e7:=hid h3;have k1:=hid O;have h9:=hid (HK.o.trans v);have e9:Hid (OwnCC w3 w.heap.size wr.heap.size q b G (iterT f b d).1):=HO.o.keep v (.inr (by omega));have S:wr.heap.size<=w3.heap.size:=v.size;clear h3 O v HC;go_wp2_with (at_builtin;refine app_itemU wr.heap.size w3 rfl _ _ rfl w.heap.size q b G _ rfl e9.o S M q3 n3 c3 _ e7.o rfl (by omega) ?_;intro g4 n4 J w4 r T Z);have e8:=hid r;have k:Below w.heap.size w3 w4:=((Below.refl _ _).alloc (Nat.le_trans M S) _).trans T;have e1:=hid (h9.o.on_below k)
   have k2:=hid (k1.o.below k k7);have h1:n4=b+1:=Z.o;clear r T k Z;subst h1;go_roundw
   case rel=>exact⟨b+1,b+1,J,_,by omega,rfl,by go_num,rfl,e8,e1,k2⟩
   case measure=>simp[intOf];omega
  ·obtain rfl:b=l:=by omega
   go_wp2_with fail;refine(l4name_any R c (iterT f b d).2 p a wr HR.o).mono ?_;rintro e w5 ⟨g5,n5,c5,rfl,h2,E,Q,k8,y⟩
   obtain⟨s,es⟩:∃ s,s=numsU (nameAt (rdI a (iterT f b d).2).toNat):=⟨_,rfl⟩
   rw[<-es] at h2 y
   have HW:Hid (A=((3,(b:Int),s) :: (iterT f b d).1.flatten,rdN a (iterT f b d).2)):=by rw[es];exact HV.o
   have w1:(convert 22 9 (.slice (some ⟨g5,0,none⟩) n5 c5)).run Tryz.prog w5 = .ok (.string (strOfNums s)) w5:=conv_str y.bin n5 c5 y.1 9 Tryz.underlying9
   have V:Byte s:=by rw[es];exact byte_numsU _
   obtain⟨gr,eg,t⟩:=(HO.o.keep E (.inr (by omega))).rows (by rw[iterT_len];omega) (fun j hj=>(iterT_at f (P:=fun cs=>0<cs.length/\cs.length+tl cs<=100000) (fun i=>(k6.o i).few e6.o) b d j (by rw[iterT_len] at hj;exact hj)));subst eg;have HL:=l2comp_any s V gr b G (iterT f b d).1 w5 (iterT_len f b d).symm (by omega) t;have e2:=hid (HK.o.trans E);have k3:=hid Q;clear E Q k8 y t V es h2;go_wp2_with fail;refine HL.mono ?_;rintro e w7 ⟨q7,n7,c7,rfl,h4,U⟩;have h5:Hid _:=TermOut.of e2.o k3.o h4 U;clear h4 U HL;go_wp2_with fail;go_ret;rw[HW.o];exact h5.o
end Go.Proofs.YtnfnddnffoigfaaGreatDoor
