/- Texts of Dt7, Dt16, OpsP, OpsM1, OpsV4, OpsM2, OpsM3, OpsM4, OpsA, OpsMG, DecG, ItoaG, Stk1, BackF. Own work of the verifier. -/
import Derived.Test.YtnfnddnffoigfaaGreatDoorUqaj
import Derived.Test.YtnfnddnffoigfaaGreatDoorItoaL
import Derived.Shelf.SlSorted.Search
import Derived.WalkSmall
import Derived.RangeFuncBox
namespace Go.Proofs.YtnfnddnffoigfaaGreatDoor
set_option maxHeartbeats 4000000
set_option linter.unusedVariables false
set_option maxRecDepth 100000
section
open Go Go.RowKit
def bigL (m:Nat):List Cel:=(List.range m).flatMap (fun j=>[dot,(0,((j % 7:Nat):Int),[])])
def bigF (n:Nat):List Cel:=(bigL ((n-1) / 2) ++ (if n % 2=0 then [(3,1,[102])] else [])) ++ [nilC]
def spoilF (xs:List Int)(cs:List Cel)(i:Nat):List Cel×Nat:=
 let k:=(rdI xs i).toNat % 9
 let a:=(rdI xs (rdN xs i)).toNat % cs.length
 let i2:=rdN xs (rdN xs i)
 let c:=cs.getD a Cel.none
 let y:=(rdI xs i2).toNat
 if k=0 then(cs.set a (((y % 6:Nat):Int)-1,c.2.1,c.2.2),rdN xs i2)
 else if k=1 then(cs.set a (c.1,c.2.1+1,c.2.2),i2)
 else if k=2 then(cs.set a (c.1,-1,c.2.2),i2)
 else if k=3 then(cs.take (cs.length-1),i2)
 else if k=4 then(cs ++ [(2,0,[])],i2)
 else if k=5 then(cs.set a (c.1,c.2.1,List.replicate (100+y % 2) 116),rdN xs i2)
 else if k=6 then(cs.set a (c.1,1000000000000000+((y % 2:Nat):Int),c.2.2),rdN xs i2)
 else if k=7 then(bigF (1999+y % 3),rdN xs i2)
 else(cs.set a (0,1000000+((y % 2:Nat):Int),[]),rdN xs i2)
def anyF (xs:List Int)(i:Nat):List Cel×Nat:=
 let r:=drawT xs 4 (rdN xs i)
 if (rdI xs i).toNat % 16=0 then spoilF xs r.1 r.2 else r
structure Mid (cs:List Cel):Prop where
 len:cs.length<=2001
 txt:tl cs<=12000
 byte:∀ i,i<cs.length->Byte (cs.getD i Cel.none).2.2
def ByteC (cs:List Cel):Prop:=∀ c ∈ cs,Byte c.2.2
theorem ByteC.get {a:List Cel}(h:ByteC a)(i:Nat)(b:i<a.length):Byte (a.getD i Cel.none).2.2:=by
 rw[List.getD,List.getElem?_eq_getElem b];exact h _ (List.getElem_mem b)
theorem ByteC.app {a b:List Cel}(ha:ByteC a)(d:ByteC b):ByteC (a ++ b):=fun c e=>by
 rcases List.mem_append.1 e with h | h
 ·exact ha c h
 ·exact d c h
theorem ByteC.cons {c:Cel}{b:List Cel}(ha:Byte c.2.2)(a:ByteC b):ByteC (c :: b):=fun d e=>by
 rcases List.mem_cons.1 e with rfl | h
 ·exact ha
 ·exact a d h
theorem ByteC.nil:ByteC []:=fun c h=>by cases h
theorem byte_nilD:Byte []:=fun x h=>by cases h
theorem ByteC.flatten {a:List (List Cel)}(h:∀ j,j<a.length->ByteC (a.getD j [])):ByteC a.flatten:=fun c f=>by
 obtain⟨g,d,e⟩:=List.mem_flatten.1 f;obtain⟨j,b,rfl⟩:=List.mem_iff_getElem.1 d;have:=h j b;rw[List.getD,List.getElem?_eq_getElem b] at this;exact this c e
theorem ByteC.ls {a:List (List Cel)}{b:List Cel}(h:∀ j,j<a.length->ByteC (a.getD j []))(i:ByteC b):ByteC (lsL a b):=by
 refine ByteC.app (fun c g=>?_) i;obtain⟨l,e,f⟩:=List.mem_flatMap.1 g
 rcases List.mem_cons.1 f with rfl | h3
 ·intro x k;simp[dot] at k;omega
 ·obtain⟨j,d,rfl⟩:=List.mem_iff_getElem.1 e
  have:=h j d;rw[List.getD,List.getElem?_eq_getElem d] at this;exact this c h3
theorem byte_nilC:ByteC [nilC]:=fun c a=>by
 rw[List.mem_singleton.1 a]
 intro x b;simp[nilC] at b;omega
theorem leafT_byte (a:List Int)(k i:Nat):ByteC (leafT a k i).1:=by
 unfold leafT
 repeat' split
 all_goals refine ByteC.cons ?_ ByteC.nil
 ·exact byte_nilD
 ·exact byte_nilD
 ·exact byte_numsU _
theorem nodeT_byte (d:List Int)(f g:Nat->List Cel×Nat)(a:∀ i,ByteC (f i).1)(c:∀ i,ByteC (g i).1)(i:Nat):ByteC (nodeT d f g i).1:=by
 unfold nodeT
 simp only
 split
 ·exact leafT_byte _ _ _
 split
 ·have h:∀ n i j,j<(iterT f n i).1.length->ByteC ((iterT f n i).1.getD j []):=fun n i j b=>iterT_at f a n i j (by rwa[iterT_len] at b)
  split
  ·exact ByteC.ls (h _ _) (c _)
  ·exact ByteC.ls (h _ _) byte_nilC
 split
 ·exact ByteC.cons (byte_numsU _) ((a _).app (a _))
 split
 ·exact ByteC.cons (byte_numsU _) (a _)
 ·exact ByteC.cons (byte_numsU _) (ByteC.flatten (fun j b=>iterT_at f a _ _ j (by rwa[iterT_len] at b)))
theorem drawT_byte (a:List Int):∀ (d i:Nat),ByteC (drawT a d i).1
 | 0,i=>leafT_byte _ _ _
 | 1,i=>nodeT_byte _ _ _ (drawT_byte a 0) (drawT_byte a 0) i
 | d+2,i=>nodeT_byte _ _ _ (drawT_byte a (d+1)) (drawT_byte a d) i
theorem tl_set:∀ (a:List Cel) (i:Nat) (c:Cel),tl (a.set i c)<=tl a+c.2.2.length
 | [],i,c=>by simp[tl]
 | d :: r,0,c=>by simp only[List.set_cons_zero,tl];omega
 | d :: r,i+1,c=>by
   have:=tl_set r i c;simp only[List.set_cons_succ,tl];omega
theorem ByteC.set {a:List Cel}(h:ByteC a)(i:Nat){c:Cel}(e:Byte c.2.2):ByteC (a.set i c):=fun d f=>by
 rcases List.mem_or_eq_of_mem_set f with b | rfl
 ·exact h d b
 ·exact e
theorem ByteC.getD {a:List Cel}(h:ByteC a)(i:Nat):Byte (a.getD i Cel.none).2.2:=by
 rcases Nat.lt_or_ge i a.length with hi | hi
 ·exact h.get i hi
 ·rw[List.getD,List.getElem?_eq_none hi];exact byte_nilD
theorem bigL_facts:∀ m,(bigL m).length=2 * m/\tl (bigL m)=m/\ByteC (bigL m)
 | 0=>⟨rfl,rfl,ByteC.nil⟩
 | m+1=>by
   obtain⟨a,b,c⟩:=bigL_facts m
   have e:bigL (m+1)=bigL m ++ [dot,(0,((m % 7:Nat):Int),[])]:=by simp[bigL,List.range_succ,List.flatMap_append]
   rw[e];refine⟨by simp[a];omega,by rw[tl_app,b];rfl,c.app (ByteC.cons ?_ (ByteC.cons byte_nilD ByteC.nil))⟩
   intro x d;simp[dot] at d;omega
theorem bigL_succ (m:Nat):bigL (m+1)=bigL m ++ [dot,(0,((m % 7:Nat):Int),[])]:=by simp[bigL,List.range_succ,List.flatMap_append]
theorem Mid.of {a:List Cel}(b:a.length<=2001)(c:tl a<=12000)(d:ByteC a):Mid a:=⟨b,c,d.get⟩
theorem drawT_mid (a:List Int)(i:Nat):(drawT a 4 i).1.length<=511/\tl (drawT a 4 i).1<=5621/\0<(drawT a 4 i).1.length:=by
 have h:=drawT_sml a 4 i;have:=h.len;have:=h.txt;exact⟨by omega,by omega,h.pos⟩
theorem spoilF_mid (f:List Int)(b:List Cel)(i:Nat)(p:b.length<=511)(q:tl b<=5621)(d:ByteC b):Mid (spoilF f b i).1/\ByteC (spoilF f b i).1:=by
 have j:∀ a,(b.getD a Cel.none).2.2.length<=tl b:=fun a=>by
  rcases Nat.lt_or_ge a b.length with h | h
  ·exact tl_at b a h
  ·rw[List.getD,List.getElem?_eq_none h];exact Nat.zero_le _
 have st:∀ a (c:Cel),c.2.2.length<=101∨c.2.2=(b.getD a Cel.none).2.2->Byte c.2.2->Mid (b.set a c)/\ByteC (b.set a c):=fun a c hl g=>by
  refine⟨Mid.of (by rw[List.length_set];omega) ?_ (d.set a g),d.set a g⟩
  rcases hl with hl | hl
  ·have:=tl_set b a c;omega
  ·have:=tl_set b a c;have:=j a;rw[hl] at *;omega
 unfold spoilF
 simp only
 split
 ·exact st _ _ (.inr rfl) (d.getD _)
 split
 ·exact st _ _ (.inr rfl) (d.getD _)
 split
 ·exact st _ _ (.inr rfl) (d.getD _)
 split
 ·have e:ByteC (b.take (b.length-1)):=fun c g=>d c (List.mem_of_mem_take g)
  exact⟨Mid.of (by rw[List.length_take];omega) (Nat.le_trans (tl_take_le _ _) (by omega)) e,e⟩
 split
 ·have e:ByteC (b ++ [(2,0,[])]):=d.app (ByteC.cons byte_nilD ByteC.nil)
  exact⟨Mid.of (by simp;omega) (by rw[tl_app];simp[tl];omega) e,e⟩
 split
 ·refine st _ _ (.inl (by simp;omega)) (fun x k=>?_)
  rw[(List.mem_replicate.1 k).2];omega
 split
 ·exact st _ _ (.inr rfl) (d.getD _)
 split
 ·have r:1999+(rdI f (rdN f (rdN f i))).toNat % 3<=2001:=by omega
  generalize 1999+(rdI f (rdN f (rdN f i))).toNat % 3=n at *
  obtain⟨l,m,o⟩:=bigL_facts ((n-1) / 2)
  have e:ByteC (bigF n):=by
   unfold bigF
   refine(o.app ?_).app byte_nilC
   split
   ·exact ByteC.cons (fun x k=>by simp at k;omega) ByteC.nil
   ·exact ByteC.nil
  refine⟨Mid.of ?_ ?_ e,e⟩
  ·unfold bigF
   rw[List.length_append,List.length_append,l]
   split <;> simp <;> omega
  ·unfold bigF
   rw[tl_app,tl_app,m]
   split <;> simp[tl,nilC] <;> omega
 ·exact st _ _ (.inl (by simp)) byte_nilD
theorem anyF_mid (a:List Int)(i:Nat):Mid (anyF a i).1/\ByteC (anyF a i).1:=by
 obtain⟨b,c,_⟩:=drawT_mid a (rdN a i)
 unfold anyF
 simp only
 split
 ·exact spoilF_mid a _ _ b c (drawT_byte _ _ _)
 ·exact⟨Mid.of (by omega) (by omega) (drawT_byte _ _ _),drawT_byte _ _ _⟩
theorem sameB_any (p q:Option Addr)(I J:Nat)(c a:List Int)(w:World)(G:c.length<=1000000000)(M:a.length<=1000000000)(B:BIn w p c)(C:BIn w q a) :
  Calls Tryz.prog 43 #[.slice p c.length I,.slice q a.length J] w fun e Q=>e = .returned (.bool (decide (c=a)))/\∃ n,Q=w.drewN n:=by
 by_cases d:c.length=a.length
 ·have t:Hid (c.length=a.length):=d
  obtain⟨n,u⟩:∃ n,a.length=n:=⟨_,rfl⟩
  rw[d];rw[d] at G;rw[u] at G M d ⊢;have f:=hid u;clear d u
  go_enter Tryz.func43,Tryz.ntmps43
  go_wp2
  go_loopw [5] (fun i wr=>∃ k m:Nat,k<=n/\i = .int .i64 k/\Hid (wr=w.drewN m)/\Hid (∀ j,j<k->c.getD j 0=a.getD j 0)) (fun i _=>n-(intOf i).toNat)
  case atStart=>exact⟨0,0,Nat.zero_le _,rfl,rfl,fun _ h=>absurd h (Nat.not_lt_zero _)⟩
  case round=>
   obtain⟨k,m,S,rfl,g,D⟩:=hrel
   by_cases s:k<n
   ·obtain⟨b,o,rfl,l⟩:=B (by rw[t.o,f.o];omega)
    obtain⟨H,P,rfl,r⟩:=C (by rw[f.o];omega)
    have K:wr.cell? ⟨b,o+k,none⟩=some (.int .u8 (c.getD k 0)):=by rw[g.o];exact l k (by rw[t.o,f.o];exact s)
    have L:wr.cell? ⟨H,P+k,none⟩=some (.int .u8 (a.getD k 0)):=by rw[g.o];exact r k (by rw[f.o];exact s)
    obtain⟨x,v⟩:∃ x,x=c.getD k 0:=⟨_,rfl⟩
    obtain⟨y,z⟩:∃ y,y=a.getD k 0:=⟨_,rfl⟩
    rw[<-v] at K;rw[<-z] at L;have E:=hid v;have F:=hid z;clear v z l r B C
    by_cases A:x=y
    ·subst A
     go_wp2
     go_region
     all_goals go_wp2
     all_goals go_roundw
     case rel=>exact⟨k+1,m+1,by omega,by go_num,by rw[g.o];rfl,fun j R=>by
      by_cases e:j=k
      ·subst e;rw[<-E.o,<-F.o]
      ·exact D.o j (by omega)⟩
     case measure=>simp[intOf];omega
    ·have O:(x != y)=true:=by simpa using A
     go_wp2
     go_region
     all_goals go_wp2
     all_goals go_ret
     exact⟨ret_bool (by
      symm;rw[decide_eq_false_iff_not];intro e
      exact A (by rw[E.o,F.o,e])),m+1,by rw[g.o];rfl⟩
   ·obtain rfl:k=n:=by omega
    go_wp2
    go_ret;exact⟨ret_bool (by symm;rw[decide_eq_true_iff];exact same_every t.o (by rw[t.o,f.o];exact D.o)),m,g.o⟩
 ·have N:¬ ((c.length:Int)=(a.length:Int)):=by omega
  have e:decide (c=a)=false:=by rw[decide_eq_false_iff_not];intro e;exact d (by rw[e])
  rw[e];clear e B C
  go_enter Tryz.func43,Tryz.ntmps43
  go_wp2
  go_ret;exact⟨rfl,0,rfl⟩
theorem sameCell_any (d f k j:Int)(p q:Option Addr)(A B r s:Nat)(b c:List Int)(w:World)(x:A=b.length)(y:B=c.length)(J:A<=1000000000)(I:B<=1000000000)(E:BIn w p b)(F:BIn w q c) :
  Calls Tryz.prog 22 #[.agg #[.int .i64 d,.int .i64 f,.slice p A r],.agg #[.int .i64 k,.int .i64 j,.slice q B s]] w fun e u=>e = .returned (.bool (decide (((d,f,b):Cel)=(k,j,c))))/\Below w.heap.size w u:=by
 subst x y
 have g:Hid (∀ W,Below w.heap.size w W->Calls Tryz.prog 43 #[.slice p b.length r,.slice q c.length s] W fun e u=>e = .returned (.bool (decide (b=c)))/\∃ n,u=W.drewN n):=fun W C=>sameB_any p q r s b c W J I (E.below C) (F.below C)
 have a:Below w.heap.size w ((w.alloc (Obj.cells #[Value.int IntKind.i64 d,Value.int IntKind.i64 f,Value.slice p b.length r] 27)).alloc (Obj.cells #[Value.int IntKind.i64 k,Value.int IntKind.i64 j,Value.slice q c.length s] 27)):=((Below.refl _ _).alloc (Nat.le_refl _) _).alloc (by simp) _;clear E F
 by_cases t:d=k
 ·subst t
  by_cases h:f=j
  ·subst h
   have v:=g.o _ a;have l:Hid _:=a;clear a g
   have i:decide (((d,f,b):Cel)=(d,f,c))=decide (b=c):=by simp
   rw[i]
   cases z:decide (b=c)
   rotate_right
   case' _=>
    rw[z] at v
   rotate_right
   case' _=>
    rw[z] at v
   all_goals
    clear z i
    go_enter Tryz.func22,Tryz.ntmps22
    go_wp2_with (go_at_call 43;refine v.mono ?_;rintro e u ⟨rfl,m,rfl⟩);go_ret;exact⟨rfl,below_drewN l.o _⟩
  ·have i:decide (((d,f,b):Cel)=(d,j,c))=false:=by simp[h]
   rw[i];have l:Hid _:=a;clear i g a
   have D:(f == j)=false:=by simpa using h
   have K:¬ f=j:=h
   go_enter Tryz.func22,Tryz.ntmps22
   go_wp2
   go_ret;exact⟨rfl,l.o⟩
 ·have i:decide (((d,f,b):Cel)=(k,j,c))=false:=by simp[t]
  rw[i];have l:Hid _:=a;clear i g a
  have G:(d == k)=false:=by simpa using t
  have H:¬ d=k:=t
  go_enter Tryz.func22,Tryz.ntmps22
  go_wp2
  go_ret;exact⟨rfl,l.o⟩
theorem sameT_any (p q:Option Addr)(c1 c2:Nat)(c a:List Cel)(w:World)(U:c.length+tl c<=1000000000)(hm:a.length+tl a<=1000000000)(V:CIn w p c)(X:CIn w q a) :
  Calls Tryz.prog 9 #[.slice p c.length c1,.slice q a.length c2] w fun e J=>e = .returned (.bool (decide (c=a)))/\Below w.heap.size w J:=by
 have L:=hid V;have M:=hid X;clear V X
 by_cases v:c.length=a.length
 ·have G:Hid (c.length=a.length):=v
  obtain⟨n,I⟩:∃ n,a.length=n:=⟨_,rfl⟩
  rw[v];rw[v] at U;rw[I] at U hm v ⊢;have F:=hid I;clear v I
  go_enter Tryz.func9,Tryz.ntmps9
  go_wp2
  go_loopw [5] (fun i wr=>∃ k:Nat,k<=n/\i = .int .i64 k/\Hid (Below w.heap.size w wr)/\Hid (∀ j,j<k->c.getD j Cel.none=a.getD j Cel.none)) (fun i _=>n-(intOf i).toNat)
  case atStart=>exact⟨0,Nat.zero_le _,rfl,Below.refl _ _,fun _ h=>absurd h (Nat.not_lt_zero _)⟩
  case round=>
   obtain⟨k,hk,rfl,z,K⟩:=hrel
   by_cases D:k<n
   ·have t:k<c.length:=by rw[G.o,F.o];exact D
    have u:k<a.length:=by rw[F.o];exact D
    obtain⟨b,o,rfl,B⟩:=L.o (by omega);obtain⟨b',o',rfl,C⟩:=M.o (by omega);obtain⟨Y,qx,x0,x1,x2,x3⟩:=(B k t).below z.o;obtain⟨Z,qy,y0,y1,y2,y3⟩:=(C k u).below z.o;have bx:=tl_at c k t;have bY:=tl_at a k u;have A:Hid (decide (((c.getD k Cel.none).1,(c.getD k Cel.none).2.1,(c.getD k Cel.none).2.2)=(((a.getD k Cel.none).1,(a.getD k Cel.none).2.1,(a.getD k Cel.none).2.2):Cel))=decide (c.getD k Cel.none=a.getD k Cel.none)):=rfl
    obtain⟨N,d⟩:∃ x,x=(c.getD k Cel.none).1:=⟨_,rfl⟩
    obtain⟨O,f⟩:∃ x,x=(c.getD k Cel.none).2.1:=⟨_,rfl⟩
    obtain⟨P,m⟩:∃ x,x=(c.getD k Cel.none).2.2.length:=⟨_,rfl⟩
    obtain⟨Q,g⟩:∃ x,x=(a.getD k Cel.none).1:=⟨_,rfl⟩
    obtain⟨R,l⟩:∃ x,x=(a.getD k Cel.none).2.1:=⟨_,rfl⟩
    obtain⟨S,r⟩:∃ x,x=(a.getD k Cel.none).2.2.length:=⟨_,rfl⟩
    have E:Hid (∀ W,Below wr.heap.size wr W->Calls Tryz.prog 22 #[.agg #[.int .i64 N,.int .i64 O,.slice Y P qx],.agg #[.int .i64 Q,.int .i64 R,.slice Z S qy]] W fun e J=>e = .returned (.bool (decide (c.getD k Cel.none=a.getD k Cel.none)))/\Below W.heap.size W J):=fun W T=>by
     have:=sameCell_any N O Q R Y Z P S qx qy _ _ W m r (by omega) (by omega) (x3.below T) (y3.below T)
     rwa[d,f,g,l,A.o,<-d,<-f,<-g,<-l] at this
    rw[<-d] at x0;rw[<-f] at x1;rw[<-m] at x2;rw[<-g] at y0;rw[<-l] at y1;rw[<-r] at y2;clear d f m g l r A x3 y3 B C L M bx bY t u
    cases y:decide (c.getD k Cel.none=a.getD k Cel.none)
    ·rw[y] at E
     have H:Hid _:=y;clear y
     go_wp2
     go_region_with (go_at_call 22;refine(E.o _ (Below.refl _ _).drew).mono ?_;rintro e w2 ⟨rfl,s⟩)
     all_goals go_wp2
     all_goals go_ret
     all_goals exact⟨ret_bool (by
      symm;rw[decide_eq_false_iff_not];intro e
      have:=H.o;rw[decide_eq_false_iff_not] at this
      exact this (by rw[e])),Below.on z.o ((Below.refl _ _).drew.trans s)⟩
    ·rw[y] at E
     have H:Hid _:=y;clear y
     go_wp2
     go_region_with (go_at_call 22;refine(E.o _ (Below.refl _ _).drew).mono ?_;rintro e w2 ⟨rfl,s⟩)
     all_goals go_wp2
     all_goals go_roundw
     all_goals first
      | (simp[intOf];omega)
      | exact⟨k+1,by omega,by go_num,Below.on z.o ((Below.refl _ _).drew.trans s),fun j hj=>by
         by_cases e:j=k
         ·subst e;exact of_decide_eq_true H.o
         ·exact K.o j (by omega)⟩
   ·obtain rfl:k=n:=by omega
    go_wp2
    go_ret;exact⟨ret_bool (by symm;rw[decide_eq_true_iff];exact same_cells G.o (by rw[G.o,F.o];exact K.o)),z.o⟩
 ·have h1:¬ ((c.length:Int)=(a.length:Int)):=by omega
  have e:decide (c=a)=false:=by rw[decide_eq_false_iff_not];intro e;exact v (by rw[e])
  rw[e];clear e
  go_enter Tryz.func9,Tryz.ntmps9
  go_wp2
  go_ret;exact⟨rfl,Below.refl _ _⟩
def keyC (c:Cel):List UInt8×Int:=((strOfNums c.2.2).toList,srt c.2.1)
theorem ltO_iff_key (x y:Cel):ltO x y=true↔Op.bytesLess (keyC x).1 (keyC y).1=true∨((keyC x).1=(keyC y).1/\(keyC x).2<(keyC y).2):=by
 rw[ltO,decide_eq_true_eq,opCmp_lt];rfl
theorem ltO_irrefl (x:Cel):ltO x x=false:=by
 cases h:ltO x x with
 | false=>rfl
 | true=>rw[ltO_iff_key,bl_irrefl] at h;simp at h
theorem ltO_asymm {x y:Cel}(h:ltO x y=true):ltO y x=false:=by
 cases a:ltO y x with
 | false=>rfl
 | true=>have:=ltO_trans h a;rw[ltO_irrefl] at this;cases this
theorem srt_two (t:Int):srt t=0∨srt t=1:=by unfold srt;split <;> simp
theorem ltO_tri {x y:Cel}(b:keyC x≠keyC y)(h:ltO x y=false):ltO y x=true:=by
 have a:¬ ltO x y=true:=by rw[h];simp
 rw[ltO_iff_key] at a ⊢
 by_cases e:(keyC x).1=(keyC y).1
 ·refine .inr ⟨e.symm,?_⟩
  have n:¬ (keyC x).2<(keyC y).2:=fun z=>a (.inr ⟨e,z⟩)
  have c:(keyC x).2≠(keyC y).2:=fun z=>b (Prod.ext e z)
  omega
 ·exact .inl (bl_tri _ _ (by simpa using fun z=>a (.inl z)) e)
def putL (o:Cel):Bool->List Cel->List Cel
 | done,[]=>if done then [] else [o]
 | done,x :: r=>if keyC x=keyC o then putL o done r else if !done && ltO o x then o :: x :: putL o true r else x :: putL o done r
def putO (cs:List Cel)(o:Cel):List Cel:=putL o (o.1 == 0) cs
theorem putL_done (o:Cel):∀ a:List Cel,putL o true a=a.filter (fun x=>decide (keyC x≠keyC o))
 | []=>rfl
 | x :: r=>by
   rw[putL,putL_done o r,List.filter_cons]
   by_cases e:keyC x=keyC o <;> simp[e]
theorem putL_mem (o:Cel):∀ (b:List Cel) (x:Cel),x ∈ putL o false b↔x=o∨(x ∈ b/\keyC x≠keyC o)
 | [],x=>by simp[putL]
 | y :: r,x=>by
   have c:=putL_mem o r x;rw[putL]
   by_cases e:keyC y=keyC o
   ·rw[if_pos e,c,List.mem_cons]
    constructor
    ·rintro(h | h)
     ·exact .inl h
     ·exact .inr ⟨.inr h.1,h.2⟩
    ·rintro(h | ⟨h | h,a⟩)
     ·exact .inl h
     ·exact absurd (h▸e) a
     ·exact .inr ⟨h,a⟩
   ·rw[if_neg e]
    by_cases l:ltO o y=true
    ·rw[if_pos (by simp[l]),putL_done]
     simp only[List.mem_cons,List.mem_filter,decide_eq_true_eq]
     constructor
     ·rintro(h | h | h)
      ·exact .inl h
      ·exact .inr ⟨.inl h,by rw[h];exact e⟩
      ·exact .inr ⟨.inr h.1,h.2⟩
     ·rintro(h | ⟨h | h,a⟩)
      ·exact .inl h
      ·exact .inr (.inl h)
      ·exact .inr (.inr ⟨h,a⟩)
    ·rw[if_neg (by simp[l]),List.mem_cons,c,List.mem_cons]
     constructor
     ·rintro(h | h | h)
      ·exact .inr ⟨.inl h,by rw[h];exact e⟩
      ·exact .inl h
      ·exact .inr ⟨.inr h.1,h.2⟩
     ·rintro(h | ⟨h | h,a⟩)
      ·exact .inr (.inl h)
      ·exact .inl h
      ·exact .inr (.inr ⟨h,a⟩)
def Asc (cs:List Cel):Prop:=cs.Pairwise (fun x y=>ltO x y=true)
theorem Asc.filter {a:List Cel}(h:Asc a)(p:Cel->Bool):Asc (a.filter p):=List.Pairwise.filter p h
theorem putL_asc (o:Cel):∀ b:List Cel,Asc b->Asc (putL o false b)
 | [],_=>by simp[putL,Asc]
 | y :: r,h=>by
   have a:=List.pairwise_cons.1 h;have c:=putL_asc o r a.2;rw[putL]
   by_cases e:keyC y=keyC o
   ·rw[if_pos e];exact c
   ·rw[if_neg e]
    by_cases l:ltO o y=true
    ·rw[if_pos (by simp[l]),putL_done]
     refine List.Pairwise.cons (fun z hz=>?_) (List.Pairwise.cons (fun z hz=>a.1 z (List.mem_filter.1 hz).1) (a.2.filter _))
     rcases List.mem_cons.1 hz with rfl | hz
     ·exact l
     ·exact ltO_trans l (a.1 z (List.mem_filter.1 hz).1)
    ·rw[if_neg (by simp[l])]
     refine List.Pairwise.cons (fun z hz=>?_) c
     rcases(putL_mem o r z).1 hz with rfl | hz
     ·exact ltO_tri (fun x=>e x.symm) (by simpa using l)
     ·exact a.1 z hz.1
theorem asc_unique:∀ (a b:List Cel),Asc a->Asc b->(∀ x,x ∈ a↔x ∈ b)->a=b
 | [],[],_,_,_=>rfl
 | [],y :: s,_,_,h=>by have:=(h y).2 (List.mem_cons_self ..);cases this
 | x :: r,[],_,_,h=>by have:=(h x).1 (List.mem_cons_self ..);cases this
 | x :: r,y :: s,ha,hb,h=>by
   have d:=List.pairwise_cons.1 ha;have f:=List.pairwise_cons.1 hb
   have e:x=y:=by
    rcases List.mem_cons.1 ((h x).1 (List.mem_cons_self ..)) with h3 | h3
    ·exact h3
    ·rcases List.mem_cons.1 ((h y).2 (List.mem_cons_self ..)) with h4 | h4
     ·exact h4.symm
     ·have:=ltO_asymm (d.1 y h4)
      rw[f.1 x h3] at this
      cases this
   subst e;rw[asc_unique r s d.2 f.2 (fun z=>?_)]
   constructor
   ·intro c
    rcases List.mem_cons.1 ((h z).1 (List.mem_cons_of_mem _ c)) with h3 | h3
    ·subst h3;have:=d.1 z c;rw[ltO_irrefl] at this;cases this
    ·exact h3
   ·intro c
    rcases List.mem_cons.1 ((h z).2 (List.mem_cons_of_mem _ c)) with h3 | h3
    ·subst h3;have:=f.1 z c;rw[ltO_irrefl] at this;cases this
    ·exact h3
def findK (cs:List Cel)(k:List UInt8×Int):Option Cel:=cs.find? (fun x=>decide (keyC x=k))
def hasK (cs:List Cel)(k:List UInt8×Int):Bool:=cs.any (fun x=>decide (keyC x=k))
end
section
open Go Go.RowKit Go.Maps
abbrev OKey:=ByteArray×Int
theorem laidOk:laidOutB Tryz.prog=true:=by kernel_rfl
theorem rowOk:(128:TypeId)<Tryz.prog.types.size:=of_decide_eq_true (by kernel_rfl)
theorem keyAtOk:Tryz.prog.keyTypeAt 3 128=true:=by kernel_rfl
theorem lawOkK:WideMaps.KeyLaw Tryz.prog 128:=deep_law_laid laidOk (m:=3) (by decide) rowOk keyAtOk (by kernel_rfl)
theorem lawOk:Keyed Tryz.prog 128:=Keyed.of_law lawOkK
theorem typOk:Tryz.prog.keyType 128=true:=by kernel_rfl
theorem cellsOk:Tryz.prog.cellsOf 128=2:=by kernel_rfl
theorem cellsStrO:Tryz.prog.cellsOf 9=1:=by kernel_rfl
theorem cellsSrt:Tryz.prog.cellsOf 126=1:=by kernel_rfl
def okk (f:OKey):Lit:=.string (keyBytes [.string f.1.data.toList,.int .i64 f.2])
theorem nTypesO:∃ n,Tryz.prog.types.size=n+1:=by
 have h:128<Tryz.prog.types.size:=rowOk
 generalize Tryz.prog.types.size=m at h
 exact⟨m-1,by omega⟩
theorem keyOk (f:OKey)(g:f.1.size<=1000000)(d:0<=f.2)(e:f.2<=1000000):keyOf Tryz.prog 128 (.agg #[.string f.1,.int .i64 f.2])=some (okk f):=by
 obtain⟨n,a⟩:=nTypesO
 have c:f.1.size<=maxLen:=by unfold maxLen;omega
 have b:(Lit.int .i64 f.2).wf=true:=WalkArith.wf_i64 (by omega);exact keyPair Tryz.prog 128 9 126 _ _ _ rfl Tryz.underlying128 rfl rfl rfl rfl (by decide) (by decide) Tryz.underlying9 Tryz.underlying126 cellsOk cellsStrO cellsSrt typOk n a f.1 f.2 c b
theorem ok_inj {f g:OKey}(a:f.1.size<=1000000/\0<=f.2/\f.2<=1000000)(b:g.1.size<=1000000/\0<=g.2/\g.2<=1000000)(h:okk f=okk g):f=g:=by
 have d:=keyOk f a.1 a.2.1 a.2.2;have c:=keyOk g b.1 b.2.1 b.2.2;rw[<-h] at c;have:=lawOk.inj d c;obtain⟨e,i⟩:=f;obtain⟨j,k⟩:=g
 simpa using this
theorem keyOk_inv (a:Value)(c:Lit)(h:keyOf Tryz.prog 128 a=some c):∃ x:OKey,a = .agg #[.string x.1,.int .i64 x.2]:=by
 obtain⟨n,b⟩:=nTypesO;obtain⟨x,y,h⟩:=keyPair_inv Tryz.prog 128 9 126 _ _ _ rfl Tryz.underlying128 rfl rfl rfl rfl (by decide) (by decide) Tryz.underlying9 Tryz.underlying126 cellsOk cellsStrO cellsSrt n b h;exact⟨(x,y),h⟩
end
section
open Go Go.RowKit Go.Sort
theorem below_grow {w:World}(q:Nat)(a:Array Obj):Below w.heap.size w (grow (w.drewN q) a):=
 ⟨rfl,rfl,rfl,by simp[grow],fun k b=>(heap_grow_old (w.drewN q) a b).trans rfl⟩
theorem wrap_small {x:Int}(a : -9223372036854775808<=x)(b:x<=9223372036854775807):IntKind.i64.wrap x=x:=by rw[IntKind.wrap_i64];omega
theorem implTab_any (p:Option Addr)(c:Nat)(f:List Cel)(w:World)(hn:f.length+tl f<=1000000000)(hc:OIn w p f) :
  Calls Tryz.prog 26 #[.slice p f.length c] w fun e w'=>e = .returned (.bool (tabB f))/\Below w.heap.size w w':=by
 have HC:=hid hc;clear hc
 by_cases hl:f.length<=200
 ·have k3:¬ (200:Int)<f.length:=by omega
  have HV:Hid (tabB f=(chainO none f && f.any comC)):=by show _=_;simp[tabB,hl]
  have HF:Hid (∀ b,b=tabB f->Ending.returned (.bool b) = .returned (.bool (tabB f))):=fun b h=>ret_bool h
  go_enter Tryz.func26,Tryz.ntmps26
  go_wp2
  clear k3
  go_loopw [3,11] (fun s i wr=>∃ (k:Nat) (b:Bool),k<=f.length/\s = .bool b/\i = .int .i64 k/\Hid (tabB f=(chainO (befO f k) (f.drop k) && (b || (f.drop k).any comC)))/\Hid (Below w.heap.size w wr)) (fun _ i _=>f.length-(intOf i).toNat)
  case atStart=>exact⟨0,false,Nat.zero_le _,rfl,rfl,by show _=_;rw[HV.o];simp[befO],Below.refl _ _⟩
  case round=>
   obtain⟨k,b,hk,rfl,rfl,HQ,U⟩:=hrel
   by_cases h6:k<f.length
   ·obtain⟨g,o,rfl,Q⟩:=HC.o (by omega)
    have e7:=(Q k h6).below U.o
    have T:0<k->OAt wr g (o+(k-1) * 3) (f.getD (k-1) Cel.none):=fun h=>(Q (k-1) (by omega)).below U.o
    have P:0<k->befO f k=some (f.getD (k-1) Cel.none):=fun h=>by simp[befO];omega
    have h5:k=0->befO f k=none:=fun h=>by simp[befO,h]
    have e4:=tl_at f k h6
    have R:0<k->(f.getD (k-1) Cel.none).2.2.length<=tl f:=fun h=>tl_at f (k-1) (by omega)
    have L:Hid (tabB f=((okC (f.getD k Cel.none) && (match befO f k with | none=>true | some x=>ltO x (f.getD k Cel.none)) && chainO (befO f (k+1)) (f.drop (k+1))) && (b || (comC (f.getD k Cel.none) || (f.drop (k+1)).any comC)))):=by
     show _=_
     rw[HQ.o,chainO_at f k h6,drop_at f k h6];rfl
    obtain⟨x,ex⟩:∃ x,x=f.getD k Cel.none:=⟨_,rfl⟩
    obtain⟨y,ey⟩:∃ y,y=f.getD (k-1) Cel.none:=⟨_,rfl⟩
    rw[<-ex] at e7 L e4;rw[<-ey] at T P R;obtain⟨q,B,h0,h1,h2,h3⟩:=e7;obtain⟨v,z,C⟩:=x;simp only at h0 h1 h2 h3 e4;have hW:Below wr.heap.size wr (wr.alloc (Obj.cells #[.slice q C.length B,.int .i64 v,.int .i64 z] 109)):=(Below.refl _ _).alloc (Nat.le_refl _) _
    have V:Hid (∀ W,Below wr.heap.size wr W->Calls Tryz.prog 88 #[.agg #[.slice q C.length B,.int .i64 v,.int .i64 z]] W fun e w'=>e = .returned (.bool (okC (v,z,C)))/\Below W.heap.size W w'):=fun W hB=>isOp_any v z q C.length B C W rfl (by omega) (h3.below hB)
    have D:Hid (∀ W,Below wr.heap.size wr W->(convert 22 9 (.slice q C.length B)).run Tryz.prog W = .ok (.string (strOfNums C)) W):=fun W hB=>conv_str (h3.below hB) C.length B rfl 9 Tryz.underlying9
    have F:=hid (Below.on U.o hW);have M:Hid _:=hW;have G:Box3 (wr.alloc (Obj.cells #[.slice q C.length B,.int .i64 v,.int .i64 z] 109)) wr.heap.size (.slice q C.length B) (.int .i64 v) (.int .i64 z):=Box3.of_block (t:=109) (heap_alloc_new _ _);obtain⟨Z,c1,c2,_⟩:=G;have e5:Hid (okC (v,z,C)=okC (v,z,C)):=rfl;have I:Hid (comC (v,z,C)=((strOfNums C).toList == [44])):=rfl;have e1:=hid ex;clear ex e4
    obtain⟨E,e2⟩:∃ l,l=C.length:=⟨_,rfl⟩
    rw[<-e2] at h2 V D F M Z c1 c2 hW;have X:=hid e2;clear e2 hW
    obtain⟨sx,e3⟩:∃ s,s=strOfNums C:=⟨_,rfl⟩
    rw[<-e3] at D I;have h9:Hid _:=e3;clear e3
    cases h7:okC (v,z,C) with
    | false=>
      rw[h7] at V L
      have Y:Hid (tabB f=false):=by show _=_;rw[L.o];simp
      clear h7 Q T P h5 R h3 HC HV HQ L D I h9 X e1 e5;go_wp2_with fail;refine wp_region_held_drew (S:=fun W=>W.cell? ⟨wr.heap.size,0,none⟩=some (.slice q E B)/\W.cell? ⟨wr.heap.size,1,none⟩=some (.int .i64 v)/\W.cell? ⟨wr.heap.size,2,none⟩=some (.int .i64 z)) (by kernel_rfl) ?_ (fun J=>?_)
      ·exact⟨Z,c1,c2⟩
      refine hTr 0 (.agg #[.slice q E B,.int .i64 v,.int .i64 z]) 16 (fun o ho W K=>?y0) ?_
      case y0=>cases ho;simp[execOp,go_sem,Act.eval,K.1,K.2.1,K.2.2]
      simp only[Act.put,zzA,zzB,zzC];refine hCall (i:=1) (some 17) (by kernel_rfl) (by kernel_rfl) (by kernel_rfl) (fun o ho=>?y1) (V.o _ M.o.drew) ?_
      case y1=>cases ho;simp[execOp,go_sem,Act.eval]
      intro m a
      have n:m.cell? ⟨wr.heap.size,0,none⟩=some (.slice q E B)/\m.cell? ⟨wr.heap.size,1,none⟩=some (.int .i64 v)/\m.cell? ⟨wr.heap.size,2,none⟩=some (.int .i64 z):=⟨(a.cell (p:=⟨_,_,none⟩) (by simp)).trans Z,(a.cell (p:=⟨_,_,none⟩) (by simp)).trans c1,(a.cell (p:=⟨_,_,none⟩) (by simp)).trans c2⟩
      refine⟨n,?_⟩;clear J;simp only[Act.put,zzA,zzB,zzC];refine hTq 2 (.bool true) 18 ?_
      simp only[Act.put,zzA,zzB,zzC];refine hTq 3 (.bool true) 19 ?_
      simp only[Act.put,zzA,zzB,zzC];refine hSq 4 20 ?_;refine hSq 5 21 ?_;refine hSq 6 22 ?_;refine hSq 7 23 ?_;simp only[Act.put,zzA,zzB,zzC];refine hSq 8 24 ?_;refine hSq 9 25 ?_;refine hSq 10 26 ?_;refine hSq 11 27 ?_;simp only[Act.put,zzA,zzB,zzC];refine hSq 12 28 ?_;refine hSq 13 29 ?_;refine hSq 14 30 ?_;refine hSq 15 31 ?_;simp only[Act.put,zzA,zzB,zzC];refine hTq 16 (.bool true) 32 ?_
      simp only[Act.put,zzA,zzB,zzC];refine wpAnyH_done (by kernel_rfl) ?_ _
      all_goals go_wp2_with fail
      all_goals go_ret
      all_goals exact⟨HF.o _ Y.o.symm,(F.o.drew).trans (a.mono (Nat.le_trans U.o.size (by simp)))⟩
    | true=>
      rw[h7] at V L;clear h7 e5
      by_cases e8:k=0
      ·subst e8
       have e0:=h5 rfl;simp only[Nat.zero_mul,Nat.add_zero] at h0 h1 h2;rw[e0] at L
       have Y:Hid (tabB f=(chainO (befO f 1) (f.drop 1) && ((b || (sx.toList == [44])) || (f.drop 1).any comC))):=by
        show _=_
        rw[L.o,I.o];simp[Bool.or_assoc]
       clear e0 Q T P h5 R h3 HC HV HQ L I h9 X e1;go_wp2_with fail;refine wp_region_held_drew (S:=fun W=>W.cell? ⟨wr.heap.size,0,none⟩=some (.slice q E B)/\W.cell? ⟨wr.heap.size,1,none⟩=some (.int .i64 v)/\W.cell? ⟨wr.heap.size,2,none⟩=some (.int .i64 z)) (by kernel_rfl) ?_ (fun J=>?_)
       ·exact⟨Z,c1,c2⟩
       refine hTr 0 (.agg #[.slice q E B,.int .i64 v,.int .i64 z]) 16 (fun o ho W K=>?y0) ?_
       case y0=>cases ho;simp[execOp,go_sem,Act.eval,K.1,K.2.1,K.2.2]
       simp only[Act.put,zzA,zzB,zzC];refine hCall (i:=1) (some 17) (by kernel_rfl) (by kernel_rfl) (by kernel_rfl) (fun o ho=>?y1) (V.o _ M.o.drew) ?_
       case y1=>cases ho;simp[execOp,go_sem,Act.eval]
       intro m a
       have n:m.cell? ⟨wr.heap.size,0,none⟩=some (.slice q E B)/\m.cell? ⟨wr.heap.size,1,none⟩=some (.int .i64 v)/\m.cell? ⟨wr.heap.size,2,none⟩=some (.int .i64 z):=⟨(a.cell (p:=⟨_,_,none⟩) (by simp)).trans Z,(a.cell (p:=⟨_,_,none⟩) (by simp)).trans c1,(a.cell (p:=⟨_,_,none⟩) (by simp)).trans c2⟩
       refine⟨n,?_⟩;clear J;simp only[Act.put,zzA,zzB,zzC];refine hTq 2 (.bool false) 18 ?_
       simp only[Act.put,zzA,zzB,zzC];refine hTq 3 (.bool false) 19 ?_
       simp only[Act.put,zzA,zzB,zzC];refine hTq 4 (.int .i64 0) 20 ?_
       simp only[Act.put,zzA,zzB,zzC];refine hTq 5 (.bool false) 21 ?_
       simp only[Act.put,zzA,zzB,zzC];refine hTq 6 (.bool false) 22 ?_
       simp only[Act.put,zzA,zzB,zzC];refine hSq 7 23 ?_;simp only[Act.put,zzA,zzB,zzC];refine hSq 8 24 ?_;refine hSq 9 25 ?_;refine hSq 10 26 ?_;refine hSq 11 27 ?_;simp only[Act.put,zzA,zzB,zzC];refine hSq 12 28 ?_;refine hSq 13 29 ?_;refine hSq 14 30 ?_;simp only[Act.put,zzA,zzB,zzC];refine hTq 15 (.bool false) 31 ?_
       simp only[Act.put,zzA,zzB,zzC];refine hTq 16 (.bool false) 32 ?_
       simp only[Act.put,zzA,zzB,zzC];refine wpAnyH_done (by kernel_rfl) ?_ _
       all_goals
        have H:Hid (Below w.heap.size w m):=(F.o.drew).trans (a.mono (Nat.le_trans U.o.size (by simp)));have cv:=D.o m (M.o.drew.trans (a.mono (by simp)));obtain⟨k0,k1,k2⟩:=n;clear a V D M F Z c1 c2
        cases b with
        | true=>
          go_wp2_with fail;go_roundw
          case rel=>exact⟨1,true,by omega,by go_num,by go_num,by show _=_;rw[Y.o];simp,H⟩
          case measure=>simp[intOf];omega
        | false=>
          go_wp2_with fail;go_roundw
          case rel=>exact⟨1,sx.toList == [44],by omega,by go_num,by go_num,by show _=_;rw[Y.o];simp,H⟩
          case measure=>simp[intOf];omega
      ·obtain⟨j,ej⟩:∃ j,k=j+1:=⟨k-1,by omega⟩
       have e9:((k:Int)-1)=(j:Int):=by omega
       have x8:0<k:=by omega
       have x9:decide (0<k)=true:=by simp;omega
       have x7:j<f.length:=by omega
       have x4:(j:Int)<(f.length:Int):=by omega
       have x6:(0:Int)<=(j:Int):=by omega
       have k9:IntKind.i64.wrap ((k:Int)-1)=(j:Int):=by rw[e9];exact wrap_small (by omega) (by omega)
       clear e9;have e0:=P (by omega);have k7:=T (by omega);have k4:=R (by omega);rw[e0] at L;rw[show k-1=j by omega] at k7;obtain⟨r,rc,d1,d2,d0,d3⟩:=k7;obtain⟨y0,y1,y2⟩:=y;simp only at d0 d1 d2 d3 k4 L;have A:g<wr.heap.size:=World.block_lt_of_cell? _ _ d0
       have N:Hid (∀ W,Below wr.heap.size wr W->Calls Tryz.prog 89 #[.agg #[.slice r y2.length rc,.int .i64 y0,.int .i64 y1],.agg #[.slice q E B,.int .i64 v,.int .i64 z]] W fun e w'=>e = .returned (.int .i64 (opCmp (y0,y1,y2) (v,z,C)))/\∃ q x3,w'=grow (W.drewN q) x3):=fun W hB=>compareOps_any y0 y1 v z r q y2.length E rc B y2 C W rfl X.o (d3.below hB) (h3.below hB)
       obtain⟨m2,e6⟩:∃ l,l=y2.length:=⟨_,rfl⟩
       rw[<-e6] at N d0;have O:Hid (ltO (y0,y1,y2) (v,z,C)=decide (opCmp (y0,y1,y2) (v,z,C)<0)):=rfl
       generalize opCmp (y0,y1,y2) (v,z,C)=oc at N O
       have h4:Below wr.heap.size wr (wr.alloc (Obj.cells #[.slice q E B,.int .i64 v,.int .i64 z] 109)):=M.o;have d0:=(h4.cell (p:=⟨_,_,none⟩) A).trans d0;have d1:=(h4.cell (p:=⟨_,_,none⟩) A).trans d1;have d2:=(h4.cell (p:=⟨_,_,none⟩) A).trans d2
       have A:g<(wr.alloc (Obj.cells #[.slice q E B,.int .i64 v,.int .i64 z] 109)).heap.size:=by simp;omega
       have x5:=hid ej;clear e0 T P h5 R h3 HC HV HQ h9 X e1 Q e6 d3 ey h4 ej e8 k4
       by_cases k5:oc<0
       ·have k6:decide (0<=oc)=false:=by simp;omega
        have Y:Hid (tabB f=(chainO (befO f (k+1)) (f.drop (k+1)) && ((b || (sx.toList == [44])) || (f.drop (k+1)).any comC))):=by
         show _=_
         rw[L.o,O.o,I.o];simp[k5,Bool.or_assoc]
        clear L O I;go_wp2_with fail
        go_region_held3 (fun W=>(W.cell? ⟨wr.heap.size,0,none⟩=some (.slice q E B)/\W.cell? ⟨wr.heap.size,1,none⟩=some (.int .i64 v)/\W.cell? ⟨wr.heap.size,2,none⟩=some (.int .i64 z))/\W.cell? ⟨g,o+j * 3,none⟩=some (.slice r m2 rc)/\W.cell? ⟨g,o+j * 3+1,none⟩=some (.int .i64 y0)/\W.cell? ⟨g,o+j * 3+2,none⟩=some (.int .i64 y1)) (first | exact h8 | exact n | go_keep)
         (first | (go_at_call 88;refine(V.o _ M.o.drew).mono ?_;rintro e m ⟨rfl,a⟩;have n:(m.cell? ⟨wr.heap.size,0,none⟩=some (.slice q E B)/\m.cell? ⟨wr.heap.size,1,none⟩=some (.int .i64 v)/\m.cell? ⟨wr.heap.size,2,none⟩=some (.int .i64 z))/\m.cell? ⟨g,o+j * 3,none⟩=some (.slice r m2 rc)/\m.cell? ⟨g,o+j * 3+1,none⟩=some (.int .i64 y0)/\m.cell? ⟨g,o+j * 3+2,none⟩=some (.int .i64 y1):=⟨⟨(a.cell (p:=⟨_,_,none⟩) (by simp)).trans Z,(a.cell (p:=⟨_,_,none⟩) (by simp)).trans c1,(a.cell (p:=⟨_,_,none⟩) (by simp)).trans c2⟩,⟨(a.cell (p:=⟨_,_,none⟩) A).trans d0,(a.cell (p:=⟨_,_,none⟩) A).trans d1,(a.cell (p:=⟨_,_,none⟩) A).trans d2⟩⟩) | (go_at_call 89;refine(N.o _ (M.o.drew.trans (a.mono (by simp)))).mono ?_;rintro e w2 ⟨rfl,u,d,rfl⟩;have h8:((grow (m.drewN u) d).cell? ⟨wr.heap.size,0,none⟩=some (.slice q E B)/\(grow (m.drewN u) d).cell? ⟨wr.heap.size,1,none⟩=some (.int .i64 v)/\(grow (m.drewN u) d).cell? ⟨wr.heap.size,2,none⟩=some (.int .i64 z))/\(grow (m.drewN u) d).cell? ⟨g,o+j * 3,none⟩=some (.slice r m2 rc)/\(grow (m.drewN u) d).cell? ⟨g,o+j * 3+1,none⟩=some (.int .i64 y0)/\(grow (m.drewN u) d).cell? ⟨g,o+j * 3+2,none⟩=some (.int .i64 y1):=⟨⟨((below_grow u d).cell (World.block_lt_of_cell? _ _ n.1.1)).trans n.1.1,((below_grow u d).cell (World.block_lt_of_cell? _ _ n.1.2.1)).trans n.1.2.1,((below_grow u d).cell (World.block_lt_of_cell? _ _ n.1.2.2)).trans n.1.2.2⟩,((below_grow u d).cell (World.block_lt_of_cell? _ _ n.2.1)).trans n.2.1,((below_grow u d).cell (World.block_lt_of_cell? _ _ n.2.2.1)).trans n.2.2.1,((below_grow u d).cell (World.block_lt_of_cell? _ _ n.2.2.2)).trans n.2.2.2⟩))
        all_goals
         have H:Hid (Below w.heap.size w (grow (m.drewN u) d)):=((F.o.drew).trans (a.mono (Nat.le_trans U.o.size (by simp)))).trans ((below_grow u d).mono (Nat.le_trans U.o.size (Nat.le_trans (by simp) a.size)));have cv:=D.o _ (M.o.drew.trans ((a.trans ((below_grow u d).mono a.size)).mono (by simp)));obtain⟨⟨k0,k1,k2⟩,_⟩:=h8;clear n a V N D M F Z c1 c2 d0 d1 d2 A
         revert H cv k0 k1 k2
         generalize grow (m.drewN u) d=w3
         intro H cv k0 k1 k2
         cases b with
         | true=>
           go_wp2_with fail;go_roundw
           case rel=>exact⟨k+1,true,by omega,by go_num,by go_num,by show _=_;rw[Y.o];simp,H⟩
           case measure=>simp[intOf];omega
         | false=>
           go_wp2_with fail;go_roundw
           case rel=>exact⟨k+1,sx.toList == [44],by omega,by go_num,by go_num,by show _=_;rw[Y.o];simp,H⟩
           case measure=>simp[intOf];omega
       ·have k6:decide (0<=oc)=true:=by simp;omega
        have Y:Hid (tabB f=false):=by
         show _=_
         rw[L.o,O.o];simp[k5]
        clear L O I D;go_wp2_with fail
        go_region_held3 (fun W=>(W.cell? ⟨wr.heap.size,0,none⟩=some (.slice q E B)/\W.cell? ⟨wr.heap.size,1,none⟩=some (.int .i64 v)/\W.cell? ⟨wr.heap.size,2,none⟩=some (.int .i64 z))/\W.cell? ⟨g,o+j * 3,none⟩=some (.slice r m2 rc)/\W.cell? ⟨g,o+j * 3+1,none⟩=some (.int .i64 y0)/\W.cell? ⟨g,o+j * 3+2,none⟩=some (.int .i64 y1)) (first | exact h8 | exact n | go_keep)
         (first | (go_at_call 88;refine(V.o _ M.o.drew).mono ?_;rintro e m ⟨rfl,a⟩;have n:(m.cell? ⟨wr.heap.size,0,none⟩=some (.slice q E B)/\m.cell? ⟨wr.heap.size,1,none⟩=some (.int .i64 v)/\m.cell? ⟨wr.heap.size,2,none⟩=some (.int .i64 z))/\m.cell? ⟨g,o+j * 3,none⟩=some (.slice r m2 rc)/\m.cell? ⟨g,o+j * 3+1,none⟩=some (.int .i64 y0)/\m.cell? ⟨g,o+j * 3+2,none⟩=some (.int .i64 y1):=⟨⟨(a.cell (p:=⟨_,_,none⟩) (by simp)).trans Z,(a.cell (p:=⟨_,_,none⟩) (by simp)).trans c1,(a.cell (p:=⟨_,_,none⟩) (by simp)).trans c2⟩,⟨(a.cell (p:=⟨_,_,none⟩) A).trans d0,(a.cell (p:=⟨_,_,none⟩) A).trans d1,(a.cell (p:=⟨_,_,none⟩) A).trans d2⟩⟩) | (go_at_call 89;refine(N.o _ (M.o.drew.trans (a.mono (by simp)))).mono ?_;rintro e w2 ⟨rfl,u,d,rfl⟩;have h8:((grow (m.drewN u) d).cell? ⟨wr.heap.size,0,none⟩=some (.slice q E B)/\(grow (m.drewN u) d).cell? ⟨wr.heap.size,1,none⟩=some (.int .i64 v)/\(grow (m.drewN u) d).cell? ⟨wr.heap.size,2,none⟩=some (.int .i64 z))/\(grow (m.drewN u) d).cell? ⟨g,o+j * 3,none⟩=some (.slice r m2 rc)/\(grow (m.drewN u) d).cell? ⟨g,o+j * 3+1,none⟩=some (.int .i64 y0)/\(grow (m.drewN u) d).cell? ⟨g,o+j * 3+2,none⟩=some (.int .i64 y1):=⟨⟨((below_grow u d).cell (World.block_lt_of_cell? _ _ n.1.1)).trans n.1.1,((below_grow u d).cell (World.block_lt_of_cell? _ _ n.1.2.1)).trans n.1.2.1,((below_grow u d).cell (World.block_lt_of_cell? _ _ n.1.2.2)).trans n.1.2.2⟩,((below_grow u d).cell (World.block_lt_of_cell? _ _ n.2.1)).trans n.2.1,((below_grow u d).cell (World.block_lt_of_cell? _ _ n.2.2.1)).trans n.2.2.1,((below_grow u d).cell (World.block_lt_of_cell? _ _ n.2.2.2)).trans n.2.2.2⟩))
        all_goals go_wp2_with fail
        all_goals go_ret
        all_goals exact⟨HF.o _ Y.o.symm,((F.o.drew).trans (a.mono (Nat.le_trans U.o.size (by simp)))).trans ((below_grow u d).mono (Nat.le_trans U.o.size (Nat.le_trans (by simp) a.size)))⟩
   ·obtain rfl:k=f.length:=by omega
    have k8:Hid (tabB f=b):=by
     have:=HQ.o;rw[List.drop_length] at this
     show _=_
     simpa [chainO] using this
    clear HQ HC HV
    go_wp2
    go_ret;exact⟨HF.o _ k8.o.symm,U.o⟩
 ·have k3:(200:Int)<f.length:=by omega
  have hv:tabB f=false:=by simp[tabB];omega
  rw[hv];clear hv
  go_enter Tryz.func26,Tryz.ntmps26
  go_wp2
  go_ret;exact⟨rfl,Below.refl _ _⟩
end
section
open Go Go.RowKit Go.Maps
def kO (c:Cel):OKey:=(strOfNums c.2.2,srt c.2.1)
theorem kO_key {x y:Cel} : kO x=kO y↔keyC x=keyC y:=by
 constructor
 ·intro h
  have a:=(Prod.mk.inj h).1;have b:=(Prod.mk.inj h).2;rw[keyC,keyC,a,b]
 ·intro h
  exact Prod.ext (ba_ext (Prod.mk.inj h).1) (Prod.mk.inj h).2
def opElem (v:Value):Option (DataW Unit×List MemPlace):=
 match v with
 | .agg ⟨[.string s,.int .i64 p,.int .i64 t]⟩=>some (.agg [.lit (.string s.data.toList),.lit (.int .i64 p),.lit (.int .i64 t)],[])
 | _=>none
def encV (c:Cel):Value:=.agg #[.string (strOfNums c.2.2),.int .i64 c.1,.int .i64 c.2.1]
def encD (c:Cel):DataW Unit:=.agg [.lit (.string (strOfNums c.2.2).data.toList),.lit (.int .i64 c.1),.lit (.int .i64 c.2.1)]
theorem opElem_enc (c:Cel):opElem (encV c)=some (encD c,[]):=rfl
theorem opElem_inv {v:Value}{y:DataW Unit×List MemPlace}(h:opElem v=some y):∃ x:ByteArray×Int×Int,v = .agg #[.string x.1,.int .i64 x.2.1,.int .i64 x.2.2]/\y=(.agg [.lit (.string x.1.data.toList),.lit (.int .i64 x.2.1),.lit (.int .i64 x.2.2)],[]):=by
 unfold opElem at h
 split at h
 ·rename_i s p t
  exact⟨(s,p,t),rfl,(Option.some.inj h).symm⟩
 ·cases h
theorem opElem_at {v:Value}{c:Cel}{d:List MemPlace}(h:opElem v=some (encD c,d)):v=encV c:=by
 obtain⟨x,rfl,b⟩:=opElem_inv h;have a:=congrArg Prod.fst b;simp only[encD,DataW.agg.injEq,List.cons.injEq,DataW.lit.injEq,Lit.string.injEq,Lit.int.injEq,and_true,true_and] at a;have e:x.1=strOfNums c.2.2:=ba_ext (by rw[ByteArray.toList_eq,ByteArray.toList_eq];exact a.1.symm);rw[encV,e,a.2.1,a.2.2]
def zD:DataW Unit:=.agg [.lit (.string []),.lit (.int .i64 0),.lit (.int .i64 0)]
def okT (c:Cel):Prop:=Byte c.2.2/\c.2.2.length<=1000000
def Apart (T:List Cel):Prop:=T.Pairwise (fun x y=>keyC x≠keyC y)
def OpMap (w:World)(b N:Nat)(T:List Cel):Prop:=∃ D:DataW Unit,w.ownsMap Tryz.prog 128 opElem b N D/\(∀ c ∈ T,okT c)/\Apart T/\Maps.size D=T.length/\
 (∀ (f:OKey) l,keyOf Tryz.prog 128 (.agg #[.string f.1,.int .i64 f.2])=some l->(Maps.has D l=true↔∃ c ∈ T,kO c=f))/\(∀ c ∈ T,D.atKey (okk (kO c)) zD=encD c)
theorem OpMap.lt {w:World}{b N:Nat}{T:List Cel}(h:OpMap w b N T):b<w.heap.size:=by obtain⟨D,h,_⟩:=h;exact h.lt
theorem OpMap.of_block {w w':World}{b N:Nat}{T:List Cel}(h:OpMap w b N T)(f:w'.heap[b]?=w.heap[b]?):OpMap w' b N T:=by
 obtain⟨D,⟨c,a,d,r⟩,e⟩:=h;exact⟨D,⟨c,a,f.trans d,r⟩,e⟩
theorem OpMap.below {w w':World}{b N:Nat}{T:List Cel}(h:OpMap w b N T)(a:Below w.heap.size w w'):OpMap w' b N T:=h.of_block (a.block _ h.lt)
theorem OpMap.made (w:World):OpMap (w.alloc (.map #[] 0)) w.heap.size 0 []:=⟨_,World.ownsMap_made _ _ _ _,fun _ h=>by simp at h,List.Pairwise.nil,rfl,fun f l _=>⟨fun h=>by simp[Maps.has] at h,fun ⟨c,h,_⟩=>by cases h⟩,fun x a=>by cases a⟩
theorem okk_lit (f:OKey):WideAt.IsKeyLit (okk f):=trivial
theorem srt_range (t:Int):0<=srt t/\srt t<=1000000:=by rcases srt_two t with h | h <;> omega
theorem kO_ok {c:Cel}(h:okT c):(kO c).1.size<=1000000/\0<=(kO c).2/\(kO c).2<=1000000:=⟨by rw[kO];show(strOfNums c.2.2).size<=_;rw[strOfNums_size];exact h.2,srt_range _⟩
theorem keyOf_kO {c:Cel}(h:okT c):keyOf Tryz.prog 128 (.agg #[.string (kO c).1,.int .i64 (kO c).2])=some (okk (kO c)):=keyOk (kO c) (kO_ok h).1 (kO_ok h).2.1 (kO_ok h).2.2
def dropK (T:List Cel)(k:List UInt8×Int):List Cel:=T.filter (fun x=>decide (keyC x≠k))
theorem mem_dropK {T:List Cel}{k:List UInt8×Int}{x:Cel} : x ∈ dropK T k↔x ∈ T/\keyC x≠k:=by simp[dropK]
theorem dropK_len:∀ (T:List Cel) (k:List UInt8×Int),Apart T->(dropK T k).length+(if hasK T k then 1 else 0)=T.length
 | [],k,_=>rfl
 | x :: r,k,h=>by
   have b:=List.pairwise_cons.1 h;have a:=dropK_len r k b.2
   by_cases e:keyC x=k
   ·have f:hasK r k=false:=by
     rw[hasK,List.any_eq_false]
     intro z g d
     exact b.1 z g (e.trans (of_decide_eq_true d).symm)
    have ha:hasK (x :: r) k=true:=by simp[hasK,e]
    rw[f] at a;rw[ha];simp only[dropK,List.filter_cons,e] at a ⊢
    simpa using a
   ·have ha:hasK (x :: r) k=hasK r k:=by simp[hasK,e]
    rw[ha]
    have c:dropK (x :: r) k=x :: dropK r k:=by simp[dropK,e]
    rw[c,List.length_cons,List.length_cons]
    omega
theorem hasK_iff {T:List Cel}{k:List UInt8×Int} : hasK T k=true↔∃ c ∈ T,keyC c=k:=by simp[hasK]
theorem has_iff {T:List Cel}{D:DataW Unit}(a:∀ (f:OKey) l,keyOf Tryz.prog 128 (.agg #[.string f.1,.int .i64 f.2])=some l->(Maps.has D l=true↔∃ c ∈ T,kO c=f)){o:Cel}(b:okT o):Maps.has D (okk (kO o))=hasK T (keyC o):=by
 rw[Bool.eq_iff_iff,a (kO o) _ (keyOf_kO b),hasK_iff];simp only[kO_key]
theorem OpMap.put {w w':World}{b N:Nat}{T:List Cel}{D:DataW Unit}{o:Cel}(j:okT o)
  (F:w.ownsMap Tryz.prog 128 opElem b N D/\(∀ c ∈ T,okT c)/\Apart T/\Maps.size D=T.length/\(∀ (f:OKey) l,keyOf Tryz.prog 128 (.agg #[.string f.1,.int .i64 f.2])=some l->(Maps.has D l=true↔∃ c ∈ T,kO c=f))/\(∀ c ∈ T,D.atKey (okk (kO c)) zD=encD c))
  (E:w'.ownsMap Tryz.prog 128 opElem b (N+1) (D.put (okk (kO o)) (encD o))):OpMap w' b (N+1) (dropK T (keyC o) ++ [o]):=by
 obtain⟨d,k,i,r,a,n⟩:=F;have v:=d.isMap;refine⟨_,E,fun c g=>?_,?_,?_,fun f l p=>?_,fun c g=>?_⟩
 ·rcases List.mem_append.1 g with h | h
  ·exact k c (mem_dropK.1 h).1
  ·simp at h;rw[h];exact j
 ·refine List.pairwise_append.2 ⟨i.filter _,by simp,fun x G y z=>?_⟩
  simp at z
  rw[z];exact(mem_dropK.1 G).2
 ·rw[size_put (d.tidy lawOk),has_iff a j,r,List.length_append]
  have:=dropK_len T (keyC o) i
  by_cases u:hasK T (keyC o)=true
  ·simp[u] at this ⊢;omega
  ·simp[u] at this ⊢;omega
 ·by_cases e:kO o=f
  ·subst e
   have A:l=okk (kO o):=by have:=keyOf_kO j;rw[p] at this;exact Option.some.inj this
   rw[A,has_put_same v (okk_lit _)];exact⟨fun _=>⟨o,by simp,rfl⟩,fun _=>rfl⟩
  ·have q:l≠okk (kO o):=fun h=>e (by
    have s:=keyOf_kO j;rw[<-h] at s;have:=lawOk.inj p s;obtain⟨B,C⟩:=f
    have t:(kO o).fst=B/\(kO o).snd=C:=by simpa using this.symm
    exact Prod.ext t.1 t.2)
   rw[has_put_other q,a f l p]
   constructor
   ·rintro⟨c,g,rfl⟩
    exact⟨c,List.mem_append_left _ (mem_dropK.2 ⟨g,fun h=>e (kO_key.2 h.symm)⟩),rfl⟩
   ·rintro⟨c,g,rfl⟩
    rcases List.mem_append.1 g with h | h
    ·exact⟨c,(mem_dropK.1 h).1,rfl⟩
    ·simp at h;exact absurd (by rw[h]) e
 ·rcases List.mem_append.1 g with h | h
  ·have m:=mem_dropK.1 h
   rw[atKey_put_other (fun h=>m.2 (kO_key.1 (ok_inj (kO_ok (k c m.1)) (kO_ok j) h)))];exact n c m.1
  ·simp at h
   rw[h,atKey_put_same v (okk_lit _)]
theorem OpMap.del {w v:World}{b N:Nat}{T:List Cel}{D:DataW Unit}{o:Cel}(n:okT o)
  (B:w.ownsMap Tryz.prog 128 opElem b N D/\(∀ c ∈ T,okT c)/\Apart T/\Maps.size D=T.length/\(∀ (f:OKey) l,keyOf Tryz.prog 128 (.agg #[.string f.1,.int .i64 f.2])=some l->(Maps.has D l=true↔∃ c ∈ T,kO c=f))/\(∀ c ∈ T,D.atKey (okk (kO c)) zD=encD c))
  (A:v.ownsMap Tryz.prog 128 opElem b N (D.del (okk (kO o)))):OpMap v b N (dropK T (keyC o)):=by
 obtain⟨m,j,i,s,d,p⟩:=B;refine⟨_,A,fun c a=>j c (mem_dropK.1 a).1,i.filter _,?_,fun f l q=>?_,fun c a=>?_⟩
 ·have g:=size_del (k:=okk (kO o)) (m.tidy lawOk)
  rw[has_iff d n,s] at g;have:=dropK_len T (keyC o) i
  omega
 ·by_cases e:kO o=f
  ·subst e
   have x:l=okk (kO o):=by have:=keyOf_kO n;rw[q] at this;exact Option.some.inj this
   rw[x,has_del_same];refine⟨fun h=>(by cases h),fun C=>?_⟩;obtain⟨c,a,E⟩:=C;exact absurd (kO_key.1 E) (mem_dropK.1 a).2
  ·have r:l≠okk (kO o):=fun h=>e (by
    have t:=keyOf_kO n;rw[<-h] at t;have:=lawOk.inj q t;obtain⟨y,z⟩:=f
    have u:(kO o).fst=y/\(kO o).snd=z:=by simpa using this.symm
    exact Prod.ext u.1 u.2)
   rw[has_del_other r,d f l q]
   constructor
   ·rintro⟨c,a,rfl⟩
    exact⟨c,mem_dropK.2 ⟨a,fun h=>e (kO_key.2 h.symm)⟩,rfl⟩
   ·rintro⟨c,a,rfl⟩
    exact⟨c,(mem_dropK.1 a).1,rfl⟩
 ·have g:=mem_dropK.1 a
  rw[atKey_del_other (fun h=>g.2 (kO_key.1 (ok_inj (kO_ok (j c g.1)) (kO_ok n) h)))];exact p c g.1
theorem key_any (s:ByteArray)(p t:Int)(w:World):Calls Tryz.prog 96 #[.agg #[.string s,.int .i64 p,.int .i64 t]] w fun e r=>e = .returned (.agg #[.string s,.int .i64 (srt t)])/\Below w.heap.size w r:=by
 have n:=fun W=>sortOf_any t W
 generalize srt t=q at n ⊢
 have k:Box3 ((w.alloc (.cells #[.string s,.int .i64 p,.int .i64 t] 82)).alloc (.cells #[.string ⟨#[]⟩,.int .i64 0] 128)) w.heap.size (.string s) (.int .i64 p) (.int .i64 t):=Box3.of_block (t:=82) ((Below.heap_alloc _ _ _ (by simp)).trans (heap_alloc_new _ _));have g:=pair_new (w.alloc (.cells #[.string s,.int .i64 p,.int .i64 t] 82)) (.string ⟨#[]⟩) (.int .i64 0) 128
 have l:∀ j,((w.alloc (.cells #[.string s,.int .i64 p,.int .i64 t] 82)).alloc (.cells #[.string ⟨#[]⟩,.int .i64 0] 128)).frozen? ⟨w.heap.size+1,j,none⟩=false:=fun j=>by
  have h:=heap_alloc_new (w.alloc (.cells #[.string s,.int .i64 p,.int .i64 t] 82)) (.cells #[.string ⟨#[]⟩,.int .i64 0] 128);rw[World.size_alloc] at h;exact frozen_of_row _ _ j _ _ h
 rw[World.size_alloc] at g;have m:Below w.heap.size w ((w.alloc (.cells #[.string s,.int .i64 p,.int .i64 t] 82)).alloc (.cells #[.string ⟨#[]⟩,.int .i64 0] 128)):=((Below.refl _ _).alloc (Nat.le_refl _) _).alloc (by simp) _;have b:Hid _:=k;have c:Hid _:=g;have d:Hid _:=l;have a:Hid _:=m;clear k g l m
 go_enter Tryz.func96,Tryz.ntmps96
 go_wp2_with fail;obtain⟨y,z,A,_⟩:=b.o;obtain⟨u,x⟩:=c.o;have B:=d.o;have f:=a.o;clear b c d a
 generalize (w.alloc (.cells #[.string s,.int .i64 p,.int .i64 t] 82)).alloc (.cells #[.string ⟨#[]⟩,.int .i64 0] 128)=W2 at *
 have i:Hid _:=f;clear f
 go_region_held3 (fun W=>W.cell? ⟨w.heap.size,0,none⟩=some (.string s)/\W.cell? ⟨w.heap.size,2,none⟩=some (.int .i64 t))
  (go_keep)
  ((go_at_call 153;refine(n _).mono ?_;rintro e r ⟨rfl,rfl⟩))
 all_goals go_wp2_with fail
 all_goals refine bodyPost_ret (v:=.agg #[.string s,.int .i64 q]) (by simp[results,Tryz.results96,go_sem,u,x]) rfl ⟨rfl,?_⟩
 all_goals exact(i.o.drew.setCell (p:=⟨_,_,none⟩) (by simp) _).setCell (p:=⟨_,_,none⟩) (by simp) _
def postB (t:Int):Bool:=t == 5 || t == 6
theorem isPost_any (s:ByteArray)(p t:Int)(w:World):Calls Tryz.prog 97 #[.agg #[.string s,.int .i64 p,.int .i64 t]] w fun e i=>e = .returned (.bool (postB t))/\Below w.heap.size w i:=by
 have a:Hid (postB t=(t == 5 || t == 6)):=rfl;have c:Hid (Below w.heap.size w (w.alloc (.cells #[.string s,.int .i64 p,.int .i64 t] 82))):=(Below.refl _ _).alloc (Nat.le_refl _) _
 cases f:(t == 5) <;> cases g:(t == 6)
 all_goals
  rw[f,g] at a
  have d:Hid (∀ b,b=postB t->Ending.returned (.bool b) = .returned (.bool (postB t))):=fun b h=>ret_bool h
  go_enter Tryz.func97,Tryz.ntmps97
  go_wp2_with fail;go_ret;exact⟨d.o _ a.o.symm,c.o⟩
theorem kkM {a c:World}{b g:Nat}{i j k:Value}(l:a.grownBy c (some b))(h:a.cell? ⟨g,0,none⟩=some i/\a.cell? ⟨g,1,none⟩=some j/\a.cell? ⟨g,2,none⟩=some k)(f:g≠b):c.cell? ⟨g,0,none⟩=some i/\c.cell? ⟨g,1,none⟩=some j/\c.cell? ⟨g,2,none⟩=some k:=by
 have e:g<a.heap.size:=World.block_lt_of_cell? _ _ h.1
 have d:∀ o,c.cell? ⟨g,o,none⟩=a.cell? ⟨g,o,none⟩:=fun o=>World.cell?_of_block (l.block _ e (by simpa using f))
 exact⟨(d _).trans h.1,(d _).trans h.2.1,(d _).trans h.2.2⟩
def addCode (T:List Cel)(o:Cel):Int:=
 match findK T (keyC o) with
 | some x=>if (postB x.2.1 != postB o.2.1)=true then 4 else 0
 | none=>if o.1=0 then 0 else if T.length=200 then 3 else 0
def addT (T:List Cel)(o:Cel):List Cel:=if addCode T o≠0 then T else if o.1=0 then dropK T (keyC o) else dropK T (keyC o) ++ [o]
theorem findK_some {T:List Cel}{k:List UInt8×Int}{x:Cel}(h:findK T k=some x):x ∈ T/\keyC x=k:=⟨List.mem_of_find?_eq_some h,by simpa using List.find?_some h⟩
theorem findK_none {T:List Cel}{k:List UInt8×Int}(h:findK T k=none):hasK T k=false:=by
 rw[hasK,List.any_eq_false]
 intro x a
 have:=List.find?_eq_none.1 h x a;exact this
theorem six_below {W0 W b:World}{a g:Nat}{u0 u1 u2 v0 v1 v2:Value}(h:((W.cell? ⟨a,0,none⟩=some u0/\W.cell? ⟨a,1,none⟩=some u1/\W.cell? ⟨a,2,none⟩=some u2)/\(W.cell? ⟨g,0,none⟩=some v0/\W.cell? ⟨g,1,none⟩=some v1/\W.cell? ⟨g,2,none⟩=some v2))/\Below W0.heap.size W0 W)(c:Below W.heap.size W b) :
  ((b.cell? ⟨a,0,none⟩=some u0/\b.cell? ⟨a,1,none⟩=some u1/\b.cell? ⟨a,2,none⟩=some u2)/\(b.cell? ⟨g,0,none⟩=some v0/\b.cell? ⟨g,1,none⟩=some v1/\b.cell? ⟨g,2,none⟩=some v2))/\Below W0.heap.size W0 b:=by
 obtain⟨⟨⟨d,e,f⟩,i,j,k⟩,l⟩:=h;exact⟨⟨⟨(c.cell (World.block_lt_of_cell? _ _ d)).trans d,(c.cell (World.block_lt_of_cell? _ _ e)).trans e,(c.cell (World.block_lt_of_cell? _ _ f)).trans f⟩,(c.cell (World.block_lt_of_cell? _ _ i)).trans i,(c.cell (World.block_lt_of_cell? _ _ j)).trans j,(c.cell (World.block_lt_of_cell? _ _ k)).trans k⟩,Below.on l c⟩
theorem zeroOp (w:World):(zeroValue 82).run Tryz.prog w = .ok (.agg #[.string ⟨#[]⟩,.int .i64 0,.int .i64 0]) w:=by kernel_rfl
theorem three_new (W:World)(a b c:Value)(t:TypeId):(W.alloc (.cells #[a,b,c] t)).cell? ⟨W.heap.size,0,none⟩=some a/\(W.alloc (.cells #[a,b,c] t)).cell? ⟨W.heap.size,1,none⟩=some b/\(W.alloc (.cells #[a,b,c] t)).cell? ⟨W.heap.size,2,none⟩=some c:=
 ⟨by simp[World.cell?_alloc_new],by simp[World.cell?_alloc_new],by simp[World.cell?_alloc_new]⟩
def AddOut (w:World)(B b N:Nat)(T:List Cel)(o:Cel)(e:Ending)(w':World):Prop:=e = .returned (.int .i64 (addCode T o))/\(∃ N',N'<=N+1/\OpMap w' b N' (addT T o))/\Below B w w'/\w.grownBy w' (some b)
theorem grown_after {w a c:World}{b:Nat}(h:Below w.heap.size w a)(g:a.grownBy c (some b)):w.grownBy c (some b):=⟨g.os.trans h.os,g.tape.trans h.tape,g.output.trans h.output,Nat.le_trans h.size g.size,fun k e d=>(g.block k (Nat.lt_of_lt_of_le e h.size) d).trans (h.block k e)⟩
theorem grown_of {w a:World}{b:Nat}(h:Below w.heap.size w a):w.grownBy a (some b):=⟨h.os,h.tape,h.output,h.size,fun k c _=>h.block k c⟩
theorem add_any (b N B:Nat)(T:List Cel)(p t:Int)(h:List Int)(s:ByteArray)(w:World)(hs:s=strOfNums h)(hm:OpMap w b N T)(ho:okT (p,t,h))(hN:N<=1000000)(hB:B<=b)(hl:T.length<=1000000) :
  Calls Tryz.prog 30 #[.map (some b),.agg #[.string s,.int .i64 p,.int .i64 t]] w (AddOut w B b N T (p,t,h)):=by
 have HM:=hid hm;have HO:=hid ho
 have U:keyOf Tryz.prog 128 (.agg #[.string s,.int .i64 (srt t)])=some (okk (kO (p,t,h))):=by rw[hs];exact keyOf_kO ho
 have e6:Hid (opElem (.agg #[.string s,.int .i64 p,.int .i64 t])=some (encD (p,t,h),[])):=by rw[hs];exact opElem_enc (p,t,h)
 have hK:=fun W=>key_any s p t W
 have k3:=fun W=>isPost_any s p t W
 have x4:b<w.heap.size:=hm.lt;have k2:Below w.heap.size w (w.alloc (Obj.cells #[.string s,.int .i64 p,.int .i64 t] 82)):=(Below.refl _ _).alloc (Nat.le_refl _) _;obtain⟨H,I,J⟩:=three_new w (.string s) (.int .i64 p) (.int .i64 t) 82;have e5:Hid _:=k2;have HK:=hid hK;have e9:=hid k3;have l:=hid hB;clear hm ho hs hK k3 k2 hB
 go_enter Tryz.func30,Tryz.ntmps30
 go_wp2_with fail
 generalize w.alloc (Obj.cells #[.string s,.int .i64 p,.int .i64 t] 82)=W1 at *
 refine(HK.o _).mono ?_;rintro e w1 ⟨rfl,Z⟩;have H:=(Z.cell (World.block_lt_of_cell? _ _ H)).trans H;have I:=(Z.cell (World.block_lt_of_cell? _ _ I)).trans I;have J:=(Z.cell (World.block_lt_of_cell? _ _ J)).trans J;have Q:=hid (Below.on e5.o Z);obtain⟨D,hD⟩:=HM.o.below Q.o;have e1:=hD.1;have HD:Hid _:=hD;have k7:=zeroOp w1;clear hD Z;go_wp2_with (at_lookup;refine wpList_lookup_own_ok _ rfl _ _ 77 rfl 128 82 lawOk Tryz.underlying77 opElem k7 zD [] rfl b N D rfl e1 _ _ rfl U ?_;intro v ps hv;obtain⟨⟨so,po,P⟩,rfl,hy⟩:=opElem_inv hv;simp only);obtain⟨d0,d1,d2⟩:=three_new w1 (.string so) (.int .i64 po) (.int .i64 P) 82;have Y:Below w1.heap.size w1 (w1.alloc (Obj.cells #[.string so,.int .i64 po,.int .i64 P] 82)):=(Below.refl _ _).alloc (Nat.le_refl _) _
 have H:=(Y.cell (World.block_lt_of_cell? _ _ H)).trans H;have I:=(Y.cell (World.block_lt_of_cell? _ _ I)).trans I;have J:=(Y.cell (World.block_lt_of_cell? _ _ J)).trans J;have e2:=hid (Below.on Q.o Y);have h9:=hid (has_iff HD.o.2.2.2.2.1 HO.o)
 have V:Hid (∀ x,findK T (keyC (p,t,h))=some x->P=x.2.1):=fun x hx=>by
  obtain⟨x1,x2⟩:=findK_some hx;have h1:=HD.o.2.2.2.2.2 x x1;rw[kO_key.2 x2] at h1;have h2:=hv;rw[h1] at h2;have h3:=opElem_at h2;simp only[encV,Value.agg.injEq] at h3;have h4:=congrArg Array.toList h3;simp only[List.cons.injEq,Value.int.injEq,true_and,and_true] at h4;exact h4.2.2
 obtain⟨g,eg⟩:∃ g,g=w1.heap.size:=⟨_,rfl⟩
 rw[<-eg] at d0 d1 d2 ⊢;clear Y hv hy e1 k7 Q e5 eg
 generalize w1.alloc (Obj.cells #[.string so,.int .i64 po,.int .i64 P] 82)=W3 at *
 rw[h9.o];have e7:=hid (HM.o.below e2.o)
 have e8:Hid (∀ W,Calls Tryz.prog 97 #[.agg #[.string so,.int .i64 po,.int .i64 P]] W fun e w'=>e = .returned (.bool (postB P))/\Below W.heap.size W w'):=fun W=>isPost_any so po P W
 have K:Hid (∀ (k:Int) (W:World) (N':Nat),k=addCode T (p,t,h)->N'<=N+1->OpMap W b N' (addT T (p,t,h))->Below B w W->w.grownBy W (some b)->AddOut w B b N T (p,t,h) (.returned (.int .i64 k)) W):=fun k W N' hk h1 h2 h3 h4=>⟨by rw[hk],⟨N',h1,h2⟩,h3,h4⟩
 clear h9 HD HM
 cases F:findK T (keyC (p,t,h)) with
 | some x=>
   have k1:=V.o x F
   have h5:hasK T (keyC (p,t,h))=true:=by obtain⟨h1,h2⟩:=findK_some F;exact hasK_iff.2 ⟨x,h1,h2⟩
   have q:Hid (addCode T (p,t,h)=if (postB P != postB t)=true then 4 else 0):=by show _=_;rw[addCode,F,k1]
   rw[h5];clear F h5 V k1;clear e8 e9;go_wp2_with fail
   go_region_held3 (fun W=>((W.cell? ⟨w.heap.size,0,none⟩=some (.string s)/\W.cell? ⟨w.heap.size,1,none⟩=some (.int .i64 p)/\W.cell? ⟨w.heap.size,2,none⟩=some (.int .i64 t))/\(W.cell? ⟨g,0,none⟩=some (.string so)/\W.cell? ⟨g,1,none⟩=some (.int .i64 po)/\W.cell? ⟨g,2,none⟩=some (.int .i64 P)))/\Below W3.heap.size W3 W) (first | exact kk | exact⟨⟨⟨H,I,J⟩,d0,d1,d2⟩,(Below.refl _ _).drew⟩ | go_keep)
    ((go_at_call 97;refine(isPost_any _ _ _ _).mono ?_;rintro e w4 ⟨rfl,L⟩;have kk:=six_below (W0:=W3) (a:=w.heap.size) (g:=g) (u0:=.string s) (u1:=.int .i64 p) (u2:=.int .i64 t) (v0:=.string so) (v1:=.int .i64 po) (v2:=.int .i64 P) (by assumption) L;clear L))
   all_goals
    obtain⟨⟨⟨H,I,J⟩,_⟩,L⟩:=kk;have m:=hid (Below.on e2.o L);have A:=hid (e7.o.below L);clear L d0 d1 d2
    cases k5:(postB P == postB t) with
    | false=>
      have M:(postB P != postB t)=true:=by simp[bne,k5]
      have R:Hid (AddOut w B b N T (p,t,h) (.returned (.int .i64 4)) w4):=K.o 4 w4 N (by rw[q.o,M];rfl) (by omega) (by rw[addT,if_pos (by rw[q.o,M];simp)];exact A.o) (m.o.mono (by have:=l.o;omega)) (grown_of m.o);clear q M;go_wp2_with fail;go_ret;exact R.o
    | true=>
      have M:(postB P != postB t)=false:=by simp[bne,k5]
      have h8:Hid (addCode T (p,t,h)=0):=by show _=_;rw[q.o,M];rfl
      clear q M
      by_cases O:p=0
      ·have e4:(p == 0)=true:=by simpa using O
       have u:=hid O;clear O
       have r:Hid ((0:Int)=addCode T (p,t,h)):=by show _=_;rw[h8.o]
       have E:Hid (dropK T (keyC (p,t,h))=addT T (p,t,h)):=by show _=_;rw[addT,<-r.o];simp[u.o]
       go_wp2_with fail;refine(HK.o _).mono ?_;rintro e w5 ⟨rfl,c⟩;obtain⟨D5,i⟩:=A.o.below c;have y:=i.1
       have e3:Hid (∀ n,n.ownsMap Tryz.prog 128 opElem b N (D5.del (okk (kO (p,t,h))))->OpMap n b N (dropK T (keyC (p,t,h)))):=fun n h6=>OpMap.del HO.o i h6
       have C:=hid (Below.on m.o c);clear i c;go_wp2_with (at_delete;refine wpList_delete_own _ rfl _ _ 77 128 rfl 82 lawOk Tryz.underlying77 opElem b N D5 rfl y _ _ rfl U ?_;intro n d f);have R:Hid (AddOut w B b N T (p,t,h) (.returned (.int .i64 0)) n):=K.o 0 n N r.o (by omega) (by rw[<-E.o];exact e3.o n d) ((C.o.mono (by have:=l.o;omega)).grown f.grown (by have:=l.o;have:=C.o.size;omega) (fun j hj=>by cases hj;exact l.o)) (grown_after C.o f.grown);clear d f y;go_wp2_with fail;go_ret;exact R.o
      ·have e4:(p == 0)=false:=by simpa using O
       have u:=hid O;clear O
       have r:Hid ((0:Int)=addCode T (p,t,h)):=by show _=_;rw[h8.o]
       have E:Hid (dropK T (keyC (p,t,h)) ++ [(p,t,h)]=addT T (p,t,h)):=by show _=_;rw[addT,<-r.o];simp[u.o]
       go_wp2_with fail
       go_region_held3 (fun W=>W.cell? ⟨w.heap.size,0,none⟩=some (.string s)/\W.cell? ⟨w.heap.size,1,none⟩=some (.int .i64 p)/\W.cell? ⟨w.heap.size,2,none⟩=some (.int .i64 t)) (first | exact h7 | exact kk | go_keep)
        ((go_at_call 96;refine(HK.o _).mono ?_;rintro e w5 ⟨rfl,c⟩;have kk:w5.cell? ⟨w.heap.size,0,none⟩=some (.string s)/\w5.cell? ⟨w.heap.size,1,none⟩=some (.int .i64 p)/\w5.cell? ⟨w.heap.size,2,none⟩=some (.int .i64 t):=⟨(c.cell (World.block_lt_of_cell? _ _ H)).trans H,(c.cell (World.block_lt_of_cell? _ _ I)).trans I,(c.cell (World.block_lt_of_cell? _ _ J)).trans J⟩;obtain⟨D5,i⟩:=A.o.below ((Below.refl _ _).drew.trans c);obtain⟨n,G,d,z⟩:=i.1.update lawOk Tryz.underlying77 (by unfold maxLen;omega) U e6.o;have X:=OpMap.put HO.o i d;have h7:n.cell? ⟨w.heap.size,0,none⟩=some (.string s)/\n.cell? ⟨w.heap.size,1,none⟩=some (.int .i64 p)/\n.cell? ⟨w.heap.size,2,none⟩=some (.int .i64 t):=kkM z kk (by omega)))
       all_goals
        have R:Hid (AddOut w B b N T (p,t,h) (.returned (.int .i64 0)) n):=K.o 0 n (N+1) r.o (by omega) (by rw[<-E.o];exact X) ((Below.mono (Below.on m.o ((Below.refl _ _).drew.trans c)) (by have:=l.o;omega)).grown z (by have:=l.o;have:=(Below.on m.o ((Below.refl _ _).drew.trans c)).size;omega) (fun j hj=>by cases hj;exact l.o)) (grown_after (Below.on m.o ((Below.refl _ _).drew.trans c)) z);clear d z X G i kk h7;go_wp2_with fail;go_ret;exact R.o
 | none=>
   have h5:=findK_none F
   have q:Hid (addCode T (p,t,h)=if p=0 then 0 else if T.length=200 then 3 else 0):=by show _=_;rw[addCode,F]
   rw[h5];clear F h5 V;have m:=hid e2.o.drew;have A:Hid (OpMap W3.drew b N T):=e7.o.below (Below.refl _ _).drew;go_wp2_with fail;refine wp_region_held_drew (S:=fun _=>True) (by kernel_rfl) ?_ (fun k9=>?_)
   ·exact trivial
   refine hTq 0 (.bool false) 19 ?_
   simp only[Act.put,zzA,zzB,zzC];refine hTq 1 (.bool false) 20 ?_
   simp only[Act.put,zzA,zzB,zzC];refine hSq 2 21 ?_;refine hSq 3 22 ?_;simp only[Act.put,zzA,zzB,zzC];refine hSq 4 23 ?_;refine hSq 5 24 ?_;refine hSq 6 25 ?_;simp only[Act.put,zzA,zzB,zzC];refine hTq 7 (.bool false) 26 ?_
   simp only[Act.put,zzA,zzB,zzC];refine hTq 8 (.bool false) 18 ?_
   simp only[Act.put,zzA,zzB,zzC];refine wpAnyH_done (by kernel_rfl) ?_ _;have H:W3.drew.cell? ⟨w.heap.size,0,none⟩=some (.string s):=H;have I:W3.drew.cell? ⟨w.heap.size,1,none⟩=some (.int .i64 p):=I;have J:W3.drew.cell? ⟨w.heap.size,2,none⟩=some (.int .i64 t):=J;clear d0 d1 d2 e8 e9
   generalize W3.drew=w4 at *
   by_cases O:p=0
   ·have e4:(p == 0)=true:=by simpa using O
    have u:=hid O;clear O
    have r:Hid ((0:Int)=addCode T (p,t,h)):=by show _=_;rw[q.o,if_pos u.o]
    have E:Hid (dropK T (keyC (p,t,h))=addT T (p,t,h)):=by show _=_;rw[addT,<-r.o];simp[u.o]
    go_wp2_with fail;refine(HK.o _).mono ?_;rintro e w5 ⟨rfl,c⟩;obtain⟨D5,i⟩:=A.o.below c;have y:=i.1
    have e3:Hid (∀ n,n.ownsMap Tryz.prog 128 opElem b N (D5.del (okk (kO (p,t,h))))->OpMap n b N (dropK T (keyC (p,t,h)))):=fun n h6=>OpMap.del HO.o i h6
    have C:=hid (Below.on m.o c);clear i c;go_wp2_with (at_delete;refine wpList_delete_own _ rfl _ _ 77 128 rfl 82 lawOk Tryz.underlying77 opElem b N D5 rfl y _ _ rfl U ?_;intro n d f);have R:Hid (AddOut w B b N T (p,t,h) (.returned (.int .i64 0)) n):=K.o 0 n N r.o (by omega) (by rw[<-E.o];exact e3.o n d) ((C.o.mono (by have:=l.o;omega)).grown f.grown (by have:=l.o;have:=C.o.size;omega) (fun j hj=>by cases hj;exact l.o)) (grown_after C.o f.grown);clear d f y;go_wp2_with fail;go_ret;exact R.o
   ·have e4:(p == 0)=false:=by simpa using O
    have u:=hid O;clear O
    have k6:∀ ty,(Builtin.len_ #[77] ty #[.map (some b)]).run Tryz.prog w4 = .ok (.int .i64 T.length) w4:=fun ty=>by obtain⟨D4,h4⟩:=A.o;rw[<-h4.2.2.2.1];exact h4.1.len Tryz.underlying77 ty
    by_cases hT:T.length=200
    ·have k4:((T.length:Int) == 200)=true:=by simp;omega
     have R:Hid (AddOut w B b N T (p,t,h) (.returned (.int .i64 3)) w4):=K.o 3 w4 N (by rw[q.o,if_neg u.o,if_pos hT]) (by omega) (by rw[addT,if_pos (by rw[q.o,if_neg u.o,if_pos hT];simp)];exact A.o) (m.o.mono (by have:=l.o;omega)) (grown_of m.o);clear q;rw[hT] at k6;clear hT k4 hl;go_wp2_with fail;go_ret;exact R.o
    ·have k4:((T.length:Int) == 200)=false:=by simp;omega
     have x3:¬ ((T.length:Int)=200):=by omega
     have k8:=hid hT;clear hT
     have r:Hid ((0:Int)=addCode T (p,t,h)):=by show _=_;rw[q.o,if_neg u.o,if_neg k8.o]
     have E:Hid (dropK T (keyC (p,t,h)) ++ [(p,t,h)]=addT T (p,t,h)):=by show _=_;rw[addT,<-r.o];simp[u.o]
     go_wp2_with fail
     go_region_held3 (fun W=>W.cell? ⟨w.heap.size,0,none⟩=some (.string s)/\W.cell? ⟨w.heap.size,1,none⟩=some (.int .i64 p)/\W.cell? ⟨w.heap.size,2,none⟩=some (.int .i64 t)) (first | exact h7 | exact kk | go_keep)
      ((go_at_call 96;refine(HK.o _).mono ?_;rintro e w5 ⟨rfl,c⟩;have kk:w5.cell? ⟨w.heap.size,0,none⟩=some (.string s)/\w5.cell? ⟨w.heap.size,1,none⟩=some (.int .i64 p)/\w5.cell? ⟨w.heap.size,2,none⟩=some (.int .i64 t):=⟨(c.cell (World.block_lt_of_cell? _ _ H)).trans H,(c.cell (World.block_lt_of_cell? _ _ I)).trans I,(c.cell (World.block_lt_of_cell? _ _ J)).trans J⟩;obtain⟨D5,i⟩:=A.o.below ((Below.refl _ _).drew.trans c);obtain⟨n,G,d,z⟩:=i.1.update lawOk Tryz.underlying77 (by unfold maxLen;omega) U e6.o;have X:=OpMap.put HO.o i d;have h7:n.cell? ⟨w.heap.size,0,none⟩=some (.string s)/\n.cell? ⟨w.heap.size,1,none⟩=some (.int .i64 p)/\n.cell? ⟨w.heap.size,2,none⟩=some (.int .i64 t):=kkM z kk (by omega)))
     all_goals
      have R:Hid (AddOut w B b N T (p,t,h) (.returned (.int .i64 0)) n):=K.o 0 n (N+1) r.o (by omega) (by rw[<-E.o];exact X) ((Below.mono (Below.on m.o ((Below.refl _ _).drew.trans c)) (by have:=l.o;omega)).grown z (by have:=l.o;have:=(Below.on m.o ((Below.refl _ _).drew.trans c)).size;omega) (fun j hj=>by cases hj;exact l.o)) (grown_after (Below.on m.o ((Below.refl _ _).drew.trans c)) z);clear d z X G i kk h7;go_wp2_with fail;go_ret;exact R.o
end
section
open Go Go.RowKit
theorem flatO_one (r:RC):flatO [r]=roV r:=by simp[flatO]
theorem ownO_grew {r w Y:World}{B g n I N:Nat}{p:Option Addr}{s:List Cel}{d:List RC}(hn:n=s.length)(hl:d.length=s.length)(X:r.ownsRow B 109 3 (.slice p n N) n (flatO d))
  (O:∀ i,i<s.length->Fits r B (d.getD i RC.zero) (s.getD i Cel.none)) (ha:ApartC p d) (C:Below r.heap.size r w) (hB:B<=r.heap.size)
  {F G:Int} {u:Option Addr} {E H:Nat} {t:List Int} (ht:OwnT w r.heap.size u E H t)
  (hr:Y.ownsRow B 109 3 (.slice (some ⟨g,0,none⟩) (n+1) I) (n+1) (flatO d ++ roV (F,G,u,E,H))) (P:w.grownBy Y (Value.ownBlock (.slice p n N))) (K:Value.ownBlock (.slice p n N)=some g∨g=w.heap.size) :
  OwnO Y B (some ⟨g,0,none⟩) (n+1) I (s ++ [(F,G,t)]):=by
 have m:∀ k,Value.ownBlock (.slice p n N)=some k->p=some ⟨k,0,none⟩/\k<r.heap.size:=fun k x=>by
  rcases X.2 with ⟨M,_⟩ | ⟨g',Z,h4,M,hb,R,_⟩
  ·simp only[Value.slice.injEq] at M;rw[M.1] at x;simp[Value.ownBlock] at x
  ·simp only[Value.slice.injEq] at M
   rw[M.1] at x ⊢
   simp[Value.ownBlock] at x
   subst x;exact⟨rfl,(Array.getElem?_eq_some_iff.1 R).1⟩
 have L:∀ i,i<s.length->OwnT w B (d.getD i RC.zero).2.2.1 (d.getD i RC.zero).2.2.2.1 (d.getD i RC.zero).2.2.2.2 (s.getD i Cel.none).2.2:=fun i v=>(O i v).2.2.below C
 have l:∀ i,i<s.length->0<(d.getD i RC.zero).2.2.2.1->∃ k,(d.getD i RC.zero).2.2.1=some ⟨k,0,none⟩/\k<r.heap.size:=fun i v o=>by
  obtain⟨k,e,_,V,_⟩:=(O i v).2.2.2 o;exact⟨k,e,V⟩
 have b:0<E->∃ k,u=some ⟨k,0,none⟩/\r.heap.size<=k/\k<w.heap.size:=fun o=>by
  obtain⟨k,e,A,J,_⟩:=ht.2 o;exact⟨k,e,A,J⟩
 have W:g<r.heap.size∨g=w.heap.size:=by
  rcases K with h | h
  ·exact .inl (m g h).2
  ·exact .inr h
 refine⟨by simp;omega,d ++ [(F,G,u,E,H)],by simp;omega,by rw[flatO_append,flatO_one];exact hr,fun i v=>?_,fun i v o=>?_,fun i j v hj S c f=>?_⟩
 ·have q:i<=s.length:=by simp at v;omega
  rw[rs_append_at _ _ _ (by omega),cs_append_at _ _ _ q]
  by_cases e:i=s.length
  ·rw[if_pos (by omega),if_pos e]
   refine⟨rfl,rfl,(ht.mono hB).other P.size (fun k y z=>?_)⟩;obtain⟨D,a,A,J⟩:=b y
   have U:k=D:=by
    have:=z.symm.trans a;exact congrArg Addr.block (Option.some.inj this)
   refine P.block k (by omega) (fun x=>?_);have:=(m k x.symm).2
   omega
  ·rw[if_neg (by omega),if_neg e]
   refine⟨(O i (by omega)).1,(O i (by omega)).2.1,(L i (by omega)).other P.size (fun k y z=>?_)⟩;obtain⟨D,a,A⟩:=l i (by omega) y;have U:k=D:=congrArg Addr.block (Option.some.inj (z.symm.trans a));refine P.block k (by have:=C.size;omega) (fun x=>?_);exact ha.1 i (by omega) y (by rw[z,(m k x.symm).1])
 ·have q:i<=d.length:=by simp at v;omega
  rw[rs_append_at _ _ _ q] at o ⊢
  by_cases e:i=d.length
  ·rw[if_pos e] at o ⊢
   obtain⟨D,a,A,J⟩:=b o;rw[show((F,G,u,E,H):RC).2.2.1=u from rfl,a];exact ne_block (by omega) o
  ·rw[if_neg e] at o ⊢
   obtain⟨D,a,A⟩:=l i (by omega) o
   rcases K with h | h
   ·rw[<-(m g h).1]
    exact ha.1 i (by omega) o
   ·rw[a]
    exact ne_block (by have:=C.size;omega) o
 ·have q:i<=d.length:=by simp at v;omega
  have T:j<=d.length:=by simp at hj;omega
  rw[rs_append_at _ _ _ q] at c ⊢;rw[rs_append_at _ _ _ T] at f ⊢
  by_cases e:i=d.length
  ·rw[if_pos e] at c ⊢
   rw[if_neg (by omega)] at f ⊢;obtain⟨D,a,A,J⟩:=b c;obtain⟨k2,Q,h3⟩:=l j (by omega) f;rw[show((F,G,u,E,H):RC).2.2.1=u from rfl,a,Q];exact ne_block (by omega) c
  ·rw[if_neg e] at c ⊢
   by_cases z:j=d.length
   ·rw[if_pos z] at f ⊢
    obtain⟨D,a,A,J⟩:=b f;obtain⟨k2,Q,h3⟩:=l i (by omega) c;rw[show((F,G,u,E,H):RC).2.2.1=u from rfl,a,Q];exact ne_block (by omega) c
   ·rw[if_neg z] at f ⊢
    exact ha.2 i j (by omega) (by omega) S c f
theorem roV_one (r:RC):∀ u ∈ roV r,u.oneCell'=true:=fun u a=>by
 simp[roV] at a
 rcases a with rfl | rfl | rfl <;> rfl
end
section
open Go Go.RowKit Go.Maps
theorem below_grownBy {w a:World}(h:Below w.heap.size w a):w.grownBy a none:=⟨h.os,h.tape,h.output,h.size,fun k b _=>h.block k b⟩
theorem app_op2 (l w:World){r:Array Oper}{e:List Oper}{o:Oper}{a:Act}{Q:Exit->Act->World->Prop}(z:o.guard=none)(s x:Operand)
  (V:o.op = .call { callee:=.builtin .append,args:=#[s,x],argTypes:=#[39,39] }) (B:Nat) (p:Option Addr) (n c:Nat) (L:List Cel)
  (W:a.eval s = .slice p n c) (q:OwnO l B p n c L) (f:Below l.heap.size l w) (M:B<=l.heap.size) (y:Addr) (K:Nat) (Y:a.eval x = .slice (some y) 1 K) (E G:Int) (J:Option Addr) (I H:Nat) (t:List Int)
  (X:OwnT w l.heap.size J I H t) (i:∀ j u,(roV (E,G,J,I,H))[j]?=some u->w.cell? (y.add j)=some u) (N:n+1<=1000000000)
  (h:∀ g F d v,OwnO v B (some ⟨g,0,none⟩) F d (L ++ [(E,G,t)])->w.grownBy v (Value.ownBlock (.slice p n c))->(Value.ownBlock (.slice p n c)=some g∨g=w.heap.size)->Hid (F=n+1)->wpList Tryz.prog r Q e (a.put o.dst (.slice (some ⟨g,0,none⟩) F d)) v):wpList Tryz.prog r Q (o :: e) a w:=by
 obtain⟨Z,R,A,C,D⟩:=info_parts infoOp;obtain⟨U,rs,S,O,P,ha⟩:=q;refine wpList_append_lies w z s x 39 V B 109 Z (.agg #[.slice none 0 0,.int .i64 0,.int .i64 0]) 3 40 Tryz.underlying39 R A C D rfl (by decide) (.slice p n c) n (flatO rs) W (row_below O f) y 1 K (roV (E,G,J,I,H)) Y rfl i (roV_one _) (by decide) (by unfold maxLen;omega) (by omega) (Nat.le_trans M f.size) w.heap.size rfl ?_
 intro g d v k b m T
 exact h g _ d v (ownO_grew U S O P ha f M X k b m) b m rfl
theorem OwnO.row {w:World}{B:Nat}{p:Option Addr}{n c:Nat}{a:List Cel}(h:OwnO w B p n c a){k:Nat}(e:Value.ownBlock (.slice p n c)=some k):B<=k/\k<w.heap.size:=by
 obtain⟨f,rs,d,b,_⟩:=h;exact b.lt k e
theorem OwnO.kept {w l:World}{B r:Nat}{p:Option Addr}{n c:Nat}{f:List Cel}(h:OwnO w B p n c f)(d:w.grownBy l (some r))(t:r<B):OwnO l B p n c f:=by
 obtain⟨q,v,o,j,a,ha⟩:=h;refine⟨q,v,o,j.kept d (.inr (fun e=>?_)),fun i b=>⟨(a i b).1,(a i b).2.1,(a i b).2.2.other d.size (fun k s e=>?_)⟩,ha⟩
 ·have:=(j.lt r e).1
  omega
 ·obtain⟨u,g,y,z,_⟩:=(a i b).2.2.2 s
  have x:k=u:=by rw[e] at g;exact congrArg Addr.block (Option.some.inj g)
  exact d.block k (by omega) (fun m=>by have:=Option.some.inj m;omega)
theorem news_ro {w:World}{d:Nat}{r:RC}(h:Box3 w d (.slice r.2.2.1 r.2.2.2.1 r.2.2.2.2) (.int .i64 r.1) (.int .i64 r.2.1)):∀ j u,(roV r)[j]?=some u->w.cell? ((⟨d,0,none⟩:Addr).add j)=some u:=fun j u a=>by
 match j,a with
 | 0,a=>simp[roV] at a;rw[<-a];exact h.1
 | 1,a=>simp[roV] at a;rw[<-a];exact h.2.1
 | 2,a=>simp[roV] at a;rw[<-a];exact h.2.2.1
 | j+3,a=>simp[roV] at a
end
section
open Go Go.RowKit
def decF:Nat->Int->List Int
 | 0,_=>[]
 | f+1,v=>if v<0/\-10<v then [45,48-v] else if v<0 then decF f (v.tdiv 10) ++ [48-v.tmod 10] else if v<10 then [48+v] else decF f (v.tdiv 10) ++ [48+v.tmod 10]
def decW (v:Int):List Int:=decF 20 v
theorem dig_nat:∀ (f u:Nat),u<10 ^ f->decF (f+1) (u:Int)=(Lib.decDigits u).map fun x=>(x.toNat:Int)
 | 0,u,h=>by
   have i:u=0:=by simp at h;exact h
   subst i;rw[Lib.decDigits_one (by decide)]
   rfl
 | f+1,u,h=>by
   conv=>lhs;unfold decF
   have b:¬ (u:Int)<0:=by omega
   rw[if_neg (fun g=>b g.1),if_neg b]
   by_cases a:u<10
   ·rw[if_pos (by omega),Lib.decDigits_one a]
    simp
    omega
   ·have e:u / 10<10 ^ f:=by rw[Nat.pow_succ] at h;exact Nat.div_lt_of_lt_mul (by rw[Nat.mul_comm];exact h)
    have c:(u:Int).tdiv 10=((u / 10:Nat):Int):=by rw[Int.tdiv_eq_ediv_of_nonneg (by omega)];omega
    have d:(u:Int).tmod 10=((u % 10:Nat):Int):=by rw[Int.tmod_eq_emod_of_nonneg (by omega)];omega
    rw[if_neg (by omega),c,d,dig_nat f (u / 10) e]
    conv=>rhs;rw[Lib.decDigits,dif_neg a]
    simp
    omega
theorem dig_neg:∀ (f u:Nat),0<u->u<10 ^ f->decF (f+1) (-(u:Int))=45 :: (Lib.decDigits u).map fun x=>(x.toNat:Int)
 | 0,u,h0,h=>by simp at h;omega
 | f+1,u,h0,h=>by
   conv=>lhs;unfold decF
   have b : -(u:Int)<0:=by omega
   by_cases a:u<10
   ·rw[if_pos ⟨b,by omega⟩,Lib.decDigits_one a]
    simp
    omega
   ·have e:u / 10<10 ^ f:=by rw[Nat.pow_succ] at h;exact Nat.div_lt_of_lt_mul (by rw[Nat.mul_comm];exact h)
    have c:(-(u:Int)).tdiv 10 = -((u / 10:Nat):Int):=by rw[Int.neg_tdiv,Int.tdiv_eq_ediv_of_nonneg (by omega)];omega
    have d:(-(u:Int)).tmod 10 = -((u % 10:Nat):Int):=by rw[Int.neg_tmod,Int.tmod_eq_emod_of_nonneg (by omega)];omega
    rw[if_neg (fun g=>by omega),if_pos b,c,d,dig_neg f (u / 10) (by omega) e]
    conv=>rhs;rw[Lib.decDigits,dif_neg a]
    simp
    omega
theorem itoa_dec (n:Int)(b : -1000000000000000<=n)(c:n<=1000000000000000):(⟨(Lib.itoa n).toArray⟩:ByteArray)=strOfNums (decW n):=by
 have a:decW n=(Lib.itoa n).map fun x=>(x.toNat:Int):=by
  unfold decW Lib.itoa
  by_cases h:n<0
  ·rw[if_pos h]
   have:=dig_neg 19 n.natAbs (by omega) (by omega);rw[show -(n.natAbs:Int)=n by omega] at this;rw[this]
   rfl
  ·rw[if_neg h]
   have:=dig_nat 19 n.toNat (by omega);rw[show(n.toNat:Int)=n by omega] at this;rw[this]
 rw[a]
 apply ba_ext
 rw[str_list,ByteArray.toList_eq];simp only[List.map_map]
 conv=>lhs;rw[<-List.map_id (Lib.itoa n)]
 apply List.map_congr_left
 intro x _
 simp
def TabP (w:World):Prop:=Lib.TabIs Tryz.prog w "internal/strconv.uint64pow10" .u64 Lib.pow10Tab
theorem var_below {P:Program}{W b:World}{a:String}{c:Array Value}(h:W.var? P a=some c)(e:Below W.heap.size W b):b.var? P a=some c:=by
 unfold World.var? at h ⊢
 cases d:P.globalNamed a with
 | none=>rw[d] at h;simp at h
 | some g=>
   rw[d] at h;simp only[Option.bind_some] at h ⊢
   have f:g<W.heap.size:=by
    rcases Nat.lt_or_ge g W.heap.size with h1 | h1
    ·exact h1
    ·rw[Array.getElem?_eq_none h1] at h;simp at h
   rw[e.block g f];exact h
theorem TabP.below {W a:World}(h:TabP W)(b:Below W.heap.size W a):TabP a:=var_below h b
theorem itoaW_any (n:Int)(b : -1000000000000000<=n)(c:n<=1000000000000000)(w:World)(d:TabP w) :
  Calls Tryz.prog 140 #[.int .i64 n] w fun e a=>e = .returned (.string (strOfNums (decW n)))/\Below w.heap.size w a:=by
 have h:=Any.strconv_Itoa Tryz.itoaL n (by omega) (by omega) w d;refine(show Calls Tryz.prog 140 #[.int .i64 n] w _ from h).mono ?_;rintro e a ⟨rfl,k,f,rfl⟩;exact⟨by rw[itoa_dec n b c],below_grown_sl _ _ _ _ (Nat.le_refl _)⟩
def flatP (vs:List (Value×Value)):List Value:=vs.flatMap (fun x=>[x.1,x.2])
theorem flatP_append (a b:List (Value×Value)):flatP (a ++ b)=flatP a ++ flatP b:=by simp[flatP]
theorem flatP_len:∀ a:List (Value×Value),(flatP a).length=a.length * 2
 | []=>rfl
 | x :: r=>by have:=flatP_len r;simp only[flatP] at this;simp[flatP,this];omega
def PairsIn (W0:World)(Bt:Nat):List TT->List (Value×Value)->Prop
 | [],vs=>vs = []
 | x :: r,vs=>∃ v s,vs=v :: s/\FoIn W0 Bt x.1.fo [v.1]/\FoIn W0 Bt x.2.fo [v.2]/\PairsIn W0 Bt r s
theorem PairsIn.len {c:World}{b:Nat} : ∀ (st:List TT) (a:List (Value×Value)),PairsIn c b st a->a.length=st.length
 | [],a,h=>by rw[show a = [] from h];rfl
 | x :: r,a,⟨v,s,e,_,_,h⟩=>by rw[e];simp[PairsIn.len r s h]
theorem PairsIn.append {g:World}{f:Nat} : ∀ (a b:List TT) (d c:List (Value×Value)),PairsIn g f a d->PairsIn g f b c->PairsIn g f (a ++ b) (d ++ c)
 | [],b,d,c,h,k=>by rw[show d = [] from h];exact k
 | x :: r,b,d,c,⟨v,s,e,h1,h2,h3⟩,k=>by
   subst e;exact⟨v,s ++ c,rfl,h1,h2,PairsIn.append r b s c h3 k⟩
theorem PairsIn.parts {i:World}{g:Nat} : ∀ (a b:List TT) (d:List (Value×Value)),PairsIn i g (a ++ b) d->∃ c f,d=c ++ f/\PairsIn i g a c/\PairsIn i g b f
 | [],b,d,h=>⟨[],d,rfl,rfl,h⟩
 | x :: r,b,d,⟨v,s,e,h1,h2,h3⟩=>by
   obtain⟨c,f,j,k,l⟩:=PairsIn.parts r b s h3;subst e j;exact⟨v :: c,f,rfl,⟨v,c,rfl,h1,h2,k⟩,l⟩
structure Stk (W0:World)(Bt:Nat)(w:World)(B sb so:Nat)(p:Option Addr)(n c:Nat)(st:List TT):Prop where
 cell:w.cell? ⟨sb,so,none⟩=some (.slice p n c)
 free:w.frozen? ⟨sb,so,none⟩=false
 len:n=st.length
 row:∃ vs,w.ownsRow B 89 2 (.slice p n c) n (flatP vs)/\PairsIn W0 Bt st vs
 away:∀ g,p=some ⟨g,0,none⟩->g≠sb
structure Kept2 (w w':World)(sb so:Nat)(g:Option Nat):Prop where
 os:w'.os=w.os
 tape:w'.tape=w.tape
 output:w'.output=w.output
 size:w.heap.size<=w'.heap.size
 block:∀ k,k<w.heap.size->k≠sb->some k≠g->w'.heap[k]?=w.heap[k]?
 cells:∀ o,o≠so->w'.cell? ⟨sb,o,none⟩=w.cell? ⟨sb,o,none⟩
 frz:∀ o,w'.frozen? ⟨sb,o,none⟩=w.frozen? ⟨sb,o,none⟩
theorem Kept2.below {w w':World}{a c B:Nat}{g:Option Nat}(h:Kept2 w w' a c g)(i:B<=a)(b:∀ k,g=some k->B<=k)(d:B<=w.heap.size):Below B w w':=
 ⟨h.os,h.tape,h.output,h.size,fun k f=>h.block k (by omega) (by omega) (fun e=>by have:=b k e.symm;omega)⟩
theorem Kept2.refl (w:World)(a b:Nat)(g:Option Nat):Kept2 w w a b g:=⟨rfl,rfl,rfl,Nat.le_refl _,fun _ _ _ _=>rfl,fun _ _=>rfl,fun _=>rfl⟩
theorem Kept2.alloc {w w':World}{b e:Nat}{g:Option Nat}(h:Kept2 w w' b e g)(d:b<w'.heap.size)(o:Obj):Kept2 w (w'.alloc o) b e g:=
 ⟨h.os,h.tape,h.output,Nat.le_trans h.size (by simp),fun k c f i=>(Below.heap_alloc _ _ _ (Nat.lt_of_lt_of_le c h.size)).trans (h.block k c f i),
  fun j l=>(World.cell?_of_block (w:=w') (a:=⟨b,j,none⟩) (Below.heap_alloc _ _ _ d)).trans (h.cells j l),fun j=>(World.frozen?_of_block (w:=w') (a:=⟨b,j,none⟩) (Below.heap_alloc _ _ _ d)).trans (h.frz j)⟩
theorem Kept2.set {w w':World}{a b:Nat}{g:Option Nat}(h:Kept2 w w' a b g)(u:Value):Kept2 w (w'.setCell ⟨a,b,none⟩ u) a b g:=
 ⟨by rw[World.setCell];split <;> exact h.os,h.tape,h.output,by simpa using h.size,fun k i c f=>(Below.heap_setCell _ _ _ _ c).trans (h.block k i c f),
  fun j d=>(World.cell?_setCell_other _ _ _ _ (fun e=>d (congrArg Addr.off e).symm)).trans (h.cells j d),fun j=>by rw[World.frozen?_setCell];exact h.frz j⟩
theorem Kept2.new {w d:World}{b c:Nat}{g:Option Nat}(h:Kept2 w d b c g){a:Addr}(ha:w.heap.size<=a.block)(n:b<w.heap.size)(u:Value):Kept2 w (d.setCell a u) b c g:=
 ⟨h.os,h.tape,h.output,by simpa using h.size,fun k m f i=>(Below.heap_setCell _ _ _ _ (by omega)).trans (h.block k m f i),
  fun j l=>(World.cell?_setCell_other _ _ _ _ (fun e=>by rw[e] at ha;simp at ha;omega)).trans (h.cells j l),fun j=>by rw[World.frozen?_setCell];exact h.frz j⟩
def TakeOut (W0:World)(Bt:Nat)(w:World)(B sb so:Nat)(g:Option Nat)(st:List TT)(x:TT)(e:Ending)(w':World):Prop:=
 ∃ v1 v2,e = .returned (.agg #[v1,v2])/\FoIn W0 Bt x.1.fo [v1]/\FoIn W0 Bt x.2.fo [v2]/\(∃ p n c,Stk W0 Bt w' B sb so p n c st/\Value.ownBlock (.slice p n c)=g)/\Kept2 w w' sb so none
theorem take_any (C:World)(z:Nat)(w:World)(B q t:Nat)(p:Option Addr)(n c:Nat)(st:List TT)(x:TT)(hn:n<=1000000)(h:Stk C z w B q t p n c (st ++ [x])) :
  Calls Tryz.prog 38 #[.pointer (some ⟨q,t,none⟩)] w (TakeOut C z w B q t (Value.ownBlock (.slice p n c)) st x):=by
 obtain⟨d,y,m,⟨vs,a,F⟩,b⟩:=h;obtain⟨K,ws,rfl,e,G⟩:=PairsIn.parts _ _ _ F;obtain⟨v,s,rfl,i,j,Q⟩:=G;obtain rfl:s = []:=Q;have R:=e.len
 obtain⟨L,M⟩:∃ L,L=st.length:=⟨_,rfl⟩
 have H:n=L+1:=by rw[m,M];simp
 obtain⟨g,h1,u⟩:=ownsRow_succ (k:=L) (by rw[<-H];exact a);subst H
 cases u
 have S:w.cell? ⟨g,L * 2,none⟩=some v.1:=by
  rw[a.cellAt _ (by omega),flatP_append,List.getElem?_append_right (by rw[flatP_len];omega),flatP_len];rw[show L * 2-K.length * 2=0 by omega];rfl
 have d1:w.cell? ⟨g,L * 2+1,none⟩=some v.2:=by
  rw[a.cellAt _ (by omega),flatP_append,List.getElem?_append_right (by rw[flatP_len];omega),flatP_len];rw[show L * 2+1-K.length * 2=1 by omega];rfl
 obtain⟨Z,x1,T⟩:=FoIn.iface (show FoIn C z (.node x.1.1 x.1.2 .nil) [v.1] from i);obtain⟨t2,x2,U⟩:=FoIn.iface (show FoIn C z (.node x.2.1 x.2.2 .nil) [v.2] from j);have f:=ownsRow_pop (size:=2) (n:=L) (xs:=flatP K) (last:=flatP [v]) (by rw[flatP_len];omega) (by rw[<-flatP_append];exact a);obtain⟨v1,v2⟩:=v;simp only at T U i j S d1;subst T U
 have A:Hid (∀ I,Kept2 w I q t none->I.cell? ⟨q,t,none⟩=some (.slice (some ⟨g,0,none⟩) L c)->I.heap[g]?=w.heap[g]?->TakeOut C z w B q t (some g) st x (.returned (.agg #[.iface Z x1,.iface t2 x2])) I):=fun I Y hc hg=>
  ⟨_,_,rfl,i,j,⟨_,_,_,⟨hc,(Y.frz t).trans y,M,⟨K,⟨f.1,by
    rcases f.2 with ⟨N,_⟩ | ⟨V,l,D,J,W,X,r⟩
    ·cases N
    ·exact .inr ⟨V,l,D,J,W,by cases J;exact hg.trans X,r⟩⟩,e⟩,b⟩,rfl⟩,Y⟩
 have P:=b g rfl;have O:q<w.heap.size:=World.block_lt_of_cell? _ _ d;have E:g<w.heap.size:=World.block_lt_of_cell? _ _ S
 have h2:L<=c:=by
  rcases a.2 with ⟨N,_⟩ | ⟨V,l,D,J,W,X,r,_⟩
  ·cases N
  ·cases J;omega
 clear f a F e i j b m R M
 go_enter Tryz.func38,Tryz.ntmps38
 go_wp2
 refine bodyPost_ret (v:=.agg #[.iface Z x1,.iface t2 x2]) (by simp[results,Tryz.results38,go_sem]) rfl (A.o _ (((Kept2.refl w q t none).set _).alloc (by simpa using O) _ |>.alloc (by simp;omega) _) ?_ ?_)
 ·exact Lib.cell?_alloc_marked _ (Lib.cell?_alloc_marked _ (World.cell?_setCell_same' _ _ _ (by rw[d];rfl)))
 ·exact(Below.heap_alloc _ _ _ (by simp;omega)).trans ((Below.heap_alloc _ _ _ (by simpa using E)).trans (Below.heap_setCell _ _ _ _ P))
end
section
open Go Go.RowKit Go.Shelf
attribute [local go_sem] Oper.semAt_some
def downF (len j:Nat):List (Fin len):=(List.finRange len).reverse.take j
theorem downF_succ {len m:Nat}(h:m<len):downF len (len-m)=downF len (len-(m+1)) ++ [⟨m,h⟩]:=by
 unfold downF
 have e:len-m=len-(m+1)+1:=by omega
 rw[e,List.take_add_one]
 congr 1
 rw[List.getElem?_reverse (by simp;omega)];simp only[List.length_finRange];rw[List.getElem?_eq_getElem (by simp;omega)];simp only[List.getElem_finRange,Option.toList_some,List.cons.injEq,and_true]
 apply Fin.ext
 simp;omega
theorem downF_length {a m:Nat}(h:m<=a):(downF a m).length=m:=by simp[downF,h]
theorem downF_all (a:Nat):downF a a=(List.finRange a).reverse:=by
 unfold downF
 rw[List.take_of_length_le (by simp)]
theorem backF_in (F:Fence)(n:Nat)(O:F.fn 168)(B:F.round=none)(X:1<=n)(l s d b a t:Nat)(h:List (Nat×Value))(H:a<=2000)(R:b<d)(J C:List (Fin a)->World->Prop)
  (Q:∀ c (x:Fin a) W,J c W->c.length<a->YieldAt F (n-1) Tryz.prog l #[.int .i64 ((x:Nat):Int),.iface (h[(x:Nat)]?.getD (0,.nilIface)).1 (h[(x:Nat)]?.getD (0,.nilIface)).2] W fun e g=>
    (e = .returned (.bool true)/\J (c ++ [x]) g/\BKeep d s W g)∨(e = .returned (.bool false)/\C (c ++ [x]) g))
  (W:World) (u:W.cell? ⟨s,0,none⟩=some (.slice (some ⟨b,0,none⟩) a t)) (S:∀ j,j<a->W.cell? ⟨b,j,none⟩=some (.iface (h[j]?.getD (0,.nilIface)).1 (h[j]?.getD (0,.nilIface)).2)) (N:J [] W) :
  CallsIn F n Tryz.prog 168 #[.func (.yield l) #[] #[],.pointer (some ⟨s,0,none⟩)] W fun e g=>(∃ v,e = .returned v)/\
   ((∃ M,M=downF a a/\J M g)∨(∃ c,True/\C c g)):=by
 refine callsIn_of_wp Tryz.func168 rfl O ?_ B;simp only[Tryz.ntmps168,List.size_toArray,List.length_cons,List.length_nil,Nat.reduceAdd,Nat.reduceSub,Array.replicate_succ,Array.replicate_zero,List.push_toArray,List.append_toArray,List.nil_append,List.cons_append]
 gi_wp2
 gi_loopw [3] (fun i wr=>∃ m:Nat,m<=a/\i = .int .i64 ((m:Int)-1)/\J (downF a (a-m)) wr/\BKeep d s W wr)
  (fun i _=>(intOf i+1).toNat)
 case atStart=>exact⟨a,Nat.le_refl _,by go_num,by rw[Nat.sub_self];exact N,BKeep.refl _ _ _⟩
 case round=>
  obtain⟨m,V,rfl,q,f⟩:=hrel;have G:=f.2 _ u
  cases m with
  | zero=>
    gi_wp2
    go_end0
    exact⟨⟨_,rfl⟩,.inl ⟨_,rfl,q⟩⟩
  | succ m=>
    have z:=(f.1.cell (p:=⟨b,m,none⟩) R).trans (S m (by omega))
    have D:((m+1:Nat):Int)-1=(m:Int):=by omega
    have E:=downF_succ (len:=a) (m:=m) (by omega);obtain⟨U,tmps,assign,body,I,y⟩:=Q _ ⟨m,by omega⟩ wr q (by rw[downF_length (by omega)];omega)
    dsimp only at I
    rw[<-E] at y;rw[D]
    obtain⟨K,k⟩:∃ K,K=(h[m]?.getD (0,.nilIface)).1:=⟨_,rfl⟩
    obtain⟨L,o⟩:∃ L,L=(h[m]?.getD (0,.nilIface)).2:=⟨_,rfl⟩
    rw[<-k,<-o] at I z;have P:Hid _:=y;clear D E k o
    gi_wp2
    refine y.mono ?_;rintro e T (⟨rfl,w,A⟩ | ⟨rfl,r⟩)
    ·gi_wp2
     go_roundw
     case rel=>exact⟨m,by omega,by go_num,w,f.trans A⟩
     case measure=>simp[intOf]
    ·gi_wp2
     refine bodyPost_ret (results_none rfl _ _ _) rfl ?_;exact⟨⟨_,rfl⟩,.inr ⟨_,trivial,r⟩⟩
theorem backF_stops (F:Fence)(n:Nat)(s:F.fn 168)(m:F.round=none)(z:1<=n)(d c b a e:Nat)(g:List (Nat×Value))(f:a<=2000)(w:World)(h:d<w.heap.size)(k:c<=w.heap.size)(u:b<c)
  (i:w.cell? ⟨d,0,none⟩=some (.slice (some ⟨b,0,none⟩) a e)) (v:∀ j,j<a->w.cell? ⟨b,j,none⟩=some (.iface (g[j]?.getD (0,.nilIface)).1 (g[j]?.getD (0,.nilIface)).2)) :
  SeqStopsK F n Tryz.prog 168 #[.pointer (some ⟨d,0,none⟩)] (fun x:Fin a=>#[Value.int .i64 ((x:Nat):Int),Value.iface (g[(x:Nat)]?.getD (0,.nilIface)).1 (g[(x:Nat)]?.getD (0,.nilIface)).2]) (BKeep c d) (fun A=>A=downF a a) (fun _=>True) a w:=fun l J q W o _ _ t r=>by
 exact backF_in F n s m z l d c b a e g f u J q t W ((o.cell (p:=⟨d,0,none⟩) h).trans i) (fun j y=>(o.cell (p:=⟨b,j,none⟩) (by show b<_;omega)).trans (v j y)) r
end
end Go.Proofs.YtnfnddnffoigfaaGreatDoor
