/- Texts of Cp1, AppC, CoS, WtM, BBS, Num, TermG, FunG, VarF, VarG, NbP, NbI1, NbFO, NbI2, FoI, FoS, NbQ. Own work of the verifier. -/
import Derived.Test.YtlkhmmoimplokaaGreatDoorUqaq
import Derived.Test.YtlkhmmoimplokaaGreatDoorUqas
import Derived.Test.YtlkhmmoimplokaaGreatDoorUqay
namespace Go.Proofs.YtlkhmmoimplokaaGreatDoor
set_option maxHeartbeats 2000000
set_option linter.unusedVariables false
set_option maxRecDepth 100000
section
open Go Go.RowKit
theorem l2copy_any (p:Option Addr)(n c:Nat)(a:List Cel)(w:World)(hn:n=a.length)(hl:a.length+tl a<=10000000)(C:CIn w p a) :
  Calls Tryz.prog 55 #[.slice p n c] w fun e E=>∃ q m r,e = .returned (.slice q m r)/\OwnC E w.heap.size q m r a/\Below w.heap.size w E:=by
 have HI:=hid C;have HN:=hid hn
 have h3:n<=10000000:=by omega
 clear C hn
 go_enter Tryz.func55,Tryz.ntmps55
 go_wp2_with fail
 go_loopw [3,4] (fun s i wr=>∃ (j:Nat) (q:Option Addr) (m r:Nat),j<=n/\m=j/\i = .int .i64 j/\s = .slice q m r/\Hid (OwnC wr w.heap.size q m r (a.take j))/\Hid (Below w.heap.size w wr)) (fun _ i _=>n-(intOf i).toNat)
 case atStart=>exact⟨0,none,0,0,Nat.zero_le _,rfl,rfl,rfl,OwnC.nil _ _,Below.refl _ _⟩
 case round=>
  obtain⟨j,q,m,r,hj,rfl,rfl,rfl,HO,Q⟩:=hrel
  by_cases V:m<n
  ·have f:m<a.length:=by rw[<-HN.o];exact V
   obtain⟨b,o,rfl,v⟩:=HI.o (by omega);obtain⟨J,I,L,S,B,d3⟩:=(v m f).below Q.o;have z:b<w.heap.size:=World.block_lt_of_cell? _ _ (v m f).choose_spec.choose_spec.1;have u:=hid z;have A:=tl_at a m f
   have O:Hid (a.take m ++ [((a.getD m Cel.none).1,(a.getD m Cel.none).2.1,(a.getD m Cel.none).2.2)]=a.take (m+1)):=by
    show _=_
    rw[List.take_succ_eq_append_getElem f,List.getD,List.getElem?_eq_getElem f];rfl
   obtain⟨N,F⟩:∃ x,x=(a.getD m Cel.none).2.2:=⟨_,rfl⟩
   obtain⟨R,e0⟩:∃ x,x=(a.getD m Cel.none).1:=⟨_,rfl⟩
   obtain⟨K,e1⟩:∃ x,x=(a.getD m Cel.none).2.1:=⟨_,rfl⟩
   rw[<-e0] at L O;rw[<-e1] at S O;rw[<-F] at B d3 O A
   obtain⟨t,et⟩:∃ t,t=N.length:=⟨_,rfl⟩
   rw[<-et] at B
   have Z:Hid (∀ k,Calls Tryz.prog 56 #[.slice J t I] (wr.drewN k) fun e E=>∃ p' M c',e = .returned (.slice p' M c')/\OwnS E wr.heap.size p' M c' N/\Below wr.heap.size (wr.drewN k) E):=fun k=>l1copy_all J t I N (wr.drewN k) et (by omega) d3
   have U:w.heap.size<=wr.heap.size:=Q.o.size;clear v A F e0 e1 et d3 z;go_wp2_with fail
   go_region_held3 (fun W=>W.cell? ⟨b,o+m * 3,none⟩=some (.int .i64 R)/\W.cell? ⟨b,o+m * 3+1,none⟩=some (.int .i64 K)/\W.cell? ⟨b,o+m * 3+2,none⟩=some (.slice J t I))
    (first | exact y | go_keep)
    (first
      | (go_at_call 56;refine(Z.o 1).mono ?_;rintro e P ⟨p1,n1,T,rfl,G,d⟩;have y:P.cell? ⟨b,o+m * 3,none⟩=some (.int .i64 R)/\P.cell? ⟨b,o+m * 3+1,none⟩=some (.int .i64 K)/\P.cell? ⟨b,o+m * 3+2,none⟩=some (.slice J t I):=⟨(d.cell (World.block_lt_of_cell? wr _ L)).trans L,(d.cell (World.block_lt_of_cell? wr _ S)).trans S,(d.cell (World.block_lt_of_cell? wr _ B)).trans B⟩)
      | (refine step_app_cell wr _ rfl _ _ rfl w.heap.size q m r (a.take m) rfl HO.o (((below_drewN (Below.refl _ wr) 1).trans d).alloc d.size _) U ⟨P.heap.size,0,none⟩ 1 rfl R K p1 n1 T N (G.toT.below ((Below.refl _ _).alloc (Nat.le_refl _) _)) (news_rc (Box3.of_block (t:=102) (heap_alloc_new _ _))) (by omega) ?_;intro g M h2 D l h H;have y:D.cell? ⟨b,o+m * 3,none⟩=some (.int .i64 R)/\D.cell? ⟨b,o+m * 3+1,none⟩=some (.int .i64 K)/\D.cell? ⟨b,o+m * 3+2,none⟩=some (.slice J t I):=⟨(h.cell u.o).trans (Lib.cell?_alloc_marked _ y.1),(h.cell u.o).trans (Lib.cell?_alloc_marked _ y.2.1),(h.cell u.o).trans (Lib.cell?_alloc_marked _ y.2.2)⟩))
   have h1:Hid (OwnC D w.heap.size (some ⟨g,0,none⟩) M h2 (a.take (m+1))):=by rw[<-O.o];exact l
   have X:Hid (Below w.heap.size w D):=((Q.o.trans (((below_drewN (Below.refl _ wr) 1).trans d).mono U)).alloc (Nat.le_trans U d.size) _).trans h;have Y:=hid H.o;clear l h H y G d L S B;go_wp2_with fail;go_roundw
   case rel=>exact⟨m+1,_,_,_,by omega,Y.o,by go_num,rfl,h1,X⟩
   case measure=>simp[intOf];omega
  ·obtain rfl:m=n:=by omega
   go_wp2_with fail;go_ret;refine⟨_,_,_,rfl,?_,Q.o⟩;have:=HO.o
   rwa[List.take_of_length_le (by rw[<-HN.o];exact Nat.le_refl _)] at this
theorem rs_cat_at (a b:List RC)(i:Nat):(a ++ b).getD i RC.zero=if i<a.length then a.getD i RC.zero else b.getD (i-a.length) RC.zero:=by
 by_cases h:i<a.length
 ·rw[if_pos h,List.getD,List.getD,List.getElem?_append_left h]
 ·rw[if_neg h,List.getD,List.getD,List.getElem?_append_right (by omega)]
theorem cs_cat_at (a b:List Cel)(i:Nat):(a ++ b).getD i Cel.none=if i<a.length then a.getD i Cel.none else b.getD (i-a.length) Cel.none:=by
 by_cases h:i<a.length
 ·rw[if_pos h,List.getD,List.getD,List.getElem?_append_left h]
 ·rw[if_neg h,List.getD,List.getD,List.getElem?_append_right (by omega)]
theorem flat_one' (a:List RC):∀ u ∈ flat a,u.oneCell'=true:=fun u c=>by
 obtain⟨r,_,b⟩:=List.mem_flatMap.1 c;exact rcV_one r u b
theorem ownC_grewL {t w Q:World}{B g n I L:Nat}{p:Option Addr}{A v:List Cel}{q a:List RC}(hn:n=A.length)(hl:q.length=A.length)(O:t.ownsRow B 102 3 (.slice p n L) n (flat q))
  (K:∀ i,i<A.length->Fits t B (q.getD i RC.zero) (A.getD i Cel.none)) (ha:ApartC p q) (E:Below t.heap.size t w) (Y:B<=t.heap.size)
  (Z:a.length=v.length) (y:∀ i,i<v.length->Fits w t.heap.size (a.getD i RC.zero) (v.getD i Cel.none)) (R:∀ i j,i<a.length->j<a.length->i≠j->0<(a.getD i RC.zero).2.2.2.1->0<(a.getD j RC.zero).2.2.2.1->(a.getD i RC.zero).2.2.1≠(a.getD j RC.zero).2.2.1)
  (hr:Q.ownsRow B 102 3 (.slice (some ⟨g,0,none⟩) (n+v.length) I) (n+v.length) (flat q ++ flat a)) (J:w.grownBy Q (Value.ownBlock (.slice p n L))) (F:Value.ownBlock (.slice p n L)=some g∨g=w.heap.size) :
  OwnC Q B (some ⟨g,0,none⟩) (n+v.length) I (A ++ v):=by
 have l:∀ k,Value.ownBlock (.slice p n L)=some k->p=some ⟨k,0,none⟩/\k<t.heap.size:=fun k u=>by
  rcases O.2 with ⟨G,_⟩ | ⟨g',W,X,G,hb,S,_⟩
  ·simp only[Value.slice.injEq] at G;rw[G.1] at u;simp[Value.ownBlock] at u
  ·simp only[Value.slice.injEq] at G
   rw[G.1] at u ⊢
   simp[Value.ownBlock] at u
   subst u;exact⟨rfl,(Array.getElem?_eq_some_iff.1 S).1⟩
 have m:∀ i,i<A.length->0<(q.getD i RC.zero).2.2.2.1->∃ k,(q.getD i RC.zero).2.2.1=some ⟨k,0,none⟩/\k<t.heap.size:=fun i s o=>by
  obtain⟨k,e,_,N,_⟩:=(K i s).2.2.2 o;exact⟨k,e,N⟩
 have c:∀ i,i<v.length->0<(a.getD i RC.zero).2.2.2.1->∃ k,(a.getD i RC.zero).2.2.1=some ⟨k,0,none⟩/\t.heap.size<=k/\k<w.heap.size:=fun i s o=>by
  obtain⟨k,e,C,H,_⟩:=(y i s).2.2.2 o;exact⟨k,e,C,H⟩
 have P:g<t.heap.size∨g=w.heap.size:=by
  rcases F with h | h
  ·exact .inl (l g h).2
  ·exact .inr h
 refine⟨by simp;omega,q ++ a,by simp;omega,by rw[flat_append];exact hr,fun i s=>?_,fun i s o=>?_,fun i j s V T f d=>?_⟩
 ·rw[rs_cat_at,cs_cat_at,hl]
  by_cases e:i<A.length
  ·rw[if_pos e,if_pos e]
   refine⟨(K i e).1,(K i e).2.1,((K i e).2.2.below E).other J.size (fun k x r=>?_)⟩;obtain⟨D,b,C⟩:=m i e x;have U:k=D:=congrArg Addr.block (Option.some.inj (r.symm.trans b));refine J.block k (by have:=E.size;omega) (fun u=>?_);exact ha.1 i (by omega) x (by rw[r,(l k u.symm).1])
  ·have z:i-A.length<v.length:=by simp at s;omega
   rw[if_neg e,if_neg e];refine⟨(y _ z).1,(y _ z).2.1,((y _ z).2.2.mono Y).other J.size (fun k x r=>?_)⟩;obtain⟨D,b,C,H⟩:=c _ z x;have U:k=D:=congrArg Addr.block (Option.some.inj (r.symm.trans b));refine J.block k (by omega) (fun u=>?_);have:=(l k u.symm).2
   omega
 ·rw[rs_cat_at] at o ⊢
  by_cases e:i<q.length
  ·rw[if_pos e] at o ⊢
   obtain⟨D,b,C⟩:=m i (by omega) o
   rcases F with h | h
   ·rw[<-(l g h).1]
    exact ha.1 i e o
   ·rw[b]
    exact ne_block (by have:=E.size;omega) o
  ·rw[if_neg e] at o ⊢
   obtain⟨D,b,C,H⟩:=c _ (by simp at s;omega) o;rw[b];exact ne_block (by omega) o
 ·rw[rs_cat_at] at f d ⊢
  rw[rs_cat_at]
  by_cases e:i<q.length
  ·rw[if_pos e] at f ⊢
   by_cases r:j<q.length
   ·rw[if_pos r] at d ⊢
    exact ha.2 i j e r T f d
   ·rw[if_neg r] at d ⊢
    obtain⟨D,b,C,H⟩:=c _ (by simp at V;omega) d;obtain⟨k2,M,h3⟩:=m i (by omega) f;rw[b,M];exact ne_block (by omega) f
  ·rw[if_neg e] at f ⊢
   by_cases r:j<q.length
   ·rw[if_pos r] at d ⊢
    obtain⟨D,b,C,H⟩:=c _ (by simp at s;omega) f;obtain⟨k2,M,h3⟩:=m j (by omega) d;rw[b,M];exact ne_block (by omega) f
   ·rw[if_neg r] at d ⊢
    exact R _ _ (by simp at s;omega) (by simp at V;omega) (by omega) f d
theorem app_cells (v w:World){l:Array Oper}{f:List Oper}{o:Oper}{a:Act}{Q:Exit->Act->World->Prop}(G:o.guard=none)(s x:Operand)
  (ho:o.op = .call { callee:=.builtin .append,args:=#[s,x],argTypes:=#[25,25] }) (B:Nat) (p:Option Addr) (n c:Nat) (S:List Cel)
  (hs:a.eval s = .slice p n c) (r:OwnC v B p n c S) (e:Below v.heap.size v w) (z:B<=v.heap.size) (q:Option Addr) (m L:Nat) (P:List Cel) (hx:a.eval x = .slice q m L) (y:OwnC w v.heap.size q m L P) (R:0<m) (N:n+m<=1000000000)
  (h:∀ g H d t,OwnC t B (some ⟨g,0,none⟩) H d (S ++ P)->Below B w t->Hid (H=n+m)->wpList Tryz.prog l Q f (a.put o.dst (.slice (some ⟨g,0,none⟩) H d)) t):wpList Tryz.prog l Q (o :: f) a w:=by
 obtain⟨i0,X,D,K,F⟩:=info_parts infoCell;obtain⟨W,rs,Z,I,hf,ha⟩:=r;obtain⟨E,j,C,u,M,J⟩:=y;obtain⟨Y,h2,O,h1,T⟩:=u.form R;simp only[Value.slice.injEq,true_and] at O;obtain⟨rfl,rfl⟩:=O;refine wpList_append_lies w G s x 25 ho B 102 i0 (.agg #[.int .i64 0,.int .i64 0,.slice none 0 0]) 3 40 Tryz.underlying25 X D K F rfl (by decide) (.slice p n c) n (flat rs) hs (row_below I e) ⟨Y,0,none⟩ m L (flat j) hx (by rw[flat_len];omega) (u.cells rfl) (flat_one' j) R (by unfold maxLen;omega) (by omega) (Nat.le_trans z e.size) w.heap.size rfl ?_
 intro g d t i b A U
 subst E;refine h g _ d t (ownC_grewL W Z I hf ha e z C M J.2 i b A) ((Below.refl _ _).grown b (Nat.le_trans z e.size) (fun k V=>?_)) rfl;exact(I.lt k V).1
theorem own_one {w:World}{B g d f:Nat}{k n:Int}{c:Option Addr}{s:List Int}(q:w.heap[g]?=some (.cells #[.int .i64 k,.int .i64 n,.slice c d f] 102))(o:B<=g)(m:OwnT w B c d f s)(l:∀ a,c=some a->a.block≠g):OwnC w B (some ⟨g,0,none⟩) 1 1 [(k,n,s)]:=by
 refine⟨rfl,[(k,n,c,d,f)],rfl,⟨rfl,.inr ⟨g,1,_,rfl,o,q,Nat.le_refl _,by decide,rfl,rfl⟩⟩,fun i b=>?_,?_⟩
 ·obtain rfl:i=0:=by simp at b;omega
  exact⟨rfl,rfl,m⟩
 ·refine⟨fun i b h=>?_,fun i j b p h=>?_⟩
  ·obtain rfl:i=0:=by simp at b;omega
   exact fun e=>l _ e rfl
  ·simp at b p
   omega
theorem infoBytesS:(Tryz.prog.info? 23).map (fun i=>(i.zero,i.size,i.bytes))=some (some (.slice none 0 0),1,24):=by kernel_rfl
def tnn:List (List Int)->Nat
 | []=>0
 | a :: r=>a.length+tnn r
theorem tnn_at:∀ (N:List (List Int)) (i:Nat),i<N.length->(N.getD i []).length<=tnn N
 | a :: r,0,_=>by simp[tnn]
 | a :: r,i+1,h=>by have:=tnn_at r i (by simpa using h);simp only[List.getD_cons_succ,tnn];omega
theorem tnn_take:∀ (N:List (List Int)) (k:Nat),k<N.length->tnn (N.take (k+1))=tnn (N.take k)+(N.getD k []).length
 | a :: r,0,_=>by simp[tnn]
 | a :: r,k+1,h=>by
   have:=tnn_take r k (by simpa using h);simp only[List.take_succ_cons,tnn,List.getD_cons_succ]
   omega
theorem tnn_take_le:∀ (N:List (List Int)) (k:Nat),tnn (N.take k)<=tnn N
 | [],k=>by simp[tnn]
 | a :: r,0=>by simp[tnn]
 | a :: r,k+1=>by have:=tnn_take_le r k;simp only[List.take_succ_cons,tnn];omega
theorem ownS_block {w i:World}{B g n c:Nat}{j:List Int}(h:OwnS w B (some ⟨g,0,none⟩) n c j)(l:i.heap[g]?=w.heap[g]?):OwnS i B (some ⟨g,0,none⟩) n c j:=by
 refine⟨h.1,h.2.1,?_⟩
 rcases h.2.2 with q | ⟨f,b,a,d,m,p,r⟩
 ·exact .inl q
 ·have e:f=g:=by injection d with o;injection o with k;injection k with s;exact s.symm
  subst e;exact .inr ⟨f,b,a,d,m,l.trans p,r⟩
theorem rowNN_block {w j:World}{B g n c:Nat}{e:TypeId}{f:List Value}(h:w.ownsRow B e 1 (.slice (some ⟨g,0,none⟩) n c) n f)(l:j.heap[g]?=w.heap[g]?):j.ownsRow B e 1 (.slice (some ⟨g,0,none⟩) n c) n f:=by
 refine⟨h.1,?_⟩
 rcases h.2 with q | ⟨i,b,a,d,m,p,r⟩
 ·exact .inl q
 ·have e:i=g:=by injection d with o;injection o with k;injection k with s;exact s.symm
  subst e;exact .inr ⟨i,b,a,d,m,l.trans p,r⟩
theorem ownS_lt {w:World}{B g n c:Nat}{a:List Int}(h:OwnS w B (some ⟨g,0,none⟩) n c a):B<=g/\g<w.heap.size:=h.2.lt g rfl
theorem eqNN_same (p q:Option Addr)(D E:Nat)(N:List (List Int))(w:World)(K:N.length+tnn N<=1048576)(v:NIn w p N)(s:NIn w q N) :
  Calls Tryz.prog 36 #[.slice p N.length D,.slice q N.length E] w fun e d=>e = .returned (.bool true)/\Below w.heap.size w d:=by
 have G:=hid v;have C:=hid s;clear v s
 go_enter Tryz.func36,Tryz.ntmps36
 go_wp2_with fail
 go_loopw [5] (fun i wr=>∃ k:Nat,k<=N.length/\i = .int .i64 k/\Hid (Below w.heap.size w wr)) (fun i _=>N.length-(intOf i).toNat)
 case atStart=>exact⟨0,Nat.zero_le _,rfl,Below.refl _ _⟩
 case round=>
  obtain⟨k,J,rfl,f⟩:=hrel
  by_cases a:k<N.length
  ·obtain⟨b,o,rfl,A⟩:=(G.o.below f.o) (by omega)
   obtain⟨L,I,rfl,c⟩:=(C.o.below f.o) (by omega)
   obtain⟨q1,t,F,B⟩:=A k a;obtain⟨z,r,H,y⟩:=c k a;have g:=tnn_at N k a
   have u:Hid (∀ W,Below wr.heap.size wr W->Calls Tryz.prog 12 #[.slice q1 (N.getD k []).length t,.slice z (N.getD k []).length r] W fun e d=>e = .returned (.bool true)/\Below W.heap.size W d):=fun W l=>by
    refine(eqByteS_any q1 z t r (N.getD k []) (N.getD k []) W (by omega) (by omega) (B.below l) (y.below l)).mono ?_;rintro e d ⟨rfl,n,rfl⟩;exact⟨by simp,⟨rfl,rfl,rfl,Nat.le_refl _,fun _ _=>rfl⟩⟩
   obtain⟨m,j⟩:∃ x,x=(N.getD k []).length:=⟨_,rfl⟩
   rw[<-j] at u F H g;clear A c B y j;go_wp2_with fail
   go_region_with (go_at_call 12;refine(u.o _ (Below.refl _ _).drew).mono ?_;rintro e M ⟨rfl,h⟩)
   all_goals go_wp2_with fail
   all_goals go_roundw
   all_goals first
    | (simp[intOf];omega)
    | exact⟨k+1,by omega,by go_num,Below.on f.o ((Below.refl _ _).drew.trans h)⟩
  ·obtain rfl:k=N.length:=by omega
   go_wp2_with fail;go_ret;exact⟨rfl,f.o⟩
end
section
open Go Go.RowKit Go.Maps
theorem lawVar:Keyed Tryz.prog 150:=int_keyed Tryz.underlying150
theorem zeroVar (w:World):(zeroValue 150).run Tryz.prog w = .ok (.int .i64 0) w:=by kernel_rfl
end
section
open Go Go.RowKit
end
section
open Go Go.RowKit Go.Maps
end
section
open Go Go.RowKit
theorem str_is {s:List Int}(b:Byte s)(u:List UInt8)(t:List Int)(a:u.map (fun x=>(x.toNat:Int))=t):((strOfNums s).toList == u)=(s == t):=by
 rw[Bool.eq_iff_iff,beq_iff_eq,beq_iff_eq,str_eq b u,a]
end
end Go.Proofs.YtlkhmmoimplokaaGreatDoor
