/- Texts of RdC, RdD, RdE, RdF. Own work of the verifier. -/
import Derived.Test.YtlkhmmoimplokaaGreatDoorUqbd
import Derived.Test.YtlkhmmoimplokaaGreatDoorUqba
namespace Go.Proofs.YtlkhmmoimplokaaGreatDoor
set_option maxHeartbeats 2000000
set_option maxRecDepth 100000
open Go Go.RowKit Go.Maps
set_option linter.unusedVariables false
set_option linter.unusedSimpArgs false
section
variable {w1:World}{rb vb kb kc:Nat}{ov sv:Value}{T:List Cel}{L:Int}{all:List Tok}{k:Nat}{s:RS}{w:World}
def RJ (w1:World)(rb vb kb kc:Nat)(ov sv:Value)(all:List Tok)(s:RS)(w:World):Prop:=∃ k,RI w1 rb vb kb kc ov sv all k s w
theorem isP_hd (s:RS)(m:List Int):(decide ((s.hd L).1.1=5) && decide ((s.hd L).2=m))=s.isP m:=by rw[hd_kd,hd_tx];rfl
theorem accept_any (E:REnv w1 rb vb kb kc ov sv T L all)(h:RI w1 rb vb kb kc ov sv all k s w)(m:List Int)(S:ByteArray)(D:strOfNums m=S)(I:Byte m):Calls Tryz.prog 106 #[ptrR rb,.string S] w fun e i=>e = .returned (.bool (s.isP m))/\RJ w1 rb vb kb kc ov sv all (if s.isP m=true then s.tk else s) i/\RFr rb vb w i:=by
 have j:=next_any E h;have q:=hd_byte E h
 have g:Hid (∀ W p c,BIn W p (s.hd L).2->Calls Tryz.prog 105 #[tokVR (s.hd L) p c,.string S] W fun e i=>e = .returned (.bool (s.isP m))/\Below W.heap.size W i):=fun W p c f=>by
  rw[<-isP_hd (L:=L)];exact isPunct_any (s.hd L) p c m S D W I q.1 f
 have u:Hid (∀ W,Below w.heap.size w W->Calls Tryz.prog 71 #[ptrR rb] W fun e i=>∃ p c H,e = .returned (tokVR (s.hd L) p c)/\(∀ F,Sty rb vb w1 F->BIn F p (s.hd L).2)/\RI w1 rb vb kb kc ov sv all H s.tk i/\RFr rb vb W i):=fun W r=>take_any E (h.below r)
 have z:Hid (∀ W,Below w.heap.size w W->Sty rb vb w1 W):=fun W r=>h.sty.below r
 have M:=hid h;clear h E q
 generalize s.hd L=t at *
 obtain⟨⟨Q,O,U,R⟩,V⟩:=t;simp only[tokVR] at j g u
 cases A:s.isP m with
 | false=>
   rw[A] at g
   go_enter Tryz.func106,Tryz.ntmps106
   go_wp2_with fail;refine j.mono ?_;rintro e W ⟨p,c,rfl,a,f⟩;have n:=g.o W p c (a W (z.o W f));have v:=hid f;clear j f g a;go_wp2_with fail;refine n.mono ?_;rintro e y ⟨rfl,d⟩;have b:=hid (Below.on v.o d);clear n d;go_wp2_with fail;go_ret;exact⟨rfl,⟨k,M.o.below b.o⟩,RFr.of rb vb b.o⟩
 | true=>
   rw[A] at g
   go_enter Tryz.func106,Tryz.ntmps106
   go_wp2_with fail;refine j.mono ?_;rintro e W ⟨p,c,rfl,a,f⟩;have n:=g.o W p c (a W (z.o W f));have v:=hid f;clear j f g a;go_wp2_with fail;refine n.mono ?_;rintro e y ⟨rfl,d⟩;have b:=hid (Below.on v.o d);have l:=u.o y b.o;clear n d u;go_wp2_with fail;refine l.mono ?_;rintro e C ⟨N,P,K,rfl,_,x,B⟩;have J:Hid _:=x;have G:Hid (RFr rb vb w C):=(RFr.of rb vb b.o).trans B;clear l x B;go_wp2_with fail;go_ret;exact⟨rfl,⟨K,J.o⟩,G.o⟩
def RUnit (w1:World)(rb vb kb kc:Nat)(ov sv:Value)(all:List Tok)(w:World)(s:RS)(e:Ending)(w':World):Prop:=e = .returned (.tuple #[])/\RJ w1 rb vb kb kc ov sv all s w'/\RFr rb vb w w'
theorem must_any (E:REnv w1 rb vb kb kc ov sv T L all)(h:RI w1 rb vb kb kc ov sv all k s w)(m:List Int)(S:ByteArray)(q:strOfNums m=S)(u:Byte m):Calls Tryz.prog 157 #[ptrR rb,.string S] w (RUnit w1 rb vb kb kc ov sv all w (s.must L m)):=by
 have a:=accept_any E h m S q u
 have c:Hid (∀ W k,RI w1 rb vb kb kc ov sv all k s W->Calls Tryz.prog 70 #[ptrR rb] W fun e l=>e = .returned (.tuple #[.iface 154 (.string ⟨#[91,93]⟩),.int .i64 0])/\RI w1 rb vb kb kc ov sv all all.length (s.stop L) l/\RFr rb vb W l):=fun W k b=>stop_any E b
 clear h E
 unfold RS.must
 cases n:s.isP m with
 | true=>
   rw[n] at a;simp only[if_true] at a ⊢
   go_enter Tryz.func157,Tryz.ntmps157
   go_wp2_with fail;refine a.mono ?_;rintro e W ⟨rfl,b,f⟩;have j:Hid _:=b;have i:Hid _:=f;clear a b f c;go_wp2_with fail
   go_end0
   exact⟨rfl,j.o,i.o⟩
 | false=>
   rw[n] at a;simp only[Bool.false_eq_true,if_false] at a ⊢
   go_enter Tryz.func157,Tryz.ntmps157
   go_wp2_with fail;refine a.mono ?_;rintro e W ⟨rfl,⟨t,b⟩,f⟩;have p:=c.o W t b;have i:=hid f;clear a b f c;go_wp2_with fail;refine p.mono ?_;rintro e v ⟨rfl,d,g⟩;have j:Hid _:=d;have r:=hid (i.o.trans g);clear p d g;go_wp2_with fail
   go_end0
   exact⟨rfl,⟨_,j.o⟩,r.o⟩
theorem mustBe_any (E:REnv w1 rb vb kb kc ov sv T L all)(h:RI w1 rb vb kb kc ov sv all k s w)(x:Int):Calls Tryz.prog 33 #[ptrR rb,.int .i64 x] w (RUnit w1 rb vb kb kc ov sv all w (s.mustBe L x)):=by
 have g:=next_any E h;have A:=hid (hd_kd L s)
 have f:Hid (∀ W,Below w.heap.size w W->Calls Tryz.prog 70 #[ptrR rb] W fun e j=>e = .returned (.tuple #[.iface 154 (.string ⟨#[91,93]⟩),.int .i64 0])/\RI w1 rb vb kb kc ov sv all all.length (s.stop L) j/\RFr rb vb W j):=fun W I=>stop_any E (h.below I)
 have m:Hid (∀ W k s,RI w1 rb vb kb kc ov sv all k s W->Calls Tryz.prog 71 #[ptrR rb] W fun e j=>∃ p c M,e = .returned (tokVR (s.hd L) p c)/\(∀ F,Sty rb vb w1 F->BIn F p (s.hd L).2)/\RI w1 rb vb kb kc ov sv all M s.tk j/\RFr rb vb W j):=fun W k s a=>take_any E a
 have N:=hid h;have K:=fieldT0;clear h E
 unfold RS.mustBe
 rw[<-A.o]
 obtain⟨⟨⟨B,O,Q,P⟩,R⟩,D⟩:∃ t,s.hd L=t:=⟨_,rfl⟩
 rw[D] at g ⊢;simp only[tokVR] at g ⊢;clear A D
 by_cases n:B=x
 ·rw[if_pos n]
  subst n
  go_enter Tryz.func33,Tryz.ntmps33
  go_wp2_with fail;refine g.mono ?_;rintro e W ⟨p,c,rfl,_,d⟩;have l:=m.o W k s (N.o.below d);have r:=hid d;clear g d m f;go_wp2_with fail;refine l.mono ?_;rintro e z ⟨G,H,v,rfl,_,a,b⟩;have u:Hid _:=a;have q:Hid (RFr rb vb w z):=(RFr.of rb vb r.o).trans b;clear l a b;go_wp2_with fail
  go_end0
  exact⟨rfl,⟨v,u.o⟩,q.o⟩
 ·rw[if_neg n]
  have J:(B == x)=false:=by simpa using n
  go_enter Tryz.func33,Tryz.ntmps33
  go_wp2_with fail;refine g.mono ?_;rintro e W ⟨p,c,rfl,_,d⟩;have l:=f.o W d;have r:=hid d;clear g d f;go_wp2_with fail;refine l.mono ?_;rintro e C ⟨rfl,a,b⟩;have i:=m.o C _ _ a;have q:Hid (RFr rb vb w C):=(RFr.of rb vb r.o).trans b;clear l a b m;go_wp2_with fail;refine i.mono ?_;rintro e z ⟨G,H,v,rfl,_,a,b⟩;have u:Hid _:=a;have y:=hid (q.o.trans b);clear i a b;go_wp2_with fail
  go_end0
  exact⟨rfl,⟨v,u.o⟩,y.o⟩
end
theorem rs_app {b:Type}(a:List b)(r d:b)(i:Nat)(h:i<=a.length):(a ++ [r]).getD i d=if i=a.length then r else a.getD i d:=by
 simp only[List.getD,List.getElem?_append]
 by_cases e:i=a.length
 ·subst e;simp
 ·rw[if_pos (by omega),if_neg e]
theorem app_name (V w:World){Y:Array Oper}{N:List Oper}{o:Oper}{a:Act}{Q:Exit->Act->World->Prop}(h8:o.guard=none)(s x:Operand)
  (ho:o.op = .call { callee:=.builtin .append,args:=#[s,x],argTypes:=#[26,26] }) (B:Nat) (p:Option Addr) (n c:Nat) (f:List (List Int))
  (hs:a.eval s = .slice p n c) (h4:OwnV V B p n c f) (S:Below V.heap.size V w) (hB:B<=V.heap.size) (q:Option Addr) (m F:Nat) (xs:List Int) (r:OwnT w V.heap.size q m F xs)
  (hx:a.eval x = .slice (some ⟨w.heap.size,0,none⟩) 1 1) (k5:n+1<=1000000)
  (h:∀ g H R,OwnV R B (some ⟨g,0,none⟩) (n+1) H (f ++ [xs])->(w.alloc (.cells #[.slice q m F] 23)).grownBy R (Value.ownBlock (.slice p n c))->wpList Tryz.prog Y Q N (a.put o.dst (.slice (some ⟨g,0,none⟩) (n+1) H)) R):wpList Tryz.prog Y Q (o :: N) a (w.alloc (.cells #[.slice q m F] 23)):=by
 obtain⟨i0,v,e8,k4,e5⟩:=info_parts infoBytesS;obtain⟨hn,_,U,hl,hr,ht,h3,k3⟩:=h4;have k1:Below w.heap.size w (w.alloc (.cells #[.slice q m F] 23)):=(Below.refl _ _).alloc (Nat.le_refl _) _;have h7:=Below.on S k1;refine wpList_append_lies _ h8 s x 26 ho B 23 i0 (.slice none 0 0) 1 24 Tryz.underlying26 v e8 k4 e5 rfl (by decide) (.slice p n c) n _ hs (row_below hr h7) ⟨w.heap.size,0,none⟩ 1 1 [.slice q m F] hx rfl (cell_one_new _ _ _) (fun u hu=>by simp at hu;rw[hu];rfl) (by decide) (by unfold maxLen;omega) (by omega) (Nat.le_trans hB h7.size) _ rfl ?_
 intro g H R O t e4 k7
 have I:∀ k,Value.ownBlock (.slice p n c)=some k->B<=k/\k<V.heap.size:=fun k hk=>hr.lt k hk
 have W:=r.1;have k6:=S.size
 have C:∀ k,k<w.heap.size->(∀ j,Value.ownBlock (.slice p n c)=some j->k≠j)->R.heap[k]?=w.heap[k]?:=fun k hk e6=>
  (t.block k (by simp;omega) (fun e=>e6 k e.symm rfl)).trans (Below.heap_alloc _ _ _ hk)
 have M:w.heap.size<=R.heap.size:=by have:=t.size;simp at this;omega
 have Z:Value.ownBlock (.slice p n c)=some g∨w.heap.size<=g:=by
  rcases e4 with h' | h'
  ·exact .inl h'
  ·right;rw[h'];simp
 have y:∀ i,i<f.length->0<(f.getD i []).length->∃ b,(U.getD i (none,0)).1=some ⟨b,0,none⟩/\B<=b/\b<V.heap.size:=fun i v d=>by
  obtain⟨b,e,D,h2,_⟩:=(ht i v).2 d;exact⟨b,e,D,h2⟩
 have e9:∀ i,i<f.length->0<(f.getD i []).length->(U.getD i (none,0)).1≠some ⟨g,0,none⟩:=fun i v d e=>by
  obtain⟨b,X,D,h2⟩:=y i v d;rw[X] at e;have P:b=g:=congrArg Addr.block (Option.some.inj e);subst P
  rcases Z with h' | h'
  ·cases p with
   | none=>cases h'
   | some pa=>
     have:=h3 i v d;rw[X] at this
     rcases hr.2 with ⟨E,_⟩ | ⟨g9,h6,h5,hv,_⟩
     ·simp at E
     ·simp only[Value.slice.injEq] at hv
      rw[hv.1] at h' this;have hh:g9=b:=Option.some.inj h';subst hh;exact this rfl
  ·omega
 refine h g H R ⟨by simp[hn],fun e=>by simp at e,U ++ [(q,F)],by simp[hl],?_,fun i v=>?_,fun i v d=>?_,fun i j v K e1 d D=>?_⟩ t
 ·have e:((List.range (f ++ [xs]).length).map fun i=>(.slice ((U ++ [(q,F)]).getD i (none,0)).1 ((f ++ [xs]).getD i []).length ((U ++ [(q,F)]).getD i (none,0)).2:Value))=((List.range f.length).map fun i=>(.slice (U.getD i (none,0)).1 (f.getD i []).length (U.getD i (none,0)).2:Value)) ++ [.slice q m F]:=by
   rw[List.length_append,List.length_singleton,List.range_succ,List.map_append]
   congr 1
   ·apply List.map_congr_left
    intro i v
    have A:i<f.length:=by simpa using v
    rw[rs_app _ _ _ _ (by omega),rs_app _ _ _ _ (by omega),if_neg (by omega),if_neg (by omega)]
   ·simp only[List.map_cons,List.map_nil]
    rw[rs_app _ _ _ _ (by omega),rs_app _ _ _ _ (by omega),if_pos (by omega),if_pos rfl,W]
  rw[e];exact O
 ·have A:i<=f.length:=by simp at v;omega
  rw[rs_app _ _ _ _ (by omega),rs_app _ _ _ _ A]
  by_cases e:i=f.length
  ·rw[if_pos (by omega),if_pos e]
   have J:OwnT w B q m F xs:=r.mono hB;rw[W] at J
   refine J.other M fun b d P=>C b ?_ fun j K=>?_
   ·obtain⟨b',z,_,l,_⟩:=r.2 (by rw[W];exact d)
    rw[P] at z;cases z;exact l
   ·obtain⟨b',z,G,_,_⟩:=r.2 (by rw[W];exact d)
    rw[P] at z;cases z
    have:=(I j K).2;omega
  ·rw[if_neg (by omega),if_neg e]
   refine((ht i (by omega)).below S).other M fun b d P=>?_
   obtain⟨b',z,G,l⟩:=y i (by omega) d
   rw[P] at z;cases z
   refine C b (by omega) fun j K e7=>?_
   subst e7;have:=h3 i (by omega) d;rw[P] at this
   rcases hr.2 with ⟨E,_⟩ | ⟨g9,h6,h5,hv,_⟩
   ·simp only[Value.slice.injEq] at E
    rw[E.1] at K;cases K
   ·simp only[Value.slice.injEq] at hv
    rw[hv.1] at K this;have hh:g9=b:=Option.some.inj K;subst hh;exact this rfl
 ·have A:i<=f.length:=by simp at v;omega
  rw[rs_app _ _ _ _ A] at d;rw[rs_app _ _ _ _ (by omega)]
  by_cases e:i=f.length
  ·rw[if_pos (by omega)]
   rw[if_pos e] at d;obtain⟨b',z,G,l,_⟩:=r.2 (by rw[W];exact d);simp only;rw[z]
   intro E
   cases E
   rcases Z with h' | h'
   ·have:=(I _ h').2;omega
   ·omega
  ·rw[if_neg (by omega)]
   rw[if_neg e] at d;exact e9 i (by omega) d
 ·have A:i<=f.length:=by simp at v;omega
  have k2:j<=f.length:=by simp at K;omega
  rw[rs_app _ _ _ _ A] at d;rw[rs_app _ _ _ _ k2] at D;rw[rs_app _ _ _ _ (by omega),rs_app _ _ _ _ (by omega)]
  by_cases e:i=f.length
  ·rw[if_pos e] at d
   rw[if_pos (by omega),if_neg (by omega)];rw[if_neg (by omega)] at D;obtain⟨b',z,G,l,_⟩:=r.2 (by rw[W];exact d);obtain⟨b2,X,_,h2⟩:=y j (by omega) D;simp only;rw[z,X]
   intro E;cases E;omega
  ·rw[if_neg e] at d
   rw[if_neg (by omega)]
   by_cases e3:j=f.length
   ·rw[if_pos e3] at D
    rw[if_pos (by omega)];obtain⟨b',z,G,l,_⟩:=r.2 (by rw[W];exact D);obtain⟨b2,X,_,h2⟩:=y i (by omega) d;simp only;rw[z,X]
    intro E;cases E;omega
   ·rw[if_neg e3] at D
    rw[if_neg (by omega)];exact k3 i j (by omega) (by omega) e1 d D
theorem lawNm:Keyed Tryz.prog 9:=string_keyed Tryz.underlying9
theorem VrM.anon {w:World}{b:Nat}{e:List (List Int)}(h:VrM w b e):VrM w b (e ++ [[]]):=by
 obtain⟨N,D,f,m,j,l⟩:=h;refine⟨N,D,f,by simp;omega,fun d i c=>?_,fun d g c=>?_⟩
 ·rw[j d i c];simp[c]
 ·have a:d ∈ e:=by simpa [c] using g
  rw[l d a c,List.idxOf_append,if_pos a]
theorem str_data {b a:List Int}(d:Byte b)(c:Byte a)(h:(strOfNums b).data.toList=(strOfNums a).data.toList):b=a:=by
 have e:=strOf_eq d c;rw[ByteArray.toList_eq,ByteArray.toList_eq,h] at e
 simpa using e.symm
theorem VrM.put {w w':World}{b N:Nat}{a:List (List Int)}{D:DataW Unit}{xs:List Int}(o:w.ownsMap Tryz.prog 9 (plainElem Tryz.prog 150) b N D)(q:N<=a.length)
  (p:∀ xs,Byte xs->xs≠[]->Maps.has D (.string (strOfNums xs).data.toList)=decide (xs ∈ a)) (n:∀ xs ∈ a,xs≠[]->D.atKey (.string (strOfNums xs).data.toList) (.lit (.int .i64 0)) = .lit (.int .i64 (a.idxOf xs))) (j:∀ xs ∈ a,Byte xs)
  (l:Byte xs) (r:xs≠[]) (hn:xs ∉ a) (h:w'.ownsMap Tryz.prog 9 (plainElem Tryz.prog 150) b (N+1) (D.put (.string (strOfNums xs).data.toList) (.lit (.int .i64 a.length)))):VrM w' b (a ++ [xs]):=by
 have m:=o.isMap;have f:WideAt.IsKeyLit (.string (strOfNums xs).data.toList):=trivial;refine⟨_,_,h,by simp;omega,fun ys g c=>?_,fun ys g c=>?_⟩
 ·by_cases e:ys=xs
  ·subst e;rw[has_put_same m f];simp
  ·rw[has_put_other (fun i=>e (str_data g l (by simpa using i))),p ys g c];simp[e]
 ·by_cases e:ys=xs
  ·subst e
   rw[atKey_put_same m f,List.idxOf_append,if_neg hn]
   simp
  ·have d:ys ∈ a:=by simpa [e] using g
   rw[atKey_put_other (fun i=>e (str_data (j ys d) l (by simpa using i))),n ys d c,List.idxOf_append,if_pos d]
section
variable {w1:World}{rb vb kb kc:Nat}{ov sv:Value}{T:List Cel}{L:Int}{all:List Tok}{k:Nat}{s:RS}{w:World}
theorem RI.names (E:REnv w1 rb vb kb kc ov sv T L all)(h:RI w1 rb vb kb kc ov sv all k s w){p D:Option Addr}{n c C B:Nat}{q i:World}{A:List (List Int)}(S:w.cell? ⟨rb,4,none⟩=some (.slice p n c))(Y:OwnV w w1.heap.size p n c s.ns)(l:w.grownBy q (Value.ownBlock (.slice p n c)))(I:OwnV q w1.heap.size D C B A)
  (f:(q.setCell ⟨rb,4,none⟩ (.slice D C B)).grownBy i (some vb)) (U:VrM i vb A) (K:(∀ W ∈ A,Byte W)/\A.length+s.ts.length<=all.length):RI w1 rb vb kb kc ov sv all k ⟨s.ts,A,s.ft⟩ i/\RFr rb vb w i:=by
 have m:=Y.row;have Z:=h.sty.size;have P:=E.lt.1;have G:=E.ne.2.2
 have J:q.heap.size<=i.heap.size:=by simpa using f.size
 have N:∀ j,j<w.heap.size->j≠rb->j≠vb->(∀ g,Value.ownBlock (.slice p n c)=some g->j≠g)->i.heap[j]?=w.heap[j]?:=fun j y z x M=>by
  rw[f.block j (by simp;have:=l.size;omega) (fun e=>x (Option.some.inj e)),Below.heap_setCell _ _ _ _ z];exact l.block j y (fun e=>M j e.symm rfl)
 have F:∀ o v,w.cell? ⟨rb,o,none⟩=some v->q.cell? ⟨rb,o,none⟩=some v:=fun o v t=>(World.cell?_of_block (a:=⟨rb,o,none⟩) (l.block rb (by omega) (fun e=>by have:=(m rb e.symm).1;omega))).trans t
 have H:∀ o v,(q.setCell ⟨rb,4,none⟩ (.slice D C B)).cell? ⟨rb,o,none⟩=some v->i.cell? ⟨rb,o,none⟩=some v:=fun o v t=>(World.cell?_of_block (a:=⟨rb,o,none⟩) (f.block rb (by simp;have:=l.size;omega) (fun e=>G (Option.some.inj e)))).trans t
 have u:∀ o v,o≠4->w.cell? ⟨rb,o,none⟩=some v->i.cell? ⟨rb,o,none⟩=some v:=fun o v X t=>H o v ((World.cell?_setCell_other _ _ _ _ (fun e=>X (by simpa using(congrArg Addr.off e).symm))).trans (F o v t))
 refine⟨⟨⟨f.os.trans l.os |>.trans h.sty.os,f.tape.trans l.tape |>.trans h.sty.tape,f.output.trans l.output |>.trans h.sty.output,by have:=l.size;omega,fun j y z x=>?_⟩,u _ _ (by decide) h.c0,u _ _ (by decide) h.c1,u _ _ (by decide) h.c2,u _ _ (by decide) h.c3,⟨D,C,B,H 4 _ (World.cell?_setCell_same' _ _ _ (by rw[F 4 _ S];rfl)),?_⟩,u _ _ (by decide) h.c5,u _ _ (by decide) h.c6,fun o=>?_,h.ts,U,h.ov,h.fo,K⟩,⟨f.os.trans l.os,f.tape.trans l.tape,f.output.trans l.output,by have:=l.size;omega,fun j y z x M=>?_⟩⟩
 ·exact(N j (by omega) z x (fun g r=>by have:=(m g r).1;omega)).trans (h.sty.block j y z x)
 ·refine I.of J fun j y R=>?_
  have Q:=E.lt.2.1;rw[f.block j (by simp;omega) (fun e=>by have:=Option.some.inj e;omega),Below.heap_setCell _ _ _ _ (by show j≠rb;omega)]
 ·have V:i.frozen? ⟨rb,o,none⟩=(q.setCell ⟨rb,4,none⟩ (.slice D C B)).frozen? ⟨rb,o,none⟩:=World.frozen?_of_block (a:=⟨rb,o,none⟩) (f.block rb (by simp;have:=l.size;omega) (fun e=>G (Option.some.inj e)))
  have O:q.frozen? ⟨rb,o,none⟩=w.frozen? ⟨rb,o,none⟩:=World.frozen?_of_block (a:=⟨rb,o,none⟩) (l.block rb (by omega) (fun e=>by have:=(m rb e.symm).1;omega));rw[V,World.frozen?_setCell,O];exact h.fz o
 ·refine N j y z x fun g r e=>?_
  subst e;obtain⟨_,_,a,b,d,t⟩:=m j r;exact M a b d t
theorem newVariable_any (E:REnv w1 rb vb kb kc ov sv T L all){l:World}(h:RI w1 rb vb kb kc ov sv all k s l)(z:Below l.heap.size l w)(q:Option Addr)(m G:Nat)(x:List Int)(A:OwnT w l.heap.size q m G x)(hl:s.ns.length+s.ts.length+1<=all.length)(J:Byte x) :
  Calls Tryz.prog 103 #[ptrR rb,.slice q m G] w fun e f=>e = .returned (.int .i64 s.ns.length)/\(VrM f vb s.ns/\f.cell? ⟨rb,3,none⟩=some (.map (some vb)))/\∀ d,f.grownBy d (some vb)->VrM d vb (s.ns ++ [x])->RI w1 rb vb kb kc ov sv all k ⟨s.ts,s.ns ++ [x],s.ft⟩ d/\RFr rb vb l d:=by
 obtain⟨p,n,c,M,I⟩:=h.c4;have U:n=s.ns.length:=I.1;have O:=(h.below z).c4
 obtain⟨W,R⟩:∃ W,W=w.alloc (.cells #[.slice q m G] 23):=⟨_,rfl⟩
 have r:Below l.heap.size l W:=by rw[R];exact Below.on z (new_low w _)
 have C:rb<l.heap.size:=Nat.lt_of_lt_of_le E.lt.1 h.sty.size;have d4:w.cell? ⟨rb,4,none⟩=some (.slice p n c):=(z.cell (p:=⟨rb,4,none⟩) C).trans M
 have B:Hid (∀ g i f,OwnV f w1.heap.size (some ⟨g,0,none⟩) (n+1) i (s.ns ++ [x])->W.grownBy f (Value.ownBlock (.slice p n c))->(f.cell? ⟨rb,4,none⟩=some (.slice p n c)/\f.frozen? ⟨rb,4,none⟩=false/\rb<f.heap.size)/\(VrM (f.setCell ⟨rb,4,none⟩ (.slice (some ⟨g,0,none⟩) (n+1) i)) vb s.ns/\(f.setCell ⟨rb,4,none⟩ (.slice (some ⟨g,0,none⟩) (n+1) i)).cell? ⟨rb,3,none⟩=some (.map (some vb)))/\
   ∀ d,(f.setCell ⟨rb,4,none⟩ (.slice (some ⟨g,0,none⟩) (n+1) i)).grownBy d (some vb)->VrM d vb (s.ns ++ [x])->RI w1 rb vb kb kc ov sv all k ⟨s.ts,s.ns ++ [x],s.ft⟩ d/\RFr rb vb l d):=fun g i f t v=>by
  have u:=h.below r
  have D:OwnV W w1.heap.size p n c s.ns:=I.of r.size fun j _ hj=>r.block j hj
  have F:W.cell? ⟨rb,4,none⟩=some (.slice p n c):=(r.cell (p:=⟨rb,4,none⟩) C).trans M
  have H:∀ g,Value.ownBlock (.slice p n c)=some g->w1.heap.size<=g:=fun g N=>(D.row g N).1
  have y:f.heap[rb]?=W.heap[rb]?:=v.block rb (by have:=r.size;omega) (fun e=>by have:=H rb e.symm;have:=E.lt.1;omega);have K:f.heap[vb]?=W.heap[vb]?:=v.block vb (by have:=r.size;have:=h.sty.size;have:=E.lt.2.1;omega) (fun e=>by have:=H vb e.symm;have:=E.lt.2.1;omega);refine⟨⟨(World.cell?_of_block (a:=⟨rb,4,none⟩) y).trans F,(World.frozen?_of_block (a:=⟨rb,4,none⟩) y).trans (u.fz 4),by have:=v.size;have:=r.size;omega⟩,⟨u.vm.of_block ((Below.heap_setCell _ _ _ _ (by show vb≠rb;exact E.ne.2.2.symm)).trans K),(World.cell?_setCell_other _ _ _ _ (by simp)).trans ((World.cell?_of_block (a:=⟨rb,3,none⟩) y).trans u.c3)⟩,fun d Q Z=>?_⟩;obtain⟨a,b⟩:=u.names E F D v t Q Z ⟨fun ys hy=>by rcases List.mem_append.1 hy with hy | hy;exact h.nb.1 ys hy;simp at hy;rw[hy];exact J,by simp;omega⟩
  exact⟨a,(RFr.of rb vb r).trans b⟩
 have S:Hid (OwnV l w1.heap.size p n c s.ns/\Below l.heap.size l w/\w1.heap.size<=l.heap.size):=⟨I,z,h.sty.size⟩
 have P:=hid A;have HW:=hid R;have dW:(w.alloc (.cells #[.slice q m G] 23)).cell? ⟨rb,4,none⟩=some (.slice p n c):=((new_low w _).cell (p:=⟨rb,4,none⟩) (by have:=z.size;show rb<_;omega)).trans d4;rw[<-U]
 have Y:n<=100000:=by have:=E.len;omega
 clear I h E z A R r M O U hl
 go_enter Tryz.func103,Tryz.ntmps103
 go_wp2_with (at_builtin;refine app_name _ w rfl _ _ rfl w1.heap.size p n c s.ns rfl S.o.1 S.o.2.1 S.o.2.2 q m G x P.o rfl (by omega) ?_;intro g i f t v;rw[<-HW.o] at v;obtain⟨⟨k1,k2,k3⟩,X,V⟩:=B.o g i f t v;have K4:Hid _:=X;have K5:Hid _:=V;clear X V t v);go_ret;exact⟨rfl,K4.o,K5.o⟩
def RStt (w1:World)(rb vb kb kc:Nat)(ov sv:Value)(all:List Tok)(w:World)(x:(Tr×Int)×RS)(e:Ending)(w':World):Prop:=∃ v,e = .returned (.tuple #[v,.int .i64 x.1.2])/\FoB w' w.heap.size x.1.1.fo [v]/\RJ w1 rb vb kb kc ov sv all x.2 w'/\RFr rb vb w w'
theorem foR_num (w:World)(B:Nat)(n:Int):FoB w B (numT n).fo [.iface 149 (.int .i64 n)]:=⟨_,_,rfl,.inr (.inl ⟨rfl,rfl⟩),rfl⟩
theorem foR_var (w:World)(B:Nat)(n:Int):FoB w B (vT n).fo [.iface 150 (.int .i64 n)]:=⟨_,_,rfl,.inl ⟨rfl,rfl⟩,rfl⟩
theorem foR_atom (w:World)(B:Nat)(s:List Int):FoB w B (atmT s).fo [.iface 154 (.string (strOfNums s))]:=⟨_,_,rfl,.inr (.inr (.inl ⟨rfl,rfl⟩)),rfl⟩
theorem foR_nil (w:World)(B:Nat):FoB w B nilT.fo [.iface 154 (.string ⟨#[91,93]⟩)]:=foR_atom w B [91,93]
theorem numberR_any (E:REnv w1 rb vb kb kc ov sv T L all)(h:RI w1 rb vb kb kc ov sv all k s w)(a:Int):Calls Tryz.prog 62 #[ptrR rb,.int .i64 a] w (RStt w1 rb vb kb kc ov sv all w ((numT s.nv,0),s.tk)):=by
 have b:=take_any E h;have f:=hid (hd_nv L s);have i:=fieldT4;clear h E;rw[<-f.o]
 generalize s.hd L=t at *
 obtain⟨⟨q,n,u,r⟩,v⟩:=t;simp only[tokVR] at b ⊢;clear f
 go_enter Tryz.func62,Tryz.ntmps62
 go_wp2_with fail;refine b.mono ?_;rintro e W ⟨p,c,j,rfl,_,d,g⟩;have m:Hid _:=d;have l:=hid g;clear b d g;go_wp2_with fail
 go_ret2
 exact⟨_,rfl,foR_num _ _ _,⟨j,m.o⟩,l.o⟩
end
section
variable {w1:World}{rb vb kb kc:Nat}{ov sv:Value}{T:List Cel}{L:Int}{all:List Tok}{k:Nat}{s:RS}{w:World}
theorem grown_refl (w:World)(r:Option Nat):w.grownBy w r:=⟨rfl,rfl,rfl,Nat.le_refl _,fun _ _ _=>rfl⟩
theorem tk_tok (E:REnv w1 rb vb kb kc ov sv T L all)(h:RI w1 rb vb kb kc ov sv all k s w)(d:s.ts≠[]):TokG (s.hd L):=by
 have c:s.hd L ∈ s.ts:=by unfold RS.hd;cases e:s.ts with | nil=>exact absurd e d | cons a b=>simp
 rw[h.ts.2] at c;exact E.tg _ (List.mem_of_mem_drop c)
theorem variable_any (E:REnv w1 rb vb kb kc ov sv T L all)(h:RI w1 rb vb kb kc ov sv all k s w)(h2:s.kd=2)(h8:Int):Calls Tryz.prog 63 #[ptrR rb,.int .i64 h8] w (RStt w1 rb vb kb kc ov sv all w (s.tk.var s.tx)):=by
 have z:=take_any E h;have Y:s.ts≠[]:=kd_ne h2 (by decide);have C:=tk_tok E h Y;have e2:=h.nb.2;have e4:=tk_len s;have e6:=ne_len Y;have U:(s.hd L).2=s.tx:=hd_tx L s
 have j:Byte s.tx:=by rw[<-U];exact C.tx.1
 have e9:s.tx.length<=100:=by rw[<-U];exact C.tx.2
 have F:s.tx≠[]:=by rw[<-U];exact C.vr (by rw[hd_kd];exact h2)
 have HN:Hid (∀ V W y q m cq S,RI w1 rb vb kb kc ov sv all y s.tk V->Below V.heap.size V W->OwnT W V.heap.size q m cq S->Byte S->Calls Tryz.prog 103 #[ptrR rb,.slice q m cq] W fun e O=>e = .returned (.int .i64 s.ns.length)/\(VrM O vb s.ns/\O.cell? ⟨rb,3,none⟩=some (.map (some vb)))/\∀ A,O.grownBy A (some vb)->VrM A vb (s.ns ++ [S])->RI w1 rb vb kb kc ov sv all y ⟨s.tk.ts,s.ns ++ [S],s.ft⟩ A/\RFr rb vb V A):=fun V W y q m cq S b hB hO hb=>
  newVariable_any E b hB q m cq S hO (by show s.ns.length+s.tk.ts.length+1<=_;omega) hb
 have e8:=fieldT3
 have k1:s.ns.length<=10000:=by have:=E.len;omega
 have HE:=hid E;have HI:=hid h
 obtain⟨⟨⟨tk,ta,tl,tn⟩,tx⟩,et⟩:∃ t,s.hd L=t:=⟨_,rfl⟩
 rw[et] at z U;simp only at U;subst U;simp only[tokVR] at z
 obtain⟨l,el⟩:∃ l,l=s.tx.length:=⟨_,rfl⟩
 rw[<-el] at z;have HL:=hid el
 obtain⟨str,es⟩:∃ str,str=strOfNums s.tx:=⟨_,rfl⟩
 have g:(str.toList == [95])=decide (s.tx = [95]):=by rw[es,str_is j [95] [95] rfl,Bool.eq_iff_iff,beq_iff_eq,decide_eq_true_iff]
 have M:Hid (∀ W p c,BIn W p s.tx->(convert 23 9 (.slice p l c)).run Tryz.prog W = .ok (.string str) W):=fun W p c hb=>by rw[es];exact conv_str hb l c HL.o 9 Tryz.underlying9
 have HS:=hid es;clear h E et C e2 e4 e6 el es
 by_cases J:s.tx = [95]
 ·have K:(str.toList == [95])=true:=by rw[g];simpa using J
  have HV:Hid (s.tk.var s.tx=((vT s.ns.length,0),⟨s.tk.ts,s.ns ++ [[]],s.ft⟩)):=by show _=_;unfold RS.var RS.new;rw[if_pos J];rfl
  rw[HV.o];clear g J
  go_enter Tryz.func63,Tryz.ntmps63
  go_wp2_with fail;refine z.mono ?_;rintro e W ⟨p,c,y,rfl,a,b,H⟩;have h1:=M.o W p c (a W b.sty);have HC:=HN.o W W y none 0 0 [] b (Below.refl _ _) ⟨rfl,fun h=>absurd h (by decide)⟩ (fun x hx=>by cases hx);have HF:=hid H;clear z a b H HN;go_wp2_with fail;refine HC.mono ?_;rintro e W2 ⟨rfl,⟨R,_⟩,d⟩;obtain⟨h3,Z⟩:=d W2 (grown_refl _ _) R.anon;have HR:Hid _:=h3;have HG:=hid (HF.o.trans Z);clear HC R d h3 Z;go_wp2_with fail
  go_ret2
  exact⟨_,rfl,foR_var _ _ _,⟨y,HR.o⟩,HG.o⟩
 ·have K:(str.toList == [95])=false:=by rw[g];simpa using J
  have r:keyOf Tryz.prog 9 (.string str)=some (.string (strOfNums s.tx).data.toList):=by
   rw[<-HS.o];refine Go.WideMaps.keyOf_string_mk Tryz.underlying9 ?_;rw[HS.o,strOfNums_size];unfold maxLen;omega
  by_cases i:s.tx ∈ s.ns
  ·have HV:Hid (s.tk.var s.tx=((vT (s.ns.idxOf s.tx),0),s.tk)):=by show _=_;unfold RS.var;rw[if_neg J,if_pos (show s.tx ∈ s.tk.ns from i)];rfl
   rw[HV.o];clear g J
   go_enter Tryz.func63,Tryz.ntmps63
   go_wp2_with fail;refine z.mono ?_;rintro e W ⟨p,c,y,rfl,a,b,H⟩;have h1:=M.o W p c (a W b.sty);obtain⟨N,D,v,hN,f,B⟩:VrM W vb s.ns:=b.vm;have h4:=b.c3
   have hh:Maps.has D (.string (strOfNums s.tx).data.toList)=true:=by rw[f s.tx j F];simpa using i
   have R:=B s.tx i F;have HR:Hid _:=b;have HF:=hid H;clear z a b H HN f B;go_wp2_with (at_lookup;refine wpList_lookup_own_ok_int _ rfl _ _ 76 rfl 9 150 .i64 lawNm Tryz.underlying76 Tryz.underlying150 (zeroVar _) vb N D rfl v _ _ rfl r ?_;intro c hc h9;rw[hh];obtain rfl:c=s.ns.idxOf s.tx:=by(have e3:=hc.symm.trans R;simpa using e3))
   go_ret2
   exact⟨_,rfl,foR_var _ _ _,⟨y,HR.o⟩,HF.o⟩
  ·have HV:Hid (s.tk.var s.tx=((vT s.ns.length,0),⟨s.tk.ts,s.ns ++ [s.tx],s.ft⟩)):=by show _=_;unfold RS.var RS.new;rw[if_neg J,if_neg (show s.tx ∉ s.tk.ns from i)];rfl
   rw[HV.o];clear g J
   go_enter Tryz.func63,Tryz.ntmps63
   go_wp2_with fail;refine z.mono ?_;rintro e W ⟨p,c,y,rfl,a,b,H⟩;have h1:=M.o W p c (a W b.sty);obtain⟨N,D,v,hN,f,B⟩:VrM W vb s.ns:=b.vm;have h4:=b.c3
   have hh:Maps.has D (.string (strOfNums s.tx).data.toList)=false:=by rw[f s.tx j F];simpa using i
   obtain⟨W3,e7,h7,X,P⟩:=conv_bytes W s.tx j 9 Tryz.underlying9;rw[<-HS.o,<-HL.o] at h7;rw[<-HL.o] at P;have HC:=HN.o W W3 y _ _ _ s.tx b X P j;have HR:Hid _:=b;have HF:=hid H;clear z a b H HN f B X P;go_wp2_with (at_lookup;refine wpList_lookup_own_ok_int _ rfl _ _ 76 rfl 9 150 .i64 lawNm Tryz.underlying76 Tryz.underlying150 (zeroVar _) vb N D rfl v _ _ rfl r ?_;intro c hc h9;rw[hh]);refine HC.mono ?_;rintro e W4 ⟨rfl,⟨R,k2⟩,d⟩;obtain⟨N4,D4,u,h6,n,I⟩:=R
   have HP:Hid (∀ O,O.ownsMap Tryz.prog 9 (plainElem Tryz.prog 150) vb (N4+1) (D4.put (.string (strOfNums s.tx).data.toList) (.lit (.int .i64 s.ns.length)))->VrM O vb (s.ns ++ [s.tx])):=fun O hm=>VrM.put u h6 n I HI.o.nb.1 j F i hm
   have h5:Hid _:=d;clear HC n I d;go_wp2_with (at_mapUpdate;refine wpList_mapUpdate_own _ rfl _ _ _ 76 rfl 9 150 lawNm Tryz.underlying76 _ vb N4 D4 rfl u (by unfold maxLen;omega) _ _ _ rfl rfl r _ [] (plainElem_int Tryz.underlying150 (WalkArith.wf_i64 (by omega))) ?_;intro W5 Q G);obtain⟨e5,e1⟩:=h5.o W5 G (HP.o W5 Q)
   go_ret2
   exact⟨_,rfl,foR_var _ _ _,⟨y,e5⟩,HF.o.trans e1⟩
end
end Go.Proofs.YtlkhmmoimplokaaGreatDoor
