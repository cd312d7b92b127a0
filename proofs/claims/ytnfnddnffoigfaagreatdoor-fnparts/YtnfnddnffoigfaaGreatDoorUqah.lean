/- Texts of EvN, EvN2, EvQ, EvV2, EvE, EvF, FeB, FeC, FeD, FeE, FeF, FeG, FeH, FeI. Own work of the verifier. -/
import Derived.Test.YtnfnddnffoigfaaGreatDoorUqaf
import Derived.RangeFuncLeaves
import Derived.LoopIn
namespace Go.Proofs.YtnfnddnffoigfaaGreatDoor
set_option maxHeartbeats 4000000
set_option linter.unusedVariables false
set_option linter.unusedSimpArgs false
set_option maxRecDepth 100000
section
open Go Go.RowKit Go.Maps Go.Shelf
section
variable {P:Program}{ops:Array Oper}{Q:Exit->Act->World->Prop}{md:Region.Mode}
end
end
section
open Go Go.RowKit Go.Shelf
end
section
open Go Go.RowKit
end
section
open Go Go.RowKit Go.Shelf
attribute [local go_sem] Oper.semAt_some
end
section
open Go Go.RowKit
theorem num_ok {n:Int}(h:InB n){r:Fo}(a:r.ok):(Fo.node (1,n,[]) .nil r).ok:=⟨by unfold InB at h;simp[cellB];omega,fun x b=>(by cases b),fun e=>by simp at e,fun _=>rfl,trivial,a⟩
abbrev erV (a:Addr):Value:=.iface 459 (.pointer (some a))
abbrev etG (w:World):Prop:=w.cell? ⟨3,0,none⟩=some (.iface 260 (.agg #[.pointer (some ⟨11,113,none⟩)]))
theorem etG.below {w w':World}(h:etG w)(a:Below w.heap.size w w'):etG w':=(a.cell (World.block_lt_of_cell? _ _ h)).trans h
abbrev noEf:Value:=.agg #[.slice none 0 0,.nilIface,.slice none 0 0]
abbrev wr3 (w:World)(T:Nat)(a b c:Value):World:=((w.setCell ⟨T,0,none⟩ a).setCell ⟨T,1,none⟩ b).setCell ⟨T,2,none⟩ c
theorem wr3_ne {w:World}{T:Nat}{x y z:Value}{a:Addr}(h:a.block≠T):(wr3 w T x y z).cell? a=w.cell? a:=by
 have q:∀ (W:World) (i:Nat) (v:Value),(W.setCell ⟨T,i,none⟩ v).cell? a=W.cell? a:=fun W i v=>World.cell?_setCell_far W ⟨T,i,none⟩ a v (Ne.symm h)
 exact(q _ _ _).trans ((q _ _ _).trans (q _ _ _))
theorem wr3_below {B T:Nat}{b w:World}{x y z:Value}(a:Below B b w)(h:B<=T):Below B b (wr3 w T x y z):=by
 refine⟨a.os,a.tape,a.output,by simpa [wr3] using a.size,fun k c=>?_⟩
 have q:∀ (W:World) (i:Nat) (v:Value),(W.setCell ⟨T,i,none⟩ v).heap[k]?=W.heap[k]?:=fun W i v=>heap_setCell_other W ⟨T,i,none⟩ k v (fun e=>by simp at e;omega)
 exact(q _ _ _).trans ((q _ _ _).trans ((q _ _ _).trans (a.block k c)))
theorem wr3_box {w:World}{T:Nat}{u0 u1 u2:Value}(h:Box3 w T u0 u1 u2)(a b c:Value):Box3 (wr3 w T a b c) T a b c:=by
 obtain⟨d,e,f,g⟩:=h;refine⟨?_,?_,?_,fun j=>by simpa [wr3] using g j⟩
 ·rw[World.cell?_setCell_other _ _ _ _ (by simp),World.cell?_setCell_other _ _ _ _ (by simp),World.cell?_setCell_same' _ _ _ (by rw[d];rfl)]
 ·rw[World.cell?_setCell_other _ _ _ _ (by simp),World.cell?_setCell_same' _ _ _ (by rw[World.cell?_setCell_other _ _ _ _ (by simp),e];rfl)]
 ·rw[World.cell?_setCell_same' _ _ _ (by rw[World.cell?_setCell_other _ _ _ _ (by simp),World.cell?_setCell_other _ _ _ _ (by simp),f];rfl)]
def PairE (w:World)(v0 v1:Value)(e:Ending)(w':World):Prop:=∃ g,e = .returned (.tuple #[.agg #[.slice (some ⟨g,0,none⟩) 1 1,.nilIface,.slice none 0 0],.nilIface])/\w.heap.size<=g/\w'.cell? ⟨g,0,none⟩=some v0/\w'.cell? ⟨g,1,none⟩=some v1/\Below w.heap.size w w'
theorem unifying_ok (f tb:TypeId)(a b:Value)(w:World):Calls Tryz.prog 112 #[.iface f a,.iface tb b,.nilIface] w (PairE w (.iface f a) (.iface tb b)):=by
 go_enter Tryz.func112,Tryz.ntmps112
 go_wp2_with fail
 obtain⟨c,e⟩:∃ c,c=w.alloc (Obj.cells #[Value.slice (some ⟨w.heap.size+1,0,none⟩) 1 1,Value.nilIface,Value.slice none 0 0] 70):=⟨_,rfl⟩
 have l:c.heap.size=w.heap.size+1:=by rw[e];simp
 have d:Below w.heap.size w c:=by rw[e];exact(Below.refl _ _).alloc (Nat.le_refl _) _
 have g:=heap_alloc_new c (Obj.cells #[Value.iface f a,Value.iface tb b] 89);rw[l] at g;rw[<-e]
 have q:∀ k v,(#[Value.slice (some ⟨w.heap.size+1,0,none⟩) 1 1,Value.nilIface,Value.slice none 0 0]:Array Value)[k]?=some v->(c.alloc (Obj.cells #[Value.iface f a,Value.iface tb b] 89)).cell? ⟨w.heap.size,k,none⟩=some v:=fun k v m=>by
  rw[World.cell?_alloc_lt _ _ ⟨w.heap.size,k,none⟩ (by show w.heap.size<_;omega),e,World.cell?,heap_alloc_new]
  simpa using m
 have h:=q 0 _ rfl;have i:=q 1 _ rfl;have j:=q 2 _ rfl;refine bodyPost_ret (v:=.tuple #[.agg #[.slice (some ⟨w.heap.size+1,0,none⟩) 1 1,.nilIface,.slice none 0 0],.nilIface]) (by simp[results,Tryz.results112,go_sem,h,i,j]) rfl ⟨w.heap.size+1,rfl,Nat.le_succ _,?_,?_,?_⟩
 ·exact cell_of_row _ _ 0 _ _ _ g
 ·exact cell_of_row _ _ 1 _ _ _ g
 ·exact d.alloc d.size _
structure Two (w:World)(g:Nat)(v0 v1:Value):Prop where
 at0:w.cell? ⟨g,0,none⟩=some v0
 at1:w.cell? ⟨g,1,none⟩=some v1
theorem Two.below {w w':World}{g:Nat}{b c:Value}(h:Two w g b c)(a:Below w.heap.size w w'):Two w' g b c:=
 ⟨(a.cell (World.block_lt_of_cell? _ _ h.at0)).trans h.at0,(a.cell (World.block_lt_of_cell? _ _ h.at1)).trans h.at1⟩
abbrev calV (op:Option Addr)(on oc:Nat)(g cap:Nat)(fr:Int):Value:=.agg #[.slice op on oc,.slice (some ⟨g,0,none⟩) 2 cap,.int .i64 fr]
theorem great1_no (k n:Int)(c:Option Addr)(a b:Nat)(w:World)(h:a<=100) :
  Calls Tryz.prog 206 #[.agg #[.int .i64 k,.int .i64 n,.slice c a b]] w fun e f=>e = .returned (.bool false)/\Below w.heap.size w f:=by
 have d:Hid (Below w.heap.size w (w.alloc (.cells #[.int .i64 k,.int .i64 n,.slice c a b] 27))):=(Below.refl _ _).alloc (Nat.le_refl _) _;have g:decide ((100:Int)<(a:Int))=false:=decide_eq_false (by omega)
 go_enter Tryz.func206,Tryz.ntmps206
 go_wp2_with fail;go_ret;exact⟨rfl,d.o⟩
theorem indexC_no (p:Option Addr)(n r:Nat)(a:List Cel)(w:World)(x:n=a.length)(N:n<=2000)(A:∀ i,i<a.length->(a.getD i Cel.none).2.2.length<=100)(z:CIn w p a) :
  Calls Tryz.prog 269 #[.slice p n r,.func (.func 206) #[] #[]] w fun e K=>e = .returned (.int .i64 (-1))/\Below w.heap.size w K:=by
 have F:=hid z;have G:=hid A;have E:=hid x;clear z A x
 go_enter Tryz.func269,Tryz.ntmps269
 go_wp2_with fail
 go_loopw [8] (fun i wr=>∃ (j:Nat),j<=n/\i = .int .i64 j/\Hid (Below w.heap.size w wr)) (fun i _=>n-(intOf i).toNat)
 case atStart=>exact⟨0,Nat.zero_le _,rfl,Below.refl _ _⟩
 case round=>
  obtain⟨j,M,rfl,k⟩:=hrel
  by_cases I:j<n
  ·have d:j<a.length:=by have:=E.o;omega
   obtain⟨b,o,rfl,c⟩:=F.o.below k.o (by omega);obtain⟨q,D,f,g,h,L⟩:=c j d;have t:=G.o j d
   obtain⟨⟨B,C,J⟩,v⟩:∃ H,H=a.getD j Cel.none:=⟨_,rfl⟩
   rw[<-v] at f g h t
   obtain⟨l,s⟩:∃ l,l=J.length:=⟨_,rfl⟩
   have u:=great1_no B C q l D wr (by rw[s];exact t)
   replace h:wr.cell? ⟨b,o+j * 3+2,none⟩=some (.slice q l D):=by rw[s];exact h
   replace f:wr.cell? ⟨b,o+j * 3,none⟩=some (.int .i64 B):=f
   replace g:wr.cell? ⟨b,o+j * 3+1,none⟩=some (.int .i64 C):=g
   clear L c t v s;go_wp2_with fail;refine u.mono ?_;rintro e O ⟨rfl,y⟩;have m:=hid (Below.on k.o y);clear y u f g h;go_wp2_with fail;go_roundw
   case rel=>exact⟨j+1,by omega,by go_num,m⟩
   case measure=>simp[intOf];omega
  ·obtain rfl:j=n:=by omega
   go_wp2_with fail;go_ret;exact⟨rfl,k.o⟩
theorem containsC_no (p:Option Addr)(n a:Nat)(b:List Cel)(w:World)(d:n=b.length)(k:n<=2000)(h:∀ i,i<b.length->(b.getD i Cel.none).2.2.length<=100)(g:CIn w p b) :
  Calls Tryz.prog 205 #[.slice p n a,.func (.func 206) #[] #[]] w fun e l=>e = .returned (.bool false)/\Below w.heap.size w l:=by
 have c:=indexC_no p n a b w d k h g;clear d h g
 go_enter Tryz.func205,Tryz.ntmps205
 go_wp2_with fail;refine c.mono ?_;rintro e m ⟨rfl,f⟩;have j:=hid f;clear f c;go_wp2_with fail;go_ret;exact⟨rfl,j.o⟩
theorem great_no (p:Option Addr)(n a:Nat)(b:List Cel)(w:World)(d:n=b.length)(k:n<=2000)(h:∀ i,i<b.length->(b.getD i Cel.none).2.2.length<=100)(g:CIn w p b) :
  Calls Tryz.prog 163 #[.slice p n a] w fun e l=>e = .returned (.bool false)/\Below w.heap.size w l:=by
 have c:=containsC_no p n a b w d k h g;have m:decide ((2000:Int)<(n:Int))=false:=decide_eq_false (by omega);clear d h g
 go_enter Tryz.func163,Tryz.ntmps163
 go_wp2_with fail;refine c.mono ?_;rintro e q ⟨rfl,f⟩;have j:=hid f;clear f c;go_wp2_with fail;go_ret;exact⟨rfl,j.o⟩
theorem beyond1_no (c:Cel)(k:Fo)(v:Value)(j:Nat)(w:World)(f:(Fo.node c k .nil).ok)(a:FoIn w j (.node c k .nil) [v])(r:k.cells.length+1<=2000)(s:∀ x ∈ c :: k.cells,x.2.2.length<=100) :
  Calls Tryz.prog 162 #[v] w fun e A=>e = .returned (.bool false)/\Below w.heap.size w A:=by
 have b:=cellsOf_any c k v j w f a (by omega)
 have y:Hid (∀ i,i<(c :: k.cells).length->((c :: k.cells).getD i Cel.none).2.2.length<=100):=fun i p=>by
  rw[List.getD,List.getElem?_eq_getElem p];exact s _ (List.getElem_mem p)
 have u:Hid ((c :: k.cells).length<=2000):=by show _<=_;simpa using r
 obtain⟨C,D,rfl⟩:=a.iface;clear f a r s
 go_enter Tryz.func162,Tryz.ntmps162
 go_wp2_with fail;refine b.mono ?_;rintro e B ⟨q,m,z,rfl,g,n⟩;have t:=hid n;have l:=great_no q m z (c :: k.cells) B g.1 (by rw[g.1];exact u.o) y.o g.cin;clear g n b;go_wp2_with fail;refine l.mono ?_;rintro e E ⟨rfl,d⟩;have h:=hid (Below.on t.o d);clear d l;go_wp2_with fail;go_ret;exact⟨rfl,h.o⟩
def SmallT (w:World)(p:Option Addr)(n:Nat):Prop:=∀ i,i<n->∃ g t x,p=some ⟨g,0,none⟩/\w.cell? ⟨g,i,none⟩=some (.iface t x)/\∀ W,Below w.heap.size w W->Calls Tryz.prog 162 #[.iface t x] W fun e w'=>e = .returned (.bool false)/\Below W.heap.size W w'
theorem indexT_no (p:Option Addr)(n c:Nat)(w:World)(v:n<=8)(q:SmallT w p n) :
  Calls Tryz.prog 191 #[.slice p n c,.func (.func 162) #[] #[]] w fun e s=>e = .returned (.int .i64 (-1))/\Below w.heap.size w s:=by
 have r:=hid q;clear q
 go_enter Tryz.func191,Tryz.ntmps191
 go_wp2_with fail
 go_loopw [8] (fun i wr=>∃ (j:Nat),j<=n/\i = .int .i64 j/\Hid (Below w.heap.size w wr)) (fun i _=>n-(intOf i).toNat)
 case atStart=>exact⟨0,Nat.zero_le _,rfl,Below.refl _ _⟩
 case round=>
  obtain⟨j,u,rfl,a⟩:=hrel
  by_cases h:j<n
  ·obtain⟨g,t,x,rfl,d,l⟩:=r.o j h
   have k:=l wr a.o;have f:=(a.o.cell (World.block_lt_of_cell? _ _ d)).trans d;clear l d;go_wp2_with fail;refine k.mono ?_;rintro e y ⟨rfl,m⟩;have b:=hid (Below.on a.o m);clear m k f;go_wp2_with fail;go_roundw
   case rel=>exact⟨j+1,by omega,by go_num,b⟩
   case measure=>simp[intOf];omega
  ·obtain rfl:j=n:=by omega
   go_wp2_with fail;go_ret;exact⟨rfl,a.o⟩
theorem containsT_no (p:Option Addr)(n a:Nat)(w:World)(g:n<=8)(d:SmallT w p n) :
  Calls Tryz.prog 138 #[.slice p n a,.func (.func 162) #[] #[]] w fun e h=>e = .returned (.bool false)/\Below w.heap.size w h:=by
 have b:=indexT_no p n a w g d;clear d
 go_enter Tryz.func138,Tryz.ntmps138
 go_wp2_with fail;refine b.mono ?_;rintro e i ⟨rfl,c⟩;have f:=hid c;clear c b;go_wp2_with fail;go_ret;exact⟨rfl,f.o⟩
theorem beyond_no (g d f:Value)(w:World)(m:∀ W,Below w.heap.size w W->Calls Tryz.prog 161 #[.agg #[g,d,f]] W fun e h=>∃ p n a,e = .returned (.slice p n a)/\n<=8/\SmallT h p n/\Below W.heap.size W h)(v:g.oneCell'=true)(x:d.oneCell'=true)(y:f.oneCell'=true) :
  Calls Tryz.prog 93 #[.agg #[g,d,f]] w fun e h=>e = .returned (.bool false)/\Below w.heap.size w h:=by
 have k:Below w.heap.size w (w.alloc (.cells #[g,d,f] 70)):=(Below.refl _ _).alloc (Nat.le_refl _) _;have q:=m _ k;have s:=hid k;clear k m
 go_enter Tryz.func93,Tryz.ntmps93
 go_wp2_with fail;refine q.mono ?_;rintro e u ⟨p,n,a,rfl,t,r,b⟩;have i:=hid (Below.on s.o b);have l:=containsT_no p n a u t r;clear r b q;go_wp2_with fail;refine l.mono ?_;rintro e z ⟨rfl,c⟩;have j:=hid (Below.on i.o c);clear c l;go_wp2_with fail;go_ret;exact⟨rfl,j.o⟩
theorem app_tmN (w:World){ops:Array Oper}{d:List Oper}{o:Oper}{a:Act}{Q:Exit->Act->World->Prop}(p:o.guard=none)(s x:Operand)
  (J:o.op = .call { callee:=.builtin .append,args:=#[s,x],argTypes:=#[52,52] }) (l:List Value) (b m A:Nat)
  (K:a.eval s = .slice none 0 0) (M:a.eval x = .slice (some ⟨b,0,none⟩) m A) (S:m=l.length) (N:∀ u ∈ l,∃ t v,u = .iface t v) (F:∀ j,j<m->w.cell? ⟨b,j,none⟩=some (l.getD j .nilIface)) (D:0<m) (B:m<=1000)
  (h:∀ g C e n,Hid (C=m/\∀ j,j<m->n.cell? ⟨g,j,none⟩=some (l.getD j .nilIface))->Below w.heap.size w n->wpList Tryz.prog ops Q d (a.put o.dst (.slice (some ⟨g,0,none⟩) C e)) n):wpList Tryz.prog ops Q (o :: d) a w:=by
 obtain⟨O,G,r,y,z⟩:=info_parts infoTerm
 have c:w.ownsRow w.heap.size 48 1 (.slice none 0 0) 0 []:=⟨rfl,.inl ⟨rfl,rfl⟩⟩
 refine wpList_append_lies _ p s x 52 J w.heap.size 48 O .nilIface 1 16 Tryz.underlying52 G r y z rfl (by decide) (.slice none 0 0) 0 [] K c ⟨b,0,none⟩ m A l M (by omega) (fun j u q=>?_) (fun u L=>?_) D (by unfold maxLen;omega) (by omega) (Nat.le_refl _) _ rfl ?_
 ·have R:=(List.getElem?_eq_some_iff.1 q).1
  rw[show(⟨b,0,none⟩:Addr).add j=⟨b,j,none⟩ from by simp[Addr.add];omega,F j (by omega)];rw[List.getD,q]
  rfl
 ·obtain⟨t,v,rfl⟩:=N u L
  rfl
 ·intro g e n i f E I
  refine h g _ e n ⟨by simp,fun j q=>?_⟩ ((Below.refl _ _).grown f (Nat.le_refl _) (fun k H=>(c.lt k H).1));rw[i.cellAt j (by omega)]
  simp[List.getD,List.getElem?_eq_getElem (show j<l.length by omega)]
theorem terms_pair (s:Nat)(d tb:TypeId)(a b:Value)(w:World)(A:w.cell? ⟨s,0,none⟩=some (.iface d a))(B:w.cell? ⟨s,1,none⟩=some (.iface tb b)):Calls Tryz.prog 161 #[.agg #[.slice (some ⟨s,0,none⟩) 1 1,.nilIface,.slice none 0 0]] w fun e l=>∃ g f,e = .returned (.slice (some ⟨g,0,none⟩) 2 f)/\l.cell? ⟨g,0,none⟩=some (.iface d a)/\l.cell? ⟨g,1,none⟩=some (.iface tb b)/\Below w.heap.size w l:=by
 have c:Below w.heap.size w (w.alloc (.cells #[.slice (some ⟨s,0,none⟩) 1 1,.nilIface,.slice none 0 0] 70)):=(Below.refl _ _).alloc (Nat.le_refl _) _;have J:=(c.cell (World.block_lt_of_cell? _ _ A)).trans A;have K:=(c.cell (World.block_lt_of_cell? _ _ B)).trans B
 obtain⟨n,q⟩:∃ n,n=w.alloc (.cells #[.slice (some ⟨s,0,none⟩) 1 1,.nilIface,.slice none 0 0] 70):=⟨_,rfl⟩
 obtain⟨m,r⟩:∃ m,m=n.alloc (.cells #[.iface d a,.iface tb b] 89):=⟨_,rfl⟩
 have x:n.heap.size=w.heap.size+1:=by rw[q];simp
 have i:Below n.heap.size n m:=by rw[r];exact(Below.refl _ _).alloc (Nat.le_refl _) _
 have C:m.heap[w.heap.size+1]?=some (.cells #[.iface d a,.iface tb b] 89):=by rw[r,<-x];exact heap_alloc_new _ _
 have H:Hid (∀ j,j<2->m.cell? ⟨w.heap.size+1,j,none⟩=some ([Value.iface d a,Value.iface tb b].getD j .nilIface)):=fun j M=>by
  rcases(by omega:j=0∨j=1) with rfl | rfl
  ·exact cell_of_row _ _ 0 _ _ _ C
  ·exact cell_of_row _ _ 1 _ _ _ C
 have F:m.cell? ⟨w.heap.size,1,none⟩=some .nilIface:=by
  rw[i.cell (p:=⟨w.heap.size,1,none⟩) (by show w.heap.size<_;omega),q,World.cell?,heap_alloc_new];rfl
 have D:=hid F;rw[<-q] at c;have z:=hid (Below.on c i)
 have I:Hid (∀ u ∈ [Value.iface d a,Value.iface tb b],∃ t v,u = .iface t v):=fun u G=>by
  simp at G
  rcases G with rfl | rfl
  ·exact⟨_,_,rfl⟩
  ·exact⟨_,_,rfl⟩
 rw[q] at r;clear A B c i q x C F
 go_enter Tryz.func161,Tryz.ntmps161
 go_wp2_with fail;refine wp_loop_rounds 2 ?_;rw[rounds_succ];go_wp2_with (at_builtin;rw[<-r];clear r J K;refine app_tmN m rfl _ _ rfl [.iface d a,.iface tb b] (w.heap.size+1) 2 2 rfl rfl rfl I.o H.o (by decide) (by decide) ?_;intro g N f l E h);obtain⟨rfl,k⟩:=E.o
 have y:Hid (l.cell? ⟨g,0,none⟩=some (.iface d a)/\l.cell? ⟨g,1,none⟩=some (.iface tb b)/\Below w.heap.size w l):=⟨k 0 (by decide),k 1 (by decide),Below.on z.o h⟩
 have L:=(h.cell (World.block_lt_of_cell? _ _ D.o)).trans D.o;clear E k h;go_wp2_with fail;rw[rounds_succ];go_wp2_with fail;go_ret;exact⟨g,f,rfl,y.o⟩
end
section
open Go Go.RowKit
theorem BuIn.getE {w:World}{b N:Nat}{T:Fun->Option Nat}(h:BuIn w b N T)(f:Fun)(g:okN f){K:Nat}(i:T f=some K) :
  (Instr.lookup 58 (.map (some b)) (.agg #[.string f.1,.int .i64 f.2]) false).run Tryz.prog w = .ok (.func (.func K) #[] #[]) w:=by
 obtain⟨D,a,j⟩:=h;obtain⟨v,k,c,d⟩:=a.lookup lawFun Tryz.underlying58 (zeroBu w) (zd:=.held .nilFunc) (zp:=[]) rfl (keyFunN f g);have e:=j f g;simp only[heldN,Option.some.injEq,Prod.mk.injEq] at d;have d:=d.1;rw[i] at e;rw[e.2] at d;rw[c]
 cases d
 rfl
theorem hStepS {P:Program}{ops:Array Oper}{Q:Exit->Act->World->Prop}{md:Region.Mode}{S:World->Prop}{i:Nat}{fuel:Nat}{b:Array Bool}{a:Act}{w w':World}(d:Option Tmp)(k:(ops[i]?).map (·.dst)=some d)
  (n:Region.ready md ops b = [i]) (p:(ops[i]?).map (fun o=>Region.wanted o (yielded ops a.tmps))=some true)
  (e:∀ o,ops[i]?=some o->(execOp a.eval o).run P w = .ok .skip w') (l:S w') (h:wpAnyH P md ops Q S fuel (b.setIfInBounds i true) (a.put d undef) w'):wpAnyH P md ops Q S (fuel+1) b a w:=by
 refine wpAnyH_all n (by simp) ?_
 intro j m
 obtain rfl:j=i:=by simpa using m
 cases c:ops[j]? with
 | none=>simp[c] at k
 | some o=>
   have f:o.dst=d:=by simpa [c] using k
   have g:Region.wanted o (yielded ops a.tmps)=true:=by simpa [c] using p
   subst f
   unfold wpOp
   simp only[c,g,if_true,Oper.wp,e o c,Oper.upon];exact .inl ⟨l,h⟩
theorem run_fails (K b N:Nat)(B:ByteArray)(A:Int)(T:Fun->Option Nat)(r s t:Value)(a:Addr)(w:World)(hb:BuIn w b N T)(hk:okN (B,A))(G:T (B,A)=some K)(h0:r.oneCell'=true)(h1:s.oneCell'=true)(h2:t.oneCell'=true)
  (hg:w.cell? ⟨0,0,none⟩=some (erV a)) (hE:∀ W:World,(callFunc K #[.agg #[r,s,t]]).run Tryz.prog W = .ok (.enter K #[.agg #[r,s,t]]) W)
  (HF:∀ W,Below w.heap.size w W->Calls Tryz.prog K #[.agg #[r,s,t]] W fun e E=>e = .returned (.tuple #[noEf,erV a])/\Below W.heap.size W E) :
  Calls Tryz.prog 27 #[.map (some b),.agg #[.string B,.int .i64 A],.agg #[r,s,t]] w fun e E=>e = .returned (.tuple #[noEf,.int .i64 4])/\Below w.heap.size w E:=by
 have HL:Hid (∀ W,Below w.heap.size w W->(Instr.lookup 58 (.map (some b)) (.agg #[.string B,.int .i64 A]) false).run Tryz.prog W = .ok (.func (.func K) #[] #[]) W):=fun W q=>(hb.below q).getE (B,A) hk G
 obtain⟨O,e1⟩:∃ O,O=w.alloc (.cells #[.string B,.int .i64 A] 61):=⟨_,rfl⟩
 obtain⟨R,V⟩:∃ R,R=O.alloc (.cells #[r,s,t] 67):=⟨_,rfl⟩
 obtain⟨c,e3⟩:∃ c,c=R.alloc (.cells #[.slice none 0 0,.nilIface,.slice none 0 0] 70):=⟨_,rfl⟩
 have M:O.heap.size=w.heap.size+1:=by rw[e1];simp
 have h5:R.heap.size=w.heap.size+1+1:=by rw[V,<-M];simp
 have h3:Below w.heap.size w O:=by rw[e1];exact(Below.refl _ _).alloc (Nat.le_refl _) _
 have J:Below O.heap.size O R:=by rw[V];exact(Below.refl _ _).alloc (Nat.le_refl _) _
 have D:Below R.heap.size R c:=by rw[e3];exact(Below.refl _ _).alloc (Nat.le_refl _) _
 have y:Below w.heap.size w c:=Below.on h3 (Below.on J D)
 have k1:c.heap[w.heap.size]?=some (.cells #[.string B,.int .i64 A] 61):=by rw[D.block _ (by omega),J.block _ (by omega),e1];exact heap_alloc_new _ _
 have k2:c.heap[w.heap.size+1]?=some (.cells #[r,s,t] 67):=by rw[D.block _ (by omega),V,<-M];exact heap_alloc_new _ _
 have k3:c.heap[w.heap.size+1+1]?=some (.cells #[.slice none 0 0,.nilIface,.slice none 0 0] 70):=by rw[e3,<-h5];exact heap_alloc_new _ _
 have HS:Hid (∀ W,Below c.heap.size c W->W.cell? ⟨w.heap.size,0,none⟩=some (.string B)/\W.cell? ⟨w.heap.size,1,none⟩=some (.int .i64 A)/\W.cell? ⟨w.heap.size+1,0,none⟩=some r/\W.cell? ⟨w.heap.size+1,1,none⟩=some s/\W.cell? ⟨w.heap.size+1,2,none⟩=some t/\Below c.heap.size c W):=fun W q=>by
  have q1:=(q.block _ (Array.getElem?_eq_some_iff.1 k1).1).trans k1;have q2:=(q.block _ (Array.getElem?_eq_some_iff.1 k2).1).trans k2;exact⟨cell_of_row _ _ 0 _ _ _ q1,cell_of_row _ _ 1 _ _ _ q1,cell_of_row _ _ 0 _ _ _ q2,cell_of_row _ _ 1 _ _ _ q2,cell_of_row _ _ 2 _ _ _ q2,q⟩
 have HC:Hid (∀ W,Below c.heap.size c W->Calls Tryz.prog K #[.agg #[r,s,t]] W fun e E=>e = .returned (.tuple #[noEf,erV a])/\Below W.heap.size W E):=fun W q=>HF W (Below.on y q)
 have h6:Hid (∀ W,Below c.heap.size c W->(Instr.lookup 58 (.map (some b)) (.agg #[.string B,.int .i64 A]) false).run Tryz.prog W = .ok (.func (.func K) #[] #[]) W):=fun W q=>HL.o W (Below.on y q)
 have HG:Hid (∀ W,Below c.heap.size c W->W.cell? ⟨0,0,none⟩=some (erV a)):=fun W q=>((Below.on y q).cell (World.block_lt_of_cell? _ _ hg)).trans hg
 have X:Hid (∀ W,Below c.heap.size c W->W.heap[w.heap.size+1+1]?=some (.cells #[.slice none 0 0,.nilIface,.slice none 0 0] 70)):=fun W q=>(q.block _ (Array.getElem?_eq_some_iff.1 k3).1).trans k3
 have C:=hid y;rw[e1] at V;rw[V] at e3;clear hg y k3 hb hk G e1 V M h5 h3 J D k1 k2 HL HF
 go_enter Tryz.func27,Tryz.ntmps27
 go_wp2_with fail;rw[<-e3];clear e3;refine wp_region_held_drew (S:=fun W=>Below c.heap.size c W) (by kernel_rfl) ?_ (fun h7=>?_)
 ·exact(Below.refl _ _).drew
 refine hTq 0 (.map (some b)) 13 ?_
 simp only[Act.put,zzA,zzB,zzC];refine hTr 1 (.agg #[.string B,.int .i64 A]) 14 (fun o l W z=>?y1) ?_
 case y1=>cases l;obtain⟨s0,s1,s2,s3,s4,s5⟩:=HS.o W z;simp[execOp,go_sem,Act.eval,s0,s1]
 simp only[Act.put,zzA,zzB,zzC];refine hTr 2 (.func (.func K) #[] #[]) 15 (fun o l W z=>?y2) ?_
 case y2=>
  cases l
  have sL:=h6.o W z
  simp[execOp,go_sem,Act.eval,sL]
 simp only[Act.put,zzA,zzB,zzC];refine hTr 3 (.agg #[r,s,t]) 16 (fun o l W z=>?y3) ?_
 case y3=>cases l;obtain⟨s0,s1,s2,s3,s4,s5⟩:=HS.o W z;simp[execOp,go_sem,Act.eval,s2,s3,s4]
 simp only[Act.put,zzA,zzB,zzC];refine hBoth (i:=4) (j:=8) (by kernel_rfl) ?zA ?zB
 case zA=>
  refine opCall (f:=K) (args:=#[.agg #[r,s,t]]) (some 17) (by kernel_rfl) (by kernel_rfl) (fun o l=>?cA) (HC.o _ (Below.refl _ _).drew) ?kA (fun ch E h=>by cases h.1) (fun E h=>by cases h.1)
  case cA=>cases l;simp[execOp,go_sem,Act.eval,hE]
  case kA=>
   rintro u m ⟨hu,h8⟩;obtain rfl:=Ending.returned.inj hu;have d:Below c.heap.size c m:=(Below.refl _ _).drew.trans h8;refine⟨d,?_⟩;simp only[Act.put,zzA,zzB,zzC];refine hTq 5 (.tuple #[noEf,erV a]) 12 ?_
   simp only[Act.put,zzA,zzB,zzC];refine hTq 6 noEf 18 ?_
   simp only[Act.put,zzA,zzB,zzC];refine hTq 7 (erV a) 19 ?_
   simp only[Act.put,zzA,zzB,zzC];refine hStep (i:=8) (v:=.pointer (some ⟨m.heap.size,0,none⟩)) (w':=m.alloc (.cells #[.slice none 0 0,.nilIface,.slice none 0 0] 70)) (some 8) (by kernel_rfl) (by kernel_rfl) (by kernel_rfl) (fun o l=>?y23) (d.alloc d.size _) ?_
   case y23=>cases l;simp[execOp,go_sem,Act.eval]
   simp only[Act.put,zzA,zzB,zzC]
   obtain⟨n,e5⟩:∃ n,n=m.alloc (.cells #[.slice none 0 0,.nilIface,.slice none 0 0] 70):=⟨_,rfl⟩
   have p:Below c.heap.size c n:=by rw[e5];exact d.alloc d.size _
   have U:Box3 n m.heap.size (.slice none 0 0) .nilIface (.slice none 0 0):=Box3.of_block (by rw[e5];exact heap_alloc_new _ _)
   obtain⟨T,eT⟩:∃ T,T=m.heap.size:=⟨_,rfl⟩
   have G:c.heap.size<=T:=by rw[eT];exact d.size
   rw[<-eT] at U ⊢;rw[<-e5];have g:Below c.heap.size c (wr3 n T (.slice none 0 0) .nilIface (.slice none 0 0)):=wr3_below p G;refine hStepS (i:=9) (w':=wr3 n T (.slice none 0 0) .nilIface (.slice none 0 0)) none (by kernel_rfl) (by kernel_rfl) (by kernel_rfl) (fun o l=>?y9) g ?_
   case y9=>cases l;obtain⟨Z,b1,b2,b3⟩:=U;simp[execOp,go_sem,Act.eval,Z,b1,b2,b3]
   simp only[Act.put,zzA,zzB,zzC];refine hTq 10 (erV a) 9 ?_
   simp only[Act.put,zzA,zzB,zzC];refine wpAnyH_done (by kernel_rfl) ?_ _
   change Exit.then _ _ _ _ (wr3 n T (.slice none 0 0) .nilIface (.slice none 0 0))
   obtain⟨F,I⟩:∃ F,F=wr3 n T (.slice none 0 0) .nilIface (.slice none 0 0):=⟨_,rfl⟩
   rw[<-I] at g;rw[<-I];have k:Below c.heap.size c (F.alloc (.cells #[.nilIface] 116)):=g.alloc g.size _;have g7:=HG.o _ k;have x:=Box3.of_block (X.o _ k);have HP:Hid _:=wr3_box x (.slice none 0 0) .nilIface (.slice none 0 0);have HW:=hid C.o.size;have H:Hid (Below w.heap.size w (wr3 (F.alloc (.cells #[.nilIface] 116)) (w.heap.size+1+1) (.slice none 0 0) .nilIface (.slice none 0 0))):=wr3_below (Below.on C.o k) (by omega);clear g k p G U I;go_wp2_with fail;refine(is_same a _).mono ?_;rintro e w7 ⟨rfl,rfl⟩;obtain⟨Z,b1,b2,b3⟩:=x;clear g7
   go_wp2
   obtain⟨d0,d1,d2,_⟩:=HP.o;exact bodyPost_ret (v:=.tuple #[noEf,.int .i64 4]) (by simp[results,Tryz.results27,go_sem,d0,d1,d2]) rfl ⟨rfl,H.o⟩
 case zB=>
  obtain⟨m,e4⟩:∃ m,m=c.drew.alloc (.cells #[.slice none 0 0,.nilIface,.slice none 0 0] 70):=⟨_,rfl⟩
  have d:Below c.heap.size c m:=by rw[e4];exact((Below.refl _ _).drew).alloc (Nat.le_refl _) _
  have Y:Box3 m c.heap.size (.slice none 0 0) .nilIface (.slice none 0 0):=Box3.of_block (by rw[e4];exact heap_alloc_new _ _)
  have h4:c.heap.size<m.heap.size:=by rw[e4];simp
  refine opStep (v:=.pointer (some ⟨c.heap.size,0,none⟩)) (w':=m) (some 8) (by kernel_rfl) (by kernel_rfl) (fun o l=>?y8) ⟨d,?_⟩
  case y8=>
   cases l
   rw[e4]
   simp[execOp,go_sem,Act.eval]
  simp only[Act.put,zzA,zzB,zzC];refine hCallE (i:=4) (f:=K) (args:=#[.agg #[r,s,t]]) (some 17) (by kernel_rfl) (by kernel_rfl) (by kernel_rfl) (fun o l=>?c60) (HC.o m d) ?k60 (fun ch E h=>by cases h.1) (fun E h=>by cases h.1)
  case c60=>cases l;simp[execOp,go_sem,Act.eval,hE]
  case k60=>
   rintro u n ⟨hu,L⟩;obtain rfl:=Ending.returned.inj hu;have p:Below c.heap.size c n:=Below.on d L;have U:=Y.below L h4;have G:c.heap.size<=c.heap.size:=Nat.le_refl _;clear L d Y h4 e4;refine⟨p,?_⟩;simp only[Act.put,zzA,zzB,zzC];refine hTq 5 (.tuple #[noEf,erV a]) 12 ?_
   simp only[Act.put,zzA,zzB,zzC];refine hTq 6 noEf 18 ?_
   simp only[Act.put,zzA,zzB,zzC];refine hTq 7 (erV a) 19 ?_
   simp only[Act.put,zzA,zzB,zzC];have g:Below c.heap.size c (wr3 n c.heap.size (.slice none 0 0) .nilIface (.slice none 0 0)):=wr3_below p G;refine hStepS (i:=9) (w':=wr3 n c.heap.size (.slice none 0 0) .nilIface (.slice none 0 0)) none (by kernel_rfl) (by kernel_rfl) (by kernel_rfl) (fun o l=>?y9) g ?_
   case y9=>cases l;obtain⟨Z,b1,b2,b3⟩:=U;simp[execOp,go_sem,Act.eval,Z,b1,b2,b3]
   simp only[Act.put,zzA,zzB,zzC];refine hTq 10 (erV a) 9 ?_
   simp only[Act.put,zzA,zzB,zzC];refine wpAnyH_done (by kernel_rfl) ?_ _
   change Exit.then _ _ _ _ (wr3 n c.heap.size (.slice none 0 0) .nilIface (.slice none 0 0))
   obtain⟨F,I⟩:∃ F,F=wr3 n c.heap.size (.slice none 0 0) .nilIface (.slice none 0 0):=⟨_,rfl⟩
   rw[<-I] at g;rw[<-I];have k:Below c.heap.size c (F.alloc (.cells #[.nilIface] 116)):=g.alloc g.size _;have g7:=HG.o _ k;have x:=Box3.of_block (X.o _ k);have HP:Hid _:=wr3_box x (.slice none 0 0) .nilIface (.slice none 0 0);have HW:=hid C.o.size;have H:Hid (Below w.heap.size w (wr3 (F.alloc (.cells #[.nilIface] 116)) (w.heap.size+1+1) (.slice none 0 0) .nilIface (.slice none 0 0))):=wr3_below (Below.on C.o k) (by omega);clear g k p G U I;go_wp2_with fail;refine(is_same a _).mono ?_;rintro e w7 ⟨rfl,rfl⟩;obtain⟨Z,b1,b2,b3⟩:=x;clear g7
   go_wp2
   obtain⟨d0,d1,d2,_⟩:=HP.o;exact bodyPost_ret (v:=.tuple #[noEf,.int .i64 4]) (by simp[results,Tryz.results27,go_sem,d0,d1,d2]) rfl ⟨rfl,H.o⟩
theorem wr3_heap {w:World}{T k:Nat}{x y z:Value}(h:k≠T):(wr3 w T x y z).heap[k]?=w.heap[k]?:=by
 have q:∀ (W:World) (i:Nat) (v:Value),(W.setCell ⟨T,i,none⟩ v).heap[k]?=W.heap[k]?:=fun W i v=>heap_setCell_other W ⟨T,i,none⟩ k v (fun e=>by simp at e;omega)
 exact(q _ _ _).trans ((q _ _ _).trans (q _ _ _))
abbrev efV3 (p:Option Addr)(n c:Nat):Value:=.agg #[.slice p n c,.nilIface,.slice none 0 0]
end
end Go.Proofs.YtnfnddnffoigfaaGreatDoor
