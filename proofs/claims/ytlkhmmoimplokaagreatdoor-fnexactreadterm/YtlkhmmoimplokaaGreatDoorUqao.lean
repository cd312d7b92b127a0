/- Texts of Valid2, Tree1, Tree2. Own work of the verifier. -/
import Derived.Test.YtlkhmmoimplokaaGreatDoorUqai
import Derived.Test.YtlkhmmoimplokaaGreatDoorUqaf
namespace Go.Proofs.YtlkhmmoimplokaaGreatDoor
set_option maxHeartbeats 2000000
open Go Go.RowKit
set_option linter.unusedVariables false
def grows (k n:Int):Int:=if k=3 then n else 0
def validFrom:Int->List Cel->Bool
 | m,[]=>m == 0
 | m,c :: r=>if m=0∨cellB c.1 c.2.1 c.2.2.length=false then false else validFrom (m-1+grows c.1 c.2.1) r
def validB (cs:List Cel):Bool:=decide (cs.length<=2000) && validFrom 1 cs
theorem validFrom_at (m:Int)(a:List Cel)(k:Nat)(h:k<a.length):validFrom m (a.drop k) =
  if m=0∨cellB (a.getD k Cel.none).1 (a.getD k Cel.none).2.1 (a.getD k Cel.none).2.2.length=false then false else validFrom (m-1+grows (a.getD k Cel.none).1 (a.getD k Cel.none).2.1) (a.drop (k+1)):=by
 rw[drop_at a k h,validFrom]
theorem cellB_comp {n:Int}{m:Nat}(h:cellB 3 n m=true):1<=n/\n<=20:=by simp[cellB] at h;omega
theorem specValid_any (p:Option Addr)(c:Nat)(d:List Cel)(w:World)(hn:d.length<=1000000000)(Q:CIn w p d) :
  Calls Tryz.prog 29 #[.slice p d.length c] w fun e w'=>e = .returned (.bool (validB d))/\Below w.heap.size w w':=by
 have L:=hid Q;clear Q
 by_cases U:d.length<=2000
 ·have y:¬ (2000:Int)<d.length:=by omega
  have A:validB d=validFrom 1 d:=by simp[validB,U]
  rw[A];clear A
  go_enter Tryz.func29,Tryz.ntmps29
  go_wp2
  clear y
  go_loopw [3,4] (fun s i wr=>∃ (k:Nat) (m:Int),k<=d.length/\0<=m/\m<=1+20 * k/\s = .int .i64 m/\i = .int .i64 k/\Hid (validFrom 1 d=validFrom m (d.drop k))/\Hid (Below w.heap.size w wr)) (fun _ i _=>d.length-(intOf i).toNat)
  case atStart=>exact⟨0,1,Nat.zero_le _,by decide,by decide,rfl,rfl,rfl,Below.refl _ _⟩
  case round=>
   obtain⟨k,m,hk,V,T,rfl,rfl,u,v⟩:=hrel
   by_cases z:k<d.length
   ·obtain⟨b,o,rfl,B⟩:=L.o (by omega)
    obtain⟨q,qc,n,C,K,_⟩:=(B k z).below v.o;have j:Hid _:=validFrom_at m d k z
    obtain⟨F,M⟩:∃ x,x=(d.getD k Cel.none).1:=⟨_,rfl⟩
    obtain⟨J,N⟩:∃ x,x=(d.getD k Cel.none).2.1:=⟨_,rfl⟩
    obtain⟨t,P⟩:∃ x,x=(d.getD k Cel.none).2.2.length:=⟨_,rfl⟩
    rw[<-M] at n j;rw[<-N] at C j;rw[<-P] at K j;clear M N P B L
    by_cases D:m=0
    ·subst D
     go_wp2
     go_ret;exact⟨ret_bool (by rw[u.o,j.o,if_pos (by simp)]),v.o⟩
    ·have R:(m == 0)=false:=by simpa using D
     have E:=hid D
     have l:=fun W=>l2cell_any F J q t qc W
     cases r:cellB F J t
     ·rw[r] at l
      have f:Hid _:=r;clear r D;go_wp2_with (go_at_call 57;refine(l _).mono ?_;rintro e O ⟨rfl,a⟩);go_ret;exact⟨ret_bool (by rw[u.o,j.o,if_pos (.inr f.o)]),Below.on v.o a⟩
     ·rw[r] at l
      have f:Hid _:=r;clear r D
      by_cases G:F=3
      ·subst G
       have X:=cellB_comp f.o;go_wp2_with fail;refine(l _).mono ?_;rintro e O ⟨rfl,a⟩;have H:=(a.cell (World.block_lt_of_cell? _ _ n)).trans n;have Y:=(a.cell (World.block_lt_of_cell? _ _ C)).trans C;have g:=hid (Below.on v.o a);clear a n C K l
       go_wp2
       go_roundw
       case rel=>exact⟨k+1,m-1+J,by omega,by have:=E.o;omega,by omega,by go_num,by go_num,by show _=_;rw[u.o,j.o,if_neg (by rintro(h | h);exact E.o h;rw[f.o] at h;cases h)];rfl,g.o⟩
       case measure=>simp[intOf];omega
      ·have S:(F == 3)=false:=by simpa using G
       have Z:=hid G;clear G;go_wp2_with fail;refine(l _).mono ?_;rintro e O ⟨rfl,a⟩;have H:=(a.cell (World.block_lt_of_cell? _ _ n)).trans n;have g:=hid (Below.on v.o a);clear a n C K l
       go_wp2
       go_roundw
       case rel=>exact⟨k+1,m-1,by omega,by have:=E.o;omega,by omega,by go_num,by go_num,by show _=_;rw[u.o,j.o,if_neg (by rintro(h | h);exact E.o h;rw[f.o] at h;cases h),grows,if_neg Z.o,Int.add_zero],g.o⟩
       case measure=>simp[intOf];omega
   ·obtain rfl:k=d.length:=by omega
    have I:Hid (validFrom 1 d=(m == 0)):=by
     have:=u.o;rw[List.drop_length] at this;exact this
    clear u L
    go_wp2
    go_ret;exact⟨ret_bool I.o.symm,v.o⟩
 ·have y:(2000:Int)<d.length:=by omega
  have A:validB d=false:=by simp[validB];omega
  rw[A];clear A
  go_enter Tryz.func29,Tryz.ntmps29
  go_wp2
  go_ret;exact⟨rfl,Below.refl _ _⟩
theorem implValid_any (p:Option Addr)(c:Nat)(a:List Cel)(w:World)(hn:a.length<=1000000000)(U:CIn w p a) :
  Calls Tryz.prog 73 #[.slice p a.length c] w fun e Z=>e = .returned (.bool (validB a))/\Below w.heap.size w Z:=by
 have Q:=hid U;clear U
 by_cases hl:a.length<=2000
 ·have A:¬ (2000:Int)<a.length:=by omega
  have C:validB a=validFrom 1 a:=by simp[validB,hl]
  rw[C];clear C
  go_enter Tryz.func73,Tryz.ntmps73
  go_wp2
  clear A
  go_loopw [3,11] (fun s i wr=>∃ (k:Nat) (m:Int),k<=a.length/\0<=m/\m<=1+20 * k/\s = .int .i64 m/\i = .int .i64 k/\Hid (validFrom 1 a=validFrom m (a.drop k))/\Hid (Below w.heap.size w wr)) (fun _ i _=>a.length-(intOf i).toNat)
  case atStart=>exact⟨0,1,Nat.zero_le _,by decide,by decide,rfl,rfl,rfl,Below.refl _ _⟩
  case round=>
   obtain⟨k,m,hk,h4,Y,rfl,rfl,y,z⟩:=hrel
   by_cases B:k<a.length
   ·obtain⟨b,o,rfl,D⟩:=Q.o (by omega)
    obtain⟨q,I,P,O,N,_⟩:=(D k B).below z.o;have j:Hid _:=validFrom_at m a k B
    obtain⟨u,R⟩:∃ x,x=(a.getD k Cel.none).1:=⟨_,rfl⟩
    obtain⟨r,S⟩:∃ x,x=(a.getD k Cel.none).2.1:=⟨_,rfl⟩
    obtain⟨t,T⟩:∃ x,x=(a.getD k Cel.none).2.2.length:=⟨_,rfl⟩
    rw[<-R] at P j;rw[<-S] at O j;rw[<-T] at N j;clear R S T D Q
    by_cases F:m=0
    ·subst F
     go_wp2
     go_ret;exact⟨ret_bool (by rw[y.o,j.o,if_pos (by simp)]),z.o.alloc z.o.size _⟩
    ·have V:(m == 0)=false:=by simpa using F
     have G:=hid F
     have l:=fun W=>isCell_any u r q t I W
     have E:Below w.heap.size w (wr.alloc (Obj.cells #[.int .i64 u,.int .i64 r,.slice q t I] 102)):=z.o.alloc z.o.size _;have n:Hid _:=E;clear E
     cases v:cellB u r t
     ·rw[v] at l
      have f:Hid _:=v;clear v F;go_wp2_with (go_at_call 118;refine(l _).mono ?_;rintro e H ⟨rfl,d⟩);go_ret;exact⟨ret_bool (by rw[y.o,j.o,if_pos (.inr f.o)]),Below.on n.o d⟩
     ·rw[v] at l
      have f:Hid _:=v;clear v F
      by_cases J:u=3
      ·subst J
       have h5:=cellB_comp f.o;go_wp2_with fail;refine(l _).mono ?_;rintro e H ⟨rfl,d⟩;have L:Box3 H wr.heap.size (.int .i64 3) (.int .i64 r) (.slice q t I):=Box3.of_block (t:=102) ((d.block _ (by simp)).trans (heap_alloc_new _ _));obtain⟨K,h6,_,_⟩:=L;have g:=hid (Below.on n.o d);clear d P O N l
       go_wp2
       go_roundw
       case rel=>exact⟨k+1,m-1+r,by omega,by have:=G.o;omega,by omega,by go_num,by go_num,by show _=_;rw[y.o,j.o,if_neg (by rintro(h | h);exact G.o h;rw[f.o] at h;cases h)];rfl,g.o⟩
       case measure=>simp[intOf];omega
      ·have X:(u == 3)=false:=by simpa using J
       have H3:=hid J;clear J;go_wp2_with fail;refine(l _).mono ?_;rintro e H ⟨rfl,d⟩;have L:Box3 H wr.heap.size (.int .i64 u) (.int .i64 r) (.slice q t I):=Box3.of_block (t:=102) ((d.block _ (by simp)).trans (heap_alloc_new _ _));obtain⟨K,_,_,_⟩:=L;have g:=hid (Below.on n.o d);clear d P O N l
       go_wp2
       go_roundw
       case rel=>exact⟨k+1,m-1,by omega,by have:=G.o;omega,by omega,by go_num,by go_num,by show _=_;rw[y.o,j.o,if_neg (by rintro(h | h);exact G.o h;rw[f.o] at h;cases h),grows,if_neg H3.o,Int.add_zero],g.o⟩
       case measure=>simp[intOf];omega
   ·obtain rfl:k=a.length:=by omega
    have M:Hid (validFrom 1 a=(m == 0)):=by
     have:=y.o;rw[List.drop_length] at this;exact this
    clear y Q
    go_wp2
    go_ret;exact⟨ret_bool M.o.symm,z.o⟩
 ·have A:(2000:Int)<a.length:=by omega
  have C:validB a=false:=by simp[validB];omega
  rw[C];clear C
  go_enter Tryz.func73,Tryz.ntmps73
  go_wp2
  go_ret;exact⟨rfl,Below.refl _ _⟩
inductive Fo where
 | nil:Fo
 | node:Cel->Fo->Fo->Fo
def Fo.cells:Fo->List Cel
 | .nil=>[]
 | .node c k r=>c :: (k.cells ++ r.cells)
def Fo.count:Fo->Nat
 | .nil=>0
 | .node _ _ r=>r.count+1
def Fo.cat:Fo->Fo->Fo
 | .nil,s=>s
 | .node c k r,s=>.node c k (r.cat s)
def Fo.ok:Fo->Prop
 | .nil=>True
 | .node c k r=>cellB c.1 c.2.1 c.2.2.length=true/\Byte c.2.2/\(c.1=3->c.2.1=k.count)/\(c.1≠3->k = .nil)/\k.ok/\r.ok
theorem Fo.cells_cat:∀ a b:Fo,(a.cat b).cells=a.cells ++ b.cells
 | .nil,b=>rfl
 | .node c k r,b=>by simp[Fo.cat,Fo.cells,Fo.cells_cat r b]
theorem Fo.count_cat:∀ a b:Fo,(a.cat b).count=a.count+b.count
 | .nil,b=>by simp[Fo.cat,Fo.count]
 | .node c k r,b=>by simp only[Fo.cat,Fo.count,Fo.count_cat r b];omega
theorem Fo.cat_nil:∀ a:Fo,a.cat .nil=a
 | .nil=>rfl
 | .node c k r=>by rw[Fo.cat,Fo.cat_nil r]
theorem Fo.cat_assoc:∀ a b c:Fo,(a.cat b).cat c=a.cat (b.cat c)
 | .nil,b,c=>rfl
 | .node x k r,b,c=>by simp only[Fo.cat,Fo.cat_assoc r b c]
theorem Fo.count_le:∀ a:Fo,a.count<=a.cells.length
 | .nil=>Nat.le_refl _
 | .node c k r=>by have:=Fo.count_le r;simp[Fo.count,Fo.cells];omega
def NodeIn (w:World)(B:Nat)(c:Cel)(K:List Value->Prop)(v:Value):Prop:=
 (c.1=0/\v = .iface 150 (.int .i64 c.2.1))∨(c.1=1/\v = .iface 149 (.int .i64 c.2.1))∨(c.1=2/\v = .iface 154 (.string (strOfNums c.2.2)))∨
 (c.1=3/\∃ b g vs,v = .iface 159 (.pointer (some ⟨b,0,none⟩))/\B<=b/\B<=g/\w.cell? ⟨b,0,none⟩=some (.string (strOfNums c.2.2))/\
   w.cell? ⟨b,1,none⟩=some (.slice (some ⟨g,0,none⟩) vs.length vs.length)/\g<w.heap.size/\(∀ i,i<vs.length->w.cell? ⟨g,i,none⟩=some (vs.getD i .nilIface))/\K vs)
def FoIn (w:World)(B:Nat):Fo->List Value->Prop
 | .nil,vs=>vs = []
 | .node c k r,vs=>∃ v vr,vs=v :: vr/\NodeIn w B c (fun kv=>FoIn w B k kv) v/\FoIn w B r vr
theorem NodeIn.imp {w d:World}{B k:Nat}{c:Cel}{K j:List Value->Prop}{v:Value}(h:NodeIn w B c K v)(y:k<=B)(e:∀ b o,B<=b->b<w.heap.size->d.cell? ⟨b,o,none⟩=w.cell? ⟨b,o,none⟩)(z:w.heap.size<=d.heap.size)(q:∀ a,K a->j a):NodeIn d k c j v:=by
 rcases h with h | h | h | ⟨h,b,g,a,r,l,s,m,n,u,x,p⟩
 ·exact .inl h
 ·exact .inr (.inl h)
 ·exact .inr (.inr (.inl h))
 ·have f:=World.block_lt_of_cell? _ _ m
  exact .inr (.inr (.inr ⟨h,b,g,a,r,by omega,by omega,(e _ _ l f).trans m,(e _ _ l f).trans n,by omega,fun i t=>(e _ _ s u).trans (x i t),q _ p⟩))
theorem FoIn.imp {w i:World}{B j:Nat}(d:j<=B)(f:∀ b o,B<=b->b<w.heap.size->i.cell? ⟨b,o,none⟩=w.cell? ⟨b,o,none⟩)(g:w.heap.size<=i.heap.size):∀ (F:Fo) (a:List Value),FoIn w B F a->FoIn i j F a
 | .nil,a,h=>h
 | .node c k r,a,⟨v,vr,e,hn,hr⟩=>⟨v,vr,e,hn.imp d f g (fun l=>FoIn.imp d f g k l),FoIn.imp d f g r vr hr⟩
theorem FoIn.below {w w':World}{B:Nat}{F:Fo}{a:List Value}(h:FoIn w B F a)(d:Below w.heap.size w w'):FoIn w' B F a:=
 FoIn.imp (Nat.le_refl _) (fun b o _ c=>d.cell (p:=⟨b,o,none⟩) c) d.size F a h
theorem FoIn.mono {w:World}{B b:Nat}{F:Fo}{a:List Value}(h:FoIn w B F a)(c:b<=B):FoIn w b F a:=FoIn.imp c (fun _ _ _ _=>rfl) (Nat.le_refl _) F a h
theorem FoIn.setCell {w:World}{B:Nat}{F:Fo}{c:List Value}(h:FoIn w B F c){a:Addr}(ha:a.block<B)(u:Value):FoIn (w.setCell a u) B F c:=
 FoIn.imp (Nat.le_refl _) (fun b o d _=>World.cell?_setCell_other _ _ _ _ (fun e=>by rw[e] at ha;simp at ha;omega)) (by simp) F c h
theorem FoIn.count {w:World}{B:Nat} : ∀ (F:Fo) (a:List Value),FoIn w B F a->a.length=F.count
 | .nil,a,h=>by rw[show a = [] from h];rfl
 | .node c k r,a,⟨v,vr,e,hn,hr⟩=>by rw[e,List.length_cons,FoIn.count r vr hr];rfl
theorem FoIn.cat {w:World}{B:Nat} : ∀ (F G:Fo) (b a:List Value),FoIn w B F b->FoIn w B G a->FoIn w B (F.cat G) (b ++ a)
 | .nil,G,b,a,h,hg=>by rw[show b = [] from h];exact hg
 | .node c k r,G,b,a,⟨v,vr,e,hn,hr⟩,hg=>⟨v,vr ++ a,by rw[e];rfl,hn,FoIn.cat r G vr a hr hg⟩
theorem infoTerm:(Tryz.prog.info? 65).map (fun i=>(i.zero,i.size,i.bytes))=some (some .nilIface,1,16):=by kernel_rfl
theorem NodeIn.iface {w:World}{B:Nat}{c:Cel}{K:List Value->Prop}{v:Value}(h:NodeIn w B c K v):∃ t x,v = .iface t x:=by
 rcases h with h | h | h | ⟨h,b,g,d,a,_⟩
 ·exact⟨_,_,h.2⟩
 ·exact⟨_,_,h.2⟩
 ·exact⟨_,_,h.2⟩
 ·exact⟨_,_,a⟩
theorem FoIn.iface {w:World}{B:Nat}{c:Cel}{k r:Fo}{v:Value}{a:List Value}(h:FoIn w B (.node c k r) (v :: a)):∃ t x,v = .iface t x:=by
 obtain⟨f,d,e,b,_⟩:=h;obtain⟨rfl,rfl⟩:=List.cons.inj e;exact b.iface
end Go.Proofs.YtlkhmmoimplokaaGreatDoor
