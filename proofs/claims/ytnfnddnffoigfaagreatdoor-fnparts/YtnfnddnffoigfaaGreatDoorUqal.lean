/- Texts of CapC, Num, VarF, NbI1, VarG, Ren1, RenN, Cp1, RenG, Vars1, Vars2, VarO, Vars3, Vars4, Ren2, SS1, Items1, Items2, Items3, Items4, SS2, MkL, SSU. Own work of the verifier. -/
import Derived.Test.YtnfnddnffoigfaaGreatDoorUqaj
namespace Go.Proofs.YtnfnddnffoigfaaGreatDoor
set_option maxHeartbeats 2000000
set_option linter.unusedVariables false
set_option maxRecDepth 100000
section
open Go Go.RowKit
def CapCC (w:World)(p:Option Addr)(css:List (List Cel)):Prop:=0<css.length->∃ b o,p=some ⟨b,o,none⟩/\∀ i,i<css.length->∃ q c,w.cell? ⟨b,o+i,none⟩=some (.slice q (css.getD i []).length c)/\CIn w q (css.getD i [])/\(css.getD i []).length<=c/\c<=9223372036854775807
theorem CapCC.below {w w':World}{p:Option Addr}{a:List (List Cel)}(h:CapCC w p a)(e:Below w.heap.size w w'):CapCC w' p a:=fun l=>by
 obtain⟨b,o,rfl,j⟩:=h l;refine⟨b,o,rfl,fun i k=>?_⟩;obtain⟨q,c,d,f,g⟩:=j i k;exact⟨q,c,(e.cell (World.block_lt_of_cell? _ _ d)).trans d,f.below e,g⟩
theorem CapCC.ccin {w:World}{p:Option Addr}{a:List (List Cel)}(h:CapCC w p a):CCIn w p a:=fun j=>by
 obtain⟨b,o,rfl,f⟩:=h j;refine⟨b,o,rfl,fun i g=>?_⟩;obtain⟨q,c,d,e,k⟩:=f i g;exact⟨q,c,d,e⟩
theorem capC_row {w:World}{B s n c:Nat}{e:TypeId}{p:Option Addr}{i:List Value}(h:w.ownsRow B e s (.slice p n c) n i):n<=c/\c<=9223372036854775807:=by
 rcases h.2 with ⟨a,j⟩ | ⟨g,b,d,a,_,_,k,f,_⟩
 ·simp at a
  omega
 ·simp at a
  unfold maxLen at f
  omega
theorem OwnC.room {w:World}{B m c:Nat}{q:Option Addr}{a:List Cel}(h:OwnC w B q m c a):m<=c/\c<=9223372036854775807:=by obtain⟨_,d,_,b,_⟩:=h;exact capC_row b
theorem LS.cap {w:World}{B m c:Nat}{q:Option Addr}{b:List (List Cel)}(h:LS w B q m c b):CapCC w q b:=fun s=>by
 obtain⟨t,a,n,o,j,d⟩:=h;obtain⟨g,l,k,p,r⟩:=j.form (by omega);simp only[Value.slice.injEq,true_and] at k;obtain⟨rfl,rfl⟩:=k;refine⟨g,0,rfl,fun i f=>⟨(a.getD i Sl3.zero).1,(a.getD i Sl3.zero).2.2,?_,(d i f).cin,?_⟩⟩
 ·rw[Nat.zero_add,j.cellAt i (by omega),List.getElem?_map,List.getElem?_eq_getElem (show i<a.length by omega)]
  have e:a.getD i Sl3.zero=a[i]'(by omega):=by rw[List.getD,List.getElem?_eq_getElem (show i<a.length by omega)];rfl
  have:=(d i f).1;rw[<-this,e]
  rfl
 ·rw[<-(d i f).1]
  exact(d i f).room
theorem OwnCC.cap {w:World}{B U:Nat}{p:Option Addr}{n c:Nat}{a:List (List Cel)}(h:OwnCC w B U p n c a):CapCC w p a:=fun m=>by
 obtain⟨b,h⟩:=h;have l:=h.len;obtain⟨g,f,e,j,k⟩:=h.row.form (by omega);simp only[Value.slice.injEq,true_and] at e;obtain⟨rfl,rfl⟩:=e;refine⟨g,0,rfl,fun i d=>⟨(b.getD i It.zero).1,(b.getD i It.zero).2.1,?_,(h.item i d).toC.cin,(h.item i d).toC.room⟩⟩;rw[Nat.zero_add,h.row.cellAt i (by omega)];exact vals_at b a i d
end
section
open Go Go.RowKit Go.Maps
theorem lawVar:Keyed Tryz.prog 65:=int_keyed Tryz.underlying65
theorem zeroVar (w:World):(zeroValue 65).run Tryz.prog w = .ok (.int .i64 0) w:=by kernel_rfl
def putV (ks:List Int)(x:Int):List Int:=if x ∈ ks then ks else ks ++ [x]
def NumMap (w:World)(b:Nat)(ks:List Int):Prop:=∃ D:DataW Unit,w.ownsMap Tryz.prog 65 (plainElem Tryz.prog 65) b ks.length D/\Maps.size D=ks.length/\(∀ x:Int,Maps.has D (.int .i64 x)=decide (x ∈ ks))/\
 (∀ x ∈ ks,D.atKey (.int .i64 x) (.lit (.int .i64 0)) = .lit (.int .i64 (ks.idxOf x)))
theorem NumMap.lt {w:World}{b:Nat}{a:List Int}(h:NumMap w b a):b<w.heap.size:=by obtain⟨D,h,_⟩:=h;exact h.lt
theorem NumMap.of_block {w w':World}{b:Nat}{c:List Int}(h:NumMap w b c)(g:w'.heap[b]?=w.heap[b]?):NumMap w' b c:=by
 obtain⟨D,⟨d,a,e,r⟩,f⟩:=h;exact⟨D,⟨d,a,g.trans e,r⟩,f⟩
theorem NumMap.made (w:World):NumMap (w.alloc (.map #[] 0)) w.heap.size []:=⟨_,World.ownsMap_made _ _ _ _,rfl,fun x=>rfl,fun x a=>by cases a⟩
theorem of_any (b:Nat)(g:List Int)(x:Int)(w:World)(J:0<=x)(K:x<=1000000)(G:g.length<=1000000)(u:NumMap w b g) :
  Calls Tryz.prog 41 #[.map (some b),.int .i64 x] w fun e p=>e = .returned (.int .i64 (g.idxOf x))/\NumMap p b (putV g x)/\w.grownBy p (some b):=by
 obtain⟨D,d,k,f,i⟩:=u;have z:=keyOf_int_mk (P:=Tryz.prog) Tryz.underlying65 (q:=.i64) (a:=x) (WalkArith.wf_i64 (by omega))
 by_cases m:x ∈ g
 ·have t:Maps.has D (.int .i64 x)=true:=by rw[f];simpa using m
  have H:=i x m
  have F:Hid (NumMap w b (putV g x)):=by rw[putV,if_pos m];exact⟨D,d,k,f,i⟩
  clear f i
  go_enter Tryz.func41,Tryz.ntmps41
  go_wp2_with (at_lookup;refine wpList_lookup_own_ok_int _ rfl _ _ 94 rfl 65 65 .i64 lawVar Tryz.underlying94 Tryz.underlying65 (zeroVar _) b g.length D rfl d _ _ rfl z ?_;intro c v A;rw[t];obtain rfl:c=g.idxOf x:=by(rw[H] at v;cases v;rfl));go_ret;exact⟨rfl,F.o,⟨rfl,rfl,rfl,Nat.le_refl _,fun _ _ _=>rfl⟩⟩
 ·have t:Maps.has D (.int .i64 x)=false:=by rw[f];simpa using m
  have E:g.idxOf x=g.length:=List.idxOf_eq_length m;have r:WideAt.IsKeyLit (.int .i64 x):=trivial
  have B:Hid (∀ p,p.ownsMap Tryz.prog 65 (plainElem Tryz.prog 65) b (g.length+1) (D.put (.int .i64 x) (.lit (.int .i64 g.length)))->NumMap p b (putV g x)):=fun p h=>by
   have u:=d.isMap;rw[putV,if_neg m];refine⟨_,by simpa using h,?_,fun y=>?_,fun y I=>?_⟩
   ·rw[size_put (d.tidy lawVar),t,k];simp
   ·by_cases e:y=x
    ·subst e;rw[has_put_same u r];simp
    ·rw[has_put_other (by simpa using e),f];simp[e]
   ·by_cases e:y=x
    ·subst e
     rw[atKey_put_same u r,List.idxOf_append,if_neg m]
     simp
    ·have s:y ∈ g:=by simpa [e] using I
     rw[atKey_put_other (by simpa using e),i y s,List.idxOf_append,if_pos s]
  rw[E]
  obtain⟨l,C⟩:∃ l,l=g.length:=⟨_,rfl⟩
  rw[<-C] at d k G B ⊢;clear f i E m C
  go_enter Tryz.func41,Tryz.ntmps41
  go_wp2_with (first
   | (at_lookup;refine wpList_lookup_own_ok_int _ rfl _ _ 94 rfl 65 65 .i64 lawVar Tryz.underlying94 Tryz.underlying65 (zeroVar _) b l D rfl d _ _ rfl z ?_;intro c v A;rw[t])
   | (at_len;refine wpList_len_own _ rfl _ 94 rfl 65 65 Tryz.underlying94 _ b l D rfl d ?_;rw[k])
   | (at_mapUpdate;refine wpList_mapUpdate_own _ rfl _ _ _ 94 rfl 65 65 lawVar Tryz.underlying94 _ b l D rfl d (by unfold maxLen;omega) _ _ _ rfl rfl z _ [] (plainElem_int Tryz.underlying65 (WalkArith.wf_i64 (by omega))) ?_;intro L n j))
  go_ret;exact⟨rfl,B.o _ n,j⟩
def visitL (ks:List Int)(c:Cel):List Int:=if c.1=0 then putV ks c.2.1 else ks
theorem noVar_num (w:World)(x:Value):(Instr.typeAssert (.iface 146 x) 48 65 true).run Tryz.prog w = .ok (.tuple #[.int .i64 0,.bool false]) w:=by kernel_rfl
theorem noVar_atom (w:World)(x:Value):(Instr.typeAssert (.iface 55 x) 48 65 true).run Tryz.prog w = .ok (.tuple #[.int .i64 0,.bool false]) w:=by kernel_rfl
theorem noVar_comp (w:World)(x:Value):(Instr.typeAssert (.iface 101 x) 48 65 true).run Tryz.prog w = .ok (.tuple #[.int .i64 0,.bool false]) w:=by kernel_rfl
theorem isVar (w:World)(x:Value):(Instr.typeAssert (.iface 65 x) 48 65 true).run Tryz.prog w = .ok (.tuple #[x,.bool true]) w:=by kernel_rfl
theorem noComp_var (w:World)(x:Value):(Instr.typeAssert (.iface 65 x) 48 101 true).run Tryz.prog w = .ok (.tuple #[.pointer none,.bool false]) w:=by kernel_rfl
theorem noComp_num (w:World)(x:Value):(Instr.typeAssert (.iface 146 x) 48 101 true).run Tryz.prog w = .ok (.tuple #[.pointer none,.bool false]) w:=by kernel_rfl
theorem noComp_atom (w:World)(x:Value):(Instr.typeAssert (.iface 55 x) 48 101 true).run Tryz.prog w = .ok (.tuple #[.pointer none,.bool false]) w:=by kernel_rfl
theorem isComp (w:World)(x:Value):(Instr.typeAssert (.iface 101 x) 48 101 true).run Tryz.prog w = .ok (.tuple #[x,.bool true]) w:=by kernel_rfl
def visits (ks:List Int)(cs:List Cel):List Int:=cs.foldl visitL ks
theorem putV_len (a:List Int)(x:Int):(putV a x).length<=a.length+1:=by unfold putV;split <;> simp
theorem visitL_len (a:List Int)(c:Cel):(visitL a c).length<=a.length+1:=by unfold visitL;split;exact putV_len _ _;omega
theorem visits_len:∀ (b:List Cel) (a:List Int),(visits a b).length<=a.length+b.length
 | [],a=>by simp[visits]
 | c :: r,a=>by have:=visits_len r (visitL a c);have:=visitL_len a c;simp only[visits,List.foldl_cons,List.length_cons] at *;omega
theorem visits_append (c:List Int)(a b:List Cel):visits c (a ++ b)=visits (visits c a) b:=by simp[visits]
theorem visits_cons (a:List Int)(c:Cel)(b:List Cel):visits a (c :: b)=visits (visitL a c) b:=rfl
end
section
open Go Go.RowKit
theorem nbA_var_var (w:World)(x:Value):(Instr.typeAssert (.iface 65 x) 48 65 true).run Tryz.prog w = .ok (.tuple #[x,.bool true]) w:=by kernel_rfl
theorem nbA_var_num (w:World)(x:Value):(Instr.typeAssert (.iface 65 x) 48 146 true).run Tryz.prog w = .ok (.tuple #[.int .i64 0,.bool false]) w:=by kernel_rfl
theorem nbA_var_atom (w:World)(x:Value):(Instr.typeAssert (.iface 65 x) 48 55 true).run Tryz.prog w = .ok (.tuple #[.string ⟨#[]⟩,.bool false]) w:=by kernel_rfl
theorem nbA_num_var (w:World)(x:Value):(Instr.typeAssert (.iface 146 x) 48 65 true).run Tryz.prog w = .ok (.tuple #[.int .i64 0,.bool false]) w:=by kernel_rfl
theorem nbA_num_num (w:World)(x:Value):(Instr.typeAssert (.iface 146 x) 48 146 true).run Tryz.prog w = .ok (.tuple #[x,.bool true]) w:=by kernel_rfl
theorem nbA_num_atom (w:World)(x:Value):(Instr.typeAssert (.iface 146 x) 48 55 true).run Tryz.prog w = .ok (.tuple #[.string ⟨#[]⟩,.bool false]) w:=by kernel_rfl
theorem nbA_atom_var (w:World)(x:Value):(Instr.typeAssert (.iface 55 x) 48 65 true).run Tryz.prog w = .ok (.tuple #[.int .i64 0,.bool false]) w:=by kernel_rfl
theorem nbA_atom_num (w:World)(x:Value):(Instr.typeAssert (.iface 55 x) 48 146 true).run Tryz.prog w = .ok (.tuple #[.int .i64 0,.bool false]) w:=by kernel_rfl
theorem nbA_atom_atom (w:World)(x:Value):(Instr.typeAssert (.iface 55 x) 48 55 true).run Tryz.prog w = .ok (.tuple #[x,.bool true]) w:=by kernel_rfl
theorem nbKind_var (x:Value)(w:World):Calls Tryz.prog 175 #[.iface 65 x] w fun e d=>e = .returned (.int .i64 0)/\d=w:=by
 have c:=nbA_var_var;have b:=nbA_var_num;have a:=nbA_var_atom
 go_enter Tryz.func175,Tryz.ntmps175
 go_wp2_with fail;go_ret;exact⟨rfl,rfl⟩
theorem nbIsVar_var (x:Value)(w:World):Calls Tryz.prog 134 #[.iface 65 x] w fun e a=>e = .returned (.bool true)/\a=w:=by
 have b:=nbKind_var x w
 go_enter Tryz.func134,Tryz.ntmps134
 go_wp2_with (go_at_call 175;refine b.mono ?_;rintro e a ⟨rfl,rfl⟩);go_ret;exact⟨rfl,rfl⟩
theorem nbKind_num (x:Value)(w:World):Calls Tryz.prog 175 #[.iface 146 x] w fun e d=>e = .returned (.int .i64 1)/\d=w:=by
 have c:=nbA_num_var;have b:=nbA_num_num;have a:=nbA_num_atom
 go_enter Tryz.func175,Tryz.ntmps175
 go_wp2_with fail;go_ret;exact⟨rfl,rfl⟩
theorem nbIsVar_num (x:Value)(w:World):Calls Tryz.prog 134 #[.iface 146 x] w fun e a=>e = .returned (.bool false)/\a=w:=by
 have b:=nbKind_num x w
 go_enter Tryz.func134,Tryz.ntmps134
 go_wp2_with (go_at_call 175;refine b.mono ?_;rintro e a ⟨rfl,rfl⟩);go_ret;exact⟨rfl,rfl⟩
theorem nbKind_atom (x:Value)(w:World):Calls Tryz.prog 175 #[.iface 55 x] w fun e d=>e = .returned (.int .i64 2)/\d=w:=by
 have c:=nbA_atom_var;have b:=nbA_atom_num;have a:=nbA_atom_atom
 go_enter Tryz.func175,Tryz.ntmps175
 go_wp2_with fail;go_ret;exact⟨rfl,rfl⟩
theorem nbIsVar_atom (x:Value)(w:World):Calls Tryz.prog 134 #[.iface 55 x] w fun e a=>e = .returned (.bool false)/\a=w:=by
 have b:=nbKind_atom x w
 go_enter Tryz.func134,Tryz.ntmps134
 go_wp2_with (go_at_call 175;refine b.mono ?_;rintro e a ⟨rfl,rfl⟩);go_ret;exact⟨rfl,rfl⟩
end
section
open Go Go.RowKit Go.Maps
def Fo.map (f:Cel->Cel):Fo->Fo
 | .nil=>.nil
 | .node c k r=>.node (f c) (k.map f) (r.map f)
theorem Fo.cells_map (f:Cel->Cel):∀ F:Fo,(F.map f).cells=F.cells.map f
 | .nil=>rfl
 | .node c k r=>by simp[Fo.map,Fo.cells,Fo.cells_map f k,Fo.cells_map f r]
theorem Fo.count_map (f:Cel->Cel):∀ F:Fo,(F.map f).count=F.count
 | .nil=>rfl
 | .node c k r=>by simp[Fo.map,Fo.count,Fo.count_map f r]
theorem Fo.map_cat (f:Cel->Cel):∀ a b:Fo,(a.cat b).map f=(a.map f).cat (b.map f)
 | .nil,b=>rfl
 | .node c k r,b=>by simp[Fo.cat,Fo.map,Fo.map_cat f r b]
def renI (L:List Int)(c:Cel):Cel:=if c.1=0 then(c.1,((L.idxOf c.2.1:Nat):Int),c.2.2) else c
theorem renI_kind (L:List Int)(c:Cel):(renI L c).1=c.1:=by unfold renI;split <;> rfl
theorem renI_text (L:List Int)(c:Cel):(renI L c).2.2=c.2.2:=by unfold renI;split <;> rfl
theorem renI_ok {L:List Int}(e:L.length<=1000000){c:Cel}(h:cellB c.1 c.2.1 c.2.2.length=true):cellB (renI L c).1 (renI L c).2.1 (renI L c).2.2.length=true:=by
 by_cases b:c.1=0
 ·have:=List.idxOf_le_length (l:=L) (a:=c.2.1)
  have d:c.2.2.length=0:=by
   rw[b] at h;simp only[cellB,decide_eq_true_eq] at h
   omega
  rw[renI,if_pos b];simp only[cellB,decide_eq_true_eq];exact .inl ⟨b,by omega,by omega,d⟩
 ·rw[renI,if_neg b];exact h
theorem Fo.ok_ren {L:List Int}(a:L.length<=1000000):∀ F:Fo,F.ok->(F.map (renI L)).ok
 | .nil,_=>trivial
 | .node c k r,⟨h1,h2,h3,h4,h5,h6⟩=>by
   refine⟨renI_ok a h1,by rw[renI_text];exact h2,fun e=>?_,fun e=>?_,Fo.ok_ren a k h5,Fo.ok_ren a r h6⟩
   ·rw[renI_kind] at e
    rw[Fo.count_map,renI,if_neg (by rw[e];decide)];exact h3 e
   ·rw[renI_kind] at e
    rw[h4 e];rfl
theorem idxOf_prefix {a b:List Int}(h:a <+: b){x:Int}(c:x ∈ a):b.idxOf x=a.idxOf x:=by
 obtain⟨t,rfl⟩:=h;rw[List.idxOf_append,if_pos c]
theorem putV_prefix (a:List Int)(x:Int):a <+: putV a x:=by unfold putV;split;exact List.prefix_rfl;exact List.prefix_append _ _
theorem putV_mem (a:List Int)(x:Int):x ∈ putV a x:=by unfold putV;split;assumption;simp
theorem putV_idx (a:List Int)(x:Int):(putV a x).idxOf x=a.idxOf x:=by
 unfold putV
 split
 ·rfl
 ·rename_i h
  rw[List.idxOf_append,if_neg h,List.idxOf_eq_length h];simp
theorem visitL_prefix (a:List Int)(c:Cel):a <+: visitL a c:=by unfold visitL;split;exact putV_prefix _ _;exact List.prefix_rfl
theorem visits_prefix:∀ (b:List Cel) (a:List Int),a <+: visits a b
 | [],a=>List.prefix_rfl
 | c :: r,a=>(visitL_prefix a c).trans (visits_prefix r (visitL a c))
structure RState (w:World)(nb mb:Nat)(ks:List Int):Prop where
 ncell:w.cell? ⟨nb,0,none⟩=some (.map (some mb))
 map:NumMap w mb ks
theorem RState.ne {w:World}{c b:Nat}{f:List Int}(h:RState w c b f):c≠b:=fun e=>by
 obtain⟨D,⟨g,a,d,_⟩,_⟩:=h.map;have:=h.ncell;rw[e] at this
 simp[World.cell?,d] at this
theorem RState.below {w w':World}{d c:Nat}{b:List Int}(h:RState w d c b)(a:Below w.heap.size w w'):RState w' d c b:=
 ⟨(a.cell (World.block_lt_of_cell? _ _ h.ncell)).trans h.ncell,h.map.of_block (a.block _ h.map.lt)⟩
theorem FoIn.kept {w i:World}{B g:Nat}{F:Fo}{d:List Value}(h:FoIn w B F d)(f:w.grownBy i (some g))(k:g<B):FoIn i B F d:=
 FoIn.imp (Nat.le_refl _) (fun b o j c=>World.cell?_of_block (w:=w) (a:=⟨b,o,none⟩) (f.block b c (fun e=>by have:=Option.some.inj e;omega))) f.size F d h
theorem grown_setR {w c:World}{b:Option Nat}(h:w.grownBy c b){a:Addr}(ha:w.heap.size<=a.block)(u:Value):w.grownBy (c.setCell a u) b:=
 ⟨h.os,h.tape,h.output,by simpa using h.size,fun k d e=>(Below.heap_setCell _ _ _ _ (by omega)).trans (h.block k d e)⟩
theorem grown_alloc {w b:World}{a:Option Nat}(h:w.grownBy b a)(o:Obj):w.grownBy (b.alloc o) a:=
 ⟨h.os,h.tape,h.output,by have:=h.size;simp;omega,fun k c d=>(Below.heap_alloc _ _ _ (by have:=h.size;omega)).trans (h.block k c d)⟩
theorem grown_below {B:Nat}{w b:World}{a:Nat}(d:w.grownBy b (some a))(c:B<=w.heap.size)(f:B<=a):Below B w b:=(Below.refl _ _).grown d c (fun k e=>by cases e;exact f)
theorem with_any (x:Int)(d g:Nat)(c:List Int)(w:World)(n:0<=x)(p:x<=1000000)(r:c.length<=100000)(f:RState w d g c) :
  Calls Tryz.prog 40 #[.int .i64 x,.pointer (some ⟨d,0,none⟩)] w fun e l=>e = .returned (.iface 65 (.int .i64 (c.idxOf x)))/\RState l d g (putV c x)/\w.grownBy l (some g):=by
 have i:=of_any g c x w n p (by omega) f.map;have m:=f.ncell;have b:=f.ne;have h:=hid b;have j:Hid _:=m;clear f b
 go_enter Tryz.func40,Tryz.ntmps40
 go_wp2_with fail;refine i.mono ?_;rintro e s ⟨rfl,q,k⟩;go_wp2_with fail;go_ret;exact⟨rfl,⟨(World.cell?_of_block (w:=w) (a:=⟨d,0,none⟩) (k.block d (World.block_lt_of_cell? _ _ j.o) (fun e=>h.o (Option.some.inj e)))).trans j.o,q⟩,k⟩
def ReplOut (w:World)(nb mb:Nat)(ks:List Int)(c:Cel)(k:Fo)(e:Ending)(w':World):Prop:=
 ∃ v,e = .returned v/\RState w' nb mb (visits ks (c :: k.cells))/\w.grownBy w' (some mb)/\∀ L,visits ks (c :: k.cells) <+: L->FoIn w' w.heap.size (.node (renI L c) (k.map (renI L)) .nil) [v]
theorem replace_any:∀ (N:Nat) (c:Cel) (k:Fo) (v:Value) (Bt z u:Nat) (m:List Int) (J w:World),k.cells.length<=N->(Fo.node c k .nil).ok->FoIn J Bt (.node c k .nil) [v]->Below J.heap.size J w->J.heap.size<=u->RState w z u m->m.length+1+k.cells.length<=100000->
  Calls Tryz.prog 39 #[v,.func (.func 40) #[] #[.pointer (some ⟨z,0,none⟩)]] w (ReplOut w z u m c k):=by
 intro N
 induction N using Nat.strongRecOn with
 | _ N ih=>
   intro c k v Bt z u m J w hN t x6 hw e7 K E
   obtain⟨v',vr,e,p,_⟩:=x6;obtain⟨rfl,rfl⟩:=List.cons.inj e
   rcases p with ⟨r,rfl⟩ | ⟨r,rfl⟩ | ⟨r,rfl⟩ | ⟨r,b,g,vs,rfl,l⟩
   ·have hk:k = .nil:=t.2.2.2.1 (by rw[r];decide)
    subst hk
    have hx:0<=c.2.1/\c.2.1<=1000000:=by have:=t.1;rw[r] at this;simp[cellB] at this;omega
    have HW:=with_any c.2.1 z u m w hx.1 hx.2 (by omega) K
    have n:Hid (∀ w',RState w' z u (putV m c.2.1)->w.grownBy w' (some u)->ReplOut w z u m c .nil (.returned (.iface 65 (.int .i64 (m.idxOf c.2.1)))) w'):=fun w' X Y=>by
     have e1:visits m (c :: Fo.nil.cells)=putV m c.2.1:=by simp[visits,Fo.cells,visitL,r]
     refine⟨_,rfl,by rw[e1];exact X,Y,fun L M=>⟨_,[],rfl,.inl ⟨by rw[renI_kind];exact r,?_⟩,rfl⟩⟩;rw[e1] at M;rw[renI,if_pos r,idxOf_prefix M (putV_mem _ _),putV_idx]
    obtain⟨x,S⟩:∃ x,x=c.2.1:=⟨_,rfl⟩
    obtain⟨ix,ei⟩:∃ ix,ix=m.idxOf c.2.1:=⟨_,rfl⟩
    rw[<-ei] at HW n;rw[<-S] at HW n ⊢;have n1:=isVar;clear ih t hw K hx S ei e E
    go_enter Tryz.func39,Tryz.ntmps39
    go_wp2_with fail;refine HW.mono ?_;rintro e w1 ⟨rfl,X,Y⟩;go_wp2_with fail;go_ret;exact n.o _ X Y
   ·have hk:k = .nil:=t.2.2.2.1 (by rw[r];decide)
    subst hk;have n1:=noVar_num;have n2:=noComp_num
    have hv:visits m (c :: Fo.nil.cells)=m:=by simp[visits,Fo.cells,visitL,r]
    have n:Hid (ReplOut w z u m c .nil (.returned (.iface 146 (.int .i64 c.2.1))) w):=⟨_,rfl,by rw[hv];exact K,⟨rfl,rfl,rfl,Nat.le_refl _,fun _ _ _=>rfl⟩,fun L _=>⟨_,[],rfl,.inr (.inl ⟨by rw[renI_kind];exact r,by rw[renI,if_neg (by rw[r];decide)]⟩),rfl⟩⟩
    obtain⟨x,S⟩:∃ x,x=Value.int .i64 c.2.1:=⟨_,rfl⟩
    rw[<-S] at n ⊢;clear ih t hw K S e E hv
    go_enter Tryz.func39,Tryz.ntmps39
    go_wp2_with fail;go_ret;exact n.o
   ·have hk:k = .nil:=t.2.2.2.1 (by rw[r];decide)
    subst hk;have n1:=noVar_atom;have n2:=noComp_atom
    have hv:visits m (c :: Fo.nil.cells)=m:=by simp[visits,Fo.cells,visitL,r]
    have n:Hid (ReplOut w z u m c .nil (.returned (.iface 55 (.string (strOfNums c.2.2)))) w):=⟨_,rfl,by rw[hv];exact K,⟨rfl,rfl,rfl,Nat.le_refl _,fun _ _ _=>rfl⟩,fun L _=>⟨_,[],rfl,.inr (.inr (.inl ⟨by rw[renI_kind];exact r,by rw[renI,if_neg (by rw[r];decide)]⟩)),rfl⟩⟩
    obtain⟨x,S⟩:∃ x,x=Value.string (strOfNums c.2.2):=⟨_,rfl⟩
    rw[<-S] at n ⊢;clear ih t hw K S e E hv
    go_enter Tryz.func39,Tryz.ntmps39
    go_wp2_with fail;go_ret;exact n.o
   ·have n1:=noVar_comp
    have n2:=isComp;have HC:=hid l;have U:vs.length=k.count:=FoIn.count _ _ l.2.2.2.2.2.2
    obtain⟨q,eq⟩:∃ q,q=vs.length:=⟨_,rfl⟩
    have HE:Hid (q=vs.length/\vs.length=k.count):=⟨eq,U⟩
    have hq:q<=100000:=by have:=Fo.count_le k;omega
    have HK:Hid k.ok:=t.2.2.2.2.1;have d0:=(hw.cell (World.block_lt_of_cell? _ _ l.2.2.1)).trans l.2.2.1;have d1:=(hw.cell (World.block_lt_of_cell? _ _ l.2.2.2.1)).trans l.2.2.2.1;rw[<-eq] at d1;have w4:Hid (b<J.heap.size):=World.block_lt_of_cell? _ _ l.2.2.1
    have k1:visitL m c=m:=by rw[visitL,if_neg (by rw[r];decide)]
    have e4:Hid (∀ cs,visits m (c :: cs)=visits m cs):=fun cs=>by rw[visits_cons,k1]
    have HS:=hid K;have HW:=hid hw;have h9:Hid _:=ih;have w6:=K.map.lt;have w7:z<w.heap.size:=World.block_lt_of_cell? _ _ K.ncell
    have w2:Hid (∀ L,renI L c=c):=fun L=>by rw[renI,if_neg (by rw[r];decide)]
    have H0:=hid r
    obtain⟨str,es⟩:∃ str,str=strOfNums c.2.2:=⟨_,rfl⟩
    rw[<-es] at d0;have h6:=hid es;obtain⟨i0,hi,k2,k3,k4⟩:=info_parts infoTerm
    have x8:q<=maxLen:=by unfold maxLen;omega
    clear ih t hw K e l eq U k1 es r
    go_enter Tryz.func39,Tryz.ntmps39
    go_wp2_with (at_make;refine wpList_make_full _ rfl _ _ 52 rfl w.heap.size 48 i0 .nilIface 1 Tryz.underlying52 hi k2 k3 _ _ _ _ q rfl rfl rfl rfl (by rw[k4];omega) x8 (Nat.le_refl _) ?_;intro w1 F f;have x4:=((World.cell?_of_block (w:=w) (a:=⟨b,0,none⟩) (f.block b (World.block_lt_of_cell? _ _ d0) (fun h=>by cases h)))).trans d0;have x5:=((World.cell?_of_block (w:=w) (a:=⟨b,1,none⟩) (f.block b (World.block_lt_of_cell? _ _ d1) (fun h=>by cases h)))).trans d1)
    have k8:Hid (w1.ownsRow w.heap.size 48 1 (.slice (some ⟨w.heap.size,0,none⟩) q q) q ([] ++ List.replicate (q-0) .nilIface)):=by
     have:=F
     simp[Value.cells,toList_madeCells_one] at this
     exact this
    have k6:Hid (w.grownBy w1 (some u)):=⟨f.os,f.tape,f.output,f.size,fun k hk _=>f.block k hk (fun h=>by cases h)⟩
    have x2:Hid (RState w1 z u m):=HS.o.below ((Below.refl _ _).grown f (Nat.le_refl _) (fun k h=>by cases h))
    have x9:w.heap.size+1<=w1.heap.size:=by have:=(F.lt w.heap.size rfl).2;omega
    clear F f hi k2 k3 k4 d0 d1 x4 x5
    go_loopw [31] (fun i wr=>∃ (D R:Fo) (us Q P:List Value) (j:Nat),j<=q/\i = .int .i64 j/\Hid (k=D.cat R/\vs=us ++ Q/\us.length=j/\P.length=j)/\Hid (FoIn J Bt R Q)/\Hid (RState wr z u (visits m D.cells))/\
     Hid (wr.ownsRow w.heap.size 48 1 (.slice (some ⟨w.heap.size,0,none⟩) q q) q (P ++ List.replicate (q-j) .nilIface))/\Hid (∀ L,visits m D.cells <+: L->FoIn wr (w.heap.size+1) (D.map (renI L)) P)/\Hid (w.grownBy wr (some u))/\w.heap.size+1<=wr.heap.size) (fun i _=>q-(intOf i).toNat)
    case atStart=>exact⟨.nil,k,[],vs,[],0,Nat.zero_le _,rfl,⟨rfl,rfl,rfl,rfl⟩,HC.o.2.2.2.2.2.2,x2,k8,fun L _=>rfl,k6,x9⟩
    case round=>
     obtain⟨D,R,us,Q,P,j,hj,rfl,n,HR,e3,HO,h8,HG,e8⟩:=hrel;have O:Below J.heap.size J wr:=HW.o.trans (grown_below HG.o HW.o.size e7)
     by_cases e6:j<q
     ·obtain⟨A,y,V,rfl⟩:∃ A y V,R = .node A y V:=by
       cases R with
       | nil=>
         have X:=n.o;have Y:Q = []:=HR.o;have h3:=HE.o.1;rw[X.2.1,Y,List.append_nil] at h3
         omega
       | node A y V=>exact⟨A,y,V,rfl⟩
      obtain⟨v,vr,rfl,p,G⟩:=HR.o;have s:=(Fo.ok_cat D (.node A y V)).1 (n.o.1▸HK.o)
      have x7:D.cells.length+(y.cells.length+V.cells.length+1)=k.cells.length:=by
       rw[n.o.1,Fo.cells_cat];simp[Fo.cells]
      have Z:J.cell? ⟨g,j,none⟩=some v:=by
       rw[HC.o.2.2.2.2.2.1 j (by rw[<-HE.o.1];exact e6),n.o.2.1]
       simp[List.getD,n.o.2.2.1]
      have c5:wr.cell? ⟨g,j,none⟩=some v:=(O.cell (World.block_lt_of_cell? _ _ Z)).trans Z;have e2:=h9.o y.cells.length (by omega) A y v Bt z u (visits m D.cells) J wr (Nat.le_refl _) ⟨s.2.1,s.2.2.1,s.2.2.2.1,s.2.2.2.2.1,s.2.2.2.2.2.1,trivial⟩ ⟨v,[],rfl,p,rfl⟩ O e7 e3.o (by have:=visits_len D.cells m;omega);obtain⟨vt,vx,rfl⟩:=p.iface;have x1:=hid G;clear s x7 Z O p G h9;go_wp2_with fail;refine e2.mono ?_;rintro e W ⟨v3,rfl,H,B,C⟩;obtain⟨nt,nx,rfl⟩:=(C _ List.prefix_rfl).iface;have h4:W.heap[w.heap.size]?=wr.heap[w.heap.size]?:=B.block w.heap.size (by omega) (fun e=>by have:=Option.some.inj e;omega)
      have e0:W.cell? ⟨w.heap.size,j,none⟩=some .nilIface:=by
       rw[World.cell?_of_block (w:=wr) (a:=⟨w.heap.size,j,none⟩) h4,HO.o.cellAt j (by omega),List.getElem?_append_right (by have:=n.o.2.2.2;omega),List.getElem?_replicate,if_pos (by have:=n.o.2.2.2;omega)]
      have e1:W.frozen? ⟨w.heap.size,j,none⟩=false:=(World.frozen?_of_block (w:=wr) (a:=⟨w.heap.size,j,none⟩) h4).trans (HO.o.frozenAt j);have k9:Hid (W.ownsRow w.heap.size 48 1 (.slice (some ⟨w.heap.size,0,none⟩) q q) q (P ++ List.replicate (q-j) .nilIface)):=HO.o.kept B (.inr (fun e=>by have:=Option.some.inj e;simp at this;omega))
      have HN:Hid (k=(D.cat (.node A y .nil)).cat V/\vs=(us ++ [Value.iface vt vx]) ++ vr/\(us ++ [Value.iface vt vx]).length=j+1/\(P ++ [Value.iface nt nx]).length=j+1):=⟨by rw[Fo.cat_assoc];exact n.o.1,by rw[n.o.2.1];simp,by simp[n.o.2.2.1],by simp[n.o.2.2.2]⟩
      have I:visits m (D.cat (.node A y .nil)).cells=visits (visits m D.cells) (A :: y.cells):=by rw[Fo.cells_cat,visits_append];simp[Fo.cells]
      have x3:Hid (RState (W.setCell ⟨w.heap.size,j,none⟩ (.iface nt nx)) z u (visits m (D.cat (.node A y .nil)).cells)):=by
       rw[I];exact⟨(World.cell?_setCell_other _ _ _ _ (fun e=>by have:=congrArg Addr.block e;simp at this;omega)).trans H.ncell,H.map.of_block (Below.heap_setCell _ _ _ _ (show u≠w.heap.size by omega))⟩
      have k5:Hid (∀ L,visits m (D.cat (.node A y .nil)).cells <+: L->FoIn (W.setCell ⟨w.heap.size,j,none⟩ (.iface nt nx)) (w.heap.size+1) ((D.cat (.node A y .nil)).map (renI L)) (P ++ [Value.iface nt nx])):=fun L M=>by
       rw[I] at M;rw[Fo.map_cat];exact(FoIn.cat _ _ _ _ ((h8.o L ((visits_prefix _ _).trans M)).kept B (by omega)) ((C L M).mono e8)).setCell (show w.heap.size<w.heap.size+1 by omega) _
      have k7:Hid (w.grownBy (W.setCell ⟨w.heap.size,j,none⟩ (.iface nt nx)) (some u)):=grown_setR (HG.o.trans B) (Nat.le_refl _) _;have e9:w.heap.size+1<=W.heap.size:=Nat.le_trans e8 B.size;clear H B C I e2 h4;go_wp2_with fail;go_roundw
      case rel=>exact⟨D.cat (.node A y .nil),V,us ++ [Value.iface vt vx],vr,P ++ [Value.iface nt nx],j+1,by omega,by go_num,HN,x1,x3,row_next k9.o n.o.2.2.2 e6 _,k5,k7,by simpa using e9⟩
      case measure=>simp[intOf];omega
     ·obtain rfl:j=q:=by omega
      obtain rfl:R = .nil:=by
       have X:=FoIn.count _ _ HR.o;have Y:=HE.o;rw[n.o.2.1,List.length_append] at Y;have h3:=n.o.2.2.1
       cases R with
       | nil=>rfl
       | node a b d=>simp[Fo.count] at X;omega
      have hD:D=k:=by have:=n.o.1;rw[Fo.cat_nil] at this;exact this.symm
      subst hD
      have x0:wr.cell? ⟨b,0,none⟩=some (.string str):=by
       rw[h6.o];exact(O.cell (World.block_lt_of_cell? _ _ HC.o.2.2.1)).trans HC.o.2.2.1
      have h5:=n.o.2.2.2;have w5:=hid h5
      have h7:Hid (ReplOut w z u m c D (.returned (.iface 101 (.pointer (some ⟨wr.heap.size,0,none⟩)))) (wr.alloc (Obj.cells #[Value.string str,Value.slice (some ⟨w.heap.size,0,none⟩) j j] 105))):=by
       have e5:Below wr.heap.size wr (wr.alloc (Obj.cells #[Value.string str,Value.slice (some ⟨w.heap.size,0,none⟩) j j] 105)):=(Below.refl _ _).alloc (Nat.le_refl _) _;refine⟨_,rfl,by rw[e4.o];exact e3.o.below e5,grown_alloc HG.o _,fun L M=>?_⟩;rw[e4.o] at M;have T:=heap_alloc_new wr (Obj.cells #[Value.string str,Value.slice (some ⟨w.heap.size,0,none⟩) j j] 105);refine⟨_,[],rfl,.inr (.inr (.inr ⟨by rw[renI_kind];exact H0.o,wr.heap.size,w.heap.size,P,rfl,by omega,Nat.le_refl _,by rw[renI_text,<-h6.o];exact cell_of_row _ _ 0 _ _ _ T,by rw[h5];exact cell_of_row _ _ 1 _ _ _ T,by simp;omega,fun i hi=>?_,?_⟩)),rfl⟩
       ·refine Lib.cell?_alloc_marked _ ?_
        rw[HO.o.cellAt i (by omega),List.getElem?_append_left (by omega)]
        simp[List.getD,hi]
       ·exact((h8.o L M).below e5).mono (by omega)
      clear h5;go_wp2_with fail;go_ret;exact h7.o
theorem renumber_any (c:Cel)(k:Fo)(v:Value)(h:Nat)(w:World)(d:(Fo.node c k .nil).ok)(a:FoIn w h (.node c k .nil) [v])(A:k.cells.length<=10000) :
  Calls Tryz.prog 20 #[v] w fun e q=>∃ p,e = .returned p/\FoIn q w.heap.size (.node (renI (visits [] (c :: k.cells)) c) (k.map (renI (visits [] (c :: k.cells)))) .nil) [p]/\Below w.heap.size w q:=by
 have x:=@run_makeMap Tryz.prog;obtain⟨C,D,rfl⟩:=a.iface;have f:Below w.heap.size w ((w.alloc (Obj.map #[] 0)).alloc (Obj.cells #[Value.map (some w.heap.size)] 94)):=((Below.refl _ _).alloc (Nat.le_refl _) _).alloc (by simp) _;have b:=heap_alloc_new (w.alloc (Obj.map #[] 0)) (Obj.cells #[Value.map (some w.heap.size)] 94)
 have j:(w.alloc (Obj.map #[] 0)).heap.size=w.heap.size+1:=by simp
 rw[j] at b
 have l:RState ((w.alloc (Obj.map #[] 0)).alloc (Obj.cells #[Value.map (some w.heap.size)] 94)) (w.heap.size+1) w.heap.size []:=⟨cell_of_row _ _ 0 _ _ _ b,(NumMap.made w).of_block (Below.heap_alloc _ _ _ (by simp))⟩
 have i:=replace_any k.cells.length c k _ h (w.heap.size+1) w.heap.size [] w _ (Nat.le_refl _) d a f (Nat.le_refl _) l (by simp;omega);have u:Hid _:=f;clear d a l f b j
 go_enter Tryz.func20,Tryz.ntmps20
 go_wp2_with fail;refine i.mono ?_;rintro e r ⟨B,rfl,g,n,m⟩;have a:=m _ List.prefix_rfl;obtain⟨y,z,rfl⟩:=a.iface;have t:Hid (FoIn r w.heap.size (.node (renI (visits [] (c :: k.cells)) c) (k.map (renI (visits [] (c :: k.cells)))) .nil) [.iface y z]):=a.mono (by simp;omega);have s:Hid (Below w.heap.size w r):=u.o.trans (grown_below n (by simp;omega) (Nat.le_refl _));clear m g n a i;go_wp2_with fail;go_ret;exact⟨_,rfl,t.o,s.o⟩
def renCells (cs:List Cel):List Cel:=cs.map (renI (visits [] cs))
end
section
open Go Go.RowKit
theorem l2copy_any (p:Option Addr)(n c:Nat)(a:List Cel)(w:World)(hn:n=a.length)(hl:a.length+tl a<=10000000)(C:CIn w p a) :
  Calls Tryz.prog 167 #[.slice p n c] w fun e I=>∃ q m u,e = .returned (.slice q m u)/\OwnC I w.heap.size q m u a/\Below w.heap.size w I:=by
 have HI:=hid C;have HN:=hid hn
 have h2:n<=10000000:=by omega
 clear C hn
 go_enter Tryz.func167,Tryz.ntmps167
 go_wp2_with fail
 go_loopw [3,4] (fun s i wr=>∃ (j:Nat) (q:Option Addr) (m u:Nat),j<=n/\m=j/\i = .int .i64 j/\s = .slice q m u/\Hid (OwnC wr w.heap.size q m u (a.take j))/\Hid (Below w.heap.size w wr)) (fun _ i _=>n-(intOf i).toNat)
 case atStart=>exact⟨0,none,0,0,Nat.zero_le _,rfl,rfl,rfl,OwnC.nil _ _,Below.refl _ _⟩
 case round=>
  obtain⟨j,q,m,u,hj,rfl,rfl,rfl,HO,K⟩:=hrel
  by_cases h1:m<n
  ·have h:m<a.length:=by rw[<-HN.o];exact h1
   obtain⟨b,o,rfl,v⟩:=HI.o (by omega);obtain⟨G,H,O,P,z,d3⟩:=(v m h).below K.o;have B:b<w.heap.size:=World.block_lt_of_cell? _ _ (v m h).choose_spec.choose_spec.1;have r:=hid B;have F:=tl_at a m h
   have L:Hid (a.take m ++ [((a.getD m Cel.none).1,(a.getD m Cel.none).2.1,(a.getD m Cel.none).2.2)]=a.take (m+1)):=by
    show _=_
    rw[List.take_succ_eq_append_getElem h,List.getD,List.getElem?_eq_getElem h];rfl
   obtain⟨S,A⟩:∃ x,x=(a.getD m Cel.none).2.2:=⟨_,rfl⟩
   obtain⟨M,e0⟩:∃ x,x=(a.getD m Cel.none).1:=⟨_,rfl⟩
   obtain⟨N,e1⟩:∃ x,x=(a.getD m Cel.none).2.1:=⟨_,rfl⟩
   rw[<-e0] at O L;rw[<-e1] at P L;rw[<-A] at z d3 L F
   obtain⟨t,et⟩:∃ t,t=S.length:=⟨_,rfl⟩
   rw[<-et] at z
   have U:Hid (∀ k,Calls Tryz.prog 219 #[.slice G t H] (wr.drewN k) fun e I=>∃ p' Q c',e = .returned (.slice p' Q c')/\OwnS I wr.heap.size p' Q c' S/\Below wr.heap.size (wr.drewN k) I):=fun k=>l1copy_all G t H S (wr.drewN k) et (by omega) d3
   have hB:w.heap.size<=wr.heap.size:=K.o.size;clear v F A e0 e1 et d3 B;go_wp2_with fail
   go_region_held3 (fun W=>W.cell? ⟨b,o+m * 3,none⟩=some (.int .i64 M)/\W.cell? ⟨b,o+m * 3+1,none⟩=some (.int .i64 N)/\W.cell? ⟨b,o+m * 3+2,none⟩=some (.slice G t H))
    (first | exact y | go_keep)
    (first
      | (go_at_call 219;refine(U.o 1).mono ?_;rintro e R ⟨p1,n1,Y,rfl,E,d⟩;have y:R.cell? ⟨b,o+m * 3,none⟩=some (.int .i64 M)/\R.cell? ⟨b,o+m * 3+1,none⟩=some (.int .i64 N)/\R.cell? ⟨b,o+m * 3+2,none⟩=some (.slice G t H):=⟨(d.cell (World.block_lt_of_cell? wr _ O)).trans O,(d.cell (World.block_lt_of_cell? wr _ P)).trans P,(d.cell (World.block_lt_of_cell? wr _ z)).trans z⟩)
      | (refine step_app_cell wr _ rfl _ _ rfl w.heap.size q m u (a.take m) rfl HO.o (((below_drewN (Below.refl _ wr) 1).trans d).alloc d.size _) hB ⟨R.heap.size,0,none⟩ 1 rfl M N p1 n1 Y S (E.toT.below ((Below.refl _ _).alloc (Nat.le_refl _) _)) (news_rc (Box3.of_block (t:=27) (heap_alloc_new _ _))) (by omega) ?_;intro g Q Z J l f D;have y:J.cell? ⟨b,o+m * 3,none⟩=some (.int .i64 M)/\J.cell? ⟨b,o+m * 3+1,none⟩=some (.int .i64 N)/\J.cell? ⟨b,o+m * 3+2,none⟩=some (.slice G t H):=⟨(f.cell r.o).trans (Lib.cell?_alloc_marked _ y.1),(f.cell r.o).trans (Lib.cell?_alloc_marked _ y.2.1),(f.cell r.o).trans (Lib.cell?_alloc_marked _ y.2.2)⟩))
   have X:Hid (OwnC J w.heap.size (some ⟨g,0,none⟩) Q Z (a.take (m+1))):=by rw[<-L.o];exact l
   have T:Hid (Below w.heap.size w J):=((K.o.trans (((below_drewN (Below.refl _ wr) 1).trans d).mono hB)).alloc (Nat.le_trans hB d.size) _).trans f;have V:=hid D.o;clear l f D y E d O P z;go_wp2_with fail;go_roundw
   case rel=>exact⟨m+1,_,_,_,by omega,V.o,by go_num,rfl,X,T⟩
   case measure=>simp[intOf];omega
  ·obtain rfl:m=n:=by omega
   go_wp2_with fail;go_ret;refine⟨_,_,_,rfl,?_,K.o⟩;have:=HO.o
   rwa[List.take_of_length_le (by rw[<-HN.o];exact Nat.le_refl _)] at this
end
section
end
section
open Go Go.RowKit Go.Maps
end
section
open Go Go.RowKit
def kS (k:Int)(css:List (List Cel))(j:Nat):Int:=(css.take j).foldl endC k
theorem one_iface (t:TypeId)(x:Value):∀ u ∈ [Value.iface t x],u.oneCell'=true:=fun u a=>by simp at a;rw[a];rfl
def SplitOut (w0:World)(Bt:Nat)(w:World)(c:Cel)(k:Fo)(e:Ending)(w':World):Prop:=
 ∃ p n cp v vs,e = .returned (.tuple #[.slice p n cp,v])/\n=(splitF c k).1.length/\w'.ownsRow w.heap.size 48 1 (.slice p n cp) n vs/\FoIn w0 Bt (itsF (splitF c k).1) vs/\FoIn w0 Bt (.node (splitF c k).2.1 (splitF c k).2.2 .nil) [v]/\
   (itsF (splitF c k).1).ok/\(Fo.node (splitF c k).2.1 (splitF c k).2.2 .nil).ok/\Below w.heap.size w w'
theorem splitList_any (c:Cel)(k:Fo)(v:Value)(Z:Nat)(B w:World)(k3:(Fo.node c k .nil).ok)(h4:FoIn B Z (.node c k .nil) [v])(hw:Below B.heap.size B w)(hl:k.cells.length<=10000) :
  Calls Tryz.prog 23 #[v] w (SplitOut B Z w c k):=by
 obtain⟨x7,x8,rfl⟩:=h4.iface;have h9:=hid h4;have e4:Hid (Fo.node c k .nil).ok:=k3;have HW:=hid hw;have k4:=hw.size;clear h4 k3 hw
 go_enter Tryz.func23,Tryz.ntmps23
 go_wp2_with fail
 go_loopw [0,4] (fun t s wr=>∃ (n:List (Cel×Fo)) (l:Cel) (E:Fo) (X:TypeId) (Y:Value) (vs:List Value) (p4:Option Addr) (A c4:Nat),A+E.cells.length<=10000/\t = .iface X Y/\s = .slice p4 A c4/\Hid (splitF c k=(n ++ (splitF l E).1,(splitF l E).2)/\A=n.length)/\
  Hid (FoIn B Z (.node l E .nil) [.iface X Y])/\Hid ((Fo.node l E .nil).ok/\(itsF n).ok)/\Hid (FoIn B Z (itsF n) vs)/\Hid (wr.ownsRow w.heap.size 48 1 (.slice p4 A c4) A vs)/\Hid (Below w.heap.size w wr)) (fun _ s _=>10001-lenOf s)
 case atStart=>exact⟨[],c,k,x7,x8,[],none,0,0,by omega,rfl,rfl,⟨rfl,rfl⟩,h9,⟨e4.o,trivial⟩,rfl,World.ownsRow_nil _ _ _ _,Below.refl _ _⟩
 case round=>
  obtain⟨n,l,E,X,Y,vs,p4,A,c4,e9,rfl,rfl,HF,Q,D,N,O,HB⟩:=hrel
  have V:∀ W,Below wr.heap.size wr W->splitF l E=([],(l,E))->SplitOut B Z w c k (.returned (.tuple #[.slice p4 A c4,.iface X Y])) W:=fun W hW h=>by
   have j:=HF.o.1;rw[h,List.append_nil] at j;refine⟨p4,A,c4,_,vs,rfl,by rw[j];exact HF.o.2,row_below O.o hW,by rw[j];exact N.o,by rw[j];exact Q.o,by rw[j];exact D.o.2,by rw[j];exact D.o.1,Below.on HB.o hW⟩
  have d:Hid _:=V;clear V;obtain⟨v',vr,e,h7,_⟩:=Q.o;obtain⟨rfl,rfl⟩:=List.cons.inj e;clear e
  have f:∀ c0,l.1=c0->c0≠3->splitF l E=([],(l,E)):=fun c0 j L=>splitF_other _ _ (fun e=>L (by rw[<-j,e];rfl))
  rcases h7 with ⟨r,z⟩ | ⟨r,z⟩ | ⟨r,z⟩ | ⟨r,b,g,kv,z,a⟩
  ·obtain⟨rfl,rfl⟩:X=65/\Y = .int .i64 l.2.1:=by injection z with j L;exact⟨j,L⟩
   have C:Hid _:=d.o wr (Below.refl _ _) (f 0 r (by decide));have n1:=noComp_var
   obtain⟨x,R⟩:∃ x,x=Value.int .i64 l.2.1:=⟨_,rfl⟩
   rw[<-R] at C ⊢;clear f r z R d Q N O D;go_wp2_with fail
   go_ret2
   exact C.o
  ·obtain⟨rfl,rfl⟩:X=146/\Y = .int .i64 l.2.1:=by injection z with j L;exact⟨j,L⟩
   have C:Hid _:=d.o wr (Below.refl _ _) (f 1 r (by decide));have n1:=noComp_num
   obtain⟨x,R⟩:∃ x,x=Value.int .i64 l.2.1:=⟨_,rfl⟩
   rw[<-R] at C ⊢;clear f r z R d Q N O D;go_wp2_with fail
   go_ret2
   exact C.o
  ·obtain⟨rfl,rfl⟩:X=55/\Y = .string (strOfNums l.2.2):=by injection z with j L;exact⟨j,L⟩
   have C:Hid _:=d.o wr (Below.refl _ _) (f 2 r (by decide));have n1:=noComp_atom
   obtain⟨x,R⟩:∃ x,x=Value.string (strOfNums l.2.2):=⟨_,rfl⟩
   rw[<-R] at C ⊢;clear f r z R d Q N O D;go_wp2_with fail
   go_ret2
   exact C.o
  ·obtain⟨rfl,rfl⟩:X=101/\Y = .pointer (some ⟨b,0,none⟩):=by injection z with j L;exact⟨j,L⟩
   have n1:=isComp;have u:Below B.heap.size B wr:=HW.o.trans (HB.o.mono k4);have H:=FoIn.count _ _ a.2.2.2.2.2.2;have M:=D.o.1.2.2.1 r
   obtain⟨q,eq⟩:∃ q,q=kv.length:=⟨_,rfl⟩
   have d0:=(u.cell (World.block_lt_of_cell? _ _ a.2.2.1)).trans a.2.2.1;have d1:=(u.cell (World.block_lt_of_cell? _ _ a.2.2.2.1)).trans a.2.2.2.1;rw[<-eq] at d1;have p:=str_eq D.o.1.2.1 [46]
   have F:Hid (l.2.1=q):=by show _=_;rw[M,<-H,eq]
   obtain⟨str,es⟩:∃ str,str=strOfNums l.2.2:=⟨_,rfl⟩
   rw[<-es] at d0 p;have K:=functor_any b g q str wr d0 d1;have HC:=hid a
   have w4:q<=10000:=by have:=Fo.count_le E;omega
   by_cases U:l.2.2 = [46]
   ·have x5:str.toList = [46]:=p.2 (by rw[U];rfl)
    by_cases hq:q=2
    ·have S:l=dot:=by
      have j:=F.o;obtain⟨a1,a2,a3⟩:=l;simp only at r U j;rw[r,U,j,hq];rfl
     obtain⟨c1,k1,c2,k2,rfl⟩:=two_of (k:=E) (by rw[<-H,<-eq,hq]);obtain⟨v1,w6,e1,h5,v2,x6,e2,h6,e3⟩:=a.2.2.2.2.2.2;have x3:x6 = []:=e3;subst x3 e2;subst e1;obtain⟨t1,x1,rfl⟩:=h5.iface;obtain⟨t2,x2,rfl⟩:=h6.iface;have g0:=(u.cell (World.block_lt_of_cell? _ _ (a.2.2.2.2.2.1 0 (by simp)))).trans (a.2.2.2.2.2.1 0 (by simp));have g1:=(u.cell (World.block_lt_of_cell? _ _ (a.2.2.2.2.2.1 1 (by simp)))).trans (a.2.2.2.2.2.1 1 (by simp));simp only[List.getD_cons_zero,List.getD_cons_succ] at g0 g1
     have HG:Hid (b<B.heap.size/\g<B.heap.size):=⟨World.block_lt_of_cell? _ _ a.2.2.1,a.2.2.2.2.1⟩
     have i:Hid (splitF c k=((n ++ [(c1,k1)]) ++ (splitF c2 k2).1,(splitF c2 k2).2)/\FoIn B Z (.node c2 k2 .nil) [.iface t2 x2]/\((Fo.node c2 k2 .nil).ok/\(itsF (n ++ [(c1,k1)])).ok)/\FoIn B Z (itsF (n ++ [(c1,k1)])) (vs ++ [.iface t1 x1])/\(n ++ [(c1,k1)]).length=A+1):=by
      have T:=D.o.1.2.2.2.2.1;refine⟨?_,⟨_,[],rfl,h6,rfl⟩,⟨T.2.2.2.2.2,?_⟩,?_,by simp[HF.o.2]⟩
      ·rw[HF.o.1,S,splitF_dot];simp
      ·rw[itsF_snoc,Fo.ok_cat]
       exact⟨D.o.2,T.1,T.2.1,T.2.2.1,T.2.2.2.1,T.2.2.2.2.1,trivial⟩
      ·rw[itsF_snoc]
       exact FoIn.cat _ _ _ _ N.o ⟨_,[],rfl,h5,rfl⟩
     have x4:A+1+k2.cells.length<=10000:=by simp[Fo.cells] at e9;omega
     subst hq;have P:=hid O.o;have w1:w.heap.size<=wr.heap.size:=HB.o.size;obtain⟨i0,hi,k5,k6,k7⟩:=info_parts infoTerm;have h3:=hid k4;clear f r z d Q D N O HF a H M eq es p U S h5 h6 e3 u F e9 h9 e4;go_wp2_with fail;refine K.mono ?_;rintro e J ⟨rfl,m⟩;have f0:=(m.cell (World.block_lt_of_cell? _ _ d1)).trans d1;have f1:=(m.cell (World.block_lt_of_cell? _ _ g0)).trans g0;have f2:=(m.cell (World.block_lt_of_cell? _ _ g1)).trans g1;have e5:=hid (row_below P.o m);have h8:=hid (Below.on HB.o m);have e7:w.heap.size<=J.heap.size:=h8.o.size;clear d0 d1 g0 g1 m P K;go_wp2_with fail
     go_region_held3 (fun W=>W.cell? ⟨b,1,none⟩=some (.slice (some ⟨g,0,none⟩) 2 2)/\W.cell? ⟨g,0,none⟩=some (.iface t1 x1)/\W.cell? ⟨g,1,none⟩=some (.iface t2 x2))
      (first | exact kk | go_keep)
      ((refine step_append_lies _ rfl _ _ 52 rfl w.heap.size 48 i0 .nilIface 1 16 Tryz.underlying52 hi k5 k6 k7 rfl (by decide) (.slice p4 A c4) A vs rfl (World.ownsRow.alloc (w:=J.drew) e5.o _) ⟨J.heap.size,0,none⟩ 1 1 [.iface t1 x1] rfl rfl (cell_one_new (J.drew) _ _) (one_iface t1 x1) (by decide) (by unfold maxLen;omega) (by omega) (by simp;omega) _ rfl ?_;intro g5 e6 w5 I y e8 x9;have G:Below w.heap.size (J.drew.alloc (Obj.cells #[.iface t1 x1] 48)) w5:=(Below.refl _ _).grown y (by simp;omega) (fun k T=>(e5.o.lt k T).1);have kk:w5.cell? ⟨b,1,none⟩=some (.slice (some ⟨g,0,none⟩) 2 2)/\w5.cell? ⟨g,0,none⟩=some (.iface t1 x1)/\w5.cell? ⟨g,1,none⟩=some (.iface t2 x2):=⟨(G.cell (show b<w.heap.size by have:=HG.o;have:=h3.o;omega)).trans (Lib.cell?_alloc_marked (W:=J.drew) _ f0),(G.cell (show g<w.heap.size by have:=HG.o;have:=h3.o;omega)).trans (Lib.cell?_alloc_marked (W:=J.drew) _ f1),(G.cell (show g<w.heap.size by have:=HG.o;have:=h3.o;omega)).trans (Lib.cell?_alloc_marked (W:=J.drew) _ f2)⟩))
     have k9:=hid I;have k8:Hid (Below w.heap.size w w5):=((h8.o.drew).alloc e7 _).trans G;clear I y e8 G kk f0 f1 f2 hi k5 k6 k7;go_wp2_with fail;go_roundw
     case rel=>exact⟨n ++ [(c1,k1)],c2,k2,t2,x2,vs ++ [Value.iface t1 x1],_,A+1,e6,x4,rfl,rfl,⟨i.o.1,i.o.2.2.2.2.symm⟩,i.o.2.1,i.o.2.2.1,i.o.2.2.2.1,k9,k8⟩
     case measure=>simp[lenOf];omega
    ·have w3:¬ ((q:Int)=2):=by omega
     have C:Hid _:=fun W hW=>d.o W hW (splitF_other _ _ (fun e=>hq (by have j:=F.o;rw[e] at j;simp[dot] at j;omega)))
     clear f r z d Q D N O HF a H M eq es p U hq F u d0 d1;go_wp2_with fail;refine K.mono ?_;rintro e J ⟨rfl,m⟩;go_wp2_with fail
     go_ret2
     exact C.o _ m
   ·have x5:¬ str.toList = [46]:=fun h=>U (by have:=p.1 h;simpa using this)
    have C:Hid _:=fun W hW=>d.o W hW (splitF_other _ _ (fun e=>U (by rw[e];rfl)))
    clear f r z d Q D N O HF a H M eq es p U F u d0 d1;go_wp2_with fail;refine K.mono ?_;rintro e J ⟨rfl,m⟩;go_wp2_with fail
    go_ret2
    exact C.o _ m
theorem FoIn.at_ {w:World}{B:Nat} : ∀ (b:List (Cel×Fo)) (c:List Value),FoIn w B (itsF b) c->∀ i (h:i<b.length),∃ t x,c[i]?=some (.iface t x)/\FoIn w B (.node b[i].1 b[i].2 .nil) [.iface t x]
 | [],c,_,i,h=>by simp at h
 | a :: r,c,⟨v,vr,e,hn,hr⟩,0,_=>by
   obtain⟨t,x,rfl⟩:=hn.iface;exact⟨t,x,by rw[e];rfl,_,[],rfl,hn,rfl⟩
 | a :: r,c,⟨v,vr,e,hn,hr⟩,i+1,h=>by
   obtain⟨t,x,d,f⟩:=FoIn.at_ r vr hr i (by simpa using h);exact⟨t,x,by rw[e];simpa using d,by simpa using f⟩
theorem neq_atom (w:World)(a b:ByteArray):(binOp .neq 48 (.iface 55 (.string a)) (.iface 55 (.string b))).run Tryz.prog w = .ok (.bool (!(a == b))) w:=by kernel_rfl
theorem neq_var (w:World)(x:Value)(b:ByteArray):(binOp .neq 48 (.iface 65 x) (.iface 55 (.string b))).run Tryz.prog w = .ok (.bool true) w:=by kernel_rfl
theorem neq_num (w:World)(x:Value)(b:ByteArray):(binOp .neq 48 (.iface 146 x) (.iface 55 (.string b))).run Tryz.prog w = .ok (.bool true) w:=by kernel_rfl
theorem neq_comp (w:World)(x:Value)(b:ByteArray):(binOp .neq 48 (.iface 101 x) (.iface 55 (.string b))).run Tryz.prog w = .ok (.bool true) w:=by kernel_rfl
def itemsR (c:Cel)(k:Fo):List (List Cel)×Int:=if (splitF c k).2.1=nilC then((splitF c k).1.map itC,0) else([],4)
def ItemsOut (w:World)(css:List (List Cel))(code:Int)(e:Ending)(w':World):Prop:=
 ∃ p n cp,e = .returned (.tuple #[.slice p n cp,.int .i64 code])/\OwnCC w' w.heap.size w'.heap.size p n cp css/\Below w.heap.size w w'
theorem end_neq {w:World}{o:Nat}{c:Cel}{k:Fo}{t:TypeId}{x:Value}(n:(Fo.node c k .nil).ok)(h:FoIn w o (.node c k .nil) [.iface t x])(W:World) :
  (binOp .neq 48 (.iface t x) (.iface 55 (.string ⟨#[91,93]⟩))).run Tryz.prog W = .ok (.bool (!decide (c=nilC))) W:=by
 obtain⟨s,u,e,i,_⟩:=h;obtain⟨rfl,rfl⟩:=List.cons.inj e
 have l:c.1≠2->(!decide (c=nilC))=true:=fun f=>by
  have:c≠nilC:=fun e=>f (by rw[e];rfl)
  simpa using this
 rcases i with ⟨f,j⟩ | ⟨f,j⟩ | ⟨f,j⟩ | ⟨f,b,g,r,j,_⟩
 ·rw[j,neq_var,l (by rw[f];decide)]
 ·rw[j,neq_num,l (by rw[f];decide)]
 ·have m:c.2.1=0:=by have:=n.1;rw[f] at this;simp[cellB] at this;exact this.2
  have p:=str_beq n.2.1 [91,93];rw[j,neq_atom]
  have q:(strOfNums c.2.2 == (⟨#[91,93]⟩:ByteArray))=decide (c=nilC):=by
   rw[p]
   congr 1
   rw[eq_iff_iff]
   constructor
   ·intro h
    obtain⟨a,b,d⟩:=c;simp only at f m h;rw[f,m,h];rfl
   ·intro h;rw[h];rfl
  rw[q]
 ·rw[j,neq_comp,l (by rw[f];decide)]
theorem implItems_any (B:List Cel)(p:Option Addr)(n q:Nat)(c:Cel)(k:Fo)(w:World)(e2:(Fo.node c k .nil).ok)(K:B=c :: k.cells)(d:B.length<=2000)(e3:validB B=true)(hn:n=B.length)(hc:n<=q)(hm:q<=9223372036854775807)(M:CIn w p B) :
  Calls Tryz.prog 10 #[.slice p n q] w (ItemsOut w (itemsR c k).1 (itemsR c k).2):=by
 subst hn;have HV:=implValid_any p q B w (by omega) M;rw[e3] at HV;have HI:=hid M
 have m:Hid ((Fo.node c k .nil).ok/\B=c :: k.cells):=⟨e2,K⟩
 have k7:k.cells.length<=10000:=by rw[K] at d;simp at d;omega
 have V:Hid _:=split_size k.cells.length c k (Nat.le_refl _);clear M e2 K e3
 go_enter Tryz.func10,Tryz.ntmps10
 go_wp2_with fail;refine HV.mono ?_;rintro e w1 ⟨rfl,I⟩;have e7:=hid I;have HT:=termOf_any c k p B.length q w1 m.o.1 (by rw[m.o.2];simp) hc (by omega) (by rw[<-m.o.2];exact HI.o.below I);clear I HV;go_wp2_with fail;refine HT.mono ?_;rintro e w2 ⟨v,rfl,L,h5⟩;have e8:=hid (Below.on e7.o h5);have U:=splitList_any c k v _ w2 w2 m.o.1 L (Below.refl _ _) k7;obtain⟨vt,vx,rfl⟩:=L.iface;clear L h5 HT;go_wp2_with fail;refine U.mono ?_;rintro e y ⟨ps,ns,x1,ve,vs,rfl,h9,F,C,t,E,D,J⟩;obtain⟨et,ex,rfl⟩:=t.iface
 have f:=fun W=>end_neq D t W
 have G:=hid (Below.on e8.o J);have k4:=hid J;have R:Hid _:=C;have T:Hid (itsF (splitF c k).1).ok:=E;have S:=hid h9;have A:=hid F
 have k9:ns<=2000:=by
  have h1:=V.o.1
  have h2:∀ l:List (Cel×Fo),l.length<=(l.map (fun x=>(itC x).length)).sum:=fun l=>by
   induction l with
   | nil=>simp
   | cons a r ih=>simp only[List.map_cons,List.sum_cons,List.length_cons,itC];simp only[itC,List.length_cons] at ih;omega
  have h3:=h2 (splitF c k).1;have h4:=m.o.2;rw[h4] at d
  simp at d
  omega
 have Z:w.heap.size<=y.heap.size:=G.o.size;clear J C t E D h9 F U
 by_cases O:(splitF c k).2.1=nilC
 ·have N:∀ W,(binOp .neq 48 (.iface et ex) (.iface 55 (.string ⟨#[91,93]⟩))).run Tryz.prog W = .ok (.bool false) W:=fun W=>by rw[f W];simp[O]
  have HR:Hid (itemsR c k=((splitF c k).1.map itC,0)):=by show _=_;rw[itemsR,if_pos O]
  clear f O;go_wp2_with fail
  go_loopw [6,23] (fun s i wr=>∃ (j:Nat) (p4:Option Addr) (b X:Nat),j<=ns/\b=j/\i = .int .i64 j/\s = .slice p4 b X/\Hid (OwnCC wr y.heap.size wr.heap.size p4 b X (((splitF c k).1.take j).map itC))/\Hid (Below y.heap.size y wr)) (fun _ i _=>ns-(intOf i).toNat)
  case atStart=>exact⟨0,none,0,0,Nat.zero_le _,rfl,rfl,rfl,OwnCC.nil _ _ _,Below.refl _ _⟩
  case round=>
   obtain⟨j,p4,b,X,hj,rfl,rfl,rfl,HO,P⟩:=hrel
   by_cases k8:b<ns
   ·have z:b<(splitF c k).1.length:=by rw[<-S.o];exact k8
    obtain⟨g,cc,hv,x2,k6⟩:=A.o.form (by omega);simp only[Value.slice.injEq,true_and] at hv;obtain⟨rfl,rfl⟩:=hv;obtain⟨it,ix,e4,e5⟩:=FoIn.at_ _ _ R.o b z;have d0:wr.cell? ⟨g,b,none⟩=some (.iface it ix):=(P.o.cell (p:=⟨g,b,none⟩) k6).trans ((A.o.cellAt b (by omega)).trans e4);have e6:=(e5.below k4.o).below P.o;have Q:=cellsOf_any _ _ _ _ wr (itsF_ok_at _ T.o b z) e6 (by have:=V.o.2 _ (List.getElem_mem z);omega)
    have HX:Hid (((splitF c k).1.take b).map itC ++ [itC (splitF c k).1[b]]=((splitF c k).1.take (b+1)).map itC):=by
     show _=_
     rw[List.take_succ_eq_append_getElem z,List.map_append];rfl
    have k5:y.heap.size<=wr.heap.size:=P.o.size;clear e4 e5 e6;go_wp2_with fail;refine Q.mono ?_;rintro e w5 ⟨q5,m5,c5,rfl,e1,h6⟩;have k2:=hid e1;have H:=hid h6;clear e1 h6 Q d0;go_wp2_with (at_builtin;refine app_item wr w5 rfl _ _ rfl y.heap.size p4 b X _ rfl HO.o H.o k5 q5 m5 c5 _ k2.o rfl (by omega) ?_;intro g6 n6 Y w6 u h7 h8)
    have k3:Hid (OwnCC w6 y.heap.size w6.heap.size (some ⟨g6,0,none⟩) n6 Y (((splitF c k).1.take (b+1)).map itC)):=by rw[<-HX.o];exact u
    have e9:Hid (Below y.heap.size y w6):=(Below.on P.o (H.o.alloc H.o.size _)).trans h7;have k1:=hid h8.o;clear u h7 h8;go_roundw
    case rel=>exact⟨b+1,_,_,_,by omega,k1.o,by go_num,rfl,k3,e9⟩
    case measure=>simp[intOf];omega
   ·obtain rfl:b=ns:=by omega
    have h:Hid (ItemsOut w (itemsR c k).1 (itemsR c k).2 (.returned (.tuple #[.slice p4 b X,.int .i64 0])) wr):=by
     rw[HR.o];refine⟨_,_,_,rfl,?_,G.o.trans (P.o.mono Z)⟩;have:=HO.o.down Z
     rwa[List.take_of_length_le (by rw[<-S.o];exact Nat.le_refl _)] at this
    go_wp2_with fail
    go_ret2
    exact h.o
 ·have N:∀ W,(binOp .neq 48 (.iface et ex) (.iface 55 (.string ⟨#[91,93]⟩))).run Tryz.prog W = .ok (.bool true) W:=fun W=>by rw[f W];simp[O]
  have h:Hid (ItemsOut w (itemsR c k).1 (itemsR c k).2 (.returned (.tuple #[.slice none 0 0,.int .i64 4])) y):=by
   show ItemsOut _ _ _ _ _
   rw[itemsR,if_neg O];exact⟨_,_,_,rfl,OwnCC.nil _ _ _,G.o⟩
  clear f O;go_wp2_with fail
  go_ret2
  exact h.o
theorem conv_dot (w:World):(convert 22 22 (.slice (some ⟨w.heap.size,0,none⟩) 1 1)).run Tryz.prog (w.alloc (.cells #[.int .u8 46] 5)) = .ok (.slice (some ⟨w.heap.size,0,none⟩) 1 1) (w.alloc (.cells #[.int .u8 46] 5 (1,2))):=
 Lib.run_convert_bytes_const (P:=Tryz.prog) w 22 5 #[.int .u8 46] 1 1 Tryz.underlying22 Tryz.underlying5
theorem dot_text (w:World):OwnT (w.alloc (.cells #[.int .u8 46] 5 (1,2))) w.heap.size (some ⟨w.heap.size,0,none⟩) 1 1 [46]:=⟨rfl,fun _=>⟨w.heap.size,rfl,Nat.le_refl _,by simp,fun i b=>by
 have a:i=0:=by omega
 subst a;refine⟨cell_of_row _ _ 0 _ _ _ (heap_alloc_new _ _),?_⟩;simp only[World.frozen?,heap_alloc_new]
 simp⟩⟩
def mkL (css:List (List Cel)):List Cel:=css.flatMap (fun cs=>dot :: cs)
theorem mkL_take (a:List (List Cel))(j:Nat)(h:j<a.length):mkL (a.take (j+1))=mkL (a.take j) ++ [dot] ++ a.getD j []:=by
 rw[mkL,List.take_succ_eq_append_getElem h,List.flatMap_append,List.getD,List.getElem?_eq_getElem h]
 simp[mkL]
theorem l2listE_any (a:List (List Cel))(S:List Cel)(p q:Option Addr)(n c le cq:Nat)(w:World)(Z:le=S.length)(h3:0<le)(Y:le+tl S<=1000000)(hn:n=a.length)(hl:n<=2000)(h6:∀ i,i<a.length->0<(a.getD i []).length)(hb:a.length+tll a<=1048576)(x3:(mkL a).length<=1000000)(X:CCIn w p a)(D:CIn w q S) :
  Calls Tryz.prog 106 #[.slice p n c,.slice q le cq] w fun e w'=>∃ r m y,e = .returned (.slice r m y)/\OwnC w' w.heap.size r m y (mkL a ++ S)/\Below w.heap.size w w':=by
 have HI:=hid X;have HE:=hid D;have E:=hid Z;have e2:=hid Y
 have k4:le<=1000000:=by omega
 have HN:=hid hn;have e5:Hid _:=h6;have k9:=conv_dot;clear X D hn h6 Z Y
 go_enter Tryz.func106,Tryz.ntmps106
 go_wp2_with fail
 go_loopw [5,6] (fun s i wr=>∃ (j:Nat) (r:Option Addr) (m y:Nat),j<=n/\m<=1000000/\i = .int .i64 j/\s = .slice r m y/\Hid (OwnC wr w.heap.size r m y (mkL (a.take j)))/\Hid (Below w.heap.size w wr)) (fun _ i _=>n-(intOf i).toNat)
 case atStart=>exact⟨0,none,0,0,Nat.zero_le _,by decide,rfl,rfl,OwnC.nil _ _,Below.refl _ _⟩
 case round=>
  obtain⟨j,r,m,y,hj,hm,rfl,rfl,HO,HB⟩:=hrel;have H:w.heap.size<=wr.heap.size:=HB.o.size
  by_cases k2:j<n
  ·have B:j<a.length:=by rw[<-HN.o];exact k2
   have V:Below wr.heap.size wr (wr.alloc (.cells #[.int .u8 46] 5 (1,2))):=(Below.refl _ _).alloc (Nat.le_refl _) _;have Q:=hid (dot_text wr);obtain⟨b,o,rfl,C⟩:=HI.o (by omega);obtain⟨qi,ci,x0,x1⟩:=C j B;have e9:=hid x1;have k1:=tll_at a j B;have h7:=e5.o j B
   obtain⟨K,G⟩:∃ K,K=(a.getD j []).length:=⟨_,rfl⟩
   have N:=hid G
   have x2:0<K:=by omega
   have k5:K<=1048576:=by omega
   rw[<-G] at x0;have X0:=hid x0
   have h9:Hid ((a.getD j []).length+tl (a.getD j [])<=1048576):=by show _<=_;omega
   have e3:Hid _:=mkL_take a j B
   have e4:Hid ((mkL (a.take (j+1))).length<=1000000):=by
    have h1:mkL a=mkL (a.take (j+1)) ++ mkL (a.drop (j+1)):=by rw[mkL,mkL,mkL,<-List.flatMap_append,List.take_append_drop]
    have h2:=congrArg List.length h1;rw[List.length_append] at h2
    show _<=_
    omega
   clear C x1 k1 h7 G x0;have l:Below (wr.alloc (.cells #[.int .u8 46] 5 (1,2))).heap.size (wr.alloc (.cells #[.int .u8 46] 5 (1,2))) ((wr.alloc (.cells #[.int .u8 46] 5 (1,2))).alloc (Obj.cells #[Value.int IntKind.i64 3,Value.int IntKind.i64 2,Value.slice (some ⟨wr.heap.size,0,none⟩) 1 1] 27)):=(Below.refl _ _).alloc (Nat.le_refl _) _;have M:=hid (Below.on V l);have e8:=hid (Q.o.below l)
   have v:=heap_alloc_new (wr.alloc (.cells #[.int .u8 46] 5 (1,2))) (Obj.cells #[Value.int IntKind.i64 3,Value.int IntKind.i64 2,Value.slice (some ⟨wr.heap.size,0,none⟩) 1 1] 27)
   have T:(wr.alloc (.cells #[.int .u8 46] 5 (1,2))).heap.size=wr.heap.size+1:=by simp
   rw[T] at v;have e1:=hid (Box3.of_block (t:=27) v);clear V l v T Q;go_wp2_with (at_builtin;refine app_cell wr _ rfl _ _ rfl w.heap.size r m y _ rfl HO.o M.o H ⟨wr.heap.size+1,0,none⟩ 1 rfl 3 2 (some ⟨wr.heap.size,0,none⟩) 1 1 [46] e8.o (news_rc e1.o) (by omega) ?_;intro g1 n1 R w2 x W h4;have z:Below w.heap.size w w2:=(HB.o.trans (M.o.mono H)).trans W;have y0:=(z.cell (World.block_lt_of_cell? _ _ X0.o)).trans X0.o);have L:=hid z;have e6:=hid x
   have k8:=hid h4.o
   have k7:n1<=1000001:=by have:=h4.o;omega
   have h:=l2copy_any qi K ci (a.getD j []) w2 N.o (by have:=h9.o;omega) (e9.o.below z);clear x W z;refine h.mono ?_;rintro e w3 ⟨q3,J,c3,rfl,f,u⟩;have F:=hid f;have g:=hid u
   have O:Hid (J=K):=by show _=_;rw[f.1,N.o]
   have I:0<J:=by have:=O.o;omega
   have k6:J<=1048576:=by have:=O.o;omega
   have U:w.heap.size<=w2.heap.size:=L.o.size;clear f u h;go_wp2_with (at_builtin;refine app_cells w2 w3 rfl _ _ rfl w.heap.size (some ⟨g1,0,none⟩) n1 R _ rfl e6.o g.o U q3 J c3 _ rfl F.o I (by omega) ?_;intro g4 n4 k w4 d A k3)
   have P:Hid (OwnC w4 w.heap.size (some ⟨g4,0,none⟩) n4 k (mkL (a.take (j+1)))):=by rw[e3.o];exact d
   have h8:Hid (Below w.heap.size w w4):=(Below.on L.o g.o).trans A
   have h5:n4<=1000000:=by rw[P.o.1];exact e4.o
   clear d A;go_roundw
   case rel=>exact⟨j+1,_,n4,k,by omega,h5,by go_num,rfl,P,h8⟩
   case measure=>simp[intOf];omega
  ·obtain rfl:j=n:=by omega
   have h:=l2copy_any q le cq S wr E.o (by have:=e2.o;have:=E.o;omega) (HE.o.below HB.o)
   have e7:Hid (OwnC wr w.heap.size r m y (mkL a)):=by have:=HO.o;rwa[List.take_of_length_le (by rw[<-HN.o];exact Nat.le_refl _)] at this
   go_wp2_with fail;refine h.mono ?_;rintro e w3 ⟨q3,J,c3,rfl,f,u⟩;have F:=hid f;have g:=hid u
   have I:J=le:=by rw[f.1,E.o]
   subst I;clear f u h;go_wp2_with (at_builtin;refine app_cells wr w3 rfl _ _ rfl w.heap.size r m y _ rfl e7.o g.o H q3 J c3 _ rfl F.o h3 (by omega) ?_;intro g4 n4 k w4 d A k3);go_ret;exact⟨_,_,_,rfl,d,(Below.on HB.o g.o).trans A⟩
theorem app_itemU (U:Nat)(w:World){L:Array Oper}{y:List Oper}{o:Oper}{a:Act}{Q:Exit->Act->World->Prop}(S:o.guard=none)(s x:Operand)
  (ho:o.op = .call { callee:=.builtin .append,args:=#[s,x],argTypes:=#[31,31] }) (B:Nat) (p:Option Addr) (n c:Nat) (d:List (List Cel))
  (hs:a.eval s = .slice p n c) (l:OwnCC w B U p n c d) (O:U<=w.heap.size) (N:B<=U) (q:Option Addr) (m A:Nat) (cs:List Cel) (H:OwnC w U q m A cs)
  (hx:a.eval x = .slice (some ⟨w.heap.size,0,none⟩) 1 1) (h5:n+1<=1000000)
  (h:∀ g n' v z,OwnCC z B z.heap.size (some ⟨g,0,none⟩) n' v (d ++ [cs])->Below B (w.alloc (.cells #[.slice q m A] 23)) z->Hid (n'=n+1)->wpList Tryz.prog L Q y (a.put o.dst (.slice (some ⟨g,0,none⟩) n' v)) z):wpList Tryz.prog L Q (o :: y) a (w.alloc (.cells #[.slice q m A] 23)):=by
 obtain⟨i0,D,Y,Z,h4⟩:=info_parts infoCells;obtain⟨ds,b⟩:=l;have C:Below w.heap.size w (w.alloc (.cells #[.slice q m A] 23)):=(Below.refl _ _).alloc (Nat.le_refl _) _;refine wpList_append_lies _ S s x 31 ho B 23 i0 (.slice none 0 0) 1 24 Tryz.underlying31 D Y Z h4 rfl (by decide) (.slice p n c) n (vals ds d) hs (row_below b.row C) ⟨w.heap.size,0,none⟩ 1 1 [.slice q m A] hx rfl (cell_one_new _ _ _) (fun u hu=>by simp at hu;rw[hu];rfl) (by decide) (by unfold maxLen;omega) (by omega) (Nat.le_trans (Nat.le_trans N O) C.size) _ rfl ?_
 intro g v z F f G h8
 have l:∀ k,Value.ownBlock (.slice p n c)=some k->B<=k/\k<U:=fun k t=>⟨(b.row.lt k t).1,b.top k t⟩
 have hm:=H.1
 have R:g<U∨w.heap.size<=g:=by
  rcases G with h' | h'
  ·exact .inl (l g h').2
  ·right;rw[h'];simp
 have h9:=O
 have r:∀ k,k<w.heap.size->(∀ j,Value.ownBlock (.slice p n c)=some j->k≠j)->z.heap[k]?=w.heap[k]?:=fun k t V=>
  (f.block k (by simp;omega) (fun e=>V k e.symm rfl)).trans (Below.heap_alloc _ _ _ t)
 have I:=H.up;refine h g _ v z ⟨ds ++ [(q,A,U,w.heap.size)],?_⟩ ((Below.refl _ _).grown f (Nat.le_trans (Nat.le_trans N O) C.size) (fun k t=>(l k t).1)) rfl;have P:=b.dlen;have h7:=b.len;refine⟨by simp;omega,by simp;omega,by rw[vals_append _ _ _ _ P,<-hm];exact F,fun i D=>?_,fun i D=>?_,fun i D k t=>?_,fun i j T J=>?_,fun k t=>?_⟩
 ·have E:i<=d.length:=by simp at D;omega
  rw[ds_append_at _ _ _ (by omega),css_append_at _ _ _ E]
  by_cases e:i=d.length
  ·rw[if_pos (by omega),if_pos e,<-hm]
   exact I.other (by have:=f.size;simp at this;omega) (fun k M h2 h3=>r k M (fun j J=>by have:=(l j J).2;omega))
  ·rw[if_neg (by omega),if_neg e]
   refine(b.item i (by omega)).other (by have:=f.size;simp at this;omega) (fun k M h2 h3=>r k M (fun j J=>?_));have:=b.away i (by omega) j J
   omega
 ·have E:i<=d.length:=by simp at D;omega
  rw[ds_append_at _ _ _ (by omega)]
  have X:w.heap.size<=z.heap.size:=by have:=f.size;simp at this;omega
  by_cases e:i=d.length
  ·rw[if_pos (by omega)];exact⟨N,X⟩
  ·rw[if_neg (by omega)]
   have:=b.low i (by omega);exact⟨this.1,by omega⟩
 ·have E:i<=d.length:=by simp at D;omega
  have K:k=g:=(Option.some.inj t).symm;subst K;rw[ds_append_at _ _ _ (by omega)]
  by_cases e:i=d.length
  ·rw[if_pos (by omega)];exact R
  ·rw[if_neg (by omega)]
   rcases G with h' | h'
   ·exact b.away i (by omega) _ h'
   ·right
    have:=(b.low i (by omega)).2
    have W:(w.alloc (.cells #[.slice q m A] 23)).heap.size=w.heap.size+1:=by simp
    rw[h',W];omega
 ·have h6:j<=d.length:=by simp at J;omega
  rw[ds_append_at _ _ _ (by omega),ds_append_at _ _ _ (by omega),if_neg (by omega)]
  by_cases e:j=d.length
  ·rw[if_pos (by omega)]
   exact(b.low i (by omega)).2
  ·rw[if_neg (by omega)]
   exact b.apart i j T (by omega)
 ·have K:k=g:=(Option.some.inj t).symm
  omega
end
end Go.Proofs.YtnfnddnffoigfaaGreatDoor
