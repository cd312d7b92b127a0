/- Texts of FeL0, FeL, OrK, Ren3, Lx1, Lx2, Lx3, Lx4, Lx5, FpH, FpG, FpD. Own work of the verifier. -/
import Derived.Test.YtnfnddnffoigfaaGreatDoorUqap
import Derived.Test.YtnfnddnffoigfaaGreatDoorUqal
import Derived.Test.YtnfnddnffoigfaaGreatDoorUqad
namespace Go.Proofs.YtnfnddnffoigfaaGreatDoor
set_option maxHeartbeats 4000000
set_option linter.unusedVariables false
set_option linter.unusedSimpArgs false
set_option maxRecDepth 100000
section
open Go Go.RowKit
theorem bKey_injL {i j:Nat}(d:i<45)(e:j<45)(h:bKey i=bKey j):i=j:=by
 have a:=congrArg Prod.fst h;have b:=congrArg Prod.snd h;have c:bEnt i=bEnt j:=Prod.ext (bOf_inj a) b;have:=List.all_eq_true.1 (List.all_eq_true.1 bEnt_inj i (List.mem_range.2 d)) j (List.mem_range.2 e);exact(of_decide_eq_true this) c
theorem buTab_at (j:Nat)(a:j<45):buTab (bKey j)=some (bFn j):=by
 unfold buTab
 cases h:(List.range 45).find? fun i=>decide (bKey i=bKey j) with
 | none=>
   have:=List.find?_eq_none.1 h j (List.mem_range.2 a)
   simp at this
 | some i=>
   have b:=List.find?_some h;have c:=List.mem_of_find?_eq_some h;rw[bKey_injL (List.mem_range.1 c) a (of_decide_eq_true b)]
   rfl
def smallT (A:Tr):Prop:=A.fo.ok/\A.2.cells.length+1<=2000/\∀ x ∈ A.cs,x.2.2.length<=100
theorem smallT.no {A:Tr}(h:smallT A){v:Value}{W:World}(a:FoIn W 0 A.fo [v]):Calls Tryz.prog 162 #[v] W fun e b=>e = .returned (.bool false)/\Below W.heap.size W b:=
 beyond1_no A.1 A.2 v 0 W h.1 a h.2.1 h.2.2
theorem beyond_pair (A B:Tr)(v:smallT A)(x:smallT B)(g:Nat)(f tb:TypeId)(a b:Value)(w:World)(t:w.cell? ⟨g,0,none⟩=some (.iface f a))(u:w.cell? ⟨g,1,none⟩=some (.iface tb b))(p:FoIn w 0 A.fo [.iface f a])(q:FoIn w 0 B.fo [.iface tb b]) :
  Calls Tryz.prog 93 #[efV3 (some ⟨g,0,none⟩) 1 1] w fun e r=>e = .returned (.bool false)/\Below w.heap.size w r:=
 beyond_no _ _ _ w (fun W o=>(terms_pair g f tb a b W ((o.cell (World.block_lt_of_cell? _ _ t)).trans t) ((o.cell (World.block_lt_of_cell? _ _ u)).trans u)).mono fun e r h=>by
  obtain⟨s,j,k,l,m,c⟩:=h;refine⟨_,2,j,k,by decide,fun i y=>?_,c⟩;have d:Below w.heap.size w r:=Below.on o c
  rcases(by omega:i=0∨i=1) with rfl | rfl
  ·exact⟨s,f,a,rfl,l,fun V n=>v.no (p.below (Below.on d n))⟩
  ·exact⟨s,tb,b,rfl,m,fun V n=>x.no (q.below (Below.on d n))⟩) rfl rfl rfl
theorem two_ofL {W:World}{p:Option Addr}{A B:Tr}(h:ArgT W p [A,B]):∃ g a b,p=some ⟨g,0,none⟩/\Two W g a b/\FoIn W 0 A.fo [a]/\FoIn W 0 B.fo [b]:=by
 obtain⟨g,v,rfl,d,f⟩:=h 0 (by simp);obtain⟨c,u,e,i,j⟩:=h 1 (by simp)
 obtain rfl:g=c:=by simpa using e
 exact⟨g,v,u,rfl,⟨d,i⟩,f,j⟩
theorem var_of {W:World}{B:Nat}{n:Int}{v:Value}(h:FoIn W B (.node (0,n,[]) .nil .nil) [v]):v = .iface 65 (.int .i64 n):=by
 obtain⟨b,c,e,a,_⟩:=h;obtain⟨rfl,_⟩:=List.cons.inj e
 rcases a with ⟨_,rfl⟩ | ⟨h,_⟩ | ⟨h,_⟩ | ⟨h,_⟩
 ·rfl
 all_goals cases h
theorem num_of' {W:World}{B:Nat}{n:Int}{v:Value}(h:FoIn W B (.node (1,n,[]) .nil .nil) [v]):v = .iface 146 (.int .i64 n):=by
 obtain⟨b,c,e,a,_⟩:=h;obtain⟨rfl,_⟩:=List.cons.inj e
 rcases a with ⟨h,_⟩ | ⟨_,rfl⟩ | ⟨h,_⟩ | ⟨h,_⟩
 ·cases h
 ·rfl
 all_goals cases h
theorem ok_text:∀ F:Fo,F.ok->∀ x ∈ F.cells,x.2.2.length<=100
 | .nil,_,x,hx=>by simp[Fo.cells] at hx
 | .node c k r,h,x,hx=>by
   simp only[Fo.cells,List.mem_cons,List.mem_append] at hx
   rcases hx with rfl | hx | hx
   ·have:=h.1
    simp only[cellB,decide_eq_true_eq] at this
    omega
   ·exact ok_text k h.2.2.2.2.1 x hx
   ·exact ok_text r h.2.2.2.2.2 x hx
theorem smallT.of {A:Tr}(h:A.fo.ok)(a:A.2.cells.length+1<=2000):smallT A:=⟨h,a,fun x b=>ok_text A.fo h x (by simpa [Tr.fo,Fo.cells,Tr.cs] using b)⟩
theorem numT_small {v:Int}(h:InB v):smallT (numT v):=smallT.of (num_ok h trivial) (by simp[numT,Fo.cells])
structure BuW (w:World)(a a2:Addr)(p0:Option Addr)(n0 c0:Nat):Prop where
 fl:w.cell? ⟨0,0,none⟩=some (erV a)
 by':w.cell? ⟨1,0,none⟩=some (erV a2)
 et:etG w
 ops:∀ W,Below w.heap.size w W->Calls Tryz.prog 26 #[.slice p0 n0 c0] W fun e w'=>e = .returned (.bool true)/\Below W.heap.size W w'
theorem BuW.below {w W:World}{a c:Addr}{f:Option Addr}{e d:Nat}(h:BuW w a c f e d)(b:Below w.heap.size w W):BuW W a c f e d:=
 ⟨(b.cell (World.block_lt_of_cell? _ _ h.fl)).trans h.fl,(b.cell (World.block_lt_of_cell? _ _ h.by')).trans h.by',h.et.below b,fun g i=>h.ops g (Below.on b i)⟩
def BuOk (w:World)(code:Int)(L R:List (List Cel))(e:Ending)(w':World):Prop:=∃ pl cl pr cr,e = .returned (.tuple #[.agg #[.slice pl L.length cl,.slice pr R.length cr,.slice none 0 0,.slice none 0 0],.int .i64 code])/\CCIn w' pl L/\CCIn w' pr R/\Below w.heap.size w w'/\CapCC w' pr R
def XN:Value->Value->Value->World->Prop:=fun x0 x1 x2 _=>x0 = .slice none 0 0/\x1 = .nilIface/\x2 = .slice none 0 0
def YL (L R:List (List Cel)):Value->Value->Value->Value->World->Prop:=fun v0 v1 v2 v3 W=>∃ B pl cl pr cr,v0 = .slice pl L.length cl/\v1 = .slice pr R.length cr/\v2 = .slice none 0 0/\v3 = .slice none 0 0/\LS W B pl L.length cl L/\LS W B pr R.length cr R
theorem YL.set {L R:List (List Cel)}(f g i j:Value)(W:World)(T:Nat)(a b c d:Value)(h:YL L R f g i j W)(e:W.heap[T]?=some (.cells #[.slice none 0 0,.slice none 0 0,.slice none 0 0,.slice none 0 0] 36)):YL L R f g i j (wr4 W T a b c d):=by
 obtain⟨B,s,k,t,l,m,n,o,p,q,r⟩:=h;exact⟨B,s,k,t,l,m,n,o,p,wr4_ls q e _ _ _ _,wr4_ls r e _ _ _ _⟩
theorem YL.o {w:World}{code:Int}{L R:List (List Cel)}{e:Ending}{w':World}(h:∃ v0 v1 v2 a,e = .returned (.tuple #[.agg #[v0,v1,v2,a],.int .i64 code])/\YL L R v0 v1 v2 a w'/\Below w.heap.size w w'):BuOk w code L R e w':=by
 obtain⟨v0,v1,v2,a,rfl,⟨B,i,c,j,d,rfl,rfl,rfl,rfl,f,b⟩,g⟩:=h;exact⟨i,c,j,d,rfl,f.ccin,b.ccin,g,b.cap⟩
theorem inCells_none (W:World)(g j k:Value)(h:XN g j k W):Calls Tryz.prog 28 #[.agg #[g,j,k]] W fun e f=>∃ a b c d,e = .returned (.agg #[a,b,c,d])/\a.oneCell'=true/\b.oneCell'=true/\c.oneCell'=true/\d.oneCell'=true/\YL [] [] a b c d f/\Below W.heap.size W f:=by
 obtain⟨rfl,rfl,rfl⟩:=h
 refine(inCells_pairs none 0 0 none 0 0 [] W rfl (by decide) (fun t h=>by cases h) (fun i q=>absurd q (Nat.not_lt_zero _))).mono fun e f h=>?_
 obtain⟨r,l,s,m,rfl,n,o,p⟩:=h;exact⟨_,_,_,_,rfl,rfl,rfl,rfl,rfl,⟨_,r,l,s,m,rfl,rfl,rfl,rfl,n,o⟩,p⟩
structure Thr (w:World)(g:Nat)(v0 v1 v2:Value):Prop where
 at0:w.cell? ⟨g,0,none⟩=some v0
 at1:w.cell? ⟨g,1,none⟩=some v1
 at2:w.cell? ⟨g,2,none⟩=some v2
theorem Thr.below {w w':World}{g:Nat}{b c d:Value}(h:Thr w g b c d)(a:Below w.heap.size w w'):Thr w' g b c d:=
 ⟨(a.cell (World.block_lt_of_cell? _ _ h.at0)).trans h.at0,(a.cell (World.block_lt_of_cell? _ _ h.at1)).trans h.at1,(a.cell (World.block_lt_of_cell? _ _ h.at2)).trans h.at2⟩
abbrev calV3 (op:Option Addr)(on oc:Nat)(g cap:Nat)(fr:Int):Value:=.agg #[.slice op on oc,.slice (some ⟨g,0,none⟩) 3 cap,.int .i64 fr]
def vrT (n:Int):Tr:=((0,n,[]),.nil)
def atT (s:List Int):Tr:=((2,0,s),.nil)
theorem vrT_small {n:Int}(b:0<=n)(c:n<=1000000):smallT (vrT n):=smallT.of ⟨by simp[vrT,cellB];omega,fun x a=>by simp[vrT] at a,fun e=>by simp[vrT] at e,fun _=>rfl,trivial,trivial⟩ (by simp[vrT,Fo.cells])
theorem atT_small {s:List Int}(b:s.length<=100)(a:Byte s):smallT (atT s):=smallT.of ⟨by simp[atT,cellB];omega,a,fun e=>by simp[atT] at e,fun _=>rfl,trivial,trivial⟩ (by simp[atT,Fo.cells])
theorem thr_of {W:World}{p:Option Addr}{A B C:Tr}(h:ArgT W p [A,B,C]):∃ g b c d,p=some ⟨g,0,none⟩/\Thr W g b c d/\FoIn W 0 A.fo [b]/\FoIn W 0 B.fo [c]/\FoIn W 0 C.fo [d]:=by
 obtain⟨g,v,rfl,j,k⟩:=h 0 (by simp);obtain⟨i,u,e,l,m⟩:=h 1 (by simp)
 obtain rfl:g=i:=by simpa using e
 obtain⟨a,t,f,n,o⟩:=h 2 (by simp)
 obtain rfl:g=a:=by simpa using f
 exact⟨g,v,u,t,rfl,⟨j,l,n⟩,k,m,o⟩
end
section
open Go Go.RowKit Go.Maps
theorem flat_setN:∀ (a:List RC) (i:Nat) (b:Int),i<a.length->(flat a).set (i * 3+1) (.int .i64 b)=flat (a.set i ((a.getD i RC.zero).1,b,(a.getD i RC.zero).2.2))
 | [],i,b,h=>by simp at h
 | x :: a,0,b,_=>by simp[flat_cons]
 | x :: a,i+1,b,h=>by
   have:=flat_setN a i b (by simpa using h);rw[flat_cons,show(i+1) * 3+1=(i * 3+1)+1+1+1 by omega];simp only[List.set_cons_succ,this]
   rfl
theorem OwnC.setN {w:World}{B g n c j:Nat}{k:List Cel}(h:OwnC w B (some ⟨g,0,none⟩) n c k)(u:j<k.length)(b:Int) :
  OwnC (w.setCell ⟨g,j * 3+1,none⟩ (.int .i64 b)) B (some ⟨g,0,none⟩) n c (k.set j ((k.getD j Cel.none).1,b,(k.getD j Cel.none).2.2)):=by
 obtain⟨x,m,v,z,t,ha⟩:=h;have p:=(z.stored (j * 3+1) (.int .i64 b)).1;rw[flat_setN m j b (by omega)] at p
 have d:∀ i,((m.set j ((m.getD j RC.zero).1,b,(m.getD j RC.zero).2.2)).getD i RC.zero).2.2=(m.getD i RC.zero).2.2:=fun i=>by
  rw[rs_set_at _ _ _ _ (by omega)]
  by_cases e:i=j
  ·rw[if_pos e,e]
  ·rw[if_neg e]
 refine⟨by simpa using x,_,by simpa using v,p,fun i l=>?_,⟨fun i l=>?_,fun i A l f o=>?_⟩⟩
 ·have f:i<k.length:=by simpa using l
  rw[cs_set_at _ _ _ _ u,rs_set_at _ _ _ _ (by omega)];obtain⟨q,q1,C⟩:=t i f;have r:=C.setCell (a:=⟨g,j * 3+1,none⟩) (fun y s=>ha.1 i (by omega) y s) (.int .i64 b)
  by_cases e:i=j
  ·rw[if_pos e,if_pos e]
   subst e;exact⟨q,rfl,r⟩
  ·rw[if_neg e,if_neg e]
   exact⟨q,q1,r⟩
 ·rw[d];exact ha.1 i (by simpa using l)
 ·rw[d,d];exact ha.2 i A (by simpa using l) (by simpa using f) o
end
section
open Go Go.RowKit
end
section
open Go Go.RowKit
def KeepE (w' V:World):Prop:=w'.heap.size<=V.heap.size/\∀ b o v,w'.cell? ⟨b,o,none⟩=some v->v≠.slice none 0 0->v≠.nilIface->V.cell? ⟨b,o,none⟩=some v
theorem cell_boxE {w:World}{T o:Nat}{v:Value}(h:w.heap[T]?=some (.cells #[.slice none 0 0,.nilIface,.slice none 0 0] 70))(a:w.cell? ⟨T,o,none⟩=some v):v = .slice none 0 0∨v = .nilIface:=by
 rcases(by omega:o=0∨o=1∨o=2∨3<=o) with rfl | rfl | rfl | ho
 ·rw[cell_of_row _ _ 0 _ _ _ h] at a;exact .inl (Option.some.inj a).symm
 ·rw[cell_of_row _ _ 1 _ _ _ h] at a;exact .inr (Option.some.inj a).symm
 ·rw[cell_of_row _ _ 2 _ _ _ h] at a;exact .inl (Option.some.inj a).symm
 ·have b:w.heap[T]?=some (.cells #[.slice none 0 0,.nilIface,.slice none 0 0] 70):=h
  rw[World.cell?] at a;simp only[b] at a;rw[Array.getElem?_eq_none (by simpa using ho)] at a
  cases a
theorem keepE_of {w V:World}{d f:Nat}(m:w.heap[d]?=some (.cells #[.slice none 0 0,.nilIface,.slice none 0 0] 70))(n:w.heap[f]?=some (.cells #[.slice none 0 0,.nilIface,.slice none 0 0] 70))(p:w.heap.size<=V.heap.size)
  (h:∀ k,k≠d->k≠f->k<w.heap.size->V.heap[k]?=w.heap[k]?):KeepE w V:=⟨p,fun b o v c j l=>by
 by_cases g:b=d
 ·subst g
  rcases cell_boxE m c with e | e
  ·exact absurd e j
  ·exact absurd e l
 ·by_cases i:b=f
  ·subst i
   rcases cell_boxE n c with e | e
   ·exact absurd e j
   ·exact absurd e l
  ·exact(World.cell?_of_block (a:=⟨b,o,none⟩) (h b g i (World.block_lt_of_cell? _ _ c))).trans c⟩
theorem run_holdsE (K b N:Nat)(nm:ByteArray)(ar:Int)(T:Fun->Option Nat)(I J L:Value)(a a2:Addr)(X:Option Addr->Nat->Nat->World->Prop)(w:World)(hb:BuIn w b N T)(hk:okN (nm,ar))(hT:T (nm,ar)=some K)(h0:I.oneCell'=true)(M:J.oneCell'=true)(h2:L.oneCell'=true)
  (hg:w.cell? ⟨0,0,none⟩=some (erV a)) (h9:w.cell? ⟨1,0,none⟩=some (erV a2)) (HY:∀ p n c V,X p n c V->Calls Tryz.prog 93 #[efV3 p n c] V fun e E=>e = .returned (.bool false)/\Below V.heap.size V E) (hE:∀ W:World,(callFunc K #[.agg #[I,J,L]]).run Tryz.prog W = .ok (.enter K #[.agg #[I,J,L]]) W)
  (HF:∀ W,Below w.heap.size w W->Calls Tryz.prog K #[.agg #[I,J,L]] W fun e E=>∃ p n c,e = .returned (.tuple #[efV3 p n c,.nilIface])/\Below W.heap.size W E/\∀ V,KeepE E V->X p n c V) :
  Calls Tryz.prog 27 #[.map (some b),.agg #[.string nm,.int .i64 ar],.agg #[I,J,L]] w fun e E=>∃ p n c,e = .returned (.tuple #[efV3 p n c,.int .i64 0])/\Below w.heap.size w E/\X p n c E:=by
 have HL:Hid (∀ W,Below w.heap.size w W->(Instr.lookup 58 (.map (some b)) (.agg #[.string nm,.int .i64 ar]) false).run Tryz.prog W = .ok (.func (.func K) #[] #[]) W):=fun W y=>(hb.below y).getE (nm,ar) hk hT
 obtain⟨w1,e1⟩:∃ w1,w1=w.alloc (.cells #[.string nm,.int .i64 ar] 61):=⟨_,rfl⟩
 obtain⟨w2,e2⟩:∃ w2,w2=w1.alloc (.cells #[I,J,L] 67):=⟨_,rfl⟩
 obtain⟨d,e3⟩:∃ d,d=w2.alloc (.cells #[.slice none 0 0,.nilIface,.slice none 0 0] 70):=⟨_,rfl⟩
 have k4:w1.heap.size=w.heap.size+1:=by rw[e1];simp
 have k5:w2.heap.size=w.heap.size+1+1:=by rw[e2,<-k4];simp
 have x4:Below w.heap.size w w1:=by rw[e1];exact(Below.refl _ _).alloc (Nat.le_refl _) _
 have h7:Below w1.heap.size w1 w2:=by rw[e2];exact(Below.refl _ _).alloc (Nat.le_refl _) _
 have h3:Below w2.heap.size w2 d:=by rw[e3];exact(Below.refl _ _).alloc (Nat.le_refl _) _
 have H:Below w.heap.size w d:=Below.on x4 (Below.on h7 h3)
 have k1:d.heap[w.heap.size]?=some (.cells #[.string nm,.int .i64 ar] 61):=by rw[h3.block _ (by omega),h7.block _ (by omega),e1];exact heap_alloc_new _ _
 have k2:d.heap[w.heap.size+1]?=some (.cells #[I,J,L] 67):=by rw[h3.block _ (by omega),e2,<-k4];exact heap_alloc_new _ _
 have k3:d.heap[w.heap.size+1+1]?=some (.cells #[.slice none 0 0,.nilIface,.slice none 0 0] 70):=by rw[e3,<-k5];exact heap_alloc_new _ _
 have HS:Hid (∀ W,Below d.heap.size d W->W.cell? ⟨w.heap.size,0,none⟩=some (.string nm)/\W.cell? ⟨w.heap.size,1,none⟩=some (.int .i64 ar)/\W.cell? ⟨w.heap.size+1,0,none⟩=some I/\W.cell? ⟨w.heap.size+1,1,none⟩=some J/\W.cell? ⟨w.heap.size+1,2,none⟩=some L/\Below d.heap.size d W):=fun W y=>by
  have q1:=(y.block _ (Array.getElem?_eq_some_iff.1 k1).1).trans k1;have q2:=(y.block _ (Array.getElem?_eq_some_iff.1 k2).1).trans k2;exact⟨cell_of_row _ _ 0 _ _ _ q1,cell_of_row _ _ 1 _ _ _ q1,cell_of_row _ _ 0 _ _ _ q2,cell_of_row _ _ 1 _ _ _ q2,cell_of_row _ _ 2 _ _ _ q2,y⟩
 have HC:Hid (∀ W,Below d.heap.size d W->Calls Tryz.prog K #[.agg #[I,J,L]] W fun e E=>∃ p n c,e = .returned (.tuple #[efV3 p n c,.nilIface])/\Below W.heap.size W E/\∀ V,KeepE E V->X p n c V):=fun W y=>HF W (Below.on H y)
 have x5:Hid (∀ W,Below d.heap.size d W->(Instr.lookup 58 (.map (some b)) (.agg #[.string nm,.int .i64 ar]) false).run Tryz.prog W = .ok (.func (.func K) #[] #[]) W):=fun W y=>HL.o W (Below.on H y)
 have HG:Hid (∀ W,Below d.heap.size d W->W.cell? ⟨0,0,none⟩=some (erV a)):=fun W y=>((Below.on H y).cell (World.block_lt_of_cell? _ _ hg)).trans hg
 have k8:Hid (∀ W,Below d.heap.size d W->W.cell? ⟨1,0,none⟩=some (erV a2)):=fun W y=>((Below.on H y).cell (World.block_lt_of_cell? _ _ h9)).trans h9
 have x1:Hid (d.heap.size=w.heap.size+1+1+1):=by show _=_;rw[e3,<-k5];simp
 have k9:=hid HY
 have P:Hid (∀ W,Below d.heap.size d W->W.heap[w.heap.size+1+1]?=some (.cells #[.slice none 0 0,.nilIface,.slice none 0 0] 70)):=fun W y=>(y.block _ (Array.getElem?_eq_some_iff.1 k3).1).trans k3
 have k7:=hid H;rw[e1] at e2;rw[e2] at e3;clear hg h9 HY H k3 hb hk hT e1 e2 k4 k5 x4 h7 h3 k1 k2 HL HF
 go_enter Tryz.func27,Tryz.ntmps27
 go_wp2_with fail;rw[<-e3];clear e3;refine wp_region_held_drew (S:=fun W=>Below d.heap.size d W) (by kernel_rfl) ?_ (fun x6=>?_)
 ·exact(Below.refl _ _).drew
 refine hTq 0 (.map (some b)) 13 ?_
 simp only[Act.put,zzA,zzB,zzC];refine hTr 1 (.agg #[.string nm,.int .i64 ar]) 14 (fun o B W Y=>?y1) ?_
 case y1=>cases B;obtain⟨s0,s1,s2,s3,s4,s5⟩:=HS.o W Y;simp[execOp,go_sem,Act.eval,s0,s1]
 simp only[Act.put,zzA,zzB,zzC];refine hTr 2 (.func (.func K) #[] #[]) 15 (fun o B W Y=>?y2) ?_
 case y2=>
  cases B
  have sL:=x5.o W Y
  simp[execOp,go_sem,Act.eval,sL]
 simp only[Act.put,zzA,zzB,zzC];refine hTr 3 (.agg #[I,J,L]) 16 (fun o B W Y=>?y3) ?_
 case y3=>cases B;obtain⟨s0,s1,s2,s3,s4,s5⟩:=HS.o W Y;simp[execOp,go_sem,Act.eval,s2,s3,s4]
 simp only[Act.put,zzA,zzB,zzC];refine hBoth (i:=4) (j:=8) (by kernel_rfl) ?zA ?zB
 case zA=>
  refine opCall (f:=K) (args:=#[.agg #[I,J,L]]) (some 17) (by kernel_rfl) (by kernel_rfl) (fun o B=>?cA) (HC.o _ (Below.refl _ _).drew) ?kA (fun ch E h=>by obtain⟨_,_,_,h,_⟩:=h;cases h) (fun E h=>by obtain⟨_,_,_,h,_⟩:=h;cases h)
  case cA=>cases B;simp[execOp,go_sem,Act.eval,hE]
  case kA=>
   rintro u F ⟨p,l,c,hu,x7,hX⟩;obtain rfl:=Ending.returned.inj hu;have m:Below d.heap.size d F:=(Below.refl _ _).drew.trans x7;refine⟨m,?_⟩;simp only[Act.put,zzA,zzB,zzC];refine hTq 5 (.tuple #[efV3 p l c,.nilIface]) 12 ?_
   simp only[Act.put,zzA,zzB,zzC];refine hTq 6 (efV3 p l c) 18 ?_
   simp only[Act.put,zzA,zzB,zzC];refine hTq 7 (.nilIface) 19 ?_
   simp only[Act.put,zzA,zzB,zzC];refine hStep (i:=8) (v:=.pointer (some ⟨F.heap.size,0,none⟩)) (w':=F.alloc (.cells #[.slice none 0 0,.nilIface,.slice none 0 0] 70)) (some 8) (by kernel_rfl) (by kernel_rfl) (by kernel_rfl) (fun o B=>?y23) (m.alloc m.size _) ?_
   case y23=>cases B;simp[execOp,go_sem,Act.eval]
   simp only[Act.put,zzA,zzB,zzC]
   obtain⟨r,e5⟩:∃ r,r=F.alloc (.cells #[.slice none 0 0,.nilIface,.slice none 0 0] 70):=⟨_,rfl⟩
   have C:Below d.heap.size d r:=by rw[e5];exact m.alloc m.size _
   have HX:Box3 r F.heap.size (.slice none 0 0) .nilIface (.slice none 0 0):=Box3.of_block (by rw[e5];exact heap_alloc_new _ _)
   obtain⟨T,eT⟩:∃ T,T=F.heap.size:=⟨_,rfl⟩
   have hT:d.heap.size<=T:=by rw[eT];exact m.size
   have HQ:Hid (∀ V,(∀ k,k≠T->k≠w.heap.size+1+1->k<r.heap.size->V.heap[k]?=r.heap[k]?)->r.heap.size<=V.heap.size->X p l c V):=fun V M h2=>by
    have x8:=x1.o;refine hX V (keepE_of (P.o _ m) (P.o _ m) (Nat.le_trans (by rw[e5];simp) h2) fun k hk _ hl=>?_);rw[M k (by omega) (by omega) (by rw[e5];simp;omega),e5,Go.heap_alloc_old _ _ hl]
   rw[<-eT] at HX ⊢;rw[<-e5];clear hX eT e5;have s:Below d.heap.size d (wr3 r T (.slice p l c) .nilIface (.slice none 0 0)):=wr3_below C hT;refine hStepS (i:=9) (w':=wr3 r T (.slice p l c) .nilIface (.slice none 0 0)) none (by kernel_rfl) (by kernel_rfl) (by kernel_rfl) (fun o B=>?y9) s ?_
   case y9=>cases B;obtain⟨b0,b1,b2,b3⟩:=HX;simp[execOp,go_sem,Act.eval,b0,b1,b2,b3]
   simp only[Act.put,zzA,zzB,zzC];refine hTq 10 (.nilIface) 9 ?_
   simp only[Act.put,zzA,zzB,zzC];refine wpAnyH_done (by kernel_rfl) ?_ _
   change Exit.then _ _ _ _ (wr3 r T (.slice p l c) .nilIface (.slice none 0 0))
   obtain⟨z,G⟩:∃ z,z=wr3 r T (.slice p l c) .nilIface (.slice none 0 0):=⟨_,rfl⟩
   rw[<-G] at s;rw[<-G];have t:Below d.heap.size d (z.alloc (.cells #[.nilIface] 116)):=s.alloc s.size _;have g7:=HG.o _ t;have e9:T<r.heap.size:=World.block_lt_of_cell? _ _ HX.1
   have k6:z.heap.size=r.heap.size:=by rw[G];simp
   have O:Box3 z T (.slice p l c) .nilIface (.slice none 0 0):=by rw[G];exact wr3_box HX _ _ _
   have g:Below z.heap.size z (z.alloc (.cells #[.nilIface] 116)):=(Below.refl _ _).alloc (Nat.le_refl _) _
   obtain⟨q,e7⟩:∃ q,q=z.alloc (.cells #[.nilIface] 116):=⟨_,rfl⟩
   rw[<-e7] at t g
   have HV:Hid (∀ V,(∀ k,k≠w.heap.size+1+1->k<q.heap.size->V.heap[k]?=q.heap[k]?)->q.heap.size<=V.heap.size->X p l c V):=fun V M h2=>by
    have x9:=g.size;refine HQ.o V (fun k a1 a3 a4=>?_) (by omega);rw[M k a3 (by omega),g.block k (by omega),G,wr3_heap a1]
   have Z:X p l c q:=HV.o q (fun _ _ _=>rfl) (Nat.le_refl _);have R:=k9.o p l c q Z;have g8:=k8.o _ t;have h6:=hid t;have U:=O.below g (by omega)
   have HZ:Hid (∀ W,Below q.heap.size q W->Box3 W T (.slice p l c) .nilIface (.slice none 0 0)):=fun W y=>U.below y (by have:=g.size;omega)
   obtain⟨z0,z1,z2,z3⟩:=U;clear s t C hT HX G HQ e9 k6 O g Z;go_wp2_with fail;rw[<-e7] at *;clear e7 g7;refine(is_nil a q).mono ?_;rintro e w8 ⟨rfl,A⟩;rw[A];clear A;go_wp2_with fail;refine(as_nilE _ q).mono ?_;rintro e w8 ⟨rfl,A⟩;rw[A];clear A;go_wp2_with fail;refine(is_nil a2 q).mono ?_;rintro e w8 ⟨rfl,A⟩;rw[A];clear A;go_wp2_with fail;refine R.mono ?_;rintro e w9 ⟨rfl,x⟩;have D:Below d.heap.size d w9:=Below.on h6.o x;have Q:=Box3.of_block (P.o _ D);have HP:Hid _:=wr3_box Q (.slice p l c) .nilIface (.slice none 0 0)
   have h5:Hid (Below w.heap.size w (wr3 w9 (w.heap.size+1+1) (.slice p l c) .nilIface (.slice none 0 0))/\X p l c (wr3 w9 (w.heap.size+1+1) (.slice p l c) .nilIface (.slice none 0 0))):=
    ⟨wr3_below (Below.on k7.o D) (by omega),HV.o _ (fun k M h2=>(wr3_heap M).trans (x.block k h2)) (by simpa using x.size)⟩
   obtain⟨b0,b1,b2,b3⟩:=Q;obtain⟨y0,y1,y2,y3⟩:=HZ.o w9 x;clear z0 z1 z2 z3 g8 x D R
   go_wp2
   obtain⟨d0,d1,d2,_⟩:=HP.o;exact bodyPost_ret (v:=.tuple #[efV3 p l c,.int .i64 0]) (by simp[results,Tryz.results27,go_sem,d0,d1,d2]) rfl ⟨p,l,c,rfl,h5.o⟩
 case zB=>
  obtain⟨F,e4⟩:∃ F,F=d.drew.alloc (.cells #[.slice none 0 0,.nilIface,.slice none 0 0] 70):=⟨_,rfl⟩
  have m:Below d.heap.size d F:=by rw[e4];exact((Below.refl _ _).drew).alloc (Nat.le_refl _) _
  have x2:Box3 F d.heap.size (.slice none 0 0) .nilIface (.slice none 0 0):=Box3.of_block (by rw[e4];exact heap_alloc_new _ _)
  have e8:d.heap.size<F.heap.size:=by rw[e4];simp
  refine opStep (v:=.pointer (some ⟨d.heap.size,0,none⟩)) (w':=F) (some 8) (by kernel_rfl) (by kernel_rfl) (fun o B=>?y8) ⟨m,?_⟩
  case y8=>
   cases B
   rw[e4]
   simp[execOp,go_sem,Act.eval]
  simp only[Act.put,zzA,zzB,zzC];refine hCallE (i:=4) (f:=K) (args:=#[.agg #[I,J,L]]) (some 17) (by kernel_rfl) (by kernel_rfl) (by kernel_rfl) (fun o B=>?c60) (HC.o F m) ?k60 (fun ch E h=>by obtain⟨_,_,_,h,_⟩:=h;cases h) (fun E h=>by obtain⟨_,_,_,h,_⟩:=h;cases h)
  case c60=>cases B;simp[execOp,go_sem,Act.eval,hE]
  case k60=>
   rintro u r ⟨p,l,c,hu,h4,hX⟩;obtain rfl:=Ending.returned.inj hu;have C:Below d.heap.size d r:=Below.on m h4;have HX:=x2.below h4 e8;have x3:r.heap[d.heap.size]?=some (.cells #[.slice none 0 0,.nilIface,.slice none 0 0] 70):=(h4.block _ e8).trans (by rw[e4];exact heap_alloc_new _ _);have hT:d.heap.size<=d.heap.size:=Nat.le_refl _
   have HQ:Hid (∀ V,(∀ k,k≠d.heap.size->k≠w.heap.size+1+1->k<r.heap.size->V.heap[k]?=r.heap[k]?)->r.heap.size<=V.heap.size->X p l c V):=fun V M h2=>by
    have x8:=x1.o;exact hX V (keepE_of x3 (P.o _ C) h2 fun k k1 k2 hl=>M k k1 k2 hl)
   clear h4 m x2 e8 e4 hX x3;refine⟨C,?_⟩;simp only[Act.put,zzA,zzB,zzC];refine hTq 5 (.tuple #[efV3 p l c,.nilIface]) 12 ?_
   simp only[Act.put,zzA,zzB,zzC];refine hTq 6 (efV3 p l c) 18 ?_
   simp only[Act.put,zzA,zzB,zzC];refine hTq 7 (.nilIface) 19 ?_
   simp only[Act.put,zzA,zzB,zzC];have s:Below d.heap.size d (wr3 r d.heap.size (.slice p l c) .nilIface (.slice none 0 0)):=wr3_below C hT;refine hStepS (i:=9) (w':=wr3 r d.heap.size (.slice p l c) .nilIface (.slice none 0 0)) none (by kernel_rfl) (by kernel_rfl) (by kernel_rfl) (fun o B=>?y9) s ?_
   case y9=>cases B;obtain⟨b0,b1,b2,b3⟩:=HX;simp[execOp,go_sem,Act.eval,b0,b1,b2,b3]
   simp only[Act.put,zzA,zzB,zzC];refine hTq 10 (.nilIface) 9 ?_
   simp only[Act.put,zzA,zzB,zzC];refine wpAnyH_done (by kernel_rfl) ?_ _
   change Exit.then _ _ _ _ (wr3 r d.heap.size (.slice p l c) .nilIface (.slice none 0 0))
   obtain⟨z,G⟩:∃ z,z=wr3 r d.heap.size (.slice p l c) .nilIface (.slice none 0 0):=⟨_,rfl⟩
   rw[<-G] at s;rw[<-G];have t:Below d.heap.size d (z.alloc (.cells #[.nilIface] 116)):=s.alloc s.size _;have g7:=HG.o _ t;have e9:d.heap.size<r.heap.size:=World.block_lt_of_cell? _ _ HX.1
   have k6:z.heap.size=r.heap.size:=by rw[G];simp
   have O:Box3 z d.heap.size (.slice p l c) .nilIface (.slice none 0 0):=by rw[G];exact wr3_box HX _ _ _
   have g:Below z.heap.size z (z.alloc (.cells #[.nilIface] 116)):=(Below.refl _ _).alloc (Nat.le_refl _) _
   obtain⟨q,e7⟩:∃ q,q=z.alloc (.cells #[.nilIface] 116):=⟨_,rfl⟩
   rw[<-e7] at t g
   have HV:Hid (∀ V,(∀ k,k≠w.heap.size+1+1->k<q.heap.size->V.heap[k]?=q.heap[k]?)->q.heap.size<=V.heap.size->X p l c V):=fun V M h2=>by
    have x9:=g.size;refine HQ.o V (fun k a1 a3 a4=>?_) (by omega);rw[M k a3 (by omega),g.block k (by omega),G,wr3_heap a1]
   have Z:X p l c q:=HV.o q (fun _ _ _=>rfl) (Nat.le_refl _);have R:=k9.o p l c q Z;have g8:=k8.o _ t;have h6:=hid t;have U:=O.below g (by omega)
   have HZ:Hid (∀ W,Below q.heap.size q W->Box3 W d.heap.size (.slice p l c) .nilIface (.slice none 0 0)):=fun W y=>U.below y (by have:=g.size;omega)
   obtain⟨z0,z1,z2,z3⟩:=U;clear s t C hT HX G HQ e9 k6 O g Z;go_wp2_with fail;rw[<-e7] at *;clear e7 g7;refine(is_nil a q).mono ?_;rintro e w8 ⟨rfl,A⟩;rw[A];clear A;go_wp2_with fail;refine(as_nilE _ q).mono ?_;rintro e w8 ⟨rfl,A⟩;rw[A];clear A;go_wp2_with fail;refine(is_nil a2 q).mono ?_;rintro e w8 ⟨rfl,A⟩;rw[A];clear A;go_wp2_with fail;refine R.mono ?_;rintro e w9 ⟨rfl,x⟩;have D:Below d.heap.size d w9:=Below.on h6.o x;have Q:=Box3.of_block (P.o _ D);have HP:Hid _:=wr3_box Q (.slice p l c) .nilIface (.slice none 0 0)
   have h5:Hid (Below w.heap.size w (wr3 w9 (w.heap.size+1+1) (.slice p l c) .nilIface (.slice none 0 0))/\X p l c (wr3 w9 (w.heap.size+1+1) (.slice p l c) .nilIface (.slice none 0 0))):=
    ⟨wr3_below (Below.on k7.o D) (by omega),HV.o _ (fun k M h2=>(wr3_heap M).trans (x.block k h2)) (by simpa using x.size)⟩
   obtain⟨b0,b1,b2,b3⟩:=Q;obtain⟨y0,y1,y2,y3⟩:=HZ.o w9 x;clear z0 z1 z2 z3 g8 x D R
   go_wp2
   obtain⟨d0,d1,d2,_⟩:=HP.o;exact bodyPost_ret (v:=.tuple #[efV3 p l c,.int .i64 0]) (by simp[results,Tryz.results27,go_sem,d0,d1,d2]) rfl ⟨p,l,c,rfl,h5.o⟩
theorem NodeIn.if {w:World}{B:Nat}{c:Cel}{K:List Value->Prop}{v:Value}(h:NodeIn w B c K v):∃ t x,v = .iface t x:=by
 rcases h with ⟨_,h⟩ | ⟨_,h⟩ | ⟨_,h⟩ | ⟨_,b,g,a,h,_⟩
 ·exact⟨_,_,h⟩
 ·exact⟨_,_,h⟩
 ·exact⟨_,_,h⟩
 ·exact⟨_,_,h⟩
theorem FoIn.ifs {w:World}{B:Nat} : ∀ (F:Fo) (a:List Value),FoIn w B F a->∀ i,i<a.length->∃ t x,a.getD i .nilIface = .iface t x
 | .nil,a,h,i,hi=>by rw[show a = [] from h] at hi;exact absurd hi (Nat.not_lt_zero _)
 | .node c k r,a,⟨v,vr,e,hn,hr⟩,i,hi=>by
   subst e
   cases i with
   | zero=>simpa using hn.if
   | succ i=>simpa using FoIn.ifs r vr hr i (by simpa using hi)
theorem FoIn.keepE {w V:World}{B:Nat}(a:KeepE w V):∀ (F:Fo) (d:List Value),FoIn w B F d->FoIn V B F d
 | .nil,d,h=>h
 | .node c k r,d,⟨v,vr,e,hn,hr⟩=>by
   refine⟨v,vr,e,?_,FoIn.keepE a r vr hr⟩
   rcases hn with h | h | h | ⟨h,b,g,f,y,q,s,m,n,u,o,l⟩
   ·exact .inl h
   ·exact .inr (.inl h)
   ·exact .inr (.inr (.inl h))
   ·refine .inr (.inr (.inr ⟨h,b,g,f,y,q,s,a.2 _ _ _ m (by simp) (by simp),a.2 _ _ _ n (by simp) (by simp),Nat.lt_of_lt_of_le u a.1,fun i j=>?_,FoIn.keepE a k f l⟩))
    obtain⟨t,x,p⟩:=FoIn.ifs k f l i j;have:=o i j;rw[p] at this ⊢;exact a.2 _ _ _ this (by simp) (by simp)
def OneX (A B:Tr)(g:Nat)(W:World):Prop:=∃ t x u y,W.cell? ⟨g,0,none⟩=some (.iface t x)/\W.cell? ⟨g,1,none⟩=some (.iface u y)/\FoIn W 0 A.fo [.iface t x]/\FoIn W 0 B.fo [.iface u y]
theorem OneX.below {A B:Tr}{g:Nat}{W b:World}(h:OneX A B g W)(a:Below W.heap.size W b):OneX A B g b:=by
 obtain⟨t,x,u,y,c,d,e,f⟩:=h;exact⟨t,x,u,y,(a.cell (World.block_lt_of_cell? _ _ c)).trans c,(a.cell (World.block_lt_of_cell? _ _ d)).trans d,e.below a,f.below a⟩
theorem OneX.keepE {A B:Tr}{g:Nat}{W b:World}(h:OneX A B g W)(a:KeepE W b):OneX A B g b:=by
 obtain⟨t,x,u,y,c,d,e,f⟩:=h;exact⟨t,x,u,y,a.2 _ _ _ c (by simp) (by simp),a.2 _ _ _ d (by simp) (by simp),FoIn.keepE a _ _ e,FoIn.keepE a _ _ f⟩
def OneE (A B:Tr)(w:World)(e:Ending)(w':World):Prop:=∃ g,e = .returned (.tuple #[efV3 (some ⟨g,0,none⟩) 1 1,.nilIface])/\OneX A B g w'/\Below w.heap.size w w'
def XO (A B:Tr):Value->Value->Value->World->Prop:=fun x0 x1 x2 W=>∃ g,x0 = .slice (some ⟨g,0,none⟩) 1 1/\x1 = .nilIface/\x2 = .slice none 0 0/\OneX A B g W
theorem bu_one (K:Nat){w:World}{a a2:Addr}{C:Option Addr}{z j:Nat}(H:BuW w a a2 C z j)(pn:Option Addr)(s:List Int)(Y cn:Nat)(pa:Option Addr)(f ca:Nat)(D:List Tr)(l:Int)(A B:Tr)
  (P:Y=s.length) (X:s.length<=255) (R:BIn w pn s) (Q:f=D.length) (v:f<=8) (S:okTs D) (O:ArgsB w pa D) (M:0<=l) (N:l<=1000000) (hK:buTab (strOfNums s,(f:Int))=some K)
  (hE:∀ (j c1 c2:Value) (W:World),(callFunc K #[.agg #[j,c1,c2]]).run Tryz.prog W = .ok (.enter K #[.agg #[j,c1,c2]]) W) (hk:okN (strOfNums s,(f:Int))) (I:smallT A) (J:smallT B)
  (HM:∀ V p c,Below w.heap.size w V->ArgT V p D->Calls Tryz.prog K #[.agg #[.slice C z j,.slice p f c,.int .i64 l]] V (OneE A B V)) :
  Calls Tryz.prog 12 #[.slice C z j,.slice pn Y cn,.slice pa f ca,.int .i64 l] w (BuOk w 0 [A.cs] [B.cs]):=by
 refine(builtin_by K C z j pn s Y cn pa f ca D l 0 (XO A B) (YL [A.cs] [B.cs]) w P X R Q v S O M N hK H.ops ?_ ?_ ?_ (fun v0 v1 v2 v3 W T a b c d=>YL.set v0 v1 v2 v3 W T a b c d)).mono fun e w' h=>YL.o h
 ·intro W b p c L hM hT
  have HW:=H.below L
  refine(run_holdsE K b 92 (strOfNums s) f buTab (.slice C z j) (.slice p f c) (.int .i64 l) a a2 (fun q Z E V=>Z=1/\E=1/\∃ g,q=some ⟨g,0,none⟩/\OneX A B g V) W hM hk hK rfl rfl rfl HW.fl HW.by' (fun q Z E V h=>?_) (fun W=>hE _ _ _ W) (fun V hV=>?_)).mono fun e w' h=>?_
  ·obtain⟨rfl,rfl,g,rfl,t,x,u,y,F,m,n,G⟩:=h
   exact beyond_pair A B I J g _ _ _ _ V F m n G
  ·refine(HM V p c (Below.on L hV) (hT.below hV)).mono fun e w' h=>?_
   obtain⟨g,rfl,r,k⟩:=h;exact⟨_,1,1,rfl,k,fun U hU=>⟨rfl,rfl,g,rfl,r.keepE hU⟩⟩
  ·obtain⟨q,Z,E,rfl,k,rfl,rfl,g,rfl,r⟩:=h
   exact⟨_,_,_,rfl,rfl,rfl,rfl,⟨g,rfl,rfl,rfl,r⟩,k⟩
 ·rintro x0 x1 x2 W W' ⟨g,rfl,rfl,rfl,r⟩ k
  exact⟨g,rfl,rfl,rfl,r.below k⟩
 ·rintro W x0 x1 x2 L ⟨g,rfl,rfl,rfl,t,x,u,y,F,m,n,G⟩
  refine(inCells_pairs (some ⟨g,0,none⟩) 1 1 none 0 0 [(A,B)] W rfl (by decide) (fun t h=>?_) (fun i hi=>?_)).mono fun e w' h=>?_
  ·obtain rfl:t=(A,B):=by simpa using h
   exact⟨I.1,by have:=I.2.1;show A.2.cells.length<=10000;omega,J.1,by have:=J.2.1;show B.2.cells.length<=10000;omega⟩
  ·obtain rfl:i=0:=by simp at hi;exact hi
   exact⟨g,_,_,rfl,F,m,n,G⟩
  ·obtain⟨pl,cl,pr,cr,rfl,m,n,k⟩:=h
   exact⟨_,_,_,_,rfl,rfl,rfl,rfl,rfl,⟨_,pl,cl,pr,cr,rfl,rfl,rfl,rfl,m,n⟩,k⟩
theorem bu_fails (K:Nat){w:World}{a O:Addr}{l:Option Addr}{k g:Nat}(H:BuW w a O l k g)(C:Option Addr)(s:List Int)(A I:Nat)(B:Option Addr)(f G:Nat)(m:List Tr)(i:Int)
  (u:A=s.length) (z:s.length<=255) (x:BIn w C s) (v:f=m.length) (j:f<=8) (y:okTs m) (t:ArgsB w B m) (q:0<=i) (r:i<=1000000) (J:buTab (strOfNums s,(f:Int))=some K)
  (P:∀ (g E F:Value) (W:World),(callFunc K #[.agg #[g,E,F]]).run Tryz.prog W = .ok (.enter K #[.agg #[g,E,F]]) W) (U:okN (strOfNums s,(f:Int)))
  (M:∀ V p c,Below w.heap.size w V->ArgT V p m->Calls Tryz.prog K #[.agg #[.slice l k g,.slice p f c,.int .i64 i]] V fun e D=>e = .returned (.tuple #[noEf,erV a])/\Below V.heap.size V D) :
  Calls Tryz.prog 12 #[.slice l k g,.slice C A I,.slice B f G,.int .i64 i] w (BuOk w 4 [] []):=by
 refine(builtin_by K l k g C s A I B f G m i 4 XN (YL [] []) w u z x v j y t q r J H.ops ?_ (fun _ _ _ _ _ h _=>h) ?_ (fun X Y Z v3 W T a b c d=>YL.set X Y Z v3 W T a b c d)).mono fun e D h=>YL.o h
 ·intro W b p c n Q R
  have N:=H.below n
  exact(run_fails K b 92 (strOfNums s) f buTab (.slice l k g) (.slice p f c) (.int .i64 i) a W Q U J rfl rfl rfl N.fl (fun W=>P _ _ _ W) (fun V L=>M V p c (Below.on n L) (R.below L))).mono fun e D h=>⟨_,_,_,h.1,rfl,rfl,rfl,⟨rfl,rfl,rfl⟩,h.2⟩
 ·exact fun W x0 x1 x2 n S=>inCells_none W x0 x1 x2 S
theorem app_tmO (w:World){l:Array Oper}{d:List Oper}{o:Oper}{a:Act}{Q:Exit->Act->World->Prop}(r:o.guard=none)(s x:Operand)
  (L:o.op = .call { callee:=.builtin .append,args:=#[s,x],argTypes:=#[52,52] }) (q:Nat) (S:Value) (i:Nat) (C p:List Value) (b m D:Nat)
  (M:a.eval s=S) (k:w.ownsRow q 48 1 S i C) (y:q<=w.heap.size) (O:a.eval x = .slice (some ⟨b,0,none⟩) m D) (U:m=p.length) (P:∀ u ∈ p,∃ t v,u = .iface t v) (I:∀ j,j<m->w.cell? ⟨b,j,none⟩=some (p.getD j .nilIface)) (G:0<m) (F:m<=1000) (V:i<=1000)
  (h:∀ g c n,Hid (n.ownsRow q 48 1 (.slice (some ⟨g,0,none⟩) (i+m) c) (i+m) (C ++ p)/\w.grownBy n S.ownBlock)->wpList Tryz.prog l Q d (a.put o.dst (.slice (some ⟨g,0,none⟩) (i+m) c)) n):wpList Tryz.prog l Q (o :: d) a w:=by
 obtain⟨R,J,z,A,B⟩:=info_parts infoTerm;refine wpList_append_lies _ r s x 52 L q 48 R .nilIface 1 16 Tryz.underlying52 J z A B rfl (by decide) S i C M k ⟨b,0,none⟩ m D p O (by omega) (fun j u E=>?_) (fun u N=>?_) G (by unfold maxLen;omega) (by omega) y _ rfl ?_
 ·have T:=(List.getElem?_eq_some_iff.1 E).1
  rw[show(⟨b,0,none⟩:Addr).add j=⟨b,j,none⟩ from by simp[Addr.add];omega,I j (by omega)];rw[List.getD,E]
  rfl
 ·obtain⟨t,v,rfl⟩:=P u N
  rfl
 ·intro g c n f e H K
  exact h g c n ⟨f,e⟩
theorem terms_pair2 (r:Nat)(m tb x y:TypeId)(a b c d:Value)(w:World)(Z:w.cell? ⟨r,0,none⟩=some (.iface m a))(h1:w.cell? ⟨r,1,none⟩=some (.iface tb b))(h2:w.cell? ⟨r,2,none⟩=some (.iface x c))(h3:w.cell? ⟨r,3,none⟩=some (.iface y d)) :
  Calls Tryz.prog 161 #[.agg #[.slice (some ⟨r,0,none⟩) 2 2,.nilIface,.slice none 0 0]] w fun e i=>∃ g q,e = .returned (.slice (some ⟨g,0,none⟩) 4 q)/\i.cell? ⟨g,0,none⟩=some (.iface m a)/\i.cell? ⟨g,1,none⟩=some (.iface tb b)/\i.cell? ⟨g,2,none⟩=some (.iface x c)/\i.cell? ⟨g,3,none⟩=some (.iface y d)/\Below w.heap.size w i:=by
 have l:Below w.heap.size w (w.alloc (.cells #[.slice (some ⟨r,0,none⟩) 2 2,.nilIface,.slice none 0 0] 70)):=(Below.refl _ _).alloc (Nat.le_refl _) _;have p0:=(l.cell (World.block_lt_of_cell? _ _ Z)).trans Z;have p1:=(l.cell (World.block_lt_of_cell? _ _ h1)).trans h1
 obtain⟨I,N⟩:∃ I,I=w.alloc (.cells #[.slice (some ⟨r,0,none⟩) 2 2,.nilIface,.slice none 0 0] 70):=⟨_,rfl⟩
 obtain⟨f,H⟩:∃ f,f=I.alloc (.cells #[.iface m a,.iface tb b] 89):=⟨_,rfl⟩
 have R:I.heap.size=w.heap.size+1:=by rw[N];simp
 have E:Below I.heap.size I f:=by rw[H];exact(Below.refl _ _).alloc (Nat.le_refl _) _
 have hn:f.heap[w.heap.size+1]?=some (.cells #[.iface m a,.iface tb b] 89):=by rw[H,<-R];exact heap_alloc_new _ _
 have HJ:Hid (∀ j,j<2->f.cell? ⟨w.heap.size+1,j,none⟩=some ([Value.iface m a,Value.iface tb b].getD j .nilIface)):=fun j hj=>by
  rcases(by omega:j=0∨j=1) with rfl | rfl
  ·exact cell_of_row _ _ 0 _ _ _ hn
  ·exact cell_of_row _ _ 1 _ _ _ hn
 have hf:f.cell? ⟨w.heap.size,1,none⟩=some .nilIface:=by
  rw[E.cell (p:=⟨w.heap.size,1,none⟩) (by show w.heap.size<_;omega),N,World.cell?,heap_alloc_new];rfl
 have U:=hid hf;rw[<-N] at l;have J:=hid (Below.on l E)
 have h5:Hid (f.heap.size=w.heap.size+2):=by show _=_;rw[H];simp;omega
 have V:Hid (w.cell? ⟨r,2,none⟩=some (.iface x c)/\w.cell? ⟨r,3,none⟩=some (.iface y d)):=⟨h2,h3⟩
 have HY:Hid (∀ u ∈ [Value.iface m a,Value.iface tb b],∃ t v,u = .iface t v):=fun u S=>by
  simp at S
  rcases S with rfl | rfl
  ·exact⟨_,_,rfl⟩
  ·exact⟨_,_,rfl⟩
 rw[N] at H;clear Z h1 h2 h3 l E N R hn hf
 go_enter Tryz.func161,Tryz.ntmps161
 go_wp2_with fail;refine wp_loop_rounds 3 ?_;rw[rounds_succ];go_wp2_with (at_builtin;rw[<-H];clear H p0 p1;refine app_tmO f rfl _ _ rfl f.heap.size (.slice none 0 0) 0 [] [.iface m a,.iface tb b] (w.heap.size+1) 2 2 rfl ⟨rfl,.inl ⟨rfl,rfl⟩⟩ (Nat.le_refl _) rfl rfl HY.o HJ.o (by decide) (by decide) (by decide) ?_;intro g q i hH);have D:Below f.heap.size f i:=(Below.refl _ _).grown hH.o.2 (Nat.le_refl _) (fun k hk=>by cases hk);have K:=hid D;have C:=Below.on J.o D;have p2:=(C.cell (World.block_lt_of_cell? _ _ V.o.1)).trans V.o.1;have p3:=(C.cell (World.block_lt_of_cell? _ _ V.o.2)).trans V.o.2
 obtain⟨A,O⟩:∃ A,A=i.alloc (.cells #[.iface x c,.iface y d] 89):=⟨_,rfl⟩
 have F:Below i.heap.size i A:=by rw[O];exact(Below.refl _ _).alloc (Nat.le_refl _) _
 have L:Hid (A.ownsRow f.heap.size 48 1 (.slice (some ⟨g,0,none⟩) (0+2) q) (0+2) ([] ++ [.iface m a,.iface tb b])):=by rw[O];exact hH.o.1.alloc _
 have Q:A.cell? ⟨w.heap.size,1,none⟩=some .nilIface:=((Below.on K.o F).cell (World.block_lt_of_cell? _ _ U.o)).trans U.o;have h4:=hid Q
 have s:A.heap[i.heap.size]?=some (.cells #[.iface x c,.iface y d] 89):=by rw[O];exact heap_alloc_new _ _
 obtain⟨z,ez⟩:∃ z,z=i.heap.size:=⟨_,rfl⟩
 rw[<-ez] at s
 have X:Hid (∀ j,j<2->A.cell? ⟨z,j,none⟩=some ([Value.iface x c,Value.iface y d].getD j .nilIface)):=fun j hj=>by
  rcases(by omega:j=0∨j=1) with rfl | rfl
  ·exact cell_of_row _ _ 0 _ _ _ s
  ·exact cell_of_row _ _ 1 _ _ _ s
 have B:=hid (Below.on K.o F)
 have Y:Hid (∀ u ∈ [Value.iface x c,Value.iface y d],∃ t v,u = .iface t v):=fun u S=>by
  simp at S
  rcases S with rfl | rfl
  ·exact⟨_,_,rfl⟩
  ·exact⟨_,_,rfl⟩
 clear hH D C F Q s;rw[rounds_succ];go_wp2_with (at_builtin;rw[<-O,<-ez];clear O p2 p3;refine app_tmO A rfl _ _ rfl f.heap.size (.slice (some ⟨g,0,none⟩) (0+2) q) (0+2) ([] ++ [.iface m a,.iface tb b]) [.iface x c,.iface y d] z 2 2 rfl L.o B.o.size rfl rfl Y.o X.o (by decide) (by decide) (by decide) ?_;intro P M T h);have G:Below f.heap.size f T:=B.o.grown h.o.2 B.o.size (fun k hk=>(L.o.lt k hk).1);have W:=hid G;have h6:=(G.cell (World.block_lt_of_cell? _ _ U.o)).trans U.o
 have n:Hid (T.cell? ⟨P,0,none⟩=some (.iface m a)/\T.cell? ⟨P,1,none⟩=some (.iface tb b)/\T.cell? ⟨P,2,none⟩=some (.iface x c)/\T.cell? ⟨P,3,none⟩=some (.iface y d)):=
  ⟨h.o.1.cellAt 0 (by decide),h.o.1.cellAt 1 (by decide),h.o.1.cellAt 2 (by decide),h.o.1.cellAt 3 (by decide)⟩
 clear h G;go_wp2_with fail;rw[rounds_succ];go_wp2_with fail;go_ret;exact⟨P,M,rfl,n.o.1,n.o.2.1,n.o.2.2.1,n.o.2.2.2,Below.on J.o W.o⟩
end
end Go.Proofs.YtnfnddnffoigfaaGreatDoor
