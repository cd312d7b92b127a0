/- Texts of Stk2, Stk3, Stk4, Stk5. Own work of the verifier. -/
import Derived.Test.YtnfnddnffoigfaaGreatDoorUqak
import Derived.Test.YtnfnddnffoigfaaGreatDoorUqal
import Derived.Laws.StructEq
import Derived.Deep.LoopGhost
namespace Go.Proofs.YtnfnddnffoigfaaGreatDoor
set_option maxHeartbeats 4000000
set_option linter.unusedVariables false
set_option maxRecDepth 100000
section
open Go Go.RowKit
theorem turned_any (a:TypeId)(c:Value)(b:TypeId)(d:Value)(w:World) :
  Calls Tryz.prog 110 #[.agg #[.iface a c,.iface b d]] w fun e f=>e = .returned (.agg #[.iface b d,.iface a c])/\Below w.heap.size w f:=by
 go_enter Tryz.func110,Tryz.ntmps110
 go_wp2
 exact bodyPost_ret (v:=.agg #[.iface b d,.iface a c]) (by simp[results,Tryz.results110,go_sem]) rfl ⟨rfl,((Below.refl _ _).alloc (Nat.le_refl _) _).alloc (by simp) _⟩
theorem pairEq {a c:Value}{b d:Bool}(w:World)(f:∀ w,(Op.equalIn 9999 48 a c).run Tryz.prog w = .ok b w)(g:∀ w,(Op.equalIn 9999 48 c a).run Tryz.prog w = .ok d w) :
  (binOp .eql 89 (.agg #[a,c]) (.agg #[c,a])).run Tryz.prog w = .ok (.bool (b && d)) w:=by
 have u1:=Tryz.underlying89;have h:=Tryz.sizeOf48;have e:=Tryz.isAgg48;simp only[binOp,Op.equal,Op.maxDepth];rw[show(10000:Nat)=9999+1 from rfl,Op.equalIn];simp only[Sem.run_bind,run_underlying u1,Result.andThen_ok];simp only[Std.Legacy.Range.forIn_eq_forIn_range',Std.Legacy.Range.size,Nat.sub_zero,Nat.add_sub_cancel,Nat.div_one,List.range'_succ,List.range'_zero,List.forIn_cons,List.forIn_nil]
 go_simp
 cases b <;> cases d <;> simp
theorem ieq_ne (t a:TypeId)(x y:Value)(h:t≠a)(w:World):(Op.equalIn 9999 48 (.iface t x) (.iface a y)).run Tryz.prog w = .ok false w:=by
 rw[show(9999:Nat)=9998+1 from rfl,Op.equalIn]
 simp[run_underlying Tryz.underlying48,h]
theorem ieq_var (a b:Int)(w:World):(Op.equalIn 9999 48 (.iface 65 (.int .i64 a)) (.iface 65 (.int .i64 b))).run Tryz.prog w = .ok (a == b) w:=by kernel_rfl
theorem ieq_num (a b:Int)(w:World):(Op.equalIn 9999 48 (.iface 146 (.int .i64 a)) (.iface 146 (.int .i64 b))).run Tryz.prog w = .ok (a == b) w:=by kernel_rfl
theorem ieq_atom (a b:ByteArray)(w:World):(Op.equalIn 9999 48 (.iface 55 (.string a)) (.iface 55 (.string b))).run Tryz.prog w = .ok (a == b) w:=by kernel_rfl
theorem node_eq {r:World}{q:Nat}{c d:Cel}{K x:List Value->Prop}{v s:Value}(A:NodeIn r q c K v)(n:NodeIn r q d x s)(l:cellB c.1 c.2.1 c.2.2.length=true)(f:cellB d.1 d.2.1 d.2.2.length=true)(z:Byte c.2.2)(m:Byte d.2.2)
  (y:¬ (c.1=3/\d.1=3)) (w:World):(Op.equalIn 9999 48 v s).run Tryz.prog w = .ok (decide (c=d)) w:=by
 have a:c.1≠d.1->decide (c=d)=false:=fun h=>by simp only[decide_eq_false_iff_not];exact fun e=>h (by rw[e])
 have i:∀ {c:Cel},cellB c.1 c.2.1 c.2.2.length=true->c.1=0∨c.1=1->c.2.2 = []:=fun {c} h h0=>by
  rcases h0 with h0 | h0 <;> (rw[h0] at h;simp[cellB] at h;simpa using h.2.2)
 obtain⟨B,o,t⟩:=c;obtain⟨C,p,u⟩:=d;simp only at *
 rcases A with ⟨h0,rfl⟩ | ⟨h0,rfl⟩ | ⟨h0,rfl⟩ | ⟨h0,b,g,vs,rfl,_⟩ <;> rcases n with ⟨h0',rfl⟩ | ⟨h0',rfl⟩ | ⟨h0',rfl⟩ | ⟨h0',b',g',vs',rfl,_⟩ <;> simp only at h0 h0' <;> subst h0 h0'
 ·have j:=i (c:=(0,o,t)) l (.inl rfl)
  have k:=i (c:=(0,p,u)) f (.inl rfl);simp only at j k;subst j k;rw[ieq_var];congr 1;rw[Bool.eq_iff_iff];simp
 ·rw[ieq_ne _ _ _ _ (by decide),a (by decide)]
 ·rw[ieq_ne _ _ _ _ (by decide),a (by decide)]
 ·rw[ieq_ne _ _ _ _ (by decide),a (by decide)]
 ·rw[ieq_ne _ _ _ _ (by decide),a (by decide)]
 ·have j:=i (c:=(1,o,t)) l (.inr rfl)
  have k:=i (c:=(1,p,u)) f (.inr rfl);simp only at j k;subst j k;rw[ieq_num];congr 1;rw[Bool.eq_iff_iff];simp
 ·rw[ieq_ne _ _ _ _ (by decide),a (by decide)]
 ·rw[ieq_ne _ _ _ _ (by decide),a (by decide)]
 ·rw[ieq_ne _ _ _ _ (by decide),a (by decide)]
 ·rw[ieq_ne _ _ _ _ (by decide),a (by decide)]
 ·have j:o=0:=by simp[cellB] at l;exact l.2
  have k:p=0:=by simp[cellB] at f;exact f.2
  subst j k;rw[ieq_atom,str_inj z m];congr 1;rw[Bool.eq_iff_iff];simp
 ·rw[ieq_ne _ _ _ _ (by decide),a (by decide)]
 ·rw[ieq_ne _ _ _ _ (by decide),a (by decide)]
 ·rw[ieq_ne _ _ _ _ (by decide),a (by decide)]
 ·rw[ieq_ne _ _ _ _ (by decide),a (by decide)]
 ·exact(y ⟨rfl,rfl⟩).elim
theorem Kept2.of_below {w w':World}{a d:Nat}(g:Option Nat)(h:Below w.heap.size w w')(b:a<w.heap.size):Kept2 w w' a d g:=
 ⟨h.os,h.tape,h.output,h.size,fun k c _ _=>h.block k c,fun o _=>h.cell (p:=⟨a,o,none⟩) b,fun o=>h.frozen (p:=⟨a,o,none⟩) b⟩
theorem Stk.below {f:World}{e:Nat}{w w':World}{B a b:Nat}{p:Option Addr}{n c:Nat}{st:List TT}(h:Stk f e w B a b p n c st)(d:Below w.heap.size w w'):Stk f e w' B a b p n c st:=by
 have g:a<w.heap.size:=World.block_lt_of_cell? _ _ h.cell;obtain⟨k,j,i⟩:=h.row;exact⟨(d.cell (p:=⟨a,b,none⟩) g).trans h.cell,(d.frozen (p:=⟨a,b,none⟩) g).trans h.free,h.len,⟨k,row_below j d,i⟩,h.away⟩
def OpenOut (W0:World)(Bt:Nat)(w:World)(B sb so:Nat)(g:Option Nat)(st:List TT)(x:TT)(e:Ending)(w':World):Prop:=
 e = .returned (.bool (decide (x.1.1=x.2.1)))/\(∃ p n c,Stk W0 Bt w' B sb so p n c (st ++ opened x)/\(Value.ownBlock (.slice p n c)=g∨∃ k,Value.ownBlock (.slice p n c)=some k/\w.heap.size<=k))/\Kept2 w w' sb so g
theorem opened_leaf {x:TT}(c:x.1.ok)(f:x.2.ok)(d:¬ (x.1.1.1=3/\x.2.1.1=3)):opened x = []:=by
 unfold opened argPairs
 split
 ·rename_i h
  have a:x.1.1.1≠3:=fun e=>d ⟨e,by rw[<-h];exact e⟩
  have b:x.1.2 = .nil:=c.2.2.2.1 a;rw[b];rfl
 ·rfl
theorem openLeaf_any (C:World)(A:Nat)(w:World)(B I M:Nat)(p:Option Addr)(n c:Nat)(st:List TT)(x:TT)(N O:Value)(h:Stk C A w B I M p n c st)(V:FoIn C A x.1.fo [N])(X:FoIn C A x.2.fo [O])(f:x.1.ok)(i:x.2.ok)(G:¬ (x.1.1.1=3/\x.2.1.1=3)) :
  Calls Tryz.prog 37 #[.pointer (some ⟨I,M,none⟩),.agg #[N,O]] w (OpenOut C A w B I M (Value.ownBlock (.slice p n c)) st x):=by
 have T:I<w.heap.size:=World.block_lt_of_cell? _ _ h.cell
 have u:Hid (∀ Z,Below w.heap.size w Z->OpenOut C A w B I M (Value.ownBlock (.slice p n c)) st x (.returned (.bool (decide (x.1.1=x.2.1)))) Z):=fun Z hb=>
  ⟨rfl,⟨p,n,c,by rw[opened_leaf f i G,List.append_nil];exact h.below hb,.inl rfl⟩,Kept2.of_below _ hb T⟩
 obtain⟨u1,r1,e1,j,_⟩:=V;obtain⟨rfl,rfl⟩:=List.cons.inj e1;obtain⟨u2,r2,e2,k,_⟩:=X;obtain⟨rfl,rfl⟩:=List.cons.inj e2
 have hq:∀ w,(binOp .eql 89 (.agg #[N,O]) (.agg #[O,N])).run Tryz.prog w = .ok (.bool (decide (x.1.1=x.2.1))) w:=fun w=>by
  have:=pairEq w (fun w=>node_eq j k f.1 i.1 f.2.1 i.2.1 G w) (fun w=>node_eq k j i.1 f.1 i.2.1 f.2.1 (fun h=>G ⟨h.2,h.1⟩) w);rw[this]
  congr 2
  rw[Bool.eq_iff_iff];simp only[Bool.and_eq_true,decide_eq_true_eq];exact⟨fun h=>h.1,fun h=>⟨h,h.symm⟩⟩
 obtain⟨l,q,rfl⟩:=j.iface;obtain⟨m,s,rfl⟩:=k.iface
 have U:∃ (J L:Option Addr) (v D:Bool),(∀ w,(Instr.typeAssert (.iface l q) 48 101 true).run Tryz.prog w = .ok (.tuple #[.pointer J,.bool v]) w)/\(∀ w,(Instr.typeAssert (.iface m s) 48 101 true).run Tryz.prog w = .ok (.tuple #[.pointer L,.bool D]) w)/\(v=false∨(v=true/\D=false)):=by
  have H:∀ {c:Cel} {K:List Value->Prop} {t:TypeId} {y:Value},NodeIn C A c K (.iface t y)->∃ (p:Option Addr) (b:Bool),(∀ w,(Instr.typeAssert (.iface t y) 48 101 true).run Tryz.prog w = .ok (.tuple #[.pointer p,.bool b]) w)/\(b=true->c.1=3):=fun {c K t y} hn=>by
   rcases hn with ⟨_,e⟩ | ⟨_,e⟩ | ⟨_,e⟩ | ⟨h,b,g,vs,e,_⟩
   ·cases e;exact⟨_,_,fun w=>noComp_var w _,fun h=>by cases h⟩
   ·cases e;exact⟨_,_,fun w=>noComp_num w _,fun h=>by cases h⟩
   ·cases e;exact⟨_,_,fun w=>noComp_atom w _,fun h=>by cases h⟩
   ·cases e;exact⟨_,_,fun w=>isComp w _,fun _=>h⟩
  obtain⟨J,v,f1,g1⟩:=H j;obtain⟨L,D,f2,g2⟩:=H k;refine⟨J,L,v,D,f1,f2,?_⟩
  cases v with
  | false=>exact .inl rfl
  | true=>
    refine .inr ⟨rfl,?_⟩
    cases D with
    | false=>rfl
    | true=>exact(G ⟨g1 rfl,g2 rfl⟩).elim
 obtain⟨J,L,v,D,a1,a2,S⟩:=U
 obtain⟨r,er⟩:∃ r,r=decide (x.1.1=x.2.1):=⟨_,rfl⟩
 rw[<-er] at hq u
 have HT:=fun W=>turned_any l q m s W
 clear er h j k f i G e1 e2
 have F:Hid (∀ (W:World),Below w.heap.size w W->W.cell? ⟨w.heap.size+1,0,none⟩=some (.iface l q)->W.cell? ⟨w.heap.size+1,1,none⟩=some (.iface m s)->w.heap.size+1<W.heap.size->∀ z,Below W.heap.size W z->Below w.heap.size w z/\z.cell? ⟨w.heap.size+1,0,none⟩=some (.iface l q)/\z.cell? ⟨w.heap.size+1,1,none⟩=some (.iface m s)):=fun W hW k0 k1 hs z Q=>
  ⟨Below.on hW Q,(Q.cell (p:=⟨w.heap.size+1,0,none⟩) hs).trans k0,(Q.cell (p:=⟨w.heap.size+1,1,none⟩) hs).trans k1⟩
 have E:∀ a b d,Below w.heap.size w (((w.alloc a).alloc b).alloc d):=fun a b d=>(((Below.refl _ _).alloc (Nat.le_refl _) _).alloc (by simp) _).alloc (by simp;omega) _
 have P:Hid (∀ a b d,Below w.heap.size w (((w.alloc a).alloc b).alloc d).drew):=fun a b d=>(E a b d).drew
 have HK:Hid (∀ a d:Obj,(((w.alloc a).alloc (.cells #[.iface l q,.iface m s] 89)).alloc d).cell? ⟨w.heap.size+1,0,none⟩=some (.iface l q)/\(((w.alloc a).alloc (.cells #[.iface l q,.iface m s] 89)).alloc d).cell? ⟨w.heap.size+1,1,none⟩=some (.iface m s)):=fun a d=>by
  have h1:=heap_three w a (.cells #[.iface l q,.iface m s] 89) d;exact⟨cell_of_row _ _ 0 _ _ _ h1.1,cell_of_row _ _ 1 _ _ _ h1.1⟩
 have hg:∀ (o1 o2:Operand) (W:World),(eqGuard BinOp.eql 89 o1 o2 (.agg #[.iface l q,.iface m s]) (.agg #[.iface m s,.iface l q])).run Tryz.prog W = .ok () W:=fun o1 o2 W=>by kernel_rfl
 clear E
 rcases S with rfl | ⟨rfl,rfl⟩
 rotate_right
 case' _=>
  go_enter Tryz.func37,Tryz.ntmps37
 rotate_right
 case' _=>
  go_enter Tryz.func37,Tryz.ntmps37
 all_goals
  go_wp2_with fail
  go_region_held3 (fun W=>W.cell? ⟨w.heap.size+1,0,none⟩=some (.iface l q)/\W.cell? ⟨w.heap.size+1,1,none⟩=some (.iface m s)) (first | exact⟨Y.2.1,Y.2.2⟩ | go_keep)
   ((go_at_call 110;refine(HT _).mono ?_;rintro e z ⟨rfl,R⟩;have Y:=F.o _ (P.o _ _ _) (HK.o _ _).1 (HK.o _ _).2 (by simp) z R))
  all_goals go_wp2_with fail
  go_ret;exact u.o _ Y.1
end
section
open Go Go.RowKit Go.Shelf
attribute [local go_sem] Oper.semAt_some
theorem funEq {b c:ByteArray}{q1 a:Int}(w:World):(binOp .neq 61 (.agg #[.string b,.int .i64 q1]) (.agg #[.string c,.int .i64 a])).run Tryz.prog w = .ok (.bool (!((b == c) && (q1 == a)))) w:=by
 have f:Tryz.prog.underlying 61=some (.struct (Tryz.prog.fieldsOf 61)):=by kernel_rfl
 have g:Tryz.prog.stoodInHeld 61=false:=by kernel_rfl
 have u1:=Tryz.underlying3;have u2:=Tryz.underlying9;have j:=Tryz.sizeOf3;have h:=Tryz.isAgg3;have k:=Tryz.sizeOf9;have i:=Tryz.isAgg9;simp only[binOp,Op.equal,Op.maxDepth];rw[Sem.run_bind,show(10000:Nat)=9999+1 from rfl,run_equalIn_struct w 9999 61 _ _ f g];simp only[Program.fieldsOf,Tryz.underlying61]
 go_simp
 rw[beq_toListBytes]
 by_cases d:b.toList=c.toList <;> by_cases e:q1=a <;> simp[d,e]
def OpenK (w:World)(sb so b2:Nat)(W:World):Prop:=
 Below w.heap.size w W/\w.heap.size+1+1<W.heap.size/\W.heap[w.heap.size]?=some (.cells #[.pointer (some ⟨sb,so,none⟩)] 142)/\W.heap[w.heap.size+1+1]?=some (.cells #[.pointer (some ⟨b2,0,none⟩)] 101)
theorem OpenK.next {w:World}{d e c:Nat}{W b:World}(h:OpenK w d e c W)(a:Below W.heap.size W b):OpenK w d e c b:=
 ⟨Below.on h.1 a,Nat.lt_of_lt_of_le h.2.1 a.size,(a.block _ (by have:=h.2.1;omega)).trans h.2.2.1,(a.block _ h.2.1).trans h.2.2.2⟩
theorem OpenK.start (w:World)(b c a:Nat)(o:Obj):OpenK w b c a (((w.alloc (.cells #[.pointer (some ⟨b,c,none⟩)] 142)).alloc o).alloc (.cells #[.pointer (some ⟨a,0,none⟩)] 101)).drew:=
 ⟨((((Below.refl w.heap.size w).alloc (Nat.le_refl _) _).alloc (by simp) _).alloc (by simp;omega) _).drew,by simp,(Below.heap_alloc _ _ _ (by simp;omega)).trans ((Below.heap_alloc _ _ _ (by simp)).trans (heap_alloc_new _ _)),(heap_three _ _ _ _).2⟩
theorem OpenK.cell2 {w:World}{b c a:Nat}{W:World}(h:OpenK w b c a W):W.cell? ⟨w.heap.size+1+1,0,none⟩=some (.pointer (some ⟨a,0,none⟩)):=cell_of_row _ _ 0 _ _ _ h.2.2.2
theorem FoIn.tree {w:World}{B:Nat} : ∀ (F:Fo) (a:List Value),FoIn w B F a->∀ j (h:j<(trs F).length),FoIn w B ((trs F)[j]).fo [a.getD j .nilIface]
 | .nil,a,_,j,h=>by simp[trs] at h
 | .node c k r,a,⟨v,vr,e,hn,hr⟩,j,h=>by
   subst e
   cases j with
   | zero=>exact⟨v,[],rfl,hn,rfl⟩
   | succ j=>simpa [trs] using FoIn.tree r vr hr j (by simpa [trs] using h)
def Tr.none:Tr:=(Cel.none,.nil)
def prAt (x:TT)(i:Nat):TT:=((trs x.1.2).getD i Tr.none,(trs x.2.2).getD i Tr.none)
theorem prAt_all (x:TT)(q:Nat)(c:(trs x.1.2).length=q)(d:(trs x.2.2).length=q):(downF q q).map (fun i:Fin q=>prAt x (i:Nat))=argPairs x:=by
 rw[downF_all,List.map_reverse,argPairs]
 congr 1
 apply List.ext_getElem
 ·simp[c,d]
 ·intro i a b
  simp[prAt,List.getD,c,d]
def ifOf:Value->Nat×Value
 | .iface t x=>(t,x)
 | _=>(0,.nilIface)
theorem zs_at {w:World}{B:Nat}{F:Fo}{a:List Value}(h:FoIn w B F a){j:Nat}(b:j<a.length):Value.iface ((a.map ifOf)[j]?.getD (0,.nilIface)).1 ((a.map ifOf)[j]?.getD (0,.nilIface)).2=a.getD j .nilIface:=by
 have c:j<(trs F).length:=by rw[trs_len,<-FoIn.count _ _ h];exact b
 have f:=FoIn.tree F a h j c;obtain⟨t,x,e⟩:=FoIn.iface (show FoIn w B (.node (trs F)[j].1 (trs F)[j].2 .nil) [a.getD j .nilIface] from f)
 have d:a[j]?=some (.iface t x):=by
  rw[List.getD,List.getElem?_eq_getElem b] at e;rw[List.getElem?_eq_getElem b]
  simpa using e
 rw[e,List.getElem?_map,d]
 rfl
def OInv (W0:World)(Bt:Nat)(w:World)(B sb so b2 g1 q Bs:Nat)(g:Option Nat)(st:List TT)(x:TT)(pre:List (Fin q))(W:World):Prop:=
 (∃ p n c,Stk W0 Bt W B sb so p n c (st ++ pre.map (fun i:Fin q=>prAt x (i:Nat)))/\(Value.ownBlock (.slice p n c)=g∨∃ k,Value.ownBlock (.slice p n c)=some k/\w.heap.size<=k))/\Kept2 w W sb so g/\
 (W.heap[w.heap.size]?=some (.cells #[.pointer (some ⟨sb,so,none⟩)] 142)/\W.heap[w.heap.size+1+1]?=some (.cells #[.pointer (some ⟨b2,0,none⟩)] 101)/\W.heap[Bs]?=some (.cells #[.slice (some ⟨g1,0,none⟩) q q] 52))
theorem kept_cells {W b:World}{a:Option Nat}(g:W.grownBy b a)(i:∀ r,a=some r->∃ o:Obj,W.heap[r]?=some o/\o.isCells=false){k:Nat}{c:Array Value}{t:TypeId}(h:W.heap[k]?=some (.cells c t)):b.heap[k]?=some (.cells c t):=
 (g.block k (Array.getElem?_eq_some_iff.1 h).1 (fun e=>by obtain⟨o,d,f⟩:=i k e.symm;rw[h] at d;cases d;cases f)).trans h
theorem Stk.kept {k:World}{i:Nat}{W j:World}{B l m:Nat}{p:Option Addr}{n c:Nat}{st:List TT}{row:Option Nat}(h:Stk k i W B l m p n c st)(e:W.grownBy j row)(f:∀ r,row=some r->∃ o:Obj,W.heap[r]?=some o/\o.isCells=false):Stk k i j B l m p n c st:=by
 obtain⟨w,a,u⟩:=h.row;refine⟨cell_kept h.cell e f,(frozen_kept h.cell e f).trans h.free,h.len,⟨w,⟨a.1,?_⟩,u⟩,h.away⟩
 rcases a.2 with q | ⟨g,b,d,v,s,t,r⟩
 ·exact .inl q
 ·exact .inr ⟨g,b,d,v,s,kept_cells e f t,r⟩
theorem oInv_own (z:World)(y:Nat)(w:World)(B h L D E q v:Nat)(g:Option Nat)(st:List TT)(x:TT)(i:h<w.heap.size)(N:Nat)(M:w.heap.size<=N):OwnFrom N (OInv z y w B h L D E q v g st x):=fun K A C t ⟨⟨p,n,c,j,l⟩,f,H,I,J⟩ b u=>by
 have d:∀ r,t=some r->∃ o:Obj,A.heap[r]?=some o/\o.isCells=false:=fun r e=>(u r e).2
 refine⟨⟨p,n,c,j.kept b d,l⟩,?_,kept_cells b d H,kept_cells b d I,kept_cells b d J⟩
 have m:∀ k,k<w.heap.size->C.heap[k]?=A.heap[k]?:=fun k s=>b.block k (Nat.lt_of_lt_of_le s f.size) (fun e=>by have:=(u k e.symm).1;omega)
 exact⟨b.os.trans f.os,b.tape.trans f.tape,b.output.trans f.output,Nat.le_trans f.size b.size,fun k j l F=>(m k j).trans (f.block k j l F),
  fun o G=>(World.cell?_of_block (a:=⟨h,o,none⟩) (m h i)).trans (f.cells o G),fun o=>(World.frozen?_of_block (a:=⟨h,o,none⟩) (m h i)).trans (f.frz o)⟩
theorem row_ne {W:World}{B n c k:Nat}{p:Option Addr}{o:List Value}{d:Array Value}{t:TypeId}(h:W.ownsRow B 89 2 (.slice p n c) n o)(j:W.heap[k]?=some (.cells d t))(l:t≠89):some k≠Value.ownBlock (.slice p n c):=fun e=>by
 rcases h.2 with ⟨i,_⟩ | ⟨g,b,f,m,_,a,_⟩
 ·cases i;cases e
 ·cases m
  cases e
  rw[j] at a
  cases a
  exact l rfl
theorem Stk.grew {m:World}{l:Nat}{W i:World}{B b d n c g j:Nat}{p:Option Addr}{st:List TT}{w:List (Value×Value)}{u v:Value}{x:TT}{o:Obj}(h:Stk m l W B b d p n c st)(t:b<W.heap.size)(H:PairsIn m l st w)(E:FoIn m l x.1.fo [u])(F:FoIn m l x.2.fo [v])
  (I:i.ownsRow B 89 2 (.slice (some ⟨g,0,none⟩) (n+1) j) (n+1) (flatP w ++ [u,v])) (G:(W.alloc o).drew.grownBy i (Value.ownBlock (.slice p n c))) (s:Value.ownBlock (.slice p n c)=some g∨g=W.heap.size+1) :
  g≠b/\i.cell? ⟨b,d,none⟩=some (.slice p n c)/\i.frozen? ⟨b,d,none⟩=false/\Stk m l (i.setCell ⟨b,d,none⟩ (.slice (some ⟨g,0,none⟩) (n+1) j)) B b d (some ⟨g,0,none⟩) (n+1) j (st ++ [x]):=by
 have q:some b≠Value.ownBlock (.slice p n c):=fun e=>by
  cases p with
  | none=>cases e
  | some a=>
    obtain⟨_,r,_⟩:=h.row
    rcases r.2 with ⟨h',_⟩ | ⟨D,y,C,J,_⟩
    ·cases h'
    ·cases J
     cases e
     exact h.away _ rfl rfl
 have k:g≠b:=fun e=>by
  rcases s with h' | h'
  ·exact q (by rw[h',e])
  ·omega
 have f:i.heap[b]?=W.heap[b]?:=(G.block b (by show b<(W.alloc o).heap.size;simp;omega) q).trans (Below.heap_alloc _ _ _ t);have z:i.cell? ⟨b,d,none⟩=some (.slice p n c):=(World.cell?_of_block (a:=⟨b,d,none⟩) f).trans h.cell;have A:i.frozen? ⟨b,d,none⟩=false:=(World.frozen?_of_block (a:=⟨b,d,none⟩) f).trans h.free;refine⟨k,z,A,World.cell?_setCell_same' _ _ _ (by rw[z];rfl),by rw[World.frozen?_setCell];exact A,by rw[h.len];simp,⟨w ++ [(u,v)],?_,H.append _ _ _ _ ⟨_,[],rfl,E,F,rfl⟩⟩,fun D e=>by cases e;exact k⟩;rw[flatP_append];exact ownsRow_setCell_other I (by simpa [Value.ownBlock] using k) _
theorem Kept2.round {w W l:World}{b q n c:Nat}{p:Option Addr}{g:Option Nat}{o:Obj}(h:Kept2 w W b q g)(t:b<w.heap.size)(i:Value.ownBlock (.slice p n c)=g∨∃ k,Value.ownBlock (.slice p n c)=some k/\w.heap.size<=k)(f:some b≠Value.ownBlock (.slice p n c))
  (d:(W.alloc o).drew.grownBy l (Value.ownBlock (.slice p n c))) (u:Value):Kept2 w (l.setCell ⟨b,q,none⟩ u) b q g:=by
 have x:b<W.heap.size:=Nat.lt_of_lt_of_le t h.size;have C:W.heap.size<=l.heap.size:=Nat.le_trans (by show W.heap.size<=(W.alloc o).heap.size;simp) d.size
 have s:∀ k,k<W.heap.size->some k≠Value.ownBlock (.slice p n c)->l.heap[k]?=W.heap[k]?:=fun k m e=>(d.block k (by show k<(W.alloc o).heap.size;simp;omega) e).trans (Below.heap_alloc _ _ _ m)
 have z:Kept2 w l b q g:=⟨d.os.trans h.os,d.tape.trans h.tape,d.output.trans h.output,Nat.le_trans h.size C,fun k m y v=>(s k (Nat.lt_of_lt_of_le m h.size) (fun e=>by
  rcases i with r | ⟨D,r,B⟩
  ·exact v (by rw[e,r])
  ·rw[r] at e;cases e;omega)).trans (h.block k m y v),
  fun j A=>(World.cell?_of_block (a:=⟨b,j,none⟩) (s b x f)).trans (h.cells j A),fun j=>(World.frozen?_of_block (a:=⟨b,j,none⟩) (s b x f)).trans (h.frz j)⟩
 exact z.set u
theorem infoPair:(Tryz.prog.info? 89).map (fun i=>(i.zero,i.size,i.bytes))=some (some (.agg #[.nilIface,.nilIface]),2,32):=by kernel_rfl
attribute [local go_sem] Oper.semAt_some
theorem openComp_wide (F:World)(Bt:Nat)(w:World)(B y so:Nat)(p0:Option Addr)(n0 c0:Nat)(st:List TT)(x:TT)(O R m J:Nat)(Y Z:List Value)(h:Stk F Bt w B y so p0 n0 c0 st)(hW:Below F.heap.size F w)(d1:F.heap.size<=B)(w7:B<=y)(hn:n0<=1000000)
  (M:CompAt F Bt x.1.1.2.2 x.1.2 O R Y) (e6:CompAt F Bt x.2.1.2.2 x.2.2 m J Z) (h6:x.1.ok) (k8:x.2.ok) (h5:x.1.1.1=3) (k6:x.2.1.1=3) :
  CallsIn Fence.wide 3 Tryz.prog 37 #[.pointer (some ⟨y,so,none⟩),.agg #[.iface 101 (.pointer (some ⟨O,0,none⟩)),.iface 101 (.pointer (some ⟨m,0,none⟩))]] w (OpenOut F Bt w B y so (Value.ownBlock (.slice p0 n0 c0)) st x):=by
 have V:y<w.heap.size:=World.block_lt_of_cell? _ _ h.cell;have e9:Y.length=x.1.2.count:=FoIn.count _ _ M.2.2.2.2.2.2;have k7:Z.length=x.2.2.count:=FoIn.count _ _ e6.2.2.2.2.2.2
 obtain⟨q1,Q⟩:∃ q,q=Y.length:=⟨_,rfl⟩
 obtain⟨q2,h4⟩:∃ q,q=Z.length:=⟨_,rfl⟩
 obtain⟨s1,k9⟩:∃ s,s=strOfNums x.1.1.2.2:=⟨_,rfl⟩
 obtain⟨s2,x3⟩:∃ s,s=strOfNums x.2.1.2.2:=⟨_,rfl⟩
 have L:∀ {a:Addr} {v:Value},F.cell? a=some v->w.cell? a=some v:=fun hv=>(hW.cell (World.block_lt_of_cell? _ _ hv)).trans hv
 have x9:w.cell? ⟨O,0,none⟩=some (.string s1):=by rw[k9];exact L M.2.2.1
 have k5:w.cell? ⟨O,1,none⟩=some (.slice (some ⟨R,0,none⟩) q1 q1):=by rw[Q];exact L M.2.2.2.1
 have w2:w.cell? ⟨m,0,none⟩=some (.string s2):=by rw[x3];exact L e6.2.2.1
 have h9:w.cell? ⟨m,1,none⟩=some (.slice (some ⟨J,0,none⟩) q2 q2):=by rw[h4];exact L e6.2.2.2.1
 have a1:=isComp
 have b6:Hid (∀ (b:Nat) (s:ByteArray) (q:Nat),((b=O/\s=s1/\q=q1)∨(b=m/\s=s2/\q=q2))->∀ W,OpenK w y so m W->Calls Tryz.prog 44 #[.pointer (some ⟨b,0,none⟩)] W fun e w'=>e = .returned (.agg #[.string s,.int .i64 q])/\OpenK w y so m w'):=fun b s q h W hk=>by
  rcases h with ⟨rfl,rfl,rfl⟩ | ⟨rfl,rfl,rfl⟩
  ·exact(functor_any b R q s W ((hk.1.cell (World.block_lt_of_cell? _ _ x9)).trans x9) ((hk.1.cell (World.block_lt_of_cell? _ _ k5)).trans k5)).mono fun e w' h=>⟨h.1,hk.next h.2⟩
  ·exact(functor_any b J q s W ((hk.1.cell (World.block_lt_of_cell? _ _ w2)).trans w2) ((hk.1.cell (World.block_lt_of_cell? _ _ h9)).trans h9)).mono fun e w' h=>⟨h.1,hk.next h.2⟩
 have hg:∀ (o1 o2:Operand) (W:World),(eqGuard BinOp.neq 61 o1 o2 (.agg #[.string s1,.int .i64 q1]) (.agg #[.string s2,.int .i64 q2])).run Tryz.prog W = .ok () W:=fun o1 o2 W=>by kernel_rfl
 have hq:∀ W,(binOp .neq 61 (.agg #[.string s1,.int .i64 q1]) (.agg #[.string s2,.int .i64 q2])).run Tryz.prog W = .ok (.bool (!decide (x.1.1=x.2.1))) W:=fun W=>by
  rw[funEq,k9,x3,str_inj h6.2.1 k8.2.1]
  congr 3
  have e1:=h6.2.2.1 h5;have e2:=k8.2.2.1 k6
  have d9:(q1:Int)=x.1.1.2.1:=by rw[Q,e9];exact e1.symm
  have f3:(q2:Int)=x.2.1.2.1:=by rw[h4,k7];exact e2.symm
  rw[d9,f3,Bool.eq_iff_iff];obtain⟨⟨⟨k1,m1,t1⟩,f1⟩,⟨⟨k2,m2,t2⟩,f2⟩⟩:=x;simp only at h5 k6;subst h5 k6
  simp[and_comm]
 have w8:=OpenK.start w y so m (.cells #[.iface 101 (.pointer (some ⟨O,0,none⟩)),.iface 101 (.pointer (some ⟨m,0,none⟩))] 89)
 by_cases hx:x.1.1=x.2.1
 ·have k4:Hid (∀ W,(∃ p n c,Stk F Bt W B y so p n c (st ++ opened x)/\(Value.ownBlock (.slice p n c)=Value.ownBlock (.slice p0 n0 c0)∨∃ k,Value.ownBlock (.slice p n c)=some k/\w.heap.size<=k))->Kept2 w W y so (Value.ownBlock (.slice p0 n0 c0))->OpenOut F Bt w B y so (Value.ownBlock (.slice p0 n0 c0)) st x (.returned (.bool true)) W):=fun W h1 h2=>⟨by simp[hx],h1,h2⟩
  have f4:q1=q2:=by rw[Q,h4,e9,k7];exact ok_count h6 k8 hx
  have a3:q1<=2000:=by
   have:=h6.1;have e1:=h6.2.2.1 h5;rw[h5] at this
   simp[cellB] at this
   rw[Q,e9]
   have:(x.1.2.count:Int)<=20:=by rw[<-e1];exact this.2.2
   omega
  have ht:decide (x.1.1=x.2.1)=true:=by simpa using hx
  rw[ht] at hq;simp only[Bool.not_true] at hq;subst f4;have x7:=hid h
  have I:Hid (CompAt F Bt x.1.1.2.2 x.1.2 O R Y/\q1=Y.length/\(trs x.1.2).length=q1):=⟨M,Q,by rw[trs_len,Q,e9]⟩
  have G:Hid (CompAt F Bt x.2.1.2.2 x.2.2 m J Z/\q1=Z.length/\(trs x.2.2).length=q1):=⟨e6,h4,by rw[trs_len,h4,k7]⟩
  have x8:=hid hW
  have HX:Hid (opened x=argPairs x):=by show _=_;rw[opened,if_pos hx]
  clear h M e6 Q h4 k9 x3 e9 k7 ht L h6 k8 h5 k6 hx hW;refine callsIn_of_wp_marks Tryz.func37 rfl trivial ?_ rfl;simp only[Tryz.ntmps37,List.size_toArray,List.length_cons,List.length_nil,Nat.reduceAdd,Nat.reduceSub,Array.replicate_succ,Array.replicate_zero,List.push_toArray,List.append_toArray,List.nil_append,List.cons_append]
  gi_wp2_with fail
  refine wpIn_wide.2 ?_;have X:=w8;have kc:=X.cell2
  go_region_held3 (fun W=>W.cell? ⟨w.heap.size+1+1,0,none⟩=some (.pointer (some ⟨m,0,none⟩))) (first | exact kc | go_keep)
   ((go_at_call 44;refine(b6.o _ _ _ (by first | exact .inl ⟨rfl,rfl,rfl⟩ | exact .inr ⟨rfl,rfl,rfl⟩) _ (by first | exact X)).mono ?_;clear X kc;rintro e w5 ⟨rfl,X⟩;have kc:=X.cell2))
  have g5:w5.cell? ⟨O,1,none⟩=some (.slice (some ⟨R,0,none⟩) q1 q1):=(X.1.cell (World.block_lt_of_cell? _ _ k5)).trans k5;have g6:w5.cell? ⟨m,1,none⟩=some (.slice (some ⟨J,0,none⟩) q1 q1):=(X.1.cell (World.block_lt_of_cell? _ _ h9)).trans h9;have b7:=hid X;have g3:w.heap.size+2<w5.heap.size:=X.2.1;clear X kc w8
  gi_wp2_with fail
  refine⟨trivial,(back_in Fence.wide 2 trivial rfl _ _ _ _).mono ?_⟩;rintro e w' ⟨rfl,rfl⟩
  gi_wp2_with fail
  have h8:Below w.heap.size w (w5.alloc (.cells #[.slice (some ⟨R,0,none⟩) q1 q1] 52)):=Below.on b7.o.1 ((Below.refl _ _).alloc (Nat.le_refl _) _);have g4:Hid _:=h8;have d3:B<=w.heap.size:=Nat.le_trans w7 (Nat.le_of_lt V);have d6:R<F.heap.size:=I.o.1.2.2.2.2.1
  obtain⟨zs,w6⟩:∃ zs,zs=Y.map ifOf:=⟨_,rfl⟩
  have a9:=hid w6
  have c5:∀ j,j<q1->(w5.alloc (.cells #[.slice (some ⟨R,0,none⟩) q1 q1] 52)).cell? ⟨R,j,none⟩=some (.iface (zs[j]?.getD (0,.nilIface)).1 (zs[j]?.getD (0,.nilIface)).2):=fun j hj=>by
   have c6:j<Y.length:=by rw[<-I.o.2.1];exact hj
   rw[w6,zs_at I.o.1.2.2.2.2.2.2 c6,<-I.o.1.2.2.2.2.2.1 j c6];exact((x8.o.trans (h8.mono x8.o.size)).cell (p:=⟨R,j,none⟩) d6)
  clear w6;have hN:(w5.alloc (.cells #[.slice (some ⟨R,0,none⟩) q1 q1] 52)).heap[w5.heap.size]?=some (.cells #[.slice (some ⟨R,0,none⟩) q1 q1] 52):=heap_alloc_new _ _;refine wpIn_rangeFunc_ownG rfl (by decide) (gf:=168) (lb:=#[.pointer (some ⟨w5.heap.size,0,none⟩)]) rfl trivial (enters_of Tryz.func168 (by kernel_rfl) rfl)
   (backF_stops Fence.wide 2 trivial rfl (by decide) w5.heap.size B R q1 q1 zs a3 _ (by simp) (by simp;omega) (by omega) (cell_of_row _ _ 0 _ _ _ hN) c5) BKeep.trans (bKeep_b (by simp;omega)) (Below.refl _ _) (fun _=>rfl)
   (OInv F Bt w B y so m R q1 w5.heap.size (Value.ownBlock (.slice p0 n0 c0)) st x)
   (fun _ _ _=>False)
   (oInv_own F Bt w B y so m R q1 w5.heap.size _ st x V _ (by simp;omega))
   (fun _ _ _ _ _ hs _ _=>hs)
   ?start
   (fun i=>{ tmps:=#[.pointer (some ⟨y,so,none⟩),.agg #[.iface 101 (.pointer (some ⟨O,0,none⟩)),.iface 101 (.pointer (some ⟨m,0,none⟩))],.pointer (some ⟨w.heap.size,0,none⟩),.pointer (some ⟨w.heap.size+1,0,none⟩),.bool false,.pointer (some ⟨O,0,none⟩),.bool true,.pointer (some ⟨w.heap.size+1+1,0,none⟩),.bool true,Value.int .i64 ((i:Nat):Int),Value.iface ((zs[(i:Nat)]?.getD (0,.nilIface)).1) ((zs[(i:Nat)]?.getD (0,.nilIface)).2),.tuple #[.pointer (some ⟨O,0,none⟩),.bool true],.pointer (some ⟨w.heap.size+1,0,none⟩),.iface 101 (.pointer (some ⟨O,0,none⟩)),.tuple #[.pointer (some ⟨O,0,none⟩),.bool true],.pointer (some ⟨O,0,none⟩),.bool true,.tuple #[.pointer (some ⟨m,0,none⟩),.bool true],.pointer (some ⟨w.heap.size+1,1,none⟩),.iface 101 (.pointer (some ⟨m,0,none⟩)),.tuple #[.pointer (some ⟨m,0,none⟩),.bool true],.pointer (some ⟨m,0,none⟩),.bool true,.bool true,.bool false,.bool false,.bool true,.bool false,.bool false,undef,undef,undef,undef,.pointer (some ⟨O,0,none⟩),.agg #[.string s1,.int .i64 q1],.pointer (some ⟨m,0,none⟩),.agg #[.string s2,.int .i64 q1],.bool false,.pointer (some ⟨O,0,none⟩),.pointer (some ⟨O,0,none⟩),.pointer (some ⟨O,1,none⟩),.slice (some ⟨R,0,none⟩) q1 q1,.func (.func 168) #[] #[.pointer (some ⟨w5.heap.size,0,none⟩)],Value.int .i64 ((i:Nat):Int),Value.iface ((zs[(i:Nat)]?.getD (0,.nilIface)).1) ((zs[(i:Nat)]?.getD (0,.nilIface)).2),undef,undef,undef,undef,undef,undef,undef,undef,undef,undef,undef,undef,undef,undef,undef,undef],defers:=[] }) ?assign ?body ?done ?stop
  case start=>
   have c7:=b7.o.next ((Below.refl w5.heap.size w5).alloc (Nat.le_refl _) (.cells #[.slice (some ⟨R,0,none⟩) q1 q1] 52))
   exact⟨⟨p0,n0,c0,by simpa using x7.o.below h8,.inl rfl⟩,Kept2.of_below _ h8 V,c7.2.2.1,c7.2.2.2,hN⟩
  case assign=>
   intro l i W K hK
   gi_wp2
   exact hK
  case body=>
   rintro l b5 i W ⟨⟨p,n,c,N,U⟩,d,k1,k2,k3⟩ i3
   have HB:Hid (Below B w W):=d.below w7 (fun k e=>by
    obtain⟨_,hr,_⟩:=x7.o.row
    exact(hr.lt k e).1) d3
   have d5:Below F.heap.size F W:=x8.o.trans (HB.o.mono d1);have C:(i:Nat)<q1:=i.2
   obtain⟨j,ej⟩:∃ j,j=(i:Nat):=⟨_,rfl⟩
   rw[<-ej] at C
   have a5:Value.iface ((zs[(i:Nat)]?.getD (0,.nilIface)).1) ((zs[(i:Nat)]?.getD (0,.nilIface)).2)=Y.getD j .nilIface:=by
    rw[a9.o,<-ej];exact zs_at I.o.1.2.2.2.2.2.2 (by rw[<-I.o.2.1];exact C)
   have a6:=zs_at G.o.1.2.2.2.2.2.2 (j:=j) (by rw[<-G.o.2.1];exact C);have e7:=FoIn.tree _ _ I.o.1.2.2.2.2.2.2 j (by rw[I.o.2.2];exact C);have x4:=FoIn.tree _ _ G.o.1.2.2.2.2.2.2 j (by rw[G.o.2.2];exact C);have z:F.cell? ⟨J,j,none⟩=some (Z.getD j .nilIface):=G.o.1.2.2.2.2.2.1 j (by rw[<-G.o.2.1];exact C);rw[<-a5] at e7;rw[<-a6] at x4 z
   obtain⟨t1,w3⟩:∃ t,t=(zs[(i:Nat)]?.getD (0,.nilIface)).1:=⟨_,rfl⟩
   obtain⟨x1,w4⟩:∃ t,t=(zs[(i:Nat)]?.getD (0,.nilIface)).2:=⟨_,rfl⟩
   obtain⟨t2,c1⟩:∃ t,t=((Z.map ifOf)[j]?.getD (0,.nilIface)).1:=⟨_,rfl⟩
   obtain⟨x2,c2⟩:∃ t,t=((Z.map ifOf)[j]?.getD (0,.nilIface)).2:=⟨_,rfl⟩
   rw[<-w3,<-w4] at e7;rw[<-c1,<-c2] at x4 z
   dsimp only
   rw[<-w3,<-w4,<-ej];have e5:W.cell? ⟨J,j,none⟩=some (.iface t2 x2):=(d5.cell (World.block_lt_of_cell? _ _ z)).trans z
   have e4:W.cell? ⟨m,1,none⟩=some (.slice (some ⟨J,0,none⟩) q1 q1):=by
    have:=(HB.o.cell (p:=⟨m,1,none⟩) (show m<B by have:=World.block_lt_of_cell? _ _ G.o.1.2.2.2.1;simp at this;omega))
    exact this.trans h9
   have e1:W.cell? ⟨w.heap.size,0,none⟩=some (.pointer (some ⟨y,so,none⟩)):=cell_of_row _ _ 0 _ _ _ k1;have e3:W.cell? ⟨w.heap.size+1+1,0,none⟩=some (.pointer (some ⟨m,0,none⟩)):=cell_of_row _ _ 0 _ _ _ k2;have e2:=N.cell
   have b8:Hid (FoIn F Bt (prAt x j).1.fo [.iface t1 x1]/\FoIn F Bt (prAt x j).2.fo [.iface t2 x2]):=by
    refine⟨?_,?_⟩
    ·simpa [prAt,List.getD,I.o.2.2,C] using e7
    ·simpa [prAt,List.getD,G.o.2.2,C] using x4
   have a8:=hid ej
   have d7:(0:Int)<=(j:Int):=by omega
   have d8:(j:Int)<(q1:Int):=by omega
   have a7:∀ w,(Instr.build 89 #[(0,.iface t1 x1),(1,.iface t2 x2)]).run Tryz.prog w = .ok (.agg #[.iface t1 x1,.iface t2 x2]) w:=fun w=>run_build w 89 _ _ (by kernel_rfl)
   have g:(fun W':World=>W'.cell? ⟨w.heap.size,0,none⟩=some (.pointer (some ⟨y,so,none⟩))/\W'.cell? ⟨y,so,none⟩=some (.slice p n c)/\W'.cell? ⟨w.heap.size+1+1,0,none⟩=some (.pointer (some ⟨m,0,none⟩))/\W'.cell? ⟨m,1,none⟩=some (.slice (some ⟨J,0,none⟩) q1 q1)/\W'.cell? ⟨J,j,none⟩=some (.iface t2 x2)) W.drew:=⟨e1,e2,e3,e4,e5⟩
   clear a5 a6 e7 x4 z w3 w4 c1 c2 ej c5 e1 e2 e3 e4 e5
   gi_wp2_with fail
   refine wpIn_region_until (c:=16) (S:=fun W':World=>W'.cell? ⟨w.heap.size,0,none⟩=some (.pointer (some ⟨y,so,none⟩))/\W'.cell? ⟨y,so,none⟩=some (.slice p n c)/\W'.cell? ⟨w.heap.size+1+1,0,none⟩=some (.pointer (some ⟨m,0,none⟩))/\W'.cell? ⟨m,1,none⟩=some (.slice (some ⟨J,0,none⟩) q1 q1)/\W'.cell? ⟨J,j,none⟩=some (.iface t2 x2)) (by kernel_rfl) (by kernel_rfl) ?_;refine wpAnyU_take (i:=0) (v:=.pointer (some ⟨y,so,none⟩)) (D:=[15,16]) (some 45) (by kernel_rfl) (by kernel_rfl) (by kernel_rfl) (by kernel_rfl) (by kernel_rfl) (by rfl) (by kernel_rfl) (fun _ _ _ h=>h) (fun o u=>?y0) (g) ?_
   case y0=>
    cases u
    refine .inl ⟨by kernel_rfl,fun w' P=>?_⟩
    simp[execOp,go_sem,Act.eval,P.1]
   refine wpAnyU_take (i:=1) (v:=.pointer (some ⟨y,so,none⟩)) (D:=[2,3,14,16]) (some 46) (by kernel_rfl) (by kernel_rfl) (by kernel_rfl) (by kernel_rfl) (by kernel_rfl) (by rfl) (by kernel_rfl) (fun _ _ _ h=>h) (fun o u=>?y1) (g) ?_
   case y1=>
    cases u
    refine .inl ⟨by kernel_rfl,fun w' P=>?_⟩
    simp[execOp,go_sem,Act.eval,Act.put,P.1]
   refine wpAnyU_take (i:=2) (v:=.pointer (some ⟨y,so,none⟩)) (D:=[3,14,16]) (some 47) (by kernel_rfl) (by kernel_rfl) (by kernel_rfl) (by kernel_rfl) (by kernel_rfl) (by rfl) (by kernel_rfl) (fun _ _ _ h=>h) (fun o u=>?y2) (g) ?_
   case y2=>
    cases u
    refine .inl ⟨by kernel_rfl,fun w' P=>?_⟩
    simp[execOp,go_sem,Act.eval,Act.put]
   refine wpAnyU_take (i:=3) (v:=.slice p n c) (D:=[14,16]) (some 48) (by kernel_rfl) (by kernel_rfl) (by kernel_rfl) (by kernel_rfl) (by kernel_rfl) (by rfl) (by kernel_rfl) (fun _ _ _ h=>h) (fun o u=>?y3) (g) ?_
   case y3=>
    cases u
    refine .inl ⟨by kernel_rfl,fun w' P=>?_⟩
    simp[execOp,go_sem,Act.eval,Act.put,P.2.1]
   refine wpAnyU_take (i:=4) (v:=.iface t1 x1) (D:=[12,13,14,16]) (some 49) (by kernel_rfl) (by kernel_rfl) (by kernel_rfl) (by kernel_rfl) (by kernel_rfl) (by rfl) (by kernel_rfl) (fun _ _ _ h=>h) (fun o u=>?y4) (g) ?_
   case y4=>
    cases u
    refine .inl ⟨by kernel_rfl,fun w' P=>?_⟩
    simp[execOp,go_sem,Act.eval,Act.put]
   refine wpAnyU_take (i:=5) (v:=.pointer (some ⟨m,0,none⟩)) (D:=[6,7,8,10,11,12,13,14,16]) (some 50) (by kernel_rfl) (by kernel_rfl) (by kernel_rfl) (by kernel_rfl) (by kernel_rfl) (by rfl) (by kernel_rfl) (fun _ _ _ h=>h) (fun o u=>?y5) (g) ?_
   case y5=>
    cases u
    refine .inl ⟨by kernel_rfl,fun w' P=>?_⟩
    simp[execOp,go_sem,Act.eval,Act.put,P.2.2.1]
   refine wpAnyU_take (i:=6) (v:=.pointer (some ⟨m,0,none⟩)) (D:=[7,8,10,11,12,13,14,16]) (some 51) (by kernel_rfl) (by kernel_rfl) (by kernel_rfl) (by kernel_rfl) (by kernel_rfl) (by rfl) (by kernel_rfl) (fun _ _ _ h=>h) (fun o u=>?y6) (g) ?_
   case y6=>
    cases u
    refine .inl ⟨by kernel_rfl,fun w' P=>?_⟩
    simp[execOp,go_sem,Act.eval,Act.put]
   refine wpAnyU_take (i:=7) (v:=.pointer (some ⟨m,1,none⟩)) (D:=[8,10,11,12,13,14,16]) (some 52) (by kernel_rfl) (by kernel_rfl) (by kernel_rfl) (by kernel_rfl) (by kernel_rfl) (by rfl) (by kernel_rfl) (fun _ _ _ h=>h) (fun o u=>?y7) (g) ?_
   case y7=>
    cases u
    refine .inl ⟨by kernel_rfl,fun w' P=>?_⟩
    simp[execOp,go_sem,Act.eval,Act.put]
   refine wpAnyU_take (i:=8) (v:=.slice (some ⟨J,0,none⟩) q1 q1) (D:=[10,11,12,13,14,16]) (some 53) (by kernel_rfl) (by kernel_rfl) (by kernel_rfl) (by kernel_rfl) (by kernel_rfl) (by rfl) (by kernel_rfl) (fun _ _ _ h=>h) (fun o u=>?y8) (g) ?_
   case y8=>
    cases u
    refine .inl ⟨by kernel_rfl,fun w' P=>?_⟩
    simp[execOp,go_sem,Act.eval,Act.put,P.2.2.2.1]
   refine wpAnyU_take (i:=9) (v:=.int .i64 (j:Int)) (D:=[10,11,12,13,14,16]) (some 54) (by kernel_rfl) (by kernel_rfl) (by kernel_rfl) (by kernel_rfl) (by kernel_rfl) (by rfl) (by kernel_rfl) (fun _ _ _ h=>h) (fun o u=>?y9) (g) ?_
   case y9=>
    cases u
    refine .inl ⟨by kernel_rfl,fun w' P=>?_⟩
    simp[execOp,go_sem,Act.eval,Act.put]
   refine wpAnyU_take (i:=10) (v:=.pointer (some ⟨J,j,none⟩)) (D:=[11,12,13,14,16]) (some 55) (by kernel_rfl) (by kernel_rfl) (by kernel_rfl) (by kernel_rfl) (by kernel_rfl) (by rfl) (by kernel_rfl) (fun _ _ _ h=>h) (fun o u=>?y10) (g) ?_
   case y10=>
    cases u
    refine .inl ⟨by kernel_rfl,fun w' P=>?_⟩
    simp[execOp,go_sem,Act.eval,Act.put,d7,d8]
   refine wpAnyU_take (i:=11) (v:=.iface t2 x2) (D:=[12,13,14,16]) (some 56) (by kernel_rfl) (by kernel_rfl) (by kernel_rfl) (by kernel_rfl) (by kernel_rfl) (by rfl) (by kernel_rfl) (fun _ _ _ h=>h) (fun o u=>?y11) (g) ?_
   case y11=>
    cases u
    refine .inl ⟨by kernel_rfl,fun w' P=>?_⟩
    simp[execOp,go_sem,Act.eval,Act.put,P.2.2.2.2]
   refine wpAnyU_take (i:=12) (v:=.agg #[.iface t1 x1,.iface t2 x2]) (D:=[13,14,16]) (some 57) (by kernel_rfl) (by kernel_rfl) (by kernel_rfl) (by kernel_rfl) (by kernel_rfl) (by rfl) (by kernel_rfl) (fun _ _ _ h=>h) (fun o u=>?y12) (g) ?_
   case y12=>
    cases u
    refine .inl ⟨by kernel_rfl,fun w' P=>?_⟩
    simp[execOp,go_sem,Act.eval,Act.put]
   obtain⟨vs,E,a2⟩:=N.row;obtain⟨i0,hi,f5,f6,f7⟩:=info_parts infoPair;have w9:=N.len
   have i4:n<=2000000:=by
    have h1:=x7.o.len;rw[w9,List.length_append,List.length_map]
    omega
   have c9:some y≠Value.ownBlock (.slice p n c):=fun e=>by
    rcases E.2 with ⟨h',_⟩ | ⟨g',h7,b9,hv,_⟩
    ·cases h';cases e
    ·cases hv;cases e;exact N.away _ rfl rfl
   have c4:w.heap.size<=W.heap.size:=d.size;refine wpAnyU_all (rs:=[13]) (by kernel_rfl) (by decide) ?_
   intro i' H
   obtain rfl:i'=13:=by simpa using H
   clear H;refine wpOp_value (some 58) (by kernel_rfl) (by kernel_rfl) (v:=.slice (some ⟨W.heap.size,0,none⟩) 1 1) (w':=(W.alloc (.cells #[.iface t1 x1,.iface t2 x2] 89)).drew) (fun o u=>?r13) ⟨fun _=>?s13,?_⟩
   case r13=>cases u;simp[execOp,go_sem,Act.eval,Act.put]
   case s13=>exact⟨Lib.cell?_alloc_marked _ g.1,Lib.cell?_alloc_marked _ g.2.1,Lib.cell?_alloc_marked _ g.2.2.1,Lib.cell?_alloc_marked _ g.2.2.2.1,Lib.cell?_alloc_marked _ g.2.2.2.2⟩
   simp only[Act.put,zzA,zzB,zzC];refine wpAnyU_all (rs:=[14]) (by kernel_rfl) (by decide) ?_
   intro i' H
   obtain rfl:i'=14:=by simpa using H
   clear H;refine wpOp_oper (by kernel_rfl) (fun o u=>?_)
   cases u
   refine wp_append_lies _ (.tmp 48) (.tmp 58) 90 rfl B 89 i0 (.agg #[.nilIface,.nilIface]) 2 32 Tryz.underlying90 hi f5 f6 f7 rfl (by decide) (.slice p n c) n (flatP vs) (by rfl) (E.alloc _) ⟨W.heap.size,0,none⟩ 1 1 [.iface t1 x1,.iface t2 x2] (by rfl) rfl (cell_two_new _ _ _ _) (by simp[Value.oneCell']) (by decide) (by unfold maxLen;omega) (by omega) (by show B<=(W.alloc _).heap.size;simp;omega) (W.heap.size+1) (by show(W.alloc _).heap.size=_;simp) ?_
   intro g' h7 w1 b3 A x5 f9
   obtain⟨i2,M,e7,a4⟩:=N.grew (Nat.lt_of_lt_of_le V c4) a2 b8.o.1 b8.o.2 b3 A x5
   have T:∀ k,k<W.heap.size->some k≠Value.ownBlock (.slice p n c)->w1.heap[k]?=W.heap[k]?:=fun k hk e=>(A.block k (by show k<(W.alloc _).heap.size;simp;omega) e).trans (Below.heap_alloc _ _ _ hk)
   have x6:∀ k,k<B->some k≠Value.ownBlock (.slice p n c):=fun k hk e=>by have:=(E.lt k e.symm).1;omega
   have r1:=(T _ (Array.getElem?_eq_some_iff.1 k1).1 (row_ne E k1 (by decide))).trans k1;have r2:=(T _ (Array.getElem?_eq_some_iff.1 k2).1 (row_ne E k2 (by decide))).trans k2;have r3:=(T _ (Array.getElem?_eq_some_iff.1 k3).1 (row_ne E k3 (by decide))).trans k3
   have c3:w1.cell? ⟨w.heap.size,0,none⟩=some (.pointer (some ⟨y,so,none⟩))/\w1.cell? ⟨y,so,none⟩=some (.slice p n c)/\w1.cell? ⟨w.heap.size+1+1,0,none⟩=some (.pointer (some ⟨m,0,none⟩))/\w1.cell? ⟨m,1,none⟩=some (.slice (some ⟨J,0,none⟩) q1 q1)/\w1.cell? ⟨J,j,none⟩=some (.iface t2 x2):=by
    have g9:m<F.heap.size:=World.block_lt_of_cell? _ _ G.o.1.2.2.2.1;have i1:J<F.heap.size:=G.o.1.2.2.2.2.1;exact⟨cell_of_row _ _ 0 _ _ _ r1,M,cell_of_row _ _ 0 _ _ _ r2,(World.cell?_of_block (a:=⟨m,1,none⟩) (T m (by omega) (x6 m (by omega)))).trans g.2.2.2.1,(World.cell?_of_block (a:=⟨J,j,none⟩) (T J (by omega) (x6 J (by omega)))).trans g.2.2.2.2⟩
   refine⟨fun _=>c3,?_⟩;refine wpAnyU_all (rs:=[15]) (by kernel_rfl) (by decide) ?_
   intro i' H
   obtain rfl:i'=15:=by simpa using H
   clear H;refine wpOp_value (some 60) (by kernel_rfl) (by kernel_rfl) (v:=.pointer (some ⟨y,so,none⟩)) (w':=w1) (fun o u=>?r15) ⟨fun _=>c3,?_⟩
   case r15=>cases u;simp[execOp,go_sem,Act.eval,Act.put]
   refine wpAnyU_all (rs:=[16]) (by kernel_rfl) (by decide) ?_
   intro i' H
   obtain rfl:i'=16:=by simpa using H
   clear H;refine wpOp_skip none (by kernel_rfl) (by kernel_rfl) (w':=w1.setCell ⟨y,so,none⟩ (.slice (some ⟨g',0,none⟩) (n+1) h7)) (fun o u=>?r16) ⟨(fun h=>by cases h),?_⟩
   case r16=>cases u;simp[execOp,go_sem,Act.eval,Act.put,M,e7]
   refine wpAnyU_done (by kernel_rfl) ⟨rfl,?_⟩ _
   have d4:KeepsOthers W (w1.setCell ⟨y,so,none⟩ (.slice (some ⟨g',0,none⟩) (n+1) h7)):=((KeepsOthers.alloc W _).trans ((KeepsOthers.drew _).trans ((KeepsOthers.of_grownBy A (fun k o e u=>by
    rcases E.2 with ⟨h',_⟩ | ⟨g7,f8,b9,hv,_,hh,_⟩
    ·cases h';cases e
    ·cases hv
     cases e
     have:=(Below.heap_alloc W (.cells #[.iface t1 x1,.iface t2 x2] 89) _ (Array.getElem?_eq_some_iff.1 hh).1).trans hh;have h2:some o=some (Obj.cells b9 89):=u.symm.trans this
     cases h2;rfl)).trans (KeepsOthers.setCell _ _ _))))
   have d2:Below B W (w1.setCell ⟨y,so,none⟩ (.slice (some ⟨g',0,none⟩) (n+1) h7)):=((((Below.refl B W).alloc (by omega) _).drew).grown A (by show B<=(W.alloc _).heap.size;simp;omega) (fun k e=>(E.lt k e).1)).setCell (p:=⟨y,so,none⟩) w7 _
   have c8:w5.heap.size≠y:=by omega
   have b4:st ++ (b5 ++ [i]).map (fun i:Fin q1=>prAt x (i:Nat))=st ++ b5.map (fun i:Fin q1=>prAt x (i:Nat)) ++ [prAt x j]:=by rw[a8.o];simp
   refine⟨d4.from _,⟨d2,fun v hv=>?_⟩,⟨_,_,_,by rw[b4];exact a4,?_⟩,d.round V U c9 A _,?_,?_,?_⟩
   ·rw[World.cell?_setCell_other _ _ _ _ (fun e=>c8 (congrArg Addr.block e).symm)]
    have:=cell_of_row W _ 0 _ _ _ k3;rw[this] at hv;rw[<-hv];exact cell_of_row _ _ 0 _ _ _ r3
   ·rcases x5 with h' | h'
    ·rcases U with h2 | ⟨k,h2,hk⟩
     ·exact .inl (by rw[<-h2,h'];rfl)
     ·exact .inr ⟨k,by rw[<-h2,h'];rfl,hk⟩
    ·exact .inr ⟨g',rfl,by omega⟩
   ·exact(Below.heap_setCell _ _ _ _ (by simp;omega)).trans r1
   ·exact(Below.heap_setCell _ _ _ _ (by simp;omega)).trans r2
   ·exact(Below.heap_setCell _ _ _ _ (by simp;omega)).trans r3
  case done=>
   rintro D ys W hD rfl ⟨⟨p,n,c,N,U⟩,d,k1,k2,k3⟩ hK;rw[prAt_all x q1 I.o.2.2 G.o.2.2,<-HX.o] at N
   have HR:Hid (OpenOut F Bt w B y so (Value.ownBlock (.slice p0 n0 c0)) st x (.returned (.bool true)) (W.putObj D (.deferred none))):=by
    have hr:∀ r,some D=some r->∃ o:Obj,W.heap[r]?=some o/\o.isCells=false:=fun r e=>by cases e;exact⟨_,hK,rfl⟩
    have e8:=grownBy_putObj' W D (.deferred none)
    have g8:w.heap.size<=D:=by simp at hD;omega
    have hb:∀ k,k<w.heap.size->(W.putObj D (.deferred none)).heap[k]?=W.heap[k]?:=fun k hk=>e8.block k (Nat.lt_of_lt_of_le hk d.size) (fun e=>by cases e;omega)
    refine k4.o _ ⟨p,n,c,N.kept e8 hr,U⟩ ⟨e8.os.trans d.os,e8.tape.trans d.tape,e8.output.trans d.output,Nat.le_trans d.size e8.size,fun k h1 h2 h3=>(hb k h1).trans (d.block k h1 h2 h3),
     fun o u=>(World.cell?_of_block (a:=⟨y,o,none⟩) (hb y V)).trans (d.cells o u),fun o=>(World.frozen?_of_block (a:=⟨y,o,none⟩) (hb y V)).trans (d.frz o)⟩
   clear N U d k1 k2 k3
   gi_wp2
   refine⟨by simp,.inl ⟨_,_,rfl,run_takeDeferred hK,?_⟩⟩;exact⟨.bool true,by simp[results,Tryz.f37,go_sem],HR.o⟩
  case stop=>
   rintro D c b5 W _ _ h _;exact h.elim
 ·have ht:decide (x.1.1=x.2.1)=false:=by simpa using hx
  rw[ht] at hq
  have k4:Hid (∀ W,Below w.heap.size w W->OpenOut F Bt w B y so (Value.ownBlock (.slice p0 n0 c0)) st x (.returned (.bool false)) W):=fun W hb=>
   ⟨by rw[ht],⟨p0,n0,c0,by rw[opened,if_neg hx,List.append_nil];exact h.below hb,.inl rfl⟩,Kept2.of_below _ hb V⟩
  refine callsIn_wide.2 ?_;simp only[Bool.not_false] at hq;clear h M e6 Q h4 k9 x3 e9 k7 ht L h6 k8 h5 k6 hx hW x9 k5 w2 h9
  go_enter Tryz.func37,Tryz.ntmps37
  go_wp2_with fail;have X:=w8;have kc:=X.cell2
  go_region_held3 (fun W=>W.cell? ⟨w.heap.size+1+1,0,none⟩=some (.pointer (some ⟨m,0,none⟩))) (first | exact kc | go_keep)
   ((go_at_call 44;refine(b6.o _ _ _ (by first | exact .inl ⟨rfl,rfl,rfl⟩ | exact .inr ⟨rfl,rfl,rfl⟩) _ (by first | exact X)).mono ?_;clear X kc;rintro e w5 ⟨rfl,X⟩;have kc:=X.cell2))
  go_wp2_with fail;go_ret;exact k4.o _ X.1
end
section
open Go Go.RowKit
theorem open_any (a:World)(d:Nat)(w:World)(B i r:Nat)(p:Option Addr)(n c:Nat)(st:List TT)(x:TT)(D E:Value)(h:Stk a d w B i r p n c st)(O:Below a.heap.size a w)(s:a.heap.size<=B)(t:B<=i)(z:n<=1000000)
  (o:FoIn a d x.1.fo [D]) (q:FoIn a d x.2.fo [E]) (l:x.1.ok) (m:x.2.ok) :
  Calls Tryz.prog 37 #[.pointer (some ⟨i,r,none⟩),.agg #[D,E]] w (OpenOut a d w B i r (Value.ownBlock (.slice p n c)) st x):=by
 by_cases j:x.1.1.1=3/\x.2.1.1=3
 ·obtain⟨u1,S,K,A,_⟩:=o
  obtain⟨rfl,rfl⟩:=List.cons.inj K;obtain⟨u2,T,L,C,_⟩:=q;obtain⟨rfl,rfl⟩:=List.cons.inj L
  have f:∀ {c:Cel} {k:Fo} {v:Value},NodeIn a d c (fun R=>FoIn a d k R) v->c.1=3->∃ b g F,v = .iface 101 (.pointer (some ⟨b,0,none⟩))/\CompAt a d c.2.2 k b g F:=fun {c k v} z h=>by
   rcases z with ⟨e,_⟩ | ⟨e,_⟩ | ⟨e,_⟩ | ⟨_,b,g,F,Q,P⟩
   ·omega
   ·omega
   ·omega
   ·exact⟨b,g,F,Q,P⟩
  obtain⟨I,M,G,rfl,u⟩:=f A j.1;obtain⟨J,N,H,rfl,y⟩:=f C j.2;exact callsIn_wide.1 (openComp_wide a d w B i r p n c st x I M J N G H h O s t z u y l m j.1 j.2)
 ·exact openLeaf_any a d w B i r p n c st x D E h o q l m j
theorem Stk.made {d:World}{c:Nat}(w:World)(x:TT)(a b:Value)(t:TypeId)(h:FoIn d c x.1.fo [a])(i:FoIn d c x.2.fo [b]) :
  Stk d c ((w.alloc (.cells #[a,b] 89)).alloc (.cells #[.slice (some ⟨w.heap.size,0,none⟩) 1 1] t)) w.heap.size (w.heap.size+1) 0 (some ⟨w.heap.size,0,none⟩) 1 1 [x]:=by
 have f:=heap_alloc_new (w.alloc (.cells #[a,b] 89)) (.cells #[.slice (some ⟨w.heap.size,0,none⟩) 1 1] t);rw[World.size_alloc] at f;have j:((w.alloc (.cells #[a,b] 89)).alloc (.cells #[.slice (some ⟨w.heap.size,0,none⟩) 1 1] t)).heap[w.heap.size]?=some (.cells #[a,b] 89):=(Below.heap_alloc _ _ _ (by simp)).trans (heap_alloc_new _ _);refine⟨cell_of_row _ _ 0 _ _ _ f,frozen_of_row _ _ 0 _ _ f,rfl,⟨[(a,b)],⟨rfl,.inr ⟨w.heap.size,1,#[a,b],rfl,Nat.le_refl _,j,Nat.le_refl _,by decide,rfl,rfl⟩⟩,⟨_,[],rfl,h,i,rfl⟩⟩,fun g e=>by cases e;omega⟩
theorem isSame_any (m:World)(v:Nat)(w:World)(x:TT)(P Q:Value)(hW:Below m.heap.size m w)(F:FoIn m v x.1.fo [P])(G:FoIn m v x.2.fo [Q])(K:x.1.ok)(L:x.2.ok)(hl:x.1.2.cells.length<=10000) :
  Calls Tryz.prog 19 #[P,Q] w fun e w'=>e = .returned (.bool (eqT x))/\Below w.heap.size w w':=by
 obtain⟨t1,y1,rfl⟩:=FoIn.iface (show FoIn m v (.node x.1.1 x.1.2 .nil) [P] from F);obtain⟨t2,y2,rfl⟩:=FoIn.iface (show FoIn m v (.node x.2.1 x.2.2 .nil) [Q] from G);have HS:Hid _:=Stk.made w x (.iface t1 y1) (.iface t2 y2) 90 F G
 have HB:Hid (∀ a b,Below w.heap.size w ((w.alloc a).alloc b)):=fun a b=>((Below.refl _ _).alloc (Nat.le_refl _) _).alloc (by simp) _
 have W:=hid hW
 have U:Hid (x.1.ok/\x.2.ok):=⟨K,L⟩
 have Z:Hid (sames [x]=eqT x):=by simp[sames,Hid]
 obtain⟨R,eR⟩:∃ R,R=eqT x:=⟨_,rfl⟩
 rw[<-eR] at Z ⊢;clear hW F G K L eR
 go_enter Tryz.func19,Tryz.ntmps19
 go_wp2
 go_loopg [] (load [x]) (fun k wr=>∃ (p:Option Addr) (n c:Nat) (st:List TT),wr.cell? ⟨w.heap.size+1,0,none⟩=some (.slice p n c)/\n<=100000/\Hid (Stk m v wr w.heap.size (w.heap.size+1) 0 p n c st/\(∀ y ∈ st,y.1.ok/\y.2.ok)/\load st=k/\k<=20000/\sames st=R/\Below w.heap.size w wr))
 case atStart=>exact⟨_,_,_,[x],HS.o.cell,by decide,HS.o,fun y r=>by rw[List.mem_singleton.1 r];exact U.o,rfl,by simp[load];omega,Z.o,HB.o _ _⟩
 case round=>
  obtain⟨p,n,c,st,D,hn,i⟩:=hrel
  rcases List.eq_nil_or_concat st with rfl | ⟨d,y,rfl⟩
  ·have X:n=0:=i.o.1.len
   subst X;have S:=hid i.o.2.2.2.2.1.symm
   go_wp2
   go_ret;exact⟨ret_bool S.o.symm,i.o.2.2.2.2.2⟩
  ·rw[List.concat_eq_append] at i
   have q:=i.o.1;have u:=q.len
   have J:n=d.length+1:=by rw[u];simp
   have h6:(0:Int)<(n:Int):=by omega
   have HT:=take_any m v wr w.heap.size (w.heap.size+1) 0 p n c d y (by omega) q;have M:y.1.ok/\y.2.ok:=i.o.2.1 y (by simp);have f:=hid M;have H:Hid (w.heap.size+1<wr.heap.size):=World.block_lt_of_cell? _ _ D
   have N:∀ k,Value.ownBlock (.slice p n c)=some k->w.heap.size<=k:=fun k e=>by
    obtain⟨_,hr,_⟩:=q.row;exact(hr.lt k e).1
   have V:=hid N;have T:=hid J;clear q u J M N;go_wp2_with fail;refine HT.mono ?_;rintro e w1 ⟨P,Q,rfl,f1,f2,⟨p',n',c',E,h⟩,hk⟩;have C:Below w.heap.size w w1:=i.o.2.2.2.2.2.trans (hk.below (by omega) (fun k e=>by cases e) (by have:=H.o;omega));have s:=open_any m v w1 w.heap.size (w.heap.size+1) 0 p' n' c' d y P Q E (W.o.trans (C.mono W.o.size)) W.o.size (by omega) (by have:=E.len;have:=T.o;omega) f1 f2 f.o.1 f.o.2
   have t:Hid (∀ k,Value.ownBlock (.slice p' n' c')=some k->w.heap.size<=k):=by show ∀ k,_->_;rw[h];exact V.o
   have j:=hid C;clear E h hk C HT f1 f2
   by_cases r:y.1.1=y.2.1
   ·have I:decide (y.1.1=y.2.1)=true:=by simpa using r
    unfold OpenOut at s
    rw[I] at s
    have l:Hid (load (d ++ opened y)<gk/\sames (d ++ opened y)=R/\(∀ z ∈ d ++ opened y,z.1.ok/\z.2.ok)):=by
     obtain⟨_,h2,h3,_,h5,_⟩:=i.o;refine⟨?_,?_,?_⟩
     ·have:=load_opened y
      rw[<-h3,load_append,load_append]
      simp[load];omega
     ·rw[sames_open _ _ r (ok_count f.o.1 f.o.2 r)];exact h5
     ·intro z hz
      rcases List.mem_append.1 hz with hz | hz
      ·exact h2 z (by simp[hz])
      ·exact opened_ok f.o.1 f.o.2 z hz
    clear I r;go_wp2_with fail;refine s.mono ?_;rintro e Y ⟨rfl,⟨p2,n2,c2,O,_⟩,g⟩;have B:Hid _:=O;have A:Hid (Below w.heap.size w Y):=j.o.trans (g.below (by omega) t.o (by have:=j.o.size;omega));clear g s O;go_wp2_with fail
    go_roundg (load (d ++ opened y))
    case measure=>exact l.o.1
    case rel=>
     have h4:=i.o.2.2.2.1;have h1:=l.o.1;exact⟨p2,n2,c2,d ++ opened y,B.o.cell,by have:=B.o.len;have:=len_load (d ++ opened y);omega,B.o,l.o.2.2,rfl,by omega,l.o.2.1,A.o⟩
   ·have I:decide (y.1.1=y.2.1)=false:=by simpa using r
    unfold OpenOut at s
    rw[I] at s
    have S:Hid (R=false):=by show _=_;rw[<-i.o.2.2.2.2.1,sames_no _ _ r]
    clear I r;go_wp2_with fail;refine s.mono ?_;rintro e Y ⟨rfl,_,g⟩;have A:Hid (Below w.heap.size w Y):=j.o.trans (g.below (by omega) t.o (by have:=j.o.size;omega));clear g s;go_wp2_with fail;go_ret;exact⟨ret_bool S.o.symm,A.o⟩
end
end Go.Proofs.YtnfnddnffoigfaaGreatDoor
