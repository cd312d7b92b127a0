/- Texts of RdA, RdB. Own work of the verifier. -/
import Derived.Test.YtlkhmmoimplokaaGreatDoorUqbc
import Derived.Test.YtlkhmmoimplokaaGreatDoorUqaq
import Derived.Test.YtlkhmmoimplokaaGreatDoorUqaz
namespace Go.Proofs.YtlkhmmoimplokaaGreatDoor
set_option maxHeartbeats 2000000
set_option maxRecDepth 100000
open Go Go.RowKit Go.Maps
set_option linter.unusedVariables false
set_option linter.unusedSimpArgs false
def senT (L:Int):Tok:=((0,L,0,0),[])
def RS.hd (L:Int)(s:RS):Tok:=s.ts.headD (senT L)
theorem hd_kd (L:Int)(s:RS):(s.hd L).1.1=s.kd:=by unfold RS.hd RS.kd;cases s.ts <;> rfl
theorem hd_pl (L:Int)(s:RS):(s.hd L).1.2.1=s.pl L:=by unfold RS.hd RS.pl;cases s.ts <;> rfl
theorem hd_ln (L:Int)(s:RS):(s.hd L).1.2.2.1=s.ln:=by unfold RS.hd RS.ln;cases s.ts <;> rfl
theorem hd_nv (L:Int)(s:RS):(s.hd L).1.2.2.2=s.nv:=by unfold RS.hd RS.nv;cases s.ts <;> rfl
theorem hd_tx (L:Int)(s:RS):(s.hd L).2=s.tx:=by unfold RS.hd RS.tx;cases s.ts <;> rfl
abbrev tokVR (t:Tok)(p:Option Addr)(c:Nat):Value:=.agg #[.int .i64 t.1.1,.int .i64 t.1.2.1,.int .i64 t.1.2.2.1,.slice p t.2.length c,.int .i64 t.1.2.2.2]
theorem fieldT0 (W:World)(a b c d e:Value):(Instr.field 86 (.agg #[a,b,c,d,e]) 0).run Tryz.prog W = .ok a W:=by kernel_rfl
theorem fieldT1 (W:World)(a b c d e:Value):(Instr.field 86 (.agg #[a,b,c,d,e]) 1).run Tryz.prog W = .ok b W:=by kernel_rfl
theorem fieldT3 (W:World)(a b c d e:Value):(Instr.field 86 (.agg #[a,b,c,d,e]) 3).run Tryz.prog W = .ok d W:=by kernel_rfl
theorem fieldT4 (W:World)(a b c d e:Value):(Instr.field 86 (.agg #[a,b,c,d,e]) 4).run Tryz.prog W = .ok e W:=by kernel_rfl
structure Sty (rb vb:Nat)(w w':World):Prop where
 os:w'.os=w.os
 tape:w'.tape=w.tape
 output:w'.output=w.output
 size:w.heap.size<=w'.heap.size
 block:∀ k,k<w.heap.size->k≠rb->k≠vb->w'.heap[k]?=w.heap[k]?
theorem Sty.refl (rb vb:Nat)(w:World):Sty rb vb w w:=⟨rfl,rfl,rfl,Nat.le_refl _,fun _ _ _ _=>rfl⟩
theorem Sty.below {rb vb:Nat}{w w1 a:World}(h:Sty rb vb w w1)(k:Below w1.heap.size w1 a):Sty rb vb w a:=⟨k.os.trans h.os,k.tape.trans h.tape,k.output.trans h.output,Nat.le_trans h.size k.size,fun x b d c=>(k.block x (Nat.lt_of_lt_of_le b h.size)).trans (h.block x b d c)⟩
theorem Sty.cell {rb vb:Nat}{w w':World}(h:Sty rb vb w w'){q o:Nat}{v:Value}(b:w.cell? ⟨q,o,none⟩=some v)(d:q≠rb)(c:q≠vb):w'.cell? ⟨q,o,none⟩=some v:=(World.cell?_of_block (a:=⟨q,o,none⟩) (h.block q (World.block_lt_of_cell? _ _ b) d c)).trans b
structure RFr (rb vb:Nat)(w w':World):Prop where
 os:w'.os=w.os
 tape:w'.tape=w.tape
 output:w'.output=w.output
 size:w.heap.size<=w'.heap.size
 block:∀ k,k<w.heap.size->k≠rb->k≠vb->(∀ a b c,w.cell? ⟨k,0,none⟩≠some (.slice a b c))->w'.heap[k]?=w.heap[k]?
theorem RFr.refl (rb vb:Nat)(w:World):RFr rb vb w w:=⟨rfl,rfl,rfl,Nat.le_refl _,fun _ _ _ _ _=>rfl⟩
theorem RFr.trans {rb vb:Nat}{w w1 g:World}(h:RFr rb vb w w1)(k:RFr rb vb w1 g):RFr rb vb w g:=⟨k.os.trans h.os,k.tape.trans h.tape,k.output.trans h.output,Nat.le_trans h.size k.size,fun x i f d j=>by
 have e:=h.block x i f d j;refine(k.block x (Nat.lt_of_lt_of_le i h.size) f d fun a b c l=>j a b c ?_).trans e
 rw[<-l];exact(World.cell?_of_block (a:=⟨x,0,none⟩) e).symm⟩
theorem RFr.of (rb vb:Nat){w w':World}(h:Below w.heap.size w w'):RFr rb vb w w':=⟨h.os,h.tape,h.output,h.size,fun k a _ _ _=>h.block k a⟩
theorem RFr.set (rb vb:Nat)(w:World)(o:Nat)(v:Value):RFr rb vb w (w.setCell ⟨rb,o,none⟩ v):=⟨rfl,rfl,rfl,by simp,fun k c a b _=>Below.heap_setCell _ _ _ _ a⟩
theorem RFr.cell {rb vb:Nat}{w w':World}(h:RFr rb vb w w'){q o:Nat}{v u:Value}(d:w.cell? ⟨q,o,none⟩=some v)(g:w.cell? ⟨q,0,none⟩=some u)(i:q≠rb)(f:q≠vb)(j:∀ a b c,u≠.slice a b c):w'.cell? ⟨q,o,none⟩=some v:=
 (World.cell?_of_block (a:=⟨q,o,none⟩) (h.block q (World.block_lt_of_cell? _ _ d) i f (fun a b c e=>j a b c (by rw[g] at e;exact Option.some.inj e)))).trans d
def OwnV (w:World)(B:Nat)(p:Option Addr)(n c:Nat)(ns:List (List Int)):Prop:=
 n=ns.length/\(ns = []->p=none)/\∃ rs:List (Option Addr×Nat),rs.length=ns.length/\w.ownsRow B 23 1 (.slice p n c) n ((List.range ns.length).map fun i=>.slice (rs.getD i (none,0)).1 (ns.getD i []).length (rs.getD i (none,0)).2)/\
   (∀ i,i<ns.length->OwnT w B (rs.getD i (none,0)).1 (ns.getD i []).length (rs.getD i (none,0)).2 (ns.getD i []))/\
   (∀ i,i<ns.length->0<(ns.getD i []).length->(rs.getD i (none,0)).1≠p)/\
   (∀ i j,i<ns.length->j<ns.length->i≠j->0<(ns.getD i []).length->0<(ns.getD j []).length->(rs.getD i (none,0)).1≠(rs.getD j (none,0)).1)
theorem OwnV.nil (w:World)(B:Nat):OwnV w B none 0 0 []:=⟨rfl,fun _=>rfl,[],rfl,World.ownsRow_nil _ _ _ _,fun i h=>by simp at h,fun i h=>by simp at h,fun i j h=>by simp at h⟩
theorem rowV_of {w j:World}{B n c:Nat}{p:Option Addr}{e:TypeId}{f:List Value}{z:Nat}(h:w.ownsRow B e z (.slice p n c) n f)(o:∀ k,B<=k->k<w.heap.size->j.heap[k]?=w.heap[k]?):j.ownsRow B e z (.slice p n c) n f:=by
 refine⟨h.1,?_⟩
 rcases h.2 with m | ⟨g,b,a,l,d,i,r⟩
 ·exact .inl m
 ·exact .inr ⟨g,b,a,l,d,(o g d (Array.getElem?_eq_some_iff.1 i).1).trans i,r⟩
theorem OwnV.of {w w':World}{B:Nat}{p:Option Addr}{n c:Nat}{j:List (List Int)}(h:OwnV w B p n c j)(t:w.heap.size<=w'.heap.size)(m:∀ k,B<=k->k<w.heap.size->w'.heap[k]?=w.heap[k]?):OwnV w' B p n c j:=by
 obtain⟨q,b,u,r,v,d,ha⟩:=h;refine⟨q,b,u,r,rowV_of v m,fun i l=>(d i l).other t fun g b e=>?_,ha⟩;obtain⟨g',f,o,a,_⟩:=(d i l).2 b
 rw[e] at f;cases f
 exact m g o a
theorem OwnV.row {w:World}{B:Nat}{p:Option Addr}{n c:Nat}{l:List (List Int)}(h:OwnV w B p n c l):∀ g,Value.ownBlock (.slice p n c)=some g->B<=g/\g<w.heap.size/\∃ a b d,w.cell? ⟨g,0,none⟩=some (.slice a b d):=fun g f=>by
 obtain⟨m,u,o,A,j,y,ha⟩:=h;refine⟨(j.lt g f).1,(j.lt g f).2,?_⟩
 cases l with
 | nil=>rw[u rfl] at f;cases f
 | cons x r=>
   obtain⟨q,v,i,z,t⟩:=j.form (by rw[m];simp)
   have e:q=g:=by
    simp only[Value.slice.injEq] at i;rw[i.1] at f;exact Option.some.inj f
   subst e;simp only[Value.slice.injEq] at i;obtain⟨rfl,_⟩:=i;refine⟨(o.getD 0 (none,0)).1,x.length,(o.getD 0 (none,0)).2,?_⟩;rw[j.cellAt 0 (by rw[m];simp)]
   simp[List.range_succ_eq_map]
def VrM (w:World)(b:Nat)(ns:List (List Int)):Prop:=∃ (N:Nat) (D:DataW Unit),w.ownsMap Tryz.prog 9 (plainElem Tryz.prog 150) b N D/\N<=ns.length/\
 (∀ xs,Byte xs->xs≠[]->Maps.has D (.string (strOfNums xs).data.toList)=decide (xs ∈ ns))/\(∀ xs ∈ ns,xs≠[]->D.atKey (.string (strOfNums xs).data.toList) (.lit (.int .i64 0)) = .lit (.int .i64 (ns.idxOf xs)))
theorem VrM.of_block {w d:World}{b:Nat}{c:List (List Int)}(h:VrM w b c)(i:d.heap[b]?=w.heap[b]?):VrM d b c:=by
 obtain⟨N,D,⟨g,a,f,r⟩,e⟩:=h;exact⟨N,D,⟨g,a,i.trans f,r⟩,e⟩
theorem VrM.lt {w:World}{b:Nat}{a:List (List Int)}(h:VrM w b a):b<w.heap.size:=by obtain⟨N,D,h,_⟩:=h;exact h.lt
def stF (k:Int):Nat:=if k=1 then 67 else if k=2 then 63 else if k=3 then 62 else if k=4 then 64 else if k=5 then 65 else 66
abbrev ptrR (b:Nat):Value:=.pointer (some ⟨b,0,none⟩)
structure REnv (w1:World)(rb vb kb kc:Nat)(ov sv:Value)(T:List Cel)(L:Int)(all:List Tok):Prop where
 lt:rb<w1.heap.size/\vb<w1.heap.size/\kb<w1.heap.size
 ne:kb≠rb/\kb≠vb/\rb≠vb
 cap:all.length+1<=kc/\kc<=9223372036854775807
 len:all.length<=10000
 big:0<=L/\L<=9000000000
 tok:∀ i,i<=all.length->∃ p c,w1.cell? ⟨kb,i * 5,none⟩=some (.int .i64 ((all.drop i).headD (senT L)).1.1)/\w1.cell? ⟨kb,i * 5+1,none⟩=some (.int .i64 ((all.drop i).headD (senT L)).1.2.1)/\w1.cell? ⟨kb,i * 5+2,none⟩=some (.int .i64 ((all.drop i).headD (senT L)).1.2.2.1)/\
  w1.cell? ⟨kb,i * 5+3,none⟩=some (.slice p ((all.drop i).headD (senT L)).2.length c)/\w1.cell? ⟨kb,i * 5+4,none⟩=some (.int .i64 ((all.drop i).headD (senT L)).1.2.2.2)/\∀ W,Sty rb vb w1 W->BIn W p ((all.drop i).headD (senT L)).2
 tg:∀ t ∈ all,TokG t
 tab:∀ c ∈ T,(1<=c.1/\c.1<=1200)/\(0<=c.2.1/\c.2.1<=6)/\Byte c.2.2/\c.2.2.length<=100
 ops:all≠[]->∃ ob N,ov = .map (some ob)/\∀ W,Sty rb vb w1 W->OpMap W ob N T
 st:∀ W,Sty rb vb w1 W->∀ x:Int,0<=x->x<=7->(all = []->x=0)->(Instr.lookup 75 sv (.int .i64 x) true).run Tryz.prog W = .ok (.tuple #[if 1<=x/\x<=6 then .func (.func (stF x)) #[ptrR rb] #[] else .nilFunc,.bool (decide (1<=x/\x<=6))]) W
structure RI (w1:World)(rb vb kb kc:Nat)(ov sv:Value)(all:List Tok)(k:Nat)(s:RS)(w:World):Prop where
 sty:Sty rb vb w1 w
 c0:w.cell? ⟨rb,0,none⟩=some ov
 c1:w.cell? ⟨rb,1,none⟩=some (.slice (some ⟨kb,k * 5,none⟩) (all.length+1-k) (kc-k))
 c2:w.cell? ⟨rb,2,none⟩=some sv
 c3:w.cell? ⟨rb,3,none⟩=some (.map (some vb))
 c4:∃ p n c,w.cell? ⟨rb,4,none⟩=some (.slice p n c)/\OwnV w w1.heap.size p n c s.ns
 c5:w.cell? ⟨rb,5,none⟩=some (.int .i64 (s.ft.getD (0,0)).1)
 c6:w.cell? ⟨rb,6,none⟩=some (.int .i64 (s.ft.getD (0,0)).2)
 fz:∀ o,w.frozen? ⟨rb,o,none⟩=false
 ts:k<=all.length/\s.ts=all.drop k
 vm:VrM w vb s.ns
 ov:∃ o,ov = .map o
 fo:∀ c,s.ft=some c->c.1≠0/\s.ts = []
 nb:(∀ xs ∈ s.ns,Byte xs)/\s.ns.length+s.ts.length<=all.length
section
variable {w1:World}{rb vb kb kc:Nat}{ov sv:Value}{T:List Cel}{L:Int}{all:List Tok}{k:Nat}{s:RS}{w:World}
theorem RI.below {w':World}(h:RI w1 rb vb kb kc ov sv all k s w)(b:Below w.heap.size w w'):RI w1 rb vb kb kc ov sv all k s w':=by
 have a:∀ p v,w.cell? p=some v->w'.cell? p=some v:=fun p v h=>(b.cell (World.block_lt_of_cell? _ _ h)).trans h
 obtain⟨p,n,c,e,d⟩:=h.c4;exact⟨h.sty.below b,a _ _ h.c0,a _ _ h.c1,a _ _ h.c2,a _ _ h.c3,⟨p,n,c,a _ _ e,d.of b.size fun k _ f=>b.block k f⟩,a _ _ h.c5,a _ _ h.c6,fun o=>(b.frozen (p:=⟨rb,o,none⟩) (show rb<_ from World.block_lt_of_cell? _ _ h.c0)).trans (h.fz o),h.ts,h.vm.of_block (b.block _ h.vm.lt),h.ov,h.fo,h.nb⟩
theorem RI.hd (h:RI w1 rb vb kb kc ov sv all k s w):(all.drop k).headD (senT L)=s.hd L:=by rw[<-h.ts.2];rfl
theorem RI.tok (E:REnv w1 rb vb kb kc ov sv T L all)(h:RI w1 rb vb kb kc ov sv all k s w):∃ p c,w.cell? ⟨kb,k * 5,none⟩=some (.int .i64 (s.hd L).1.1)/\w.cell? ⟨kb,k * 5+1,none⟩=some (.int .i64 (s.hd L).1.2.1)/\w.cell? ⟨kb,k * 5+2,none⟩=some (.int .i64 (s.hd L).1.2.2.1)/\
  w.cell? ⟨kb,k * 5+3,none⟩=some (.slice p (s.hd L).2.length c)/\w.cell? ⟨kb,k * 5+4,none⟩=some (.int .i64 (s.hd L).1.2.2.2)/\∀ F,Sty rb vb w1 F->BIn F p (s.hd L).2:=by
 obtain⟨p,c,b,d,a,f,g,e⟩:=E.tok k h.ts.1;rw[h.hd] at b d a f g e;exact⟨p,c,h.sty.cell b E.ne.1 E.ne.2.1,h.sty.cell d E.ne.1 E.ne.2.1,h.sty.cell a E.ne.1 E.ne.2.1,h.sty.cell f E.ne.1 E.ne.2.1,h.sty.cell g E.ne.1 E.ne.2.1,e⟩
theorem Sty.set (h:Sty rb vb w1 w)(o:Nat)(v:Value):Sty rb vb w1 (w.setCell ⟨rb,o,none⟩ v):=⟨h.os,h.tape,h.output,by simpa using h.size,fun k c a b=>(Below.heap_setCell _ _ _ _ a).trans (h.block k c a b)⟩
theorem RI.toks (E:REnv w1 rb vb kb kc ov sv T L all)(h:RI w1 rb vb kb kc ov sv all k s w)(a:Nat)(l:k<=a)(g:a<=all.length)(d:∀ c,s.ft=some c->all.drop a = []):RI w1 rb vb kb kc ov sv all a ⟨all.drop a,s.ns,s.ft⟩ (w.setCell ⟨rb,1,none⟩ (.slice (some ⟨kb,a * 5,none⟩) (all.length+1-a) (kc-a))):=by
 have b:∀ o v u,o≠1->w.cell? ⟨rb,o,none⟩=some v->(w.setCell ⟨rb,1,none⟩ u).cell? ⟨rb,o,none⟩=some v:=fun o v u m h=>(World.cell?_setCell_other _ _ _ _ (fun e=>m (by simpa using(congrArg Addr.off e).symm))).trans h
 obtain⟨p,n,c,i,q⟩:=h.c4;refine⟨h.sty.set _ _,b _ _ _ (by decide) h.c0,World.cell?_setCell_same' _ _ _ (by rw[h.c1];rfl),b _ _ _ (by decide) h.c2,b _ _ _ (by decide) h.c3,⟨p,n,c,b _ _ _ (by decide) i,q.of (by simp) fun j r _=>Below.heap_setCell _ _ _ _ (by show j≠rb;have:=E.lt.1;omega)⟩,b _ _ _ (by decide) h.c5,b _ _ _ (by decide) h.c6,fun o=>by rw[World.frozen?_setCell];exact h.fz o,⟨g,rfl⟩,h.vm.of_block (Below.heap_setCell _ _ _ _ (by show vb≠rb;exact E.ne.2.2.symm)),h.ov,fun c f=>⟨(h.fo c f).1,d c f⟩,h.nb.1,by have:=h.nb.2;rw[h.ts.2] at this;simp only[List.length_drop] at this ⊢;omega⟩
theorem RI.ne (h:RI w1 rb vb kb kc ov sv all k s w){q:Nat}{v:Value}(a:w.cell? ⟨q,0,none⟩=some v)(f:∀ o,v≠.map o):q≠rb/\q≠vb:=by
 refine⟨fun e=>?_,fun e=>?_⟩
 ·subst e
  obtain⟨o,d⟩:=h.ov;have:=h.c0;rw[a,d] at this;exact f o (Option.some.inj this)
 ·subst e
  obtain⟨N,D,⟨g,b,c,_⟩,_⟩:=h.vm
  unfold World.cell? at a
  rw[c] at a
  simp at a
end
theorem FoB.moveR {w C:World}{rb vb B:Nat}(a:∀ q v,w.cell? ⟨q,0,none⟩=some v->(∀ o,v≠.map o)->q≠rb/\q≠vb)(j:RFr rb vb w C):∀ (F:Fo) (n:List Value),FoB w B F n->FoB C B F n
 | .nil,n,h=>h
 | .node c k r,n,⟨v,vr,e,hnd,hr⟩=>by
   refine⟨v,vr,e,?_,FoB.moveR a j r vr hr⟩
   rcases hnd with h | h | h | ⟨h,b,g,P,l,I,N,J,p,H,u,E,y⟩
   ·exact .inl h
   ·exact .inr (.inl h)
   ·exact .inr (.inr (.inl h))
   ·obtain⟨A,D⟩:=a b _ p (fun o e=>by cases e)
    refine .inr (.inr (.inr ⟨h,b,g,P,l,I,N,J,j.cell p p A D (fun _ _ _ e=>by cases e),j.cell H p A D (fun _ _ _ e=>by cases e),Nat.lt_of_lt_of_le u j.size,fun i K=>?_,FoB.moveR a j k l y⟩))
    have f:0<l.length:=by omega
    have z:=E 0 f
    have d:∃ t x,l.getD 0 .nilIface = .iface t x:=by
     cases k with
     | nil=>rw[show l = [] from y] at f;cases f
     | node S U R=>
       obtain⟨Q,M,rfl,m,_⟩:=y;exact m.iface
    obtain⟨t,x,d⟩:=d;rw[d] at z;obtain⟨O,G⟩:=a g _ z (fun o e=>by cases e);exact j.cell (E i K) z O G (fun _ _ _ e=>by cases e)
section
variable {w1:World}{rb vb kb kc:Nat}{ov sv:Value}{T:List Cel}{L:Int}{all:List Tok}{k:Nat}{s:RS}{w:World}
theorem RI.tree (h:RI w1 rb vb kb kc ov sv all k s w){b:World}(c:RFr rb vb w b){B:Nat}{F:Fo}{a:List Value}(d:FoB w B F a):FoB b B F a:=FoB.moveR (fun q v=>h.ne) c F a d
abbrev zTok:Obj:=.cells #[.int .i64 0,.int .i64 0,.int .i64 0,.slice none 0 0,.int .i64 0] 86
theorem new_low (w:World)(o:Obj):Below w.heap.size w (w.alloc o):=(Below.refl _ _).alloc (Nat.le_refl _) _
theorem RI.alloc (h:RI w1 rb vb kb kc ov sv all k s w)(o:Obj):RI w1 rb vb kb kc ov sv all k s (w.alloc o):=h.below (new_low w o)
theorem next_any (E:REnv w1 rb vb kb kc ov sv T L all)(h:RI w1 rb vb kb kc ov sv all k s w):Calls Tryz.prog 68 #[ptrR rb] w fun e G=>∃ p c,e = .returned (tokVR (s.hd L) p c)/\(∀ F,Sty rb vb w1 F->BIn F p (s.hd L).2)/\Below w.heap.size w G:=by
 obtain⟨p,c,u,y,B,b,A,z⟩:=(h.alloc zTok).tok E;have r:=(h.alloc zTok).c1;have C:=h.ts.1;have I:=hid z
 obtain⟨n,x⟩:∃ n,n=all.length+1-k:=⟨_,rfl⟩
 obtain⟨m,j⟩:∃ m,m=kc-k:=⟨_,rfl⟩
 rw[<-x,<-j] at r
 have M:0<n:=by omega
 have D:n<=1000000:=by have:=E.len;omega
 have N:n<=m:=by have:=E.cap;omega
 have H:k<=10000:=by have:=E.len;omega
 generalize s.hd L=t at *
 obtain⟨⟨g,a,i,f⟩,J⟩:=t;simp only at u y B b A
 obtain⟨q,eq⟩:∃ q,q=k * 5:=⟨_,rfl⟩
 obtain⟨l,d⟩:∃ l,l=J.length:=⟨_,rfl⟩
 have K:=hid d;rw[<-eq] at r u y B b A;rw[<-d] at b;clear h E x j z C eq d
 go_enter Tryz.func68,Tryz.ntmps68
 go_wp2_with fail;exact bodyPost_ret (v:=.agg #[.int .i64 g,.int .i64 a,.int .i64 i,.slice p l c,.int .i64 f]) (by simp[results,Tryz.results68,go_sem]) rfl ⟨p,⟨c,by rw[K.o]⟩,I.o,new_low _ _⟩
theorem set_same {w W:World}{b o:Nat}{v:Value}(h:W.heap[b]?=w.heap[b]?):(W.setCell ⟨b,o,none⟩ v).heap[b]?=(w.setCell ⟨b,o,none⟩ v).heap[b]?:=by
 unfold World.setCell
 simp only[Array.getElem?_modify,h]
theorem low_at {B B':Nat}{u F:World}(h:Below B u F)(e:B'=B):Below B' u F:=e▸h
theorem low_put {B r:Nat}{w W:World}(h:Below B w W)(b:B<=r)(o:Nat)(v:Value):Below B w (W.setCell ⟨r,o,none⟩ v):=
 ⟨h.os,h.tape,h.output,by simpa using h.size,fun k a=>(Below.heap_setCell _ _ _ _ (by show k≠r;omega)).trans (h.block k a)⟩
theorem low_put5 {B r:Nat}{w W:World}(h:Below B w W)(f:B<=r)(a b c d e:Value):Below B w (((((W.setCell ⟨r,0,none⟩ a).setCell ⟨r,1,none⟩ b).setCell ⟨r,2,none⟩ c).setCell ⟨r,3,none⟩ d).setCell ⟨r,4,none⟩ e):=
 low_put (low_put (low_put (low_put (low_put h f _ _) f _ _) f _ _) f _ _) f _ _
theorem low_set {w W:World}{b o:Nat}(v:Value)(h:Below w.heap.size w W)(c:b<w.heap.size):Below w.heap.size (w.setCell ⟨b,o,none⟩ v) (W.setCell ⟨b,o,none⟩ v):=by
 refine⟨h.os,h.tape,h.output,by simpa using h.size,fun k a=>?_⟩
 by_cases e:k=b
 ·subst e;exact set_same (h.block _ a)
 ·rw[Below.heap_setCell _ _ _ _ e,Below.heap_setCell _ _ _ _ e];exact h.block k a
theorem drop_next {all:List Tok}{k:Nat}(h:all.drop k≠[]):k<all.length/\all.drop (k+1)=(all.drop k).tail:=by
 have:k<all.length:=by
  apply Nat.lt_of_not_le
  intro a
  exact h (List.drop_eq_nil_of_le a)
 exact⟨this,by rw[List.tail_drop]⟩
theorem hd_nz (E:REnv w1 rb vb kb kc ov sv T L all)(h:RI w1 rb vb kb kc ov sv all k s w)(d:s.ts≠[]):1<=(s.hd L).1.1/\(s.hd L).1.1<=7:=by
 have c:s.hd L ∈ s.ts:=by unfold RS.hd;cases e:s.ts with | nil=>exact absurd e d | cons a b=>simp
 rw[h.ts.2] at c;exact(E.tg _ (List.mem_of_mem_drop c)).kd
theorem hd_byte (E:REnv w1 rb vb kb kc ov sv T L all)(h:RI w1 rb vb kb kc ov sv all k s w):Byte (s.hd L).2/\(s.hd L).2.length<=100:=by
 by_cases c:s.ts = []
 ·unfold RS.hd;rw[c];exact⟨fun x f=>by simp[senT] at f,by simp[senT]⟩
 ·have d:s.hd L ∈ s.ts:=by unfold RS.hd;cases e:s.ts with | nil=>exact absurd e c | cons a b=>simp
  rw[h.ts.2] at d;exact(E.tg _ (List.mem_of_mem_drop d)).tx
theorem take_any (E:REnv w1 rb vb kb kc ov sv T L all)(h:RI w1 rb vb kb kc ov sv all k s w):Calls Tryz.prog 71 #[ptrR rb] w fun e w'=>∃ p c k',e = .returned (tokVR (s.hd L) p c)/\(∀ F,Sty rb vb w1 F->BIn F p (s.hd L).2)/\RI w1 rb vb kb kc ov sv all k' s.tk w'/\RFr rb vb w w':=by
 have C:=next_any E (h.alloc zTok);have D:=hid h;have N:=hid E;have y:rb<w.heap.size:=Nat.lt_of_lt_of_le E.lt.1 h.sty.size
 have h8:rb≠w.heap.size:=by omega
 have H:s.ts = []->(s.hd L).1.1=0:=fun e=>by unfold RS.hd;rw[e];rfl
 have x:=hd_nz E h
 obtain⟨⟨⟨B,f,g,d⟩,tx⟩,et⟩:∃ t,s.hd L=t:=⟨_,rfl⟩
 rw[et] at C H x;have O:=hid et
 obtain⟨l,el⟩:∃ l,l=tx.length:=⟨_,rfl⟩
 have HL:=hid el;simp only[tokVR] at C H x;rw[<-el] at C;clear h E et el
 by_cases A:s.ts = []
 ·obtain rfl:=H A
  have X:Hid (s.tk=s):=by show _=_;obtain⟨ts,ns,ft⟩:=s;simp only at A;subst A;rfl
  clear x H A
  go_enter Tryz.func71,Tryz.ntmps71
  go_wp2_with fail;refine C.mono ?_;rintro e W ⟨p,c,rfl,j,z⟩;have a:W.heap[w.heap.size]?=some zTok:=(z.block _ (by simp)).trans (heap_alloc_new w zTok);have K:=hid (Below.on (new_low w zTok) z);have Y:Hid _:=j
  have U:W.cell? ⟨w.heap.size,0,none⟩=some (.int .i64 0):=by unfold World.cell?;rw[a];rfl
  have R:W.cell? ⟨w.heap.size,1,none⟩=some (.int .i64 0):=by unfold World.cell?;rw[a];rfl
  have S:W.cell? ⟨w.heap.size,2,none⟩=some (.int .i64 0):=by unfold World.cell?;rw[a];rfl
  have Q:W.cell? ⟨w.heap.size,3,none⟩=some (.slice none 0 0):=by unfold World.cell?;rw[a];rfl
  have P:W.cell? ⟨w.heap.size,4,none⟩=some (.int .i64 0):=by unfold World.cell?;rw[a];rfl
  have u:∀ i,W.frozen? ⟨w.heap.size,i,none⟩=false:=fun i=>by unfold World.frozen?;rw[a];simp
  have h4:=u 0;have h1:=u 1;have Z:=u 2;have h6:=u 3;have h3:=u 4
  have b:w.heap.size<W.heap.size:=by have:=z.size;simp at this;omega
  have q0:=((new_low W (.cells #[.int .i64 0,.int .i64 f,.int .i64 g,.slice p l c,.int .i64 d] 86)).cell (p:=⟨w.heap.size,0,none⟩) b).trans U;have z0:=((new_low W (.cells #[.int .i64 0,.int .i64 f,.int .i64 g,.slice p l c,.int .i64 d] 86)).frozen (p:=⟨w.heap.size,0,none⟩) b).trans (u 0);have q1:=((new_low W (.cells #[.int .i64 0,.int .i64 f,.int .i64 g,.slice p l c,.int .i64 d] 86)).cell (p:=⟨w.heap.size,1,none⟩) b).trans R;have z1:=((new_low W (.cells #[.int .i64 0,.int .i64 f,.int .i64 g,.slice p l c,.int .i64 d] 86)).frozen (p:=⟨w.heap.size,1,none⟩) b).trans (u 1);have q2:=((new_low W (.cells #[.int .i64 0,.int .i64 f,.int .i64 g,.slice p l c,.int .i64 d] 86)).cell (p:=⟨w.heap.size,2,none⟩) b).trans S;have z2:=((new_low W (.cells #[.int .i64 0,.int .i64 f,.int .i64 g,.slice p l c,.int .i64 d] 86)).frozen (p:=⟨w.heap.size,2,none⟩) b).trans (u 2)
  have q3:=((new_low W (.cells #[.int .i64 0,.int .i64 f,.int .i64 g,.slice p l c,.int .i64 d] 86)).cell (p:=⟨w.heap.size,3,none⟩) b).trans Q;have z3:=((new_low W (.cells #[.int .i64 0,.int .i64 f,.int .i64 g,.slice p l c,.int .i64 d] 86)).frozen (p:=⟨w.heap.size,3,none⟩) b).trans (u 3);have q4:=((new_low W (.cells #[.int .i64 0,.int .i64 f,.int .i64 g,.slice p l c,.int .i64 d] 86)).cell (p:=⟨w.heap.size,4,none⟩) b).trans P;have z4:=((new_low W (.cells #[.int .i64 0,.int .i64 f,.int .i64 g,.slice p l c,.int .i64 d] 86)).frozen (p:=⟨w.heap.size,4,none⟩) b).trans (u 4);clear j z C a;go_wp2_with fail;have hF:=(low_put5 K.o (Nat.le_refl _) (.int .i64 0) (.int .i64 f) (.int .i64 g) (.slice p l c) (.int .i64 d)).alloc (by simpa using K.o.size) (.cells #[.int .i64 0,.int .i64 f,.int .i64 g,.slice p l c,.int .i64 d] 86)
  exact bodyPost_ret (v:=.agg #[.int .i64 0,.int .i64 f,.int .i64 g,.slice p l c,.int .i64 d]) (by simp[results,Tryz.results71,go_sem,b,U,R,S,Q,P]) rfl ⟨p,c,k,by rw[O.o,HL.o],by rw[O.o];exact Y.o,by rw[X.o];exact D.o.below hF,RFr.of rb vb hF⟩
 ·obtain⟨h7,h2⟩:=x A
  have h5:¬ B=0:=by omega
  have e4:(B == 0)=false:=by simpa using h5
  obtain⟨M,I⟩:=drop_next (all:=all) (k:=k) (by rw[<-D.o.ts.2];exact A);have V:=D.o.toks N.o (k+1) (Nat.le_succ _) M (fun c hc=>absurd ((D.o.fo c hc).2) A)
  have X:Hid (⟨all.drop (k+1),s.ns,s.ft⟩=s.tk):=by show _=_;rw[I,<-D.o.ts.2];rfl
  rw[X.o] at V;have c1:=D.o.c1;have f1:=D.o.fz 1
  obtain⟨n,en⟩:∃ n,n=all.length+1-k:=⟨_,rfl⟩
  obtain⟨m,em⟩:∃ m,m=kc-k:=⟨_,rfl⟩
  obtain⟨q,eq⟩:∃ q,q=k * 5:=⟨_,rfl⟩
  have e1:all.length+1-(k+1)=n-1:=by omega
  have e2:kc-(k+1)=m-1:=by omega
  have e3:(k+1) * 5=q+5:=by omega
  rw[e1,e2,e3] at V;rw[<-en,<-em,<-eq] at c1
  have e7:2<=n:=by omega
  have e5:n<=20000:=by have:=N.o.len;omega
  have e6:n<=m:=by have:=N.o.cap;omega
  have k1:m<=9223372036854775807:=by have:=N.o.cap;omega
  have k2:q<=100000:=by have:=N.o.len;omega
  have HU:Hid _:=V;clear H x e1 e2 e3 en em eq M I V h7 h2
  go_enter Tryz.func71,Tryz.ntmps71
  go_wp2_with fail;refine C.mono ?_;rintro e W ⟨p,c,rfl,j,z⟩;have a:W.heap[w.heap.size]?=some zTok:=(z.block _ (by simp)).trans (heap_alloc_new w zTok);have r:Below w.heap.size w W:=Below.on (new_low w zTok) z;have K:=hid r;have Y:Hid _:=j;have d1:W.cell? ⟨rb,1,none⟩=some (.slice (some ⟨kb,q,none⟩) n m):=(r.cell (p:=⟨rb,1,none⟩) y).trans c1;have j1:W.frozen? ⟨rb,1,none⟩=false:=(r.frozen (p:=⟨rb,1,none⟩) y).trans f1
  have U:W.cell? ⟨w.heap.size,0,none⟩=some (.int .i64 0):=by unfold World.cell?;rw[a];rfl
  have R:W.cell? ⟨w.heap.size,1,none⟩=some (.int .i64 0):=by unfold World.cell?;rw[a];rfl
  have S:W.cell? ⟨w.heap.size,2,none⟩=some (.int .i64 0):=by unfold World.cell?;rw[a];rfl
  have Q:W.cell? ⟨w.heap.size,3,none⟩=some (.slice none 0 0):=by unfold World.cell?;rw[a];rfl
  have P:W.cell? ⟨w.heap.size,4,none⟩=some (.int .i64 0):=by unfold World.cell?;rw[a];rfl
  have u:∀ i,W.frozen? ⟨w.heap.size,i,none⟩=false:=fun i=>by unfold World.frozen?;rw[a];simp
  have h4:=u 0;have h1:=u 1;have Z:=u 2;have h6:=u 3;have h3:=u 4;have G:rb<W.heap.size:=Nat.lt_of_lt_of_le y r.size
  have h9:rb≠W.heap.size:=by omega
  have b:w.heap.size<W.heap.size:=by have:=z.size;simp at this;omega
  have e9:=((new_low W (.cells #[.int .i64 B,.int .i64 f,.int .i64 g,.slice p l c,.int .i64 d] 86)).cell (p:=⟨rb,1,none⟩) G).trans d1;have e8:=((new_low W (.cells #[.int .i64 B,.int .i64 f,.int .i64 g,.slice p l c,.int .i64 d] 86)).frozen (p:=⟨rb,1,none⟩) G).trans j1;clear j z C a c1 f1 r;go_wp2_with fail;have hV:=low_set (o:=1) (.slice (some ⟨kb,q+5,none⟩) (n-1) (m-1)) K.o y;have hF:=(low_put5 hV (Nat.le_refl _) (.int .i64 B) (.int .i64 f) (.int .i64 g) (.slice p l c) (.int .i64 d)).alloc (by simpa using K.o.size) (.cells #[.int .i64 B,.int .i64 f,.int .i64 g,.slice p l c,.int .i64 d] 86);have J:=low_at hF (B':=(w.setCell ⟨rb,1,none⟩ (.slice (some ⟨kb,q+5,none⟩) (n-1) (m-1))).heap.size) (by simp);exact bodyPost_ret (v:=.agg #[.int .i64 B,.int .i64 f,.int .i64 g,.slice p l c,.int .i64 d]) (by simp[results,Tryz.results71,go_sem,b,U,R,S,Q,P]) rfl ⟨p,c,k+1,by rw[O.o,HL.o],by rw[O.o];exact Y.o,HU.o.below J,(RFr.set rb vb w 1 _).trans (RFr.of rb vb J)⟩
end
section
variable {w1:World}{rb vb kb kc:Nat}{ov sv:Value}{T:List Cel}{L:Int}{all:List Tok}{k:Nat}{s:RS}{w:World}
def RS.fail (c a:Int)(s:RS):RS:=⟨[],s.ns,some (s.ft.getD (c,a))⟩
theorem stop_fail (s:RS):s.stop L=s.fail 2 (s.pl L):=rfl
theorem RI.fault (E:REnv w1 rb vb kb kc ov sv T L all)(h:RI w1 rb vb kb kc ov sv all k s w)(g:s.ft=none)(c a:Int)(z:c≠0):RI w1 rb vb kb kc ov sv all all.length (s.fail c a) (((w.setCell ⟨rb,5,none⟩ (.int .i64 c)).setCell ⟨rb,6,none⟩ (.int .i64 a)).setCell ⟨rb,1,none⟩ (.slice (some ⟨kb,all.length * 5,none⟩) 1 (kc-all.length))):=by
 have b:∀ (W:World) o j v u,o≠j->W.cell? ⟨rb,o,none⟩=some v->(W.setCell ⟨rb,j,none⟩ u).cell? ⟨rb,o,none⟩=some v:=fun W o j v u r h=>(World.cell?_setCell_other _ _ _ _ (fun e=>r (by simpa using(congrArg Addr.off e).symm))).trans h
 have l:∀ (W:World) j v u,W.cell? ⟨rb,j,none⟩=some v->(W.setCell ⟨rb,j,none⟩ u).cell? ⟨rb,j,none⟩=some u:=fun W j v u h=>World.cell?_setCell_same' _ _ _ (by rw[h];rfl)
 obtain⟨p,n,q,m,t⟩:=h.c4
 have d:∀ j,j≠rb->(((w.setCell ⟨rb,5,none⟩ (.int .i64 c)).setCell ⟨rb,6,none⟩ (.int .i64 a)).setCell ⟨rb,1,none⟩ (.slice (some ⟨kb,all.length * 5,none⟩) 1 (kc-all.length))).heap[j]?=w.heap[j]?:=fun j f=>by
  rw[Below.heap_setCell _ _ _ _ f,Below.heap_setCell _ _ _ _ f,Below.heap_setCell _ _ _ _ f]
 have i:s.ft.getD (c,a)=(c,a):=by rw[g];rfl
 refine⟨((h.sty.set _ _).set _ _).set _ _,b _ _ _ _ _ (by decide) (b _ _ _ _ _ (by decide) (b _ _ _ _ _ (by decide) h.c0)),?_,b _ _ _ _ _ (by decide) (b _ _ _ _ _ (by decide) (b _ _ _ _ _ (by decide) h.c2)),b _ _ _ _ _ (by decide) (b _ _ _ _ _ (by decide) (b _ _ _ _ _ (by decide) h.c3)),
  ⟨p,n,q,b _ _ _ _ _ (by decide) (b _ _ _ _ _ (by decide) (b _ _ _ _ _ (by decide) m)),t.of (by simp) fun j f _=>d j (by have:=E.lt.1;omega)⟩,?_,?_,fun o=>by rw[World.frozen?_setCell,World.frozen?_setCell,World.frozen?_setCell];exact h.fz o,⟨Nat.le_refl _,by simp[RS.fail]⟩,h.vm.of_block (d _ E.ne.2.2.symm),h.ov,fun x y=>?_,h.nb.1,by have:=h.nb.2;simp only[RS.fail,List.length_nil];omega⟩
 ·have e:=l _ 1 _ (.slice (some ⟨kb,all.length * 5,none⟩) 1 (kc-all.length)) (b (w.setCell ⟨rb,5,none⟩ (.int .i64 c)) 1 6 _ (.int .i64 a) (by decide) (b w 1 5 _ (.int .i64 c) (by decide) h.c1))
  rw[e];simp
 ·rw[b _ 5 1 _ _ (by decide) (b _ 5 6 _ _ (by decide) (l w 5 _ (.int .i64 c) h.c5))];simp[RS.fail,i]
 ·rw[b _ 6 1 _ _ (by decide) (l _ 6 _ (.int .i64 a) (b w 6 5 _ (.int .i64 c) (by decide) h.c6))];simp[RS.fail,i]
 ·have:x=(c,a):=by have:=Option.some.inj y;rw[<-this,i]
  exact⟨by rw[this];exact z,rfl⟩
theorem RI.drew (h:RI w1 rb vb kb kc ov sv all k s w):RI w1 rb vb kb kc ov sv all k s w.drew:=h.below ((Below.refl _ _).drew)
theorem RFr.drew {w w':World}(h:RFr rb vb w w'):RFr rb vb w w'.drew:=h.trans (RFr.of rb vb ((Below.refl _ _).drew))
theorem fail_any (E:REnv w1 rb vb kb kc ov sv T L all)(h:RI w1 rb vb kb kc ov sv all k s w)(c a:Int)(hc:c≠0):Calls Tryz.prog 59 #[ptrR rb,.int .i64 c,.int .i64 a] w fun e I=>e = .returned (.tuple #[])/\RI w1 rb vb kb kc ov sv all all.length (s.fail c a) I/\RFr rb vb w I:=by
 have B:=h.c1;have u:=h.c5;have i:=h.c6;have N:=h.fz 1;have f5:=h.fz 5;have f6:=h.fz 6
 obtain⟨n,C⟩:∃ n,n=all.length+1-k:=⟨_,rfl⟩
 obtain⟨m,A⟩:∃ m,m=kc-k:=⟨_,rfl⟩
 obtain⟨q,eq⟩:∃ q,q=k * 5:=⟨_,rfl⟩
 rw[<-C,<-A,<-eq] at B;have H:=h.ts.1
 have X:1<=n:=by omega
 have P:n<=20000:=by have:=E.len;omega
 have Q:n<=m:=by have:=E.cap;omega
 have Z:m<=9223372036854775807:=by have:=E.cap;omega
 have h1:q<=100000:=by have:=E.len;omega
 obtain⟨j,rfl⟩:∃ j,n=j+1:=⟨n-1,by omega⟩
 have Y:((j+1:Nat):Int)-1=j:=by omega
 have R:m-j≠0:=by omega
 have z:¬ m=j:=by omega
 have l:∀ W:World,(Instr.slice 50 (.slice (some ⟨kb,q,none⟩) (j+1) m) (some (.int .i64 (j:Int))) none none).run Tryz.prog W = .ok (.slice (some ⟨kb,q+j * 5,none⟩) 1 (m-j)) W:=fun W=>by
  rw[run_slice_l W 50 _ _ _ Tryz.underlying50 .i64 j (by omega) (by omega)]
  have e:(sizeOf (Tryz.prog.elem 50)).run Tryz.prog W = .ok 5 W:=by kernel_rfl
  rw[e]
  simp[Result.andThen,sliced,z,Addr.add]
 cases f:s.ft with
 | none=>
   have HR:Hid _:=h.fault E f c a hc;rw[f] at u i;simp only[Option.getD_none] at u i
   obtain⟨V,r⟩:∃ V,V=(w.setCell ⟨rb,5,none⟩ (.int .i64 c)).setCell ⟨rb,6,none⟩ (.int .i64 a):=⟨_,rfl⟩
   have t:V.cell? ⟨rb,1,none⟩=some (.slice (some ⟨kb,q,none⟩) (j+1) m):=by rw[r,World.cell?_setCell_other _ _ _ _ (by simp),World.cell?_setCell_other _ _ _ _ (by simp)];exact B
   have D:V.frozen? ⟨rb,1,none⟩=false:=by rw[r,World.frozen?_setCell,World.frozen?_setCell];exact N
   have HF:Hid (RFr rb vb w V):=by rw[r];exact(RFr.set rb vb _ _ _).trans (RFr.set rb vb _ _ _)
   have M:=hid r
   have g:Hid (q+j * 5=all.length * 5/\m-j=kc-all.length):=⟨by omega,by omega⟩
   clear h E C A eq H r
   go_enter Tryz.func59,Tryz.ntmps59
   go_wp2_with fail;rw[<-M.o];refine wp_region_any (by kernel_rfl) ?_;refine wpAny_tail (p:=13) (S:=fun W=>W.cell? ⟨rb,1,none⟩=some (.slice (some ⟨kb,q,none⟩) (j+1) m)) (by kernel_rfl) 13 _ _ _ rfl (clo_start _ _ _) (by kernel_rfl) (by kernel_rfl) ?_
   change wpAnyH _ _ _ _ _ _ _ _ V.drew
   have F:V.drew.cell? ⟨rb,1,none⟩=some (.slice (some ⟨kb,q,none⟩) (j+1) m):=t;refine hTq 0 (ptrR rb) 18 ?_
   simp only[Act.put,zzA,zzB,zzC];refine hTq 1 (ptrR rb) 19 ?_
   simp only[Act.put,zzA,zzB,zzC];refine hTq 2 (ptrR rb) 20 ?_
   simp only[Act.put,zzA,zzB,zzC];refine hTq 3 (.pointer (some ⟨rb,1,none⟩)) 21 ?_
   simp only[Act.put,zzA,zzB,zzC];refine hTr 4 (.slice (some ⟨kb,q,none⟩) (j+1) m) 22 (fun o d W b=>?y4) ?_
   case y4=>cases d;simp[execOp,go_sem,Act.eval,b]
   simp only[Act.put,zzA,zzB,zzC];refine hTq 5 (ptrR rb) 23 ?_
   simp only[Act.put,zzA,zzB,zzC];refine hTq 6 (ptrR rb) 24 ?_
   simp only[Act.put,zzA,zzB,zzC];refine hTq 7 (.pointer (some ⟨rb,1,none⟩)) 25 ?_
   simp only[Act.put,zzA,zzB,zzC];refine hTr 8 (.slice (some ⟨kb,q,none⟩) (j+1) m) 26 (fun o d W b=>?y8) ?_
   case y8=>cases d;simp[execOp,go_sem,Act.eval,b]
   simp only[Act.put,zzA,zzB,zzC];refine hTq 9 (.int .i64 ((j+1:Nat):Int)) 27 ?_
   simp only[Act.put,zzA,zzB,zzC];refine hTr 10 (.int .i64 (j:Int)) 28 (fun o d W b=>?y10) ?_
   case y10=>cases d;simp[execOp,go_sem,Act.eval,IntKind.wrap_i64];omega
   simp only[Act.put,zzA,zzB,zzC];refine hTr 11 (.slice (some ⟨kb,q+j * 5,none⟩) 1 (m-j)) 29 (fun o d W b=>?y11) ?_
   case y11=>cases d;simp[execOp,go_sem,Act.eval,l]
   simp only[Act.put,zzA,zzB,zzC];refine hTq 12 (ptrR rb) 30 ?_
   simp only[Act.put,zzA,zzB,zzC];refine wpAnyH_done (by kernel_rfl) ?_ _;refine tail_store (v:=.pointer (some ⟨rb,1,none⟩)) (w':=V.drew.setCell ⟨rb,1,none⟩ (.slice (some ⟨kb,q+j * 5,none⟩) 1 (m-j))) (some 31) (by rfl) (by rfl) (by rfl) ?_ (by rfl) (by rfl) (by rfl) ?_ ?_
   ·simp[execOp,go_sem,Act.eval]
   ·simp[execOp,go_sem,Act.eval,Act.put,t,D]
   simp only[Act.put,zzA,zzB,zzC]
   go_end0
   have G:=HR.o;rw[<-M.o,<-g.o.1,<-g.o.2] at G;exact⟨rfl,G.drew,(HF.o.trans (RFr.set rb vb V 1 _)).drew⟩
 | some x=>
   have y:=h.toks E all.length h.ts.1 (Nat.le_refl _) (fun _ _=>by simp)
   have J:Hid (⟨all.drop all.length,s.ns,s.ft⟩=s.fail c a):=by show _=_;simp[RS.fail,f]
   have K:=(h.fo x f).1;rw[J.o] at y
   have g:Hid (q+j * 5=all.length * 5/\m-j=kc-all.length/\all.length+1-all.length=1):=⟨by omega,by omega,by omega⟩
   rw[<-g.o.1,<-g.o.2.1,g.o.2.2] at y;have U:Hid _:=y;rw[f] at u i;simp only[Option.getD_some] at u i;obtain⟨O,x2⟩:=x;simp only at u i K
   have h2:(O == 0)=false:=by simpa using K
   have t:=B;have D:=N;clear h E C A eq H y J
   go_enter Tryz.func59,Tryz.ntmps59
   go_wp2_with fail;refine wp_region_any (by kernel_rfl) ?_;refine wpAny_tail (p:=13) (S:=fun W=>W.cell? ⟨rb,1,none⟩=some (.slice (some ⟨kb,q,none⟩) (j+1) m)) (by kernel_rfl) 13 _ _ _ rfl (clo_start _ _ _) (by kernel_rfl) (by kernel_rfl) ?_
   change wpAnyH _ _ _ _ _ _ _ _ w.drew
   have F:w.drew.cell? ⟨rb,1,none⟩=some (.slice (some ⟨kb,q,none⟩) (j+1) m):=t;refine hTq 0 (ptrR rb) 18 ?_
   simp only[Act.put,zzA,zzB,zzC];refine hTq 1 (ptrR rb) 19 ?_
   simp only[Act.put,zzA,zzB,zzC];refine hTq 2 (ptrR rb) 20 ?_
   simp only[Act.put,zzA,zzB,zzC];refine hTq 3 (.pointer (some ⟨rb,1,none⟩)) 21 ?_
   simp only[Act.put,zzA,zzB,zzC];refine hTr 4 (.slice (some ⟨kb,q,none⟩) (j+1) m) 22 (fun o d W b=>?y4) ?_
   case y4=>cases d;simp[execOp,go_sem,Act.eval,b]
   simp only[Act.put,zzA,zzB,zzC];refine hTq 5 (ptrR rb) 23 ?_
   simp only[Act.put,zzA,zzB,zzC];refine hTq 6 (ptrR rb) 24 ?_
   simp only[Act.put,zzA,zzB,zzC];refine hTq 7 (.pointer (some ⟨rb,1,none⟩)) 25 ?_
   simp only[Act.put,zzA,zzB,zzC];refine hTr 8 (.slice (some ⟨kb,q,none⟩) (j+1) m) 26 (fun o d W b=>?y8) ?_
   case y8=>cases d;simp[execOp,go_sem,Act.eval,b]
   simp only[Act.put,zzA,zzB,zzC];refine hTq 9 (.int .i64 ((j+1:Nat):Int)) 27 ?_
   simp only[Act.put,zzA,zzB,zzC];refine hTr 10 (.int .i64 (j:Int)) 28 (fun o d W b=>?y10) ?_
   case y10=>cases d;simp[execOp,go_sem,Act.eval,IntKind.wrap_i64];omega
   simp only[Act.put,zzA,zzB,zzC];refine hTr 11 (.slice (some ⟨kb,q+j * 5,none⟩) 1 (m-j)) 29 (fun o d W b=>?y11) ?_
   case y11=>cases d;simp[execOp,go_sem,Act.eval,l]
   simp only[Act.put,zzA,zzB,zzC];refine hTq 12 (ptrR rb) 30 ?_
   simp only[Act.put,zzA,zzB,zzC];refine wpAnyH_done (by kernel_rfl) ?_ _;refine tail_store (v:=.pointer (some ⟨rb,1,none⟩)) (w':=w.drew.setCell ⟨rb,1,none⟩ (.slice (some ⟨kb,q+j * 5,none⟩) 1 (m-j))) (some 31) (by rfl) (by rfl) (by rfl) ?_ (by rfl) (by rfl) (by rfl) ?_ ?_
   ·simp[execOp,go_sem,Act.eval]
   ·simp[execOp,go_sem,Act.eval,Act.put,t,D]
   simp only[Act.put,zzA,zzB,zzC]
   go_end0
   exact⟨rfl,U.o.drew,(RFr.set rb vb w 1 _).drew⟩
theorem stop_any (E:REnv w1 rb vb kb kc ov sv T L all)(h:RI w1 rb vb kb kc ov sv all k s w):Calls Tryz.prog 70 #[ptrR rb] w fun e a=>e = .returned (.tuple #[.iface 154 (.string ⟨#[91,93]⟩),.int .i64 0])/\RI w1 rb vb kb kc ov sv all all.length (s.stop L) a/\RFr rb vb w a:=by
 have b:=next_any E h
 have f:Hid (∀ W,Below w.heap.size w W->Calls Tryz.prog 59 #[ptrR rb,.int .i64 2,.int .i64 (s.hd L).1.2.1] W fun e a=>e = .returned (.tuple #[])/\RI w1 rb vb kb kc ov sv all all.length (s.fail 2 (s.hd L).1.2.1) a/\RFr rb vb W a):=fun W q=>fail_any E (h.below q) 2 _ (by decide)
 have i:Hid (s.fail 2 (s.hd L).1.2.1=s.stop L):=by show _=_;rw[stop_fail,hd_pl]
 clear h E
 generalize s.hd L=t at *
 obtain⟨⟨y,x,A,z⟩,B⟩:=t;simp only[tokVR] at b f i;have r:=fieldT1
 go_enter Tryz.func70,Tryz.ntmps70
 go_wp2_with fail;refine b.mono ?_;rintro e W ⟨p,c,rfl,_,d⟩;have l:=f.o W d;have v:=hid d;clear b d f;go_wp2_with fail;refine l.mono ?_;rintro e m ⟨rfl,g,j⟩;have u:Hid _:=g;have n:Hid (RFr rb vb w m):=(RFr.of rb vb v.o).trans j;clear l g j;go_wp2_with fail
 go_ret2
 exact⟨rfl,i.o▸u.o,n.o⟩
theorem isPunct_any (t:Tok)(p:Option Addr)(c:Nat)(m:List Int)(S:ByteArray)(x:strOfNums m=S)(w:World)(C:Byte m)(r:Byte t.2)(a:BIn w p t.2):Calls Tryz.prog 105 #[tokVR t p c,.string S] w fun e E=>e = .returned (.bool (decide (t.1.1=5) && decide (t.2=m)))/\Below w.heap.size w E:=by
 obtain⟨⟨i,u,B,y⟩,f⟩:=t;simp only[tokVR] at *
 obtain⟨l,n⟩:∃ l,l=f.length:=⟨_,rfl⟩
 rw[<-n];have h:BIn (w.alloc (.cells #[.int .i64 i,.int .i64 u,.int .i64 B,.slice p l c,.int .i64 y] 86)) p f:=a.below (new_low w _);have j:=conv_str h l c n 9 Tryz.underlying9
 have b:((strOfNums f).toList == S.toList)=decide (f=m):=by rw[<-x];exact strOf_eq r C
 obtain⟨d,A⟩:∃ d,d=decide (f=m):=⟨_,rfl⟩
 rw[<-A] at b ⊢
 obtain⟨v,g⟩:∃ v,v=strOfNums f:=⟨_,rfl⟩
 rw[<-g] at b j;have z:Hid (Below w.heap.size w (w.alloc (.cells #[.int .i64 i,.int .i64 u,.int .i64 B,.slice p l c,.int .i64 y] 86))):=new_low w _;clear a h r C n A g x
 by_cases q:i=5
 ·subst q
  go_enter Tryz.func105,Tryz.ntmps105
  go_wp2_with fail;go_ret;exact⟨by simp[b],z.o⟩
 ·have D:(i == 5)=false:=by simpa using q
  go_enter Tryz.func105,Tryz.ntmps105
  go_wp2_with fail;go_ret;exact⟨by simp[q],z.o⟩
end
end Go.Proofs.YtlkhmmoimplokaaGreatDoor
