/- Texts of RdR, MdI, SubP, VMp, TkA, UntilR, AsF, AsG, RecF, LexQ, MarkOA, OArgT, OpsZ, OpsT. Own work of the verifier. -/
import Derived.Test.YtlkhmmoimplokaaGreatDoorUqbn
import Derived.Test.YtlkhmmoimplokaaGreatDoorUqbb
import Derived.OrdersIn
import Derived.TacticsIn
import Derived.Test.YtlkhmmoimplokaaGreatDoorUqaw
import Derived.LaidEql
import Derived.Stop.Asserts
import Derived.RowKitTokens
import Derived.Laws.CopyOwn
import Derived.Recover
import Derived.RegionIn
import Derived.RecoverIn
namespace Go.Proofs.YtlkhmmoimplokaaGreatDoor
set_option maxHeartbeats 4000000
set_option linter.unusedVariables false
set_option linter.unusedSimpArgs false
set_option maxRecDepth 100000
section
open Go Go.RowKit
set_option linter.unusedSectionVars false
theorem opW_mem {T:List Cel}{d:List Int}{b:Bool}(h:0<=findW T d b):opW T (findW T d b) ∈ T:=by
 unfold findW at h ⊢
 rcases fIdx_two (strOfNums d).toList b T 0 with ⟨a,e⟩ | ⟨i,a,e,g⟩
 ·rw[a] at h;omega
 ·rw[e]
  have f:opW T ((0+i:Nat):Int)=T.getD i Cel.none:=by unfold opW;simp
  rw[f]
  simp[List.getD,a]
structure GoS (s:RS):Prop where
 tg:∀ t ∈ s.ts,TokG t
 nm:s.ns.length+s.ts.length<=10000
theorem GoS.of {s a:RS}(h:GoS s)(d:∃ k,a.ts=s.ts.drop k)(b:a.ns.length+a.ts.length<=s.ns.length+s.ts.length):GoS a:=⟨sub_all d h.tg,Nat.le_trans b h.nm⟩
theorem GoS.tk {s:RS}(h:GoS s):GoS s.tk:=h.of (tk_sub s) (by simp[RS.tk])
theorem GoS.rd {s a:RS}{x:Tr}(h:GoS s)(g:RdG s x a):GoS a:=h.of g.sub g.nm
theorem GoS.tx {s:RS}(h:GoS s):Byte s.tx/\s.tx.length<=100:=by
 unfold RS.tx
 cases a:s.ts with
 | nil=>exact⟨(fun x b=>by cases b),by simp⟩
 | cons t r=>exact(h.tg t (by rw[a];simp)).tx
theorem GoS.nv {s:RS}(h:GoS s):0<=s.nv/\s.nv<=1000000000000000:=by
 unfold RS.nv
 cases a:s.ts with
 | nil=>decide
 | cons t r=>exact(h.tg t (by rw[a];simp)).nv
theorem byte_nilR:Byte []:=fun x a=>by cases a
theorem ok_leaf {c:Cel}(h:cellH c.1 c.2.1 c.2.2.length)(b:Byte c.2.2)(a:c.1≠3):okH (Tr.fo (c,.nil)):=⟨h,b,fun e=>absurd e a,fun _=>rfl,trivial,trivial⟩
theorem ok_nil:okH nilT.fo:=ok_leaf (c:=nilC) (.inr (.inr (.inl ⟨rfl,by decide,rfl⟩))) (fun x a=>by simp[nilC] at a;omega) (by decide)
theorem ok_num {n:Int}(h : -1000000000000000<=n/\n<=1000000000000000):okH (numT n).fo:=ok_leaf (c:=(1,n,[])) (.inr (.inl ⟨rfl,h.1,h.2,rfl⟩)) byte_nilR (show(1:Int)≠3 by decide)
theorem ok_var {n:Int}(h:0<=n/\n<=1000000):okH (vT n).fo:=ok_leaf (c:=(0,n,[])) (.inl ⟨rfl,h.1,h.2,rfl⟩) byte_nilR (show(0:Int)≠3 by decide)
theorem ok_atm {s:List Int}(h:Byte s/\s.length<=100):okH (atmT s).fo:=ok_leaf (c:=(2,0,s)) (.inr (.inr (.inl ⟨rfl,h.2,rfl⟩))) h.1 (show(2:Int)≠3 by decide)
theorem ok_its:∀ a:List Tr,(∀ x ∈ a,okH x.fo)->okH (itsF a)
 | [],_=>trivial
 | x :: r,h=>by
   obtain⟨b,d,e,f,g,_⟩:=h x (by simp);exact⟨b,d,e,f,g,ok_its r (fun y i=>h y (by simp[i]))⟩
theorem ok_cmp {e:List Int}(h:Byte e/\e.length<=100){d:List Tr}(g:∀ x ∈ d,okH x.fo)(f:d≠[]):okH (cmpT e d).fo:=by
 refine⟨.inr (.inr (.inr ⟨rfl,h.2,?_⟩)),h.1,fun _=>?_,fun h=>absurd rfl h,ok_its d g,trivial⟩
 ·show(1:Int)<=d.length
  cases d with
  | nil=>exact absurd rfl f
  | cons a b=>simp;omega
 ·show((d.length:Nat):Int)=(itsF d).count
  rw[itsF_count]
theorem ok_lst {e:Tr}(a:okH e.fo):∀ b:List Tr,(∀ x ∈ b,okH x.fo)->okH (lstT e b).fo
 | [],_=>a
 | x :: r,h=>by
   obtain⟨k,m,o,p,q,_⟩:=h x (by simp);obtain⟨d,f,g,i,j,_⟩:=ok_lst a r (fun y u=>h y (by simp[u]));exact⟨.inr (.inr (.inr ⟨rfl,(show([46]:List Int).length<=100 by decide),(show(1:Int)<=2 by decide)⟩)),(show Byte [46] from fun x t=>by simp at t;omega),fun _=>rfl,fun h=>absurd rfl h,⟨k,m,o,p,q,d,f,g,i,j,trivial⟩,trivial⟩
section
variable {rd:Int->RS->Tr×RS}(G:∀ pri s,RdG s (rd pri s).1 (rd pri s).2)(H:∀ pri s,GoS s->okH (rd pri s).1.fo){T:List Cel}(hT:∀ c ∈ T,Byte c.2.2/\c.2.2.length<=100)
include G H hT
theorem opB_name {s:RS}{o:Cel}(h:opB T s=some o):Byte o.2.2/\o.2.2.length<=100:=by
 unfold opB at h
 split at h
 ·cases h;exact⟨fun x b=>by simp at b;omega,by decide⟩
 ·split at h
  ·cases h
  ·split at h
   ·rename_i a;cases h;exact hT _ (opW_mem a)
   ·cases h
theorem bh_ok:∀ (g:Nat) (pri:Int) (t:Tr) (p:Int) (s:RS),okH t.fo->GoS s->okH (bhR rd T g pri t p s).1.fo
 | 0,pri,t,p,s,h,_=>h
 | g+1,pri,t,p,s,h,hs=>by
   unfold bhR
   cases d:opB T s with
   | none=>exact h
   | some o=>
     simp only;have b:=opB_name G H hT d
     split
     ·exact h
     ·split
      ·exact bh_ok g pri _ o.1 s.tk (ok_cmp b (fun x a=>by simp at a;rw[a];exact h) (by simp)) hs.tk
      ·exact bh_ok g pri _ o.1 _ (ok_cmp b (fun x a=>by simp at a;rcases a with rfl | rfl;exact h;exact H _ _ hs.tk) (by simp)) (hs.tk.rd (G _ _))
theorem ser_ok:∀ (g:Nat) (s:RS),GoS s->∀ x ∈ (serR rd g s).1,okH x.fo
 | 0,s,hs,x,hx=>by simp[serR] at hx;rw[hx];exact H _ _ hs
 | g+1,s,hs,x,hx=>by
   unfold serR at hx
   split at hx
   ·simp only[List.mem_cons] at hx
    rcases hx with rfl | hx
    ·exact H _ _ hs
    ·exact ser_ok g _ (hs.rd (G _ _)).tk x hx
   ·simp only[List.mem_singleton] at hx
    rw[hx];exact H _ _ hs
theorem ser_goS (g:Nat)(s:RS)(a:GoS s):GoS (serR rd g s).2:=a.of (ser_g G g s).2.1 (ser_g G g s).2.2.1
theorem lis_ok (L:Int)(s:RS)(a:GoS s):okH (lisR rd L s).1.fo:=by
 unfold lisR
 split
 ·exact ok_nil
 ·split
  ·exact ok_lst (H _ _ (ser_goS G H hT _ s a).tk) _ (ser_ok G H hT _ s a)
  ·exact ok_lst ok_nil _ (ser_ok G H hT _ s a)
theorem cur_ok (L:Int)(s:RS)(b:GoS s):okH (curR rd L s).1.fo:=by
 unfold curR
 split
 ·exact ok_atm ⟨fun x a=>by simp at a;omega,by decide⟩
 ·exact ok_cmp ⟨fun x a=>by simp at a;omega,by decide⟩ (fun x a=>by simp at a;rw[a];exact H _ _ b) (by simp)
theorem stt_ok (L pri:Int)(s:RS)(a:GoS s):okH (sttR rd T L pri s).1.1.fo:=by
 unfold sttR
 split
 ·exact ok_num (by have:=a.nv;omega)
 split
 ·unfold RS.var RS.new
  have g:s.tk.ns.length<=10000:=by have:=a.nm;show s.ns.length<=10000;omega
  split
  ·exact ok_var (by omega)
  ·split
   ·rename_i f
    have:=List.idxOf_lt_length_of_mem f;exact ok_var (by omega)
   ·exact ok_var (by omega)
 split
 ·refine ok_lst ok_nil _ fun x d=>?_
  simp only[List.mem_map] at d;obtain⟨b,e,rfl⟩:=d;have:=a.tx.1 b e;exact ok_num (by omega)
 split
 ·exact H _ _ a.tk
 split
 ·unfold braR
  split
  ·exact H _ _ a.tk
  split
  ·exact lis_ok G H hT L _ a.tk
  split
  ·exact cur_ok G H hT L _ a.tk
  ·exact ok_nil
 split
 ·unfold namR
  split
  ·exact ok_cmp a.tx (ser_ok G H hT _ _ a.tk.tk) (ser_g G _ _).2.2.2
  split
  ·exact ok_num (by have:=a.tk.nv;omega)
  split
  ·exact ok_cmp a.tx (fun x d=>by simp at d;rw[d];exact H _ _ a.tk) (by simp)
  ·exact ok_atm a.tx
 ·exact ok_nil
end
theorem rd_ok {T:List Cel}(hT:∀ c ∈ T,Byte c.2.2/\c.2.2.length<=100)(L:Int):∀ (f:Nat) (pri:Int) (s:RS),GoS s->okH (rdR T L f pri s).1.fo
 | 0,pri,s,_=>ok_nil
 | f+1,pri,s,hs=>bh_ok (fun pri s=>rd_g T L f pri s) (fun pri s h=>rd_ok hT L f pri s h) hT _ _ _ _ _ (stt_ok (fun pri s=>rd_g T L f pri s) (fun pri s h=>rd_ok hT L f pri s h) hT L pri s hs) (hs.rd (stt_g (fun pri s=>rd_g T L f pri s) T L pri s))
end
section
open Go Go.RowKit
def codL (xs:List Int):List (List Cel):=xs.map fun x=>[(1,x,[])]
theorem cod_cells (a:List Int):itC (codT a)=mkL (codL a) ++ [nilC]:=by
 unfold codT codL mkL
 rw[lstT_cells]
 congr 1
 simp[List.flatMap_map,itC,numT,Fo.cells]
theorem cod_tll:∀ a:List Int,tll (codL a)=a.length
 | []=>rfl
 | x :: r=>by
   have:=cod_tll r;simp only[codL,List.map_cons,tll,List.length_cons] at this ⊢
   simp[tl];omega
theorem cod_bd (b:List Int):∀ x ∈ itC (codT b),x.2.2.length<=100:=fun x hx=>by
 rw[cod_cells] at hx
 rcases List.mem_append.1 hx with hx | hx
 ·obtain⟨u,a,hxu⟩:=List.mem_flatMap.1 hx
  obtain⟨y,_,rfl⟩:=List.mem_map.1 a
  rcases List.mem_cons.1 hxu with rfl | hxu
  ·show([46]:List Int).length<=100;decide
  ·rw[List.mem_singleton.1 hxu];show([]:List Int).length<=100;decide
 ·rw[List.mem_singleton.1 hx];show([91,93]:List Int).length<=100;decide
theorem cod_len (a:List Int):(codL a).length=a.length:=by simp[codL]
theorem cod_mk:∀ a:List Int,(mkL (codL a)).length=2 * a.length
 | []=>rfl
 | x :: r=>by
   have h:=cod_mk r;have e:mkL (codL (x :: r))=dot :: (1,x,[]) :: mkL (codL r):=rfl;rw[e,List.length_cons,List.length_cons,h,List.length_cons];omega
theorem l4codes_any {w:World}(q:Option Addr)(m cq:Nat)(a:List Int)(hm:m=a.length)(hl:m<=100)(hb:Byte a)(K:BIn w q a) :
  Calls Tryz.prog 142 #[.slice q m cq] w fun e d=>∃ r n c,e = .returned (.slice r n c)/\OwnC d w.heap.size r n c (itC (codT a))/\Below w.heap.size w d:=by
 have Z:Hid (BIn w q a):=K;have HM:Hid (m=a.length):=hm;have Y:Hid (Byte a):=hb
 have h1:Hid (∀ W p c,Below w.heap.size w W->CCIn W p (codL a)->∀ V,CIn W V [nilC]->Calls Tryz.prog 177 #[.slice p m c,.slice V 1 1] W fun e d=>∃ r n c,e = .returned (.slice r n c)/\OwnC d w.heap.size r n c (itC (codT a))/\Below w.heap.size w d):=fun W p c hW R V hq=>by
  refine(l2listE_any (codL a) [nilC] p V m c 1 1 W rfl (by decide) (by decide) (by rw[cod_len];exact hm) (by omega) (fun i z=>?_) (by rw[cod_len,cod_tll];omega) (by rw[cod_mk];omega) R hq).mono ?_
  ·rw[cod_len] at z
   simp[codL,List.getD,z]
  ·rintro e d ⟨r,n,u,rfl,ho,t⟩
   refine⟨r,n,u,rfl,?_,Below.on hW t⟩;rw[cod_cells];obtain⟨rfl,rs,h5,hr,hf,ha⟩:=ho;exact⟨rfl,rs,h5,ownsRow_down hr hW.size,fun i z=>⟨(hf i z).1,(hf i z).2.1,(hf i z).2.2.mono hW.size⟩,ha⟩
 have E:Hid (∀ (x:Int) (W:World),Calls Tryz.prog 140 #[.int .i64 x] W fun e d=>e = .returned (.slice (some ⟨W.heap.size,0,none⟩) 1 1)/\OwnC d W.heap.size (some ⟨W.heap.size,0,none⟩) 1 1 [(1,x,[])]/\Below W.heap.size W d):=fun x W=>l2numM_any x W
 have A:Hid (∀ W,Calls Tryz.prog 147 #[.string ⟨#[91,93]⟩] W fun e d=>∃ p,e = .returned (.slice p 1 1)/\OwnC d W.heap.size p 1 1 [(2,0,[91,93])]/\Below W.heap.size W d):=fun W=>by
  have:=l2atomM_any [91,93] (byte_small (by decide)) W (by decide);rw[show strOfNums [91,93]=⟨#[91,93]⟩ from rfl] at this;exact this
 clear hm hb K
 go_enter Tryz.func142,Tryz.ntmps142
 go_wp2_with fail
 go_loopw [3,4] (fun o i wr=>∃ (j:Nat) (r:Option Addr) (u:Nat),j<=m/\i = .int .i64 j/\o = .slice r j u/\Hid (OwnCC wr w.heap.size wr.heap.size r j u (codL (a.take j)))/\Hid (Below w.heap.size w wr)) (fun _ i _=>m-(intOf i).toNat)
 case atStart=>exact⟨0,none,0,Nat.zero_le _,rfl,rfl,OwnCC.nil _ _ _,Below.refl _ _⟩
 case round=>
  obtain⟨j,r,u,hj,rfl,rfl,HO,N⟩:=hrel
  by_cases h6:j<m
  ·have h:j<a.length:=by rw[<-HM.o];exact h6
   obtain⟨b,o,rfl,R⟩:=Z.o (by omega);have y1:=R j h;have z1:wr.cell? ⟨b,o+j,none⟩=some (.int .u8 (a.getD j 0)):=(N.o.cell (World.block_lt_of_cell? _ _ y1)).trans y1
   have O:Hid (codL (a.take (j+1))=codL (a.take j) ++ [[(1,a.getD j 0,[])]]):=by
    show _=_
    unfold codL
    rw[List.take_succ_eq_append_getElem h,List.map_append,List.getD,List.getElem?_eq_getElem h]
    rfl
   have U:0<=a.getD j 0/\a.getD j 0<256:=by
    rw[List.getD,List.getElem?_eq_getElem h];exact Y.o _ (List.getElem_mem h)
   generalize a.getD j 0=x at z1 O U
   have e2:(0:Int)<=x:=U.1;have e3:x<256:=U.2;have e1:IntKind.i64.wrap x=x:=wrapM (by omega) (by omega)
   have h8:(0:Int)<=(j:Int):=by omega
   have h9:(j:Int)<(m:Int):=by omega
   have h4:=N.o.size;have C:=E.o x wr;clear R y1 U;go_wp2_with fail;refine C.mono ?_;rintro e y ⟨rfl,k,f⟩;have h2:Hid (OwnC y wr.heap.size (some ⟨wr.heap.size,0,none⟩) 1 1 [(1,x,[])]):=k;have B:Hid (Below wr.heap.size wr y):=f;clear k f C;go_wp2_with (at_builtin;refine app_item wr y rfl _ _ rfl w.heap.size r j u _ rfl HO.o B.o h4 _ 1 1 _ h2.o rfl (by omega) ?_;intro g n' F d L t v)
   have h3:Hid (OwnCC d w.heap.size d.heap.size (some ⟨g,0,none⟩) (j+1) F (codL (a.take (j+1)))):=by rw[O.o,<-v.o];exact L
   have X:Hid (Below w.heap.size w d):=(Below.on N.o (Below.on B.o ((Below.refl y.heap.size y).alloc (Nat.le_refl _) _))).trans t;have h7:n'=j+1:=v.o;subst h7;clear L t v;go_roundw
   case rel=>exact⟨j+1,_,F,by omega,by go_num,rfl,h3,X⟩
   case measure=>simp[intOf];omega
  ·obtain rfl:j=m:=by omega
   have J:CCIn wr r (codL a):=by
    have:=HO.o.ccin
    rwa[List.take_of_length_le (by rw[<-HM.o];exact Nat.le_refl _)] at this
   have C:=A.o wr;have D:Hid (CCIn wr r (codL a)):=J;clear J;go_wp2_with fail;refine C.mono ?_;rintro e y ⟨p1,rfl,k,f⟩;have HL:=h1.o y r u (Below.on N.o f) (D.o.below f) p1 k.cin;clear C k f D;go_wp2_with fail;refine HL.mono ?_;rintro e w2 ⟨r2,n2,c2,rfl,M,I⟩
   have O:Hid (OwnC w2 w.heap.size r2 n2 c2 (itC (codT a))/\Below w.heap.size w w2):=⟨M,I⟩
   clear M I HL;go_wp2_with fail;go_ret;exact⟨r2,n2,c2,rfl,O.o⟩
end
section
open Go Go.RowKit
def look {α:Type} : List (Int×α)->Int->Option α
 | [],_=>none
 | y :: r,x=>if y.1=x then some y.2 else look r x
theorem look_append {a:Type} : ∀ (E F:List (Int×a)) (x:Int),look (E ++ F) x=match look E x with | some t=>some t | none=>look F x
 | [],F,x=>by simp[look]
 | y :: r,F,x=>by
   by_cases h:y.1=x
   ·simp[look,h]
   ·simp[look,h,look_append r F x]
theorem look_none {b:Type} : ∀ (E:List (Int×b)) (x:Int),look E x=none↔x ∉ E.map Prod.fst
 | [],x=>by simp[look]
 | y :: r,x=>by
   have:=look_none r x
   by_cases h:y.1=x
   ·simp[look,h]
   ·have a:¬ x=y.1:=fun e=>h e.symm
    simp only[look,if_neg h,this,List.map_cons,List.mem_cons,a,false_or]
end
section
open Go Go.RowKit Go.Maps
def anyE (v:Value):Option (DataW Value×List MemPlace):=some (.held v,[])
def putE {α:Type}(E:List (Int×α))(x:Int)(v:α):List (Int×α):=if x ∈ E.map Prod.fst then E.map (fun y=>if y.1=x then(x,v) else y) else E ++ [(x,v)]
theorem look_map {f:Type}(x:Int)(v:f):∀ (E:List (Int×f)) (y:Int),look (E.map (fun z=>if z.1=x then(x,v) else z)) y=if y=x then(if x ∈ E.map Prod.fst then some v else none) else look E y
 | [],y=>by simp[look]
 | z :: r,y=>by
   have b:=look_map x v r y
   by_cases d:z.1=x
   ·by_cases a:y=x
    ·subst a;simp[look,d]
    ·have g:¬ x=y:=fun e=>a e.symm
     simp[look,d,a,g] at b ⊢
     exact b
   ·have h:¬ x=z.1:=fun e=>d e.symm
    by_cases a:y=x
    ·subst a
     simp only[if_true] at b;simp only[List.map_cons,if_neg d,look,b,if_true,List.mem_cons,h,false_or]
    ·simp[look,d,a] at b ⊢
     rw[b]
theorem look_putE {a:Type}(E:List (Int×a))(x:Int)(v:a)(y:Int):look (putE E x v) y=if y=x then some v else look E y:=by
 unfold putE
 split
 ·rename_i h
  rw[look_map]
  simp[h]
 ·rename_i h
  rw[look_append]
  by_cases e:y=x
  ·subst e
   rw[(look_none E y).2 h];simp[look]
  ·have d:¬ x=y:=fun b=>e b.symm
   cases look E y <;> simp[look,e,d]
theorem putE_len {a:Type}(E:List (Int×a))(x:Int)(v:a):(putE E x v).length=if (look E x).isSome then E.length else E.length+1:=by
 unfold putE
 by_cases h:x ∈ E.map Prod.fst
 ·have:(look E x).isSome=true:=by
   cases b:look E x with
   | none=>exact absurd h ((look_none E x).1 b)
   | some t=>rfl
  rw[if_pos h,this];simp
 ·rw[if_neg h,(look_none E x).2 h];simp
theorem putE_new {a:Type}{E:List (Int×a)}{x:Int}(v:a)(h:look E x=none):putE E x v=E ++ [(x,v)]:=by
 unfold putE
 rw[if_neg ((look_none E x).1 h)]
def VMap (w:World)(b N:Nat)(E:List (Int×Value)):Prop:=∃ D:DataW Value,w.ownsMap Tryz.prog 150 anyE b N D/\Maps.size D=E.length/\(∀ x:Int,Maps.has D (.int .i64 x)=(look E x).isSome)/\
 (∀ (x:Int) z,D.atKey (.int .i64 x) z=match look E x with | some v=>.held v | none=>z)
theorem VMap.lt {w:World}{b N:Nat}{E:List (Int×Value)}(h:VMap w b N E):b<w.heap.size:=by obtain⟨D,h,_⟩:=h;exact h.lt
theorem VMap.of_block {w d:World}{b N:Nat}{E:List (Int×Value)}(h:VMap w b N E)(i:d.heap[b]?=w.heap[b]?):VMap d b N E:=by
 obtain⟨D,⟨e,a,f,r⟩,g⟩:=h;exact⟨D,⟨e,a,i.trans f,r⟩,g⟩
theorem VMap.below {w w':World}{b N:Nat}{E:List (Int×Value)}(h:VMap w b N E)(a:Below w.heap.size w w'):VMap w' b N E:=h.of_block (a.block _ h.lt)
theorem VMap.mono {w:World}{b N a:Nat}{E:List (Int×Value)}(h:VMap w b N E)(f:N<=a):VMap w b a E:=by
 obtain⟨D,d,e⟩:=h;exact⟨D,d.mono f,e⟩
theorem VMap.made (w:World):VMap (w.alloc (.map #[] 0)) w.heap.size 0 []:=⟨_,World.ownsMap_made _ _ _ _,rfl,fun x=>rfl,fun x z=>rfl⟩
theorem key_of (x:Int)(b:0<=x)(d:x<=1000000):keyOf Tryz.prog 150 (.int .i64 x)=some (.int .i64 x):=keyOf_int_mk (P:=Tryz.prog) Tryz.underlying150 (q:=.i64) (a:=x) (WalkArith.wf_i64 (by omega))
theorem VMap.look {w:World}{b N:Nat}{E:List (Int×Value)}(h:VMap w b N E){t e:TypeId}(p:Tryz.prog.underlying t=some (.map 150 e)){z:Value}(q:(zeroValue e).run Tryz.prog w = .ok z w)(x:Int)(k:0<=x)(m:x<=1000000) :
  (Instr.lookup t (.map (some b)) (.int .i64 x) true).run Tryz.prog w = .ok (.tuple #[(match Go.Proofs.YtlkhmmoimplokaaGreatDoor.look E x with | some v=>v | none=>z),.bool (Go.Proofs.YtlkhmmoimplokaaGreatDoor.look E x).isSome]) w:=by
 obtain⟨D,f,o,d,i⟩:=h;obtain⟨v,r,g,a⟩:=f.look_ok lawVar p q (zd:=.held z) (zp:=[]) rfl (key_of x k m);rw[g,d];rw[i] at a;simp only[anyE,Option.some.injEq,Prod.mk.injEq] at a;have a:=a.1
 cases j:Go.Proofs.YtlkhmmoimplokaaGreatDoor.look E x with
 | none=>rw[j] at a;cases a;rfl
 | some u=>rw[j] at a;cases a;rfl
theorem VMap.put {w:World}{b N:Nat}{E:List (Int×Value)}(h:VMap w b N E){t e:TypeId}(r:Tryz.prog.underlying t=some (.map 150 e))(u:N<=1000000)(x:Int)(o:0<=x)(p:x<=1000000)(v:Value) :
  ∃ w',(Instr.mapUpdate t (.map (some b)) (.int .i64 x) v).run Tryz.prog w = .ok () w'/\VMap w' b (N+1) (putE E x v)/\w.grownBy w' (some b):=by
 obtain⟨D,a,k,d,j⟩:=h;obtain⟨w',i,f,q⟩:=a.update lawVar r (by unfold maxLen;omega) (key_of x o p) (show anyE v=some (.held v,[]) from rfl);have m:=a.isMap;have g:WideAt.IsKeyLit (.int .i64 x):=trivial;refine⟨w',i,⟨_,f,?_,fun y=>?_,fun y z=>?_⟩,q⟩
 ·rw[size_put (a.tidy lawVar),d,k,putE_len]
 ·rw[look_putE]
  by_cases e:y=x
  ·subst e;rw[has_put_same m g];simp
  ·rw[has_put_other (by simpa using e),d];simp[e]
 ·rw[look_putE]
  by_cases e:y=x
  ·subst e
   rw[atKey_put_same m g];simp
  ·rw[atKey_put_other (by simpa using e),j];simp[e]
end
section
open Go Go.RowKit Go.Maps
theorem app_tok (r w:World){ops:Array Oper}{f:List Oper}{o:Oper}{a:Act}{Q:Exit->Act->World->Prop}(D:o.guard=none)(s x:Operand)
  (ho:o.op = .call { callee:=.builtin .append,args:=#[s,x],argTypes:=#[50,50] }) (B:Nat) (p:Option Addr) (n c:Nat) (U:List Tok)
  (hs:a.eval s = .slice p n c) (v:OwnK r B p n c U) (e:Below r.heap.size r w) (z:B<=r.heap.size) (y:Addr) (O:Nat) (hx:a.eval x = .slice (some y) 1 O) (C:Int×Int×Int×Int) (N:Option Addr) (M L:Nat) (t:List Int)
  (ht:OwnT w r.heap.size N M L t) (i:∀ j u,(rtV (C,N,M,L))[j]?=some u->w.cell? (y.add j)=some u) (R:n+1<=1000000000)
  (h:∀ g K d q,OwnK q B (some ⟨g,0,none⟩) K d (U ++ [(C,t)])->Below B w q->w.grownBy q (Value.ownBlock (.slice p n c))->Hid (K=n+1)->wpList Tryz.prog ops Q f (a.put o.dst (.slice (some ⟨g,0,none⟩) K d)) q):wpList Tryz.prog ops Q (o :: f) a w:=by
 obtain⟨i0,W,F,I,J⟩:=info_parts infoTok;obtain⟨hn,rs,Y,E,V,ha⟩:=v;refine wpList_append_lies w D s x 50 ho B 86 i0 (.agg #[.int .i64 0,.int .i64 0,.int .i64 0,.slice none 0 0,.int .i64 0]) 5 56 Tryz.underlying50 W F I J rfl (by decide) (.slice p n c) n (flatT rs) hs (row_below E e) y 1 O (rtV (C,N,M,L)) hx rfl i (rtV_one _) (by decide) (by unfold maxLen;omega) (by omega) (Nat.le_trans z e.size) w.heap.size rfl ?_
 intro g d q m b A Z
 refine h g _ d q (ownK_grew hn Y E V ha e z ht m b A) ((Below.refl _ _).grown b (Nat.le_trans z e.size) (fun k X=>?_)) b rfl;exact(E.lt k X).1
theorem news_rt {w:World}{g:Nat}{r:RT}(h:w.heap[g]?=some (.cells #[.int .i64 r.1.1,.int .i64 r.1.2.1,.int .i64 r.1.2.2.1,.slice r.2.1 r.2.2.1 r.2.2.2,.int .i64 r.1.2.2.2] 86)):∀ j u,(rtV r)[j]?=some u->w.cell? ((⟨g,0,none⟩:Addr).add j)=some u:=fun j u a=>
 World.news_of_block h j u a
end
section
open Go
section
variable {P:Program}{ops:Array Oper}{Q:Exit->Act->World->Prop}{md:Region.Mode}{S:World->Prop}{c:Nat}{l n:Nat}
def noDefer (ops:Array Oper):Bool:=ops.all fun o=>match o.op with | .defer _=>false | _=>true
theorem noDefer_spec (h:noDefer ops=true){i:Nat}{o:Oper}(a:ops[i]?=some o):∀ c,o.op≠.defer c:=fun c e=>by
 have:=Array.all_eq_true_iff_forall_mem.1 h o (Array.mem_of_getElem? a);rw[e] at this
 cases this
theorem upon_wide {o:Oper}{a:Act}{K:Act->World->Prop}{r:Result Next}(h:o.upon P a K Q r):o.uponIn (Fence.wide.inRound l) n P a K Q r:=by
 cases r with
 | ok x b=>
   cases x <;> simp only[Oper.upon] at h <;> simp only[Oper.uponIn] <;>
    first
     | exact h
     | exact⟨fun h=>(by cases h),CallsIn.inRound l (callsIn_wide.2 h)⟩
     | exact⟨fun h=>(by cases h),fun c d _=>let ⟨v,b,r,s⟩:=h c d;⟨v,b,r,stepsIn_wide.2 s⟩⟩
     | exact h.elim
 | halt x b=>cases x <;> simp only[Oper.upon] at h <;> simp only[Oper.uponIn] <;> first | exact h | exact h.elim
end
end
section
open Go Go.RowKit Go.Extern.Stop Go.Stop Go.Extern
theorem asV2 (t:Addr)(w:World):(ReflectliteValue.unpack (.iface 200 (.pointer (some t)))).run Tryz.prog w
  = .ok (.agg #[.pointer (some ⟨4,200,none⟩),.pointer (some ⟨w.heap.size,0,none⟩),.int .u64 150]) (w.alloc (.cells #[.pointer (some t)] 200)):=by kernel_rfl
theorem asT2 (a:Addr)(w:World):(ReflectliteValue.methodAny (ReflectliteValue.valueError "reflectlite.Value.Type" 0) (fun t _ _ _=>ReflectliteType.toType t) #[.agg #[.pointer (some ⟨4,200,none⟩),.pointer (some a),.int .u64 150]]).run Tryz.prog w
  = .ok (.iface 257 (.agg #[.pointer (some ⟨4,200,none⟩)])) w:=by kernel_rfl
theorem asMK (h:Value)(w:World):(Go.method 409 257 (.agg #[h]) "Kind").run Tryz.prog w = .ok (235,h) w:=by kernel_rfl
theorem asK2 (w:World):((ReflectliteType.abiMethod fun t=>(fun a:Nat=>Value.int IntKind.u8 (a:Int)) <$> Rtype.kind t) #[.pointer (some ⟨4,200,none⟩)]).run Tryz.prog w = .ok (.int .u8 22) w:=by kernel_rfl
theorem asK1 (w:World):((ReflectliteType.abiMethod fun t=>(fun a:Nat=>Value.int IntKind.u8 (a:Int)) <$> Rtype.kind t) #[.pointer (some ⟨4,72,none⟩)]).run Tryz.prog w = .ok (.int .u8 25) w:=by kernel_rfl
theorem rlm (z:Sem Value)(f:TypeId->Addr->Nat->Nat->Sem Value)(v:Value) :
  ReflectliteValue.method z f #[v]=(do match <- ReflectliteValue.parts v with | none=>z | some (t,a,fl)=>f t a fl (fl % 32)):=rfl
theorem asP2 (a:Addr)(w:World):(ReflectliteValue.parts (.agg #[.pointer (some ⟨4,200,none⟩),.pointer (some a),.int .u64 150])).run Tryz.prog w = .ok (some (200,a,150)) w:=by kernel_rfl
theorem asN2 (a p:Addr)(W:World)(ha:W.cell? a=some (.pointer (some p))) :
  (ReflectliteValue.method (ReflectliteValue.valueError "reflectlite.Value.IsNil" 0) ReflectliteValue.isNil #[.agg #[.pointer (some ⟨4,200,none⟩),.pointer (some a),.int .u64 150]]).run Tryz.prog W = .ok (.bool false) W:=by
 rw[rlm];simp only[Sem.run_bind,asP2,Result.andThen]
 simp[ReflectliteValue.isNil,loadVar,isAgg,underlying,Tryz.underlying200,ha,Result.andThen]
theorem asME (h:Value)(w:World):(Go.method 409 257 (.agg #[h]) "Elem").run Tryz.prog w = .ok (253,.agg #[h]) w:=by kernel_rfl
theorem asMI (h:Value)(w:World):(Go.method 409 257 (.agg #[h]) "Implements").run Tryz.prog w = .ok (254,.agg #[h]) w:=by kernel_rfl
theorem asMA (h:Value)(w:World):(Go.method 409 257 (.agg #[h]) "AssignableTo").run Tryz.prog w = .ok (251,.agg #[h]) w:=by kernel_rfl
theorem asE2 (w:World):(ReflectliteType.method ReflectliteType.elem #[.agg #[.pointer (some ⟨4,200,none⟩)]]).run Tryz.prog w = .ok (.iface 257 (.agg #[.pointer (some ⟨4,72,none⟩)])) w:=by kernel_rfl
theorem asI1 (w:World):(ReflectliteType.relation "Implements" ReflectliteType.implements_ #[.agg #[.pointer (some ⟨4,72,none⟩)],.iface 257 (.agg #[.pointer (some ⟨4,197,none⟩)])]).run Tryz.prog w = .ok (.bool true) w:=by kernel_rfl
theorem asTO (v:Value)(w:World):(ReflectliteType.typeOf #[.iface 72 v]).run Tryz.prog w = .ok (.iface 257 (.agg #[.pointer (some ⟨4,72,none⟩)])) w:=by kernel_rfl
theorem asA1 (w:World):(ReflectliteType.relation "AssignableTo" ReflectliteType.assignableTo #[.agg #[.pointer (some ⟨4,72,none⟩)],.iface 257 (.agg #[.pointer (some ⟨4,72,none⟩)])]).run Tryz.prog w = .ok (.bool true) w:=by kernel_rfl
theorem asV1 (c p:Int)(w:World):(ReflectliteValue.unpack (.iface 72 (.agg #[.int .i64 c,.int .i64 p]))).run Tryz.prog w
  = .ok (.agg #[.pointer (some ⟨4,72,none⟩),.pointer (some ⟨w.heap.size,0,none⟩),.int .u64 153]) (w.alloc (.cells #[.int .i64 c,.int .i64 p] 72)):=by kernel_rfl
theorem asEO (w:World):(Rtype.elem? 200).run Tryz.prog w = .ok (some 72) w:=by kernel_rfl
theorem asM1 (p:Addr)(w:World):(ReflectliteValue.mk 72 p ReflectliteValue.flagAddr).run Tryz.prog w = .ok (.agg #[.pointer (some ⟨4,72,none⟩),.pointer (some p),.int .u64 409]) w:=by kernel_rfl
theorem asEV (a p:Addr)(W:World)(ha:W.cell? a=some (.pointer (some p))) :
  (ReflectliteValue.method (ReflectliteValue.valueError "reflectlite.Value.Elem" 0) ReflectliteValue.elem #[.agg #[.pointer (some ⟨4,200,none⟩),.pointer (some a),.int .u64 150]]).run Tryz.prog W
    = .ok (.agg #[.pointer (some ⟨4,72,none⟩),.pointer (some p),.int .u64 409]) W:=by
 rw[rlm];simp only[Sem.run_bind,asP2,Result.andThen]
 simp[ReflectliteValue.elem,loadVar,isAgg,underlying,Tryz.underlying200,ha,Result.andThen,asEO,asM1]
theorem asP1a (a:Addr)(w:World):(ReflectliteValue.parts (.agg #[.pointer (some ⟨4,72,none⟩),.pointer (some a),.int .u64 409])).run Tryz.prog w = .ok (some (72,a,409)) w:=by kernel_rfl
theorem asP1 (a:Addr)(w:World):(ReflectliteValue.parts (.agg #[.pointer (some ⟨4,72,none⟩),.pointer (some a),.int .u64 153])).run Tryz.prog w = .ok (some (72,a,153)) w:=by kernel_rfl
theorem asD1 (w:World):(Rtype.directlyAssignable 72 72).run Tryz.prog w = .ok true w:=by kernel_rfl
theorem asS1 (w:World):(sizeOf 72).run Tryz.prog w = .ok 2 w:=by kernel_rfl
theorem asLd (b:Nat)(c p:Int)(W:World)(a:W.cell? ⟨b,0,none⟩=some (.int .i64 c))(d:W.cell? ⟨b,1,none⟩=some (.int .i64 p)):(loadVar 72 ⟨b,0,none⟩).run Tryz.prog W = .ok (.agg #[.int .i64 c,.int .i64 p]) W:=by
 simp[loadVar,isAgg,underlying,Tryz.underlying72,Result.andThen,asS1,loadCells,loadCellsFrom,Addr.add,a,d]
theorem asSet (T b:Nat)(c p:Int)(a d:Value)(W:World)(e:W.cell? ⟨b,0,none⟩=some (.int .i64 c))(f:W.cell? ⟨b,1,none⟩=some (.int .i64 p))(hT:W.heap[T]?=some (.cells #[a,d] 72 (0,0))) :
  (ReflectliteValue.set #[.agg #[.pointer (some ⟨4,72,none⟩),.pointer (some ⟨T,0,none⟩),.int .u64 409],.agg #[.pointer (some ⟨4,72,none⟩),.pointer (some ⟨b,0,none⟩),.int .u64 153]]).run Tryz.prog W
    = .ok (.tuple #[]) (W.setRow T #[.int .i64 c,.int .i64 p]):=by
 have h:=run_storeVar_row (P:=Tryz.prog) W T 72 72 #[a,d] #[.int .i64 c,.int .i64 p] hT (by kernel_rfl) rfl (by simp[Value.oneCell']);have g:=asLd b c p W e f
 change Sem.run Tryz.prog (ReflectliteValue.parts _ >>= _) W=_
 simp[Array.getLit,asP1a,asP1,ReflectliteValue.flagAddr,g,asD1,h,Result.andThen]
theorem as_hit (T:Nat)(c p:Int)(q r:Value)(w:World)(u:w.cell? ⟨1,0,none⟩=some (.iface 257 (.agg #[.pointer (some ⟨4,197,none⟩)])))(hT:w.heap[T]?=some (.cells #[q,r] 72 (0,0))) :
  Calls Tryz.prog 150 #[.iface 72 (.agg #[.int .i64 c,.int .i64 p]),.iface 200 (.pointer (some ⟨T,0,none⟩))] w fun x I=>x = .returned (.bool true)/\∃ v:World,Below w.heap.size w v/\v.heap[T]?=some (.cells #[q,r] 72 (0,0))/\I=v.setRow T #[.int .i64 c,.int .i64 p]:=by
 have O:=@run_callFunc_extern Tryz.prog 178 _ (fun i=>ReflectliteValue.unpack (i.getD 0 (.tuple #[]))) Tryz.func178 (by kernel_rfl) (by kernel_rfl) (by kernel_rfl) (by kernel_rfl);have R:=@run_callFunc_extern Tryz.prog 179 _ (ReflectliteValue.methodAny (ReflectliteValue.valueError "reflectlite.Value.Type" 0) (fun t _ _ _=>ReflectliteType.toType t)) Tryz.func179 (by kernel_rfl) (by kernel_rfl) (by kernel_rfl) (by kernel_rfl);have U:=@run_callFunc_extern Tryz.prog 180 _ (ReflectliteValue.method (ReflectliteValue.valueError "reflectlite.Value.IsNil" 0) ReflectliteValue.isNil) Tryz.func180 (by kernel_rfl) (by kernel_rfl) (by kernel_rfl) (by kernel_rfl);have B:=@run_callFunc_extern Tryz.prog 235 _ (ReflectliteType.abiMethod fun t=>do pure (.int .u8 (<- Rtype.kind t))) Tryz.func235 (by kernel_rfl) (by kernel_rfl) (by kernel_rfl) (by kernel_rfl)
 have D:=@run_callFunc_extern Tryz.prog 253 _ (ReflectliteType.method ReflectliteType.elem) Tryz.func253 (by kernel_rfl) (by kernel_rfl) (by kernel_rfl) (by kernel_rfl);have E:=@run_callFunc_extern Tryz.prog 254 _ (ReflectliteType.relation "Implements" ReflectliteType.implements_) Tryz.func254 (by kernel_rfl) (by kernel_rfl) (by kernel_rfl) (by kernel_rfl);have y:=@run_callFunc_extern Tryz.prog 200 _ ReflectliteType.typeOf Tryz.func200 (by kernel_rfl) (by kernel_rfl) (by kernel_rfl) (by kernel_rfl);have C:=@run_callFunc_extern Tryz.prog 251 _ (ReflectliteType.relation "AssignableTo" ReflectliteType.assignableTo) Tryz.func251 (by kernel_rfl) (by kernel_rfl) (by kernel_rfl) (by kernel_rfl)
 have z:=@run_callFunc_extern Tryz.prog 201 _ (ReflectliteValue.method (ReflectliteValue.valueError "reflectlite.Value.Elem" 0) ReflectliteValue.elem) Tryz.func201 (by kernel_rfl) (by kernel_rfl) (by kernel_rfl) (by kernel_rfl);have A:=@run_callFunc_extern Tryz.prog 202 _ ReflectliteValue.set Tryz.func202 (by kernel_rfl) (by kernel_rfl) (by kernel_rfl) (by kernel_rfl);have tO:=asTO;have Y:=asMA;have J:=asA1;have v1:=asV1;have M:=asV2;have N:=asT2;have mK:=asMK;have Z:=asME;have mI:=asMI;have X:=asK2;have W:=asK1;have K:=asE2;have V:=asI1
 have j:T<w.heap.size:=by
  rcases Nat.lt_or_ge T w.heap.size with h | h
  ·exact h
  ·rw[Array.getElem?_eq_none h] at hT;cases hT
 have k:1<w.heap.size:=World.block_lt_of_cell? _ _ u;have n8:=asN2 ⟨w.heap.size,0,none⟩ ⟨T,0,none⟩ ((w.alloc (.cells #[.pointer (some ⟨T,0,none⟩)] 200)).alloc (.cells #[.pointer (some ⟨4,200,none⟩),.pointer (some ⟨w.heap.size,0,none⟩),.int .u64 150] 233)) (by simp)
 have F:((w.alloc (.cells #[.pointer (some ⟨T,0,none⟩)] 200)).alloc (.cells #[.pointer (some ⟨4,200,none⟩),.pointer (some ⟨w.heap.size,0,none⟩),.int .u64 150] 233)).cell? ⟨1,0,none⟩=some (.iface 257 (.agg #[.pointer (some ⟨4,197,none⟩)])):=by
  rw[World.cell?_alloc_lt _ _ ⟨1,0,none⟩ (by first | (simp;done) | (simp;omega)),World.cell?_alloc_lt _ _ ⟨1,0,none⟩ k];exact u
 have L:=asEV ⟨w.heap.size,0,none⟩ ⟨T,0,none⟩ (((w.alloc (.cells #[.pointer (some ⟨T,0,none⟩)] 200)).alloc (.cells #[.pointer (some ⟨4,200,none⟩),.pointer (some ⟨w.heap.size,0,none⟩),.int .u64 150] 233)).alloc (.cells #[.pointer (some ⟨4,200,none⟩),.pointer (some ⟨w.heap.size,0,none⟩),.int .u64 150] 233)) (by rw[World.cell?_alloc_lt _ _ ⟨w.heap.size,0,none⟩ (by simp;omega)];simp)
 obtain⟨e,m⟩:∃ e,e=(((w.alloc (.cells #[.pointer (some ⟨T,0,none⟩)] 200)).alloc (.cells #[.pointer (some ⟨4,200,none⟩),.pointer (some ⟨w.heap.size,0,none⟩),.int .u64 150] 233)).alloc (.cells #[.pointer (some ⟨4,200,none⟩),.pointer (some ⟨w.heap.size,0,none⟩),.int .u64 150] 233)):=⟨_,rfl⟩
 have d:e.heap.size=w.heap.size+1+1+1:=by rw[m];simp
 have b:Below w.heap.size w e:=by
  rw[m];exact(((Below.refl _ _).alloc (Nat.le_refl _) _).alloc (by simp) _).alloc (by simp;omega) _
 have a:(e.alloc (.cells #[.int .i64 c,.int .i64 p] 72)).heap[T]?=some (.cells #[q,r] 72 (0,0)):=by
  rw[Go.heap_alloc_old _ _ (by omega),b.block T j];exact hT
 have st:=asSet T (w.heap.size+1+1+1) c p q r (e.alloc (.cells #[.int .i64 c,.int .i64 p] 72)) (by rw[<-d];unfold World.cell?;rw[heap_alloc_new];rfl) (by rw[<-d];unfold World.cell?;rw[heap_alloc_new];rfl) a;have f:Hid (Below w.heap.size w (e.alloc (.cells #[.int .i64 c,.int .i64 p] 72))):=b.alloc (by omega) _;have g:=Hid.mk a;rw[m] at st f g;clear b d a hT j k u m
 go_enter Tryz.func150,Tryz.ntmps150
 go_wp2
 refine wp_loop_rounds 1 ?_;rw[rounds_succ]
 go_wp2
 go_ret;exact⟨rfl,_,f.o,g.o,rfl⟩
theorem fourC {d:World}{g:Nat}{a b:Value}(h:d.heap[g]?=some (.cells #[a,b] 72 (0,0))):d.cell? ⟨g,0,none⟩=some a/\d.cell? ⟨g,1,none⟩=some b/\d.frozen? ⟨g,0,none⟩=false/\d.frozen? ⟨g,1,none⟩=false:=by
 refine⟨?_,?_,?_,?_⟩
 ·unfold World.cell?;rw[h];rfl
 ·unfold World.cell?;rw[h];rfl
 ·unfold World.frozen?;rw[h];rfl
 ·unfold World.frozen?;rw[h];rfl
theorem faultOf_any (c p:Int)(w:World)(x:w.cell? ⟨1,0,none⟩=some (.iface 257 (.agg #[.pointer (some ⟨4,197,none⟩)]))) :
  Calls Tryz.prog 100 #[.iface 72 (.agg #[.int .i64 c,.int .i64 p])] w fun e I=>e = .returned (.agg #[.int .i64 c,.int .i64 p])/\Below w.heap.size w I:=by
 have j:1<w.heap.size:=World.block_lt_of_cell? _ _ x;have F:=run_typeAssert_hasB (P:=Tryz.prog) (asserted:=197) (t:=72) Tryz.underlying197 (by kernel_rfl) (.agg #[.int .i64 c,.int .i64 p]) 20
 obtain⟨b,g⟩:∃ b,b=(w.alloc (.cells #[.int .i64 0,.int .i64 0] 72)).alloc (.cells #[.int .i64 0,.int .i64 0] 72):=⟨_,rfl⟩
 have a:Below w.heap.size w b:=by rw[g];exact((Below.refl _ _).alloc (Nat.le_refl _) _).alloc (by simp) _
 have y:b.heap.size=w.heap.size+1+1:=by rw[g];simp
 have i:b.heap[w.heap.size+1]?=some (.cells #[.int .i64 0,.int .i64 0] 72 (0,0)):=by
  have:=heap_alloc_new (w.alloc (.cells #[.int .i64 0,.int .i64 0] 72)) (.cells #[.int .i64 0,.int .i64 0] 72);rw[<-g] at this
  simpa using this
 have h:b.heap[w.heap.size]?=some (.cells #[.int .i64 0,.int .i64 0] 72 (0,0)):=by
  rw[g,Go.heap_alloc_old _ _ (by simp)];exact heap_alloc_new _ _
 have z:Calls Tryz.prog 150 #[.iface 72 (.agg #[.int .i64 c,.int .i64 p]),.iface 200 (.pointer (some ⟨w.heap.size+1,0,none⟩))] b fun e f=>e = .returned (.bool true)/\Hid (Below w.heap.size w f)/\w.heap.size<f.heap.size/\Hid (f.heap[w.heap.size]?=some (.cells #[.int .i64 0,.int .i64 0] 72 (0,0)))/\Hid (f.heap[w.heap.size+1]?=some (.cells #[.int .i64 c,.int .i64 p] 72 (0,0))):=by
  refine(as_hit (w.heap.size+1) c p (.int .i64 0) (.int .i64 0) b ((a.cell (p:=⟨1,0,none⟩) j).trans x) i).mono ?_;rintro e f ⟨rfl,J,d,r,rfl⟩;have u:Below w.heap.size w J:=a.trans (d.mono a.size);refine⟨rfl,below_setRow u (by omega) _,?_,?_,setRow_heap _ _ _ _ _ _ r⟩
  ·have:=d.size;simp;omega
  ·show _=_
   rw[setRow_other _ _ _ _ (by omega),d.block _ (by omega)];exact h
 rw[g] at z;clear x j a y i h g
 go_enter Tryz.func100,Tryz.ntmps100
 go_wp2_with (go_at_call 150;refine z.mono ?_;rintro e f ⟨rfl,A,m,B,C⟩;obtain⟨K,L,_,_⟩:=fourC C.o;obtain⟨D,E,M,N⟩:=fourC B.o)
 have q:Below w.heap.size w ((f.setCell ⟨w.heap.size,0,none⟩ (.int .i64 c)).setCell ⟨w.heap.size,1,none⟩ (.int .i64 p)):=
  (A.o.trans (Below.of_grown (grown_setCell _ _ _) (Nat.le_of_lt m) (fun k e=>by cases e;exact Nat.le_refl _))).trans (Below.of_grown (grown_setCell _ _ _) (by simp;omega) (fun k e=>by cases e;exact Nat.le_refl _))
 exact bodyPost_ret (v:=.agg #[.int .i64 c,.int .i64 p]) (by simp[results,Tryz.results100,go_sem,D,E,m]) rfl ⟨rfl,q⟩
end
section
open Go Go.RowKit
structure Said (w w':World)(TB CB AB:Nat)(code at_:Int):Prop where
 os:w'.os=w.os
 tape:w'.tape=w.tape
 output:w'.output=w.output
 size:w.heap.size<=w'.heap.size
 block:∀ k,k<w.heap.size->k≠TB->k≠CB->k≠AB->w'.heap[k]?=w.heap[k]?
 toks:w'.cell? ⟨TB,0,none⟩=some (.slice none 0 0)
 code:w'.cell? ⟨CB,0,none⟩=some (.int .i64 code)
 at_:w'.cell? ⟨AB,0,none⟩=some (.int .i64 at_)
theorem lexD_panicking (n a f i:Nat)(tv R O:Value)(code d:Int)(w:World)(hg:w.cell? ⟨1,0,none⟩=some (.iface 257 (.agg #[.pointer (some ⟨4,197,none⟩)])))
  (hT:w.cell? ⟨a,0,none⟩=some tv) (F:w.cell? ⟨f,0,none⟩=some R) (E:w.cell? ⟨i,0,none⟩=some O) (Z:w.frozen? ⟨a,0,none⟩=false) (Y:w.frozen? ⟨f,0,none⟩=false) (X:w.frozen? ⟨i,0,none⟩=false) (h1:f=a+1) (h2:i=a+2) :
  CallsDIn Fence.wide n Tryz.prog 99 #[.pointer (some ⟨a,0,none⟩),.pointer (some ⟨f,0,none⟩),.pointer (some ⟨i,0,none⟩)] (.panicking ({ v:=.iface 72 (.agg #[.int .i64 code,.int .i64 d]),recovered:=false } :: [])) w fun e u' w'=>
   e = .returned (.tuple #[])/\u' = .panicking ({ v:=.iface 72 (.agg #[.int .i64 code,.int .i64 d]),recovered:=true } :: [])/\Said w w' a f i code d:=by
 have N:=faultOf_any code d w hg
 refine callsDIn_of_wpSIn Tryz.func99 rfl trivial fun U cs hu=>?_
 apply wpSIn_seq
 apply wpSIn_region
 simp[wpOpsSIn,go_sem,recoverD,hu,Tryz.ntmps99,Exit.thenS]
 refine wpSIn_of_wpIn rfl ?_;refine wpIn_wide.2 ?_;simp only[Array.replicate_succ,Array.replicate_zero,List.push_toArray,List.nil_append,List.cons_append,List.append_toArray,List.setIfInBounds_toArray,List.set_cons_zero,List.set_cons_succ];go_wp2_with fail;refine N.mono ?_;rintro e u ⟨rfl,q⟩;have L:=World.block_lt_of_cell? _ _ hT;have K:=World.block_lt_of_cell? _ _ F;have J:=World.block_lt_of_cell? _ _ E;have kT:=(q.cell L).trans hT;have kC:=(q.cell K).trans F;have kA:=(q.cell J).trans E;have gT:=(q.frozen L).trans Z;have gC:=(q.frozen K).trans Y;have gA:=(q.frozen J).trans X;have I:=q.size
 have M:a≠u.heap.size:=by simp only at L;omega
 have nC:f≠u.heap.size:=by simp only at K;omega
 have nA:i≠u.heap.size:=by simp only at J;omega
 have x:Hid (Below w.heap.size w u):=q
 have HH:Hid (f=a+1/\i=a+2):=⟨h1,h2⟩
 have n1:a≠f:=by omega
 have n2:a≠i:=by omega
 have n3:f≠i:=by omega
 clear q hT F E Z Y X N h1 h2 hg;go_wp2_with fail
 obtain⟨g,y⟩:∃ g,g=u.heap.size:=⟨_,rfl⟩
 obtain⟨b,j⟩:∃ b,b=u.alloc (Obj.cells #[Value.int IntKind.i64 code,Value.int IntKind.i64 d] 72):=⟨_,rfl⟩
 have t:=heap_alloc_new u (Obj.cells #[Value.int IntKind.i64 code,Value.int IntKind.i64 d] 72)
 have r:Hid (Below w.heap.size w b):=by show Below _ _ _;rw[j];exact x.o.alloc x.o.size _
 have x0:b.cell? ⟨g,0,none⟩=some (.int .i64 code):=by rw[j,y];exact cell_of_row _ _ 0 _ _ _ t
 have x1:b.cell? ⟨g,1,none⟩=some (.int .i64 d):=by rw[j,y];exact cell_of_row _ _ 1 _ _ _ t
 have yT:b.cell? ⟨a,0,none⟩=some tv:=by rw[j];exact Lib.cell?_alloc_marked _ kT
 have yC:b.cell? ⟨f,0,none⟩=some R:=by rw[j];exact Lib.cell?_alloc_marked _ kC
 have yA:b.cell? ⟨i,0,none⟩=some O:=by rw[j];exact Lib.cell?_alloc_marked _ kA
 have C:∀ B:Nat,B<u.heap.size->b.frozen? ⟨B,0,none⟩=u.frozen? ⟨B,0,none⟩:=fun B hB=>by rw[j];exact((Below.refl u.heap.size u).alloc (Nat.le_refl _) _).frozen (p:=⟨B,0,none⟩) hB
 have zT:b.frozen? ⟨a,0,none⟩=false:=(C a (by omega)).trans gT;have zC:b.frozen? ⟨f,0,none⟩=false:=(C f (by omega)).trans gC;have zA:b.frozen? ⟨i,0,none⟩=false:=(C i (by omega)).trans gA;rw[<-y,<-j];rw[<-y] at M nC nA
 have h3:Hid (b.heap.size=g+1):=by show _=_;rw[j,y];simp
 clear j kT kC kA gT gC gA C t I y x
 obtain⟨V1,D⟩:∃ V,V=b.setCell ⟨a,0,none⟩ (.slice none 0 0):=⟨_,rfl⟩
 have m:∀ (W:World) (B z o:Nat) (v:Value),B≠z->(W.setCell ⟨B,0,none⟩ v).cell? ⟨z,o,none⟩=W.cell? ⟨z,o,none⟩:=fun W B z o v h=>World.cell?_setCell_far W ⟨B,0,none⟩ ⟨z,o,none⟩ v h
 have s1:=(m b a f 0 (.slice none 0 0) n1).trans yC;have s2:=(m b a i 0 (.slice none 0 0) n2).trans yA;have s3:=(m b a g 0 (.slice none 0 0) M).trans x0;have s4:=(m b a g 1 (.slice none 0 0) M).trans x1;have s5:=(m (b.setCell ⟨a,0,none⟩ (.slice none 0 0)) f i 0 (.int .i64 code) n3).trans s2;have s6:=(m (b.setCell ⟨a,0,none⟩ (.slice none 0 0)) f g 1 (.int .i64 code) nC).trans s4
 have A:Hid (Said w (((b.setCell ⟨a,0,none⟩ (.slice none 0 0)).setCell ⟨f,0,none⟩ (.int .i64 code)).setCell ⟨i,0,none⟩ (.int .i64 d)).drew a f i code d):=by
  refine⟨?_,?_,?_,by have:=r.o.size;simp;omega,fun k hk k1 k2 k3=>?_,?_,?_,?_⟩
  ·exact((grown_setCell (((b.setCell ⟨a,0,none⟩ (.slice none 0 0)).setCell ⟨f,0,none⟩ (.int .i64 code))) ⟨i,0,none⟩ (.int .i64 d)).os.trans ((grown_setCell (b.setCell ⟨a,0,none⟩ (.slice none 0 0)) ⟨f,0,none⟩ (.int .i64 code)).os.trans (grown_setCell b ⟨a,0,none⟩ (.slice none 0 0)).os)).trans r.o.os
  ·exact((grown_setCell (((b.setCell ⟨a,0,none⟩ (.slice none 0 0)).setCell ⟨f,0,none⟩ (.int .i64 code))) ⟨i,0,none⟩ (.int .i64 d)).tape.trans ((grown_setCell (b.setCell ⟨a,0,none⟩ (.slice none 0 0)) ⟨f,0,none⟩ (.int .i64 code)).tape.trans (grown_setCell b ⟨a,0,none⟩ (.slice none 0 0)).tape)).trans r.o.tape
  ·exact((grown_setCell (((b.setCell ⟨a,0,none⟩ (.slice none 0 0)).setCell ⟨f,0,none⟩ (.int .i64 code))) ⟨i,0,none⟩ (.int .i64 d)).output.trans ((grown_setCell (b.setCell ⟨a,0,none⟩ (.slice none 0 0)) ⟨f,0,none⟩ (.int .i64 code)).output.trans (grown_setCell b ⟨a,0,none⟩ (.slice none 0 0)).output)).trans r.o.output
  ·show(((b.setCell ⟨a,0,none⟩ (.slice none 0 0)).setCell ⟨f,0,none⟩ (.int .i64 code)).setCell ⟨i,0,none⟩ (.int .i64 d)).heap[k]?=_
   rw[heap_setCell_other _ ⟨i,0,none⟩ k _ (fun e=>k3 (by simpa using e)),heap_setCell_other _ ⟨f,0,none⟩ k _ (fun e=>k2 (by simpa using e)),heap_setCell_other _ ⟨a,0,none⟩ k _ (fun e=>k1 (by simpa using e))];exact r.o.block k hk
  ·show(((b.setCell ⟨a,0,none⟩ (.slice none 0 0)).setCell ⟨f,0,none⟩ (.int .i64 code)).setCell ⟨i,0,none⟩ (.int .i64 d)).cell? _=_
   rw[m _ i a 0 _ (Ne.symm n2),m _ f a 0 _ (Ne.symm n1)];exact World.cell?_setCell_same' _ _ _ (by rw[yT];rfl)
  ·show(((b.setCell ⟨a,0,none⟩ (.slice none 0 0)).setCell ⟨f,0,none⟩ (.int .i64 code)).setCell ⟨i,0,none⟩ (.int .i64 d)).cell? _=_
   rw[m _ i f 0 _ (Ne.symm n3)];exact World.cell?_setCell_same' _ _ _ (by rw[s1];rfl)
  ·show(((b.setCell ⟨a,0,none⟩ (.slice none 0 0)).setCell ⟨f,0,none⟩ (.int .i64 code)).setCell ⟨i,0,none⟩ (.int .i64 d)).cell? _=_
   exact World.cell?_setCell_same' _ _ _ (by rw[s5];rfl)
 clear m D
 go_region
 exact⟨rfl,_,rfl,.tuple #[],by simp[results,Tryz.results99,go_sem],rfl,rfl,A.o⟩
theorem lexD_idle (n:Nat)(a b c:Value)(w:World) :
  CallsDIn Fence.wide n Tryz.prog 99 #[a,b,c] .returning w fun e g h=>e = .returned (.tuple #[])/\g = .returning/\h=w:=by
 refine callsDIn_of_wpSIn Tryz.func99 rfl trivial fun d i f=>?_
 apply wpSIn_seq
 apply wpSIn_region
 simp[wpOpsSIn,go_sem,recoverD,f,Tryz.ntmps99,Exit.thenS]
 refine wpSIn_of_wpIn rfl ?_;refine wpIn_wide.2 ?_;simp only[Array.replicate_succ,Array.replicate_zero,List.push_toArray,List.nil_append,List.cons_append,List.append_toArray,List.setIfInBounds_toArray,List.set_cons_zero,List.set_cons_succ];go_wp2_with fail
 cases d
 simp_all[bodyPostS,results,Tryz.results99]
theorem lexLong_any (p:Option Addr)(b n:Nat)(w:World)(o:10000<n)(q:n<=9000000000) :
  Calls Tryz.prog 60 #[.slice p n b] w fun e m=>e = .returned (.tuple #[.slice none 0 0,.int .i64 3,.int .i64 10000])/\Below w.heap.size w m:=by
 have k:(10000:Int)<(n:Int):=by omega
 go_enter Tryz.func60,Tryz.ntmps60
 go_wp2_with fail;obtain⟨a,h,i,j⟩:=lay3 w (.cells #[.slice none 0 0] 50) (.cells #[.int .i64 3] 3) (.cells #[.int .i64 10000] 3) _ rfl;have d:=cell_of_row _ _ 0 _ _ _ h;have f:=cell_of_row _ _ 0 _ _ _ i;have g:=cell_of_row _ _ 0 _ _ _ j;refine bodyPost_ret (v:=.tuple #[.slice none 0 0,.int .i64 3,.int .i64 10000]) (by simp[results,Tryz.results60,go_sem,d,f,g]) rfl ⟨rfl,a⟩
def OwnOU (w:World)(B U:Nat)(p:Option Addr)(n c:Nat)(cs:List Cel):Prop:=
 n=cs.length/\∃ rs:List RC,rs.length=cs.length/\w.ownsRow B 60 3 (.slice p n c) n (flatO rs)/\(∀ i,i<cs.length->Fits w B (rs.getD i RC.zero) (cs.getD i Cel.none))/\ApartC p rs/\
   (∀ k,Value.ownBlock (.slice p n c)=some k->k<U)/\(∀ i,i<cs.length->∀ k,tb (rs.getD i RC.zero).2.2.1 (rs.getD i RC.zero).2.2.2.1=some k->k<U)
theorem OwnOU.toO {w:World}{B U:Nat}{p:Option Addr}{n c:Nat}{a:List Cel}(h:OwnOU w B U p n c a):OwnO w B p n c a:=by
 obtain⟨e,g,d,f,b,ha,_⟩:=h;exact⟨e,g,d,f,b,ha⟩
theorem OwnO.up {w:World}{B:Nat}{p:Option Addr}{n c:Nat}{b:List Cel}(h:OwnO w B p n c b):OwnOU w B w.heap.size p n c b:=by
 obtain⟨j,m,g,e,d,ha⟩:=h;exact⟨j,m,g,e,d,ha,fun k a=>(e.lt k a).2,fun i f k a=>((d i f).2.2.tb a).2.2⟩
theorem OwnOU.other {w q:World}{B U:Nat}{p:Option Addr}{n c:Nat}{t:List Cel}(h:OwnOU w B U p n c t)(I:w.heap.size<=q.heap.size)(x:∀ k,k<w.heap.size->B<=k->k<U->q.heap[k]?=w.heap[k]?):OwnOU q B U p n c t:=by
 obtain⟨F,o,E,z,b,ha,C,A⟩:=h;refine⟨F,o,E,⟨z.1,?_⟩,fun i a=>⟨(b i a).1,(b i a).2.1,(b i a).2.2.other I (fun g j e=>?_)⟩,ha,C,A⟩
 ·rcases z.2 with D | ⟨g,d,f,m,v,y,r⟩
  ·exact .inl D
  ·refine .inr ⟨g,d,f,m,v,(x g (Array.getElem?_eq_some_iff.1 y).1 v (C g ?_)).trans y,r⟩
   simp only[Value.slice.injEq] at m;rw[m.1];rfl
 ·have u:Go.Proofs.YtlkhmmoimplokaaGreatDoor.tb (o.getD i RC.zero).2.2.1 (o.getD i RC.zero).2.2.2.1=some g:=by rw[e];exact tb_of j
  have:=(b i a).2.2.tb u;exact x g this.2.2 this.2.1 (A i a g u)
theorem OwnOU.below {w w':World}{B U:Nat}{p:Option Addr}{n c:Nat}{a:List Cel}(h:OwnOU w B U p n c a)(b:Below w.heap.size w w'):OwnOU w' B U p n c a:=h.other b.size (fun k d _ _=>b.block k d)
theorem OwnOU.keep {w f:World}{B U a b:Nat}{p:Option Addr}{n c:Nat}{d:List Cel}(h:OwnOU w B U p n c d)(e:Keep a b w f)(m:U<=a∨b<=B):OwnOU f B U p n c d:=h.other e.size (fun k g i j=>e.block k g (by omega))
def markedO (k:Int)(cs:List Cel)(j:Nat):Cel:=(kAt k cs j+(cs.getD j Cel.none).2.2.length,kAt k cs j+(cs.getD j Cel.none).2.2.length+1,marks (kAt k cs j) (cs.getD j Cel.none).2.2.length)
def mixO (k:Int)(cs:List Cel)(j:Nat):List Cel:=(List.range cs.length).map fun i=>if i<j then markedO k cs i else cs.getD i Cel.none
theorem mixO_len (k:Int)(a:List Cel)(j:Nat):(mixO k a j).length=a.length:=by simp[mixO]
theorem mixO_at (k:Int)(a:List Cel)(j i:Nat)(h:i<a.length):(mixO k a j).getD i Cel.none=if i<j then markedO k a i else a.getD i Cel.none:=by
 simp[mixO,List.getD,h]
theorem mixO_zero (k:Int)(a:List Cel):mixO k a 0=a:=same_cells (mixO_len ..) (fun j b=>by rw[mixO_at _ _ _ _ (by rw[mixO_len] at b;exact b),if_neg (Nat.not_lt_zero _)])
theorem mixO_succ (k:Int)(a:List Cel)(j:Nat)(h:j<a.length):mixO k a (j+1)=(mixO k a j).set j (markedO k a j):=same_cells (by simp[mixO]) (fun i b=>by
 rw[mixO_len] at b;rw[mixO_at _ _ _ _ b,cs_set_at _ _ _ _ (by rw[mixO_len];exact h)]
 by_cases e:i=j
 ·subst e;rw[if_pos (by omega),if_pos rfl]
 ·rw[if_neg e,mixO_at _ _ _ _ b]
  by_cases d:i<j
  ·rw[if_pos d,if_pos (by omega)]
  ·rw[if_neg d,if_neg (by omega)])
theorem flatO_set2:∀ (d:List RC) (i:Nat) (a b:Int),i<d.length->((flatO d).set (i * 3+1) (.int .i64 a)).set (i * 3+2) (.int .i64 b)=flatO (d.set i (a,b,(d.getD i RC.zero).2.2))
 | [],i,a,b,h=>by simp at h
 | x :: d,0,a,b,_=>by simp[flatO_cons]
 | x :: d,i+1,a,b,h=>by
   have:=flatO_set2 d i a b (by simpa using h);rw[flatO_cons,show(i+1) * 3+1=(i * 3+1)+1+1+1 by omega,show(i+1) * 3+2=(i * 3+2)+1+1+1 by omega];simp only[List.set_cons_succ,this]
   rfl
theorem markO_one {w v:World}{B U g n c j:Nat}{m:List Cel}{d:List RC}(O:n=m.length)(N:d.length=m.length)(E:w.ownsRow B 60 3 (.slice (some ⟨g,0,none⟩) n c) n (flatO d))(x:∀ i,i<m.length->Fits w B (d.getD i RC.zero) (m.getD i Cel.none))
  (ha:ApartC (some ⟨g,0,none⟩) d) (Y:g<U) (F:∀ i,i<m.length->∀ k,tb (d.getD i RC.zero).2.2.1 (d.getD i RC.zero).2.2.2.1=some k->k<U) (u:j<m.length) (a b:Int) (I:List Int)
  (R:OwnT v B (d.getD j RC.zero).2.2.1 (d.getD j RC.zero).2.2.2.1 (d.getD j RC.zero).2.2.2.2 I)
  (y:w.grownBy v (tb (d.getD j RC.zero).2.2.1 (d.getD j RC.zero).2.2.2.1)) :
  OwnOU ((v.setCell ⟨g,j * 3+1,none⟩ (.int .i64 a)).setCell ⟨g,j * 3+2,none⟩ (.int .i64 b)) B U (some ⟨g,0,none⟩) n c (m.set j (a,b,I))/\Keep B U w ((v.setCell ⟨g,j * 3+1,none⟩ (.int .i64 a)).setCell ⟨g,j * 3+2,none⟩ (.int .i64 b)):=by
 have M:=(E.lt g rfl)
 have r:∀ i,i<m.length->tb (d.getD i RC.zero).2.2.1 (d.getD i RC.zero).2.2.2.1≠some g:=fun i p e=>by
  have K:=(x i p).2.2.tb e;exact ha.1 i (by omega) (tb_some e).1 K.1
 have A:=E.kept y (.inr (fun e=>r j u e.symm));have D:=((A.stored (j * 3+1) (.int .i64 a)).1.stored (j * 3+2) (.int .i64 b)).1;rw[flatO_set2 d j a b (by omega)] at D
 have o:∀ i,((d.set j (a,b,(d.getD j RC.zero).2.2)).getD i RC.zero).2.2=(d.getD i RC.zero).2.2:=fun i=>by
  rw[rs_set_at _ _ _ _ (by omega)]
  by_cases e:i=j
  ·rw[if_pos e,e]
  ·rw[if_neg e]
 refine⟨⟨by simpa using O,d.set j (a,b,(d.getD j RC.zero).2.2),by simpa using N,D,fun i p=>?_,⟨fun i p=>?_,fun i V p q z=>?_⟩,fun k t=>?_,fun i p k t=>?_⟩,?_⟩
 ·have q:i<m.length:=by simpa using p
  rw[cs_set_at _ _ _ _ u,rs_set_at _ _ _ _ (by omega)]
  by_cases e:i=j
  ·rw[if_pos e,if_pos e]
   exact⟨rfl,rfl,(R.setCell (a:=⟨g,j * 3+1,none⟩) (fun f h=>ha.1 j (by omega) f h) _).setCell (a:=⟨g,j * 3+2,none⟩) (fun f h=>ha.1 j (by omega) f h) _⟩
  ·rw[if_neg e,if_neg e]
   obtain⟨W,q1,J⟩:=x i q
   have X:=J.other y.size (fun k f h=>by
    have t:=(J.tb (h▸tb_of f)).2.2;refine y.block k (by simpa using t) (fun C=>?_);have L:=(x j u).2.2.tb C.symm
    exact ha.2 i j (by omega) (by omega) e f (tb_some C.symm).1 (by rw[h,L.1]))
   exact⟨W,q1,(X.setCell (a:=⟨g,j * 3+1,none⟩) (fun f h=>ha.1 i (by omega) f h) _).setCell (a:=⟨g,j * 3+2,none⟩) (fun f h=>ha.1 i (by omega) f h) _⟩
 ·rw[o];exact ha.1 i (by simpa using p)
 ·rw[o,o];exact ha.2 i V (by simpa using p) (by simpa using q) z
 ·have:k=g:=(Option.some.inj t).symm
  omega
 ·rw[o] at t
  exact F i (by simpa using p) k t
 ·refine Keep.trans (Keep.of_grown y (fun k e=>⟨((x j u).2.2.tb e).2.1,F j u k e⟩)) (Keep.trans (b:=v.setCell ⟨g,j * 3+1,none⟩ (.int .i64 a)) ?_ ?_)
  ·exact⟨rfl,rfl,rfl,by simp,fun k _ f=>Below.heap_setCell _ _ _ _ (show k≠g by omega)⟩
  ·exact⟨rfl,rfl,rfl,by simp,fun k _ f=>Below.heap_setCell _ _ _ _ (show k≠g by omega)⟩
def markO (k:Int)(cs:List Cel):List Cel:=mixO k cs cs.length
def endO (k:Int)(cs:List Cel):Int:=kAt k cs cs.length
theorem markOps_any (B U:Nat)(p:Option Addr)(n c:Nat)(k:Int)(d:List Cel)(w:World)(h0:0<=k)(h1:k<=10000000)(hn:d.length+tl d<=100000000)(y:OwnOU w B U p n c d) :
  Calls Tryz.prog 13 #[.slice p n c,.int .i64 k] w fun e w'=>e = .returned (.int .i64 (endO k d))/\OwnOU w' B U p n c (markO k d)/\Keep B U w w':=by
 have Y:=y.1;have HO:Hid (OwnOU w B U p n c d):=y;clear y;have F:Hid (n=d.length):=Y;clear Y
 go_enter Tryz.func13,Tryz.ntmps13
 go_wp2
 go_loopw [1,5] (fun q i wr=>∃ (j:Nat) (z:Int),j<=n/\0<=z/\z<=1000000000/\i = .int .i64 j/\q = .int .i64 z/\Hid (z=kAt k d j)/\Hid (OwnOU wr B U p n c (mixO k d j))/\Hid (Keep B U w wr)) (fun _ i _=>n-(intOf i).toNat)
 case atStart=>exact⟨0,k,Nat.zero_le _,h0,by omega,rfl,rfl,(kAt_zero _ _).symm,by rw[mixO_zero];exact HO,Keep.refl _ _ _⟩
 case round=>
  obtain⟨j,z,hj,e9,k1,rfl,rfl,HK,HR,HG⟩:=hrel
  by_cases h7:j<n
  ·obtain⟨X,h,hl,K,hf,ha,hu,ht⟩:=HR.o
   obtain⟨g,e7,hv,e8,W⟩:=K.form (by omega);simp only[Value.slice.injEq,true_and] at hv;obtain⟨rfl,rfl⟩:=hv
   have t:j<d.length:=by rw[<-F.o];exact h7
   rw[mixO_len] at hl hf ht;obtain⟨a0,a1,a2⟩:=flatO_at h j (by omega);have d0:=(K.cellAt (j * 3) (by omega)).trans a2;have d1:=(K.cellAt (j * 3+1) (by omega)).trans a0;have d2:=(K.cellAt (j * 3+2) (by omega)).trans a1;have ff:=K.frozenAt;obtain⟨q0,q1,q2⟩:=hf j t
   have v:(h.getD j RC.zero).2.2.2.1=(d.getD j Cel.none).2.2.length:=by
    rw[q2.1,mixO_at _ _ _ _ t,if_neg (Nat.lt_irrefl j)]
   have h8:=tl_at d j t;have m:=markT_any B (h.getD j RC.zero).2.2.1 (h.getD j RC.zero).2.2.2.1 (h.getD j RC.zero).2.2.2.2 z _ _ (by omega) (by omega) (by omega) q2
   have N:Hid (tb (h.getD j RC.zero).2.2.1 (h.getD j RC.zero).2.2.2.1≠some g):=fun e=>ha.1 j (by omega) (tb_some e).1 (q2.tb e).1
   have D:Hid (∀ u ms (a b:Int),OwnT u B (h.getD j RC.zero).2.2.1 (h.getD j RC.zero).2.2.2.1 (h.getD j RC.zero).2.2.2.2 ms->wr.grownBy u (tb (h.getD j RC.zero).2.2.1 (h.getD j RC.zero).2.2.2.1)->
     OwnOU ((u.setCell ⟨g,j * 3+1,none⟩ (.int .i64 a)).setCell ⟨g,j * 3+2,none⟩ (.int .i64 b)) B U (some ⟨g,0,none⟩) n c ((mixO k d j).set j (a,b,ms))/\Keep B U wr ((u.setCell ⟨g,j * 3+1,none⟩ (.int .i64 a)).setCell ⟨g,j * 3+2,none⟩ (.int .i64 b))):=fun u ms a b h1 h2=>markO_one X (by rw[mixO_len];exact hl) K (by rw[mixO_len];exact hf) ha (hu g rfl) (by rw[mixO_len];exact ht) (by rw[mixO_len];exact t) a b ms h1 h2
   have h4:Hid _:=kAt_succ k d j t;have h5:Hid _:=mixO_succ k d j t;have C:Hid _:=v
   have r:kAt k d (j+1)<=1000000000:=by have:=tl_take_le d (j+1);simp only[kAt];omega
   have h3:Hid _:=r
   obtain⟨tp,I⟩:∃ x,x=(h.getD j RC.zero).2.2.1:=⟨_,rfl⟩
   obtain⟨L,A⟩:∃ x,x=(h.getD j RC.zero).2.2.2.1:=⟨_,rfl⟩
   obtain⟨tc,O⟩:∃ x,x=(h.getD j RC.zero).2.2.2.2:=⟨_,rfl⟩
   obtain⟨z1,R⟩:∃ x,x=(h.getD j RC.zero).1:=⟨_,rfl⟩
   obtain⟨z2,V⟩:∃ x,x=(h.getD j RC.zero).2.1:=⟨_,rfl⟩
   rw[<-I,<-A,<-O] at m d0 D;rw[<-I,<-A] at N;rw[<-R] at d1;rw[<-V] at d2;rw[<-A] at C v
   have k2:L<=100000000:=by omega
   have h6:g<wr.heap.size:=W;clear I A O R V X hl K hf ha hu ht a0 a1 a2 q0 q1 q2 v h8 HR HO r W;go_wp2_with fail;refine m.mono ?_;rintro e u ⟨rfl,Z,J⟩;have f:u.heap[g]?=wr.heap[g]?:=J.block g h6 (fun e=>N.o e.symm);have d0:=(World.cell?_of_block (w:=wr) (w':=u) (a:=⟨g,j * 3,none⟩) f).trans d0;have d1:=(World.cell?_of_block (w:=wr) (w':=u) (a:=⟨g,j * 3+1,none⟩) f).trans d1;have d2:=(World.cell?_of_block (w:=wr) (w':=u) (a:=⟨g,j * 3+2,none⟩) f).trans d2
   have ff:∀ i,u.frozen? ⟨g,i,none⟩=false:=fun i=>(World.frozen?_of_block (w:=wr) (w':=u) (a:=⟨g,i,none⟩) f).trans (ff i)
   have M:Hid _:=D.o u _ (z+L) (z+L+1) Z J
   have e6:z+(L:Int)<=9000000000:=by omega
   have h9:0<=z+(L:Int):=by omega
   clear Z J f m;go_wp2_with fail;have e1:=h4.o;have e2:=h5.o;have e3:=HK.o;have e4:=C.o;have e5:=h3.o;have E:=M.o;go_roundw
   case rel=>exact⟨j+1,z+L+1+1,by omega,by omega,by rw[e1] at e5;omega,by go_num,rfl,by show _=_;rw[e1];omega,by
    show OwnOU _ _ _ _ _ _ _
    rw[e2,markedO,<-e3,<-e4]
    exact E.1,HG.o.trans E.2⟩
   case measure=>simp[intOf];omega
  ·obtain rfl:j=n:=by omega
   go_wp2_with fail;go_ret;refine⟨ret_int ?_,?_,HG.o⟩
   ·rw[HK.o,F.o];rfl
   ·have:=HR.o
    rw[markO,<-F.o];exact this
structure OArg (w:World)(p:Option Addr)(cs:List Cel):Prop where
 lies:OIn w p cs
 len:cs.length<=9223372036854775807
 text:∀ i,i<cs.length->(cs.getD i Cel.none).2.2.length<=9223372036854775807
 byte:∀ i,i<cs.length->∀ x ∈ (cs.getD i Cel.none).2.2,0<=x/\x<256
 wide:∀ i,i<cs.length->-9223372036854775808<=(cs.getD i Cel.none).1/\(cs.getD i Cel.none).1<=9223372036854775807/\-9223372036854775808<=(cs.getD i Cel.none).2.1/\(cs.getD i Cel.none).2.1<=9223372036854775807
theorem OArg.below {W a:World}{p:Option Addr}{b:List Cel}(h:OArg W p b)(d:Below W.heap.size W a):OArg a p b:=⟨h.lies.below d,h.len,h.text,h.byte,h.wide⟩
theorem szOp_any (k n:Int)(p:Option Addr)(m a L:Nat)(w:World)(d:L<=1048576)(f:m<=9223372036854775807) :
  Calls Tryz.prog 23 #[.agg #[.slice p m a,.int .i64 k,.int .i64 n],.int .i64 L] w fun e g=>e = .returned (.int .i64 (szR L m))/\Below w.heap.size w g:=by
 by_cases h:m<=L
 rotate_right
 case' _=>
  have e:szR L m = -1:=by simp[szR,h]
  have b:=fun w=>szByteS_any p m a L w d f
  rw[e] at b ⊢
 rotate_right
 case' _=>
  have e:szR L m=(L:Int)-m:=by simp[szR,h]
  have b:=fun w=>szByteS_any p m a L w d f
  rw[e] at b ⊢
  have i:¬ ((L:Int)-m<0):=by omega
 all_goals
  go_enter Tryz.func23,Tryz.ntmps23
  go_wp2_with (go_at_call 48;refine(b _).mono ?_;rintro e g ⟨rfl,rfl⟩);go_ret;exact⟨rfl,(Below.refl _ _).alloc (Nat.le_refl _) _⟩
theorem szOpS_any (p:Option Addr)(J:Nat)(a:List Cel)(L:Nat)(w:World)(hL:L<=1048576)(hn:a.length<=9223372036854775807)(F:∀ i,i<a.length->(a.getD i Cel.none).2.2.length<=9223372036854775807)(E:OIn w p a) :
  Calls Tryz.prog 5 #[.slice p a.length J,.int .i64 L] w fun e M=>e = .returned (.int .i64 (szR L (a.length+tl a)))/\Below w.heap.size w M:=by
 by_cases h:a.length<=L
 ·have D:¬ ((L:Int)-a.length<0):=by omega
  go_enter Tryz.func5,Tryz.ntmps5
  go_wp2
  have Y:Hid (a.length<=L):=h;clear h D
  go_loopw [1,5] (fun l i wr=>∃ k:Nat,k<=a.length/\i = .int .i64 k/\Hid (a.length+tl (a.take k)<=L)/\l = .int .i64 ((L:Int)-(a.length+tl (a.take k):Nat))/\Below w.heap.size w wr) (fun _ i _=>a.length-(intOf i).toNat)
  case atStart=>exact⟨0,Nat.zero_le _,rfl,by simpa [tl,Hid] using Y.o,by simp[tl],Below.refl _ _⟩
  case round=>
   obtain⟨k,hk,rfl,y,rfl,d⟩:=hrel
   by_cases t:k<a.length
   ·obtain⟨b,o,rfl,B⟩:=E (by omega)
    obtain⟨q,X,D,h1,h2,_⟩:=(B k t).below d;have u:=F k t;have g:Hid _:=tl_take a k t;have K:Hid _:=tl_take_le a (k+1)
    obtain⟨N,R⟩:∃ x,x=(a.getD k Cel.none).1:=⟨_,rfl⟩
    obtain⟨O,U⟩:∃ x,x=(a.getD k Cel.none).2.1:=⟨_,rfl⟩
    obtain⟨m,W⟩:∃ x,x=(a.getD k Cel.none).2.2.length:=⟨_,rfl⟩
    rw[<-R] at D;rw[<-U] at h1;rw[<-W] at h2 u g
    obtain⟨f,V⟩:∃ x,x=L-(a.length+tl (a.take k)):=⟨_,rfl⟩
    have z:((L:Int)-(a.length+tl (a.take k):Nat))=(f:Int):=by have:=y.o;omega
    have A:f<=1048576:=by omega
    rw[z];have I:Hid (f=L-(a.length+tl (a.take k))):=V;have C:Hid (Below w.heap.size w wr):=d;clear R U W V z B E d F
    by_cases j:m<=f
    ·have e:szR f m=(f:Int)-m:=by simp[szR,j]
     have v:=fun w=>szOp_any N O q m X f w A u
     rw[e] at v
     have Z:¬ ((f:Int)-m<0):=by omega
     go_wp2_with (go_at_call 23;refine(v _).mono ?_;rintro e M ⟨rfl,r⟩);go_roundw
     case rel=>exact⟨k+1,by omega,by go_num,by have:=y.o;have:=g.o;have:=I.o;show _<=_;omega,by have:=y.o;have:=g.o;have:=I.o;congr 1;omega,Below.on C.o r⟩
     case measure=>simp[intOf];omega
    ·have e:szR f m = -1:=by simp[szR,j]
     have v:=fun w=>szOp_any N O q m X f w A u
     rw[e] at v;go_wp2_with (go_at_call 23;refine(v _).mono ?_;rintro e M ⟨rfl,r⟩);go_ret;refine⟨ret_int ?_,Below.on C.o r⟩;have:=y.o;have:=g.o;have:=I.o;have:=K.o;rw[szR,if_neg (by omega)]
   ·obtain rfl:k=a.length:=by omega
    have C:Hid (Below w.heap.size w wr):=d;clear d E F;rw[List.take_length] at *
    go_wp2
    go_ret;exact⟨ret_int (by rw[szR,if_pos y.o]),C.o⟩
 ·have e:szR L (a.length+tl a) = -1:=by rw[szR,if_neg (by omega)]
  rw[e]
  have D:(L:Int)-a.length<0:=by omega
  clear E F
  go_enter Tryz.func5,Tryz.ntmps5
  go_wp2
  go_ret;exact⟨rfl,Below.refl _ _⟩
theorem toOp_any (k n:Int)(p:Option Addr)(m q:Nat)(d:List Int)(w:World)(hl:m=d.length)(hn:m<=1048576)(y:BIn w p d) :
  Calls Tryz.prog 30 #[.agg #[.slice p m q,.int .i64 k,.int .i64 n]] w fun e K=>∃ g,e = .returned (.agg #[.slice (some ⟨g,0,none⟩) m m,.int .i64 k,.int .i64 n])/\OwnS K w.heap.size (some ⟨g,0,none⟩) m m d/\Below w.heap.size w K:=by
 have O:Hid (BIn w p d):=y;subst hl;clear y
 go_enter Tryz.func30,Tryz.ntmps30
 go_wp2_with fail
 have x:Below w.heap.size w (((w.alloc (Obj.cells #[Value.slice p d.length q,Value.int IntKind.i64 k,Value.int IntKind.i64 n] 48)).alloc
       (Obj.cells #[Value.slice none 0 0,Value.int IntKind.i64 0,Value.int IntKind.i64 0] 60)).alloc
   (Obj.cells #[Value.slice none 0 0,Value.int IntKind.i64 0,Value.int IntKind.i64 0] 60)):=
  (((Below.refl _ _).alloc (Nat.le_refl _) _).alloc (by simp) _).alloc (by simp;omega) _
 refine(toByteS_any p q d _ hn (O.o.below x)).mono ?_;rintro e u ⟨rfl,r,i⟩
 have h0:Box3 u w.heap.size (.slice p d.length q) (.int .i64 k) (.int .i64 n):=Box3.of_block (t:=48) ((i.block _ (by simp;omega)).trans (by
  rw[Below.heap_alloc _ _ _ (by simp;omega),Below.heap_alloc _ _ _ (by simp)]
  exact heap_alloc_new w _))
 have V:Box3 u (w.heap.size+1) (.slice none 0 0) (.int .i64 0) (.int .i64 0):=Box3.of_block (t:=60) ((i.block _ (by simp)).trans (heap_three w _ _ _).1);have X:Box3 u (w.heap.size+1+1) (.slice none 0 0) (.int .i64 0) (.int .i64 0):=Box3.of_block (t:=60) ((i.block _ (by simp)).trans (heap_three w _ _ _).2)
 have R:Hid (OwnS u (w.heap.size+1+1+1) (some ⟨w.heap.size+1+1+1,0,none⟩) d.length d.length d):=by
  have:=OwnS.of_row r
  simp at this
  exact this
 have L:Hid (Below w.heap.size w u):=Below.on x i;obtain⟨a0,a1,a2,_⟩:=h0;obtain⟨A,B,C,f1⟩:=V;obtain⟨E,F,I,f2⟩:=X;clear r i x;have z:=box3_set (w:=u) (b:=w.heap.size+1+1) E F I (Value.slice (some ⟨w.heap.size+1+1+1,0,none⟩) d.length d.length) (Value.int IntKind.i64 k) (Value.int IntKind.i64 n)
 generalize J:(((u.setCell ⟨w.heap.size+1+1,0,none⟩ (Value.slice (some ⟨w.heap.size+1+1+1,0,none⟩) d.length d.length)).setCell ⟨w.heap.size+1+1,1,none⟩ (Value.int IntKind.i64 k)).setCell ⟨w.heap.size+1+1,2,none⟩ (Value.int IntKind.i64 n))=W at z
 have f:∀ j v,u.cell? ⟨w.heap.size+1,j,none⟩=some v->W.cell? ⟨w.heap.size+1,j,none⟩=some v:=fun j v h=>by
  rw[<-J,World.cell?_setCell_other _ _ _ _ (by simp),World.cell?_setCell_other _ _ _ _ (by simp),World.cell?_setCell_other _ _ _ _ (by simp)];exact h
 have D:=box3_set (w:=W) (b:=w.heap.size+1) (f 0 _ A) (f 1 _ B) (f 2 _ C) (Value.slice (some ⟨w.heap.size+1+1+1,0,none⟩) d.length d.length) (Value.int IntKind.i64 k) (Value.int IntKind.i64 n);have M:Hid _:=D;have N:Hid _:=z;have U:Hid _:=J;clear D z f J
 go_wp2
 obtain⟨Y,Z,d2⟩:=M.o;refine bodyPost_ret (v:=.agg #[.slice (some ⟨w.heap.size+1+1+1,0,none⟩) d.length d.length,.int .i64 k,.int .i64 n]) (by rw[U.o];simp[results,Tryz.results30,go_sem,Y,Z,d2]) rfl ⟨_,rfl,?_,?_⟩
 ·have h:=(((((R.o.setCell (a:=⟨w.heap.size+1+1,0,none⟩) (by simp) (Value.slice (some ⟨w.heap.size+1+1+1,0,none⟩) d.length d.length)).setCell (a:=⟨w.heap.size+1+1,1,none⟩) (by simp) (Value.int IntKind.i64 k)).setCell (a:=⟨w.heap.size+1+1,2,none⟩) (by simp) (Value.int IntKind.i64 n)).setCell (a:=⟨w.heap.size+1,0,none⟩) (by simp) (Value.slice (some ⟨w.heap.size+1+1+1,0,none⟩) d.length d.length)).setCell (a:=⟨w.heap.size+1,1,none⟩) (by simp) (Value.int IntKind.i64 k)).setCell (a:=⟨w.heap.size+1,2,none⟩) (by simp) (Value.int IntKind.i64 n)
  exact h.mono (by omega)
 ·exact(((((L.o.setCell (p:=⟨_,_,none⟩) (by simp;omega) _).setCell (p:=⟨_,_,none⟩) (by simp;omega) _).setCell (p:=⟨_,_,none⟩) (by simp;omega) _).setCell (p:=⟨_,_,none⟩) (by simp) _).setCell (p:=⟨_,_,none⟩) (by simp) _).setCell (p:=⟨_,_,none⟩) (by simp) _
def LaidO (w:World)(H k:Nat)(rs:List RC)(cs:List Cel):Prop:=
 rs.length=cs.length/\w.ownsRow H 60 3 (.slice (some ⟨H,0,none⟩) cs.length cs.length) cs.length (flatO rs)/\(∀ i,i<k->Fits w H (rs.getD i RC.zero) (cs.getD i Cel.none))/\
 (∀ i,i<k->∃ g,(rs.getD i RC.zero).2.2.1=some ⟨g,0,none⟩/\H<g/\g<w.heap.size)/\(∀ i j,i<k->j<k->i≠j->(rs.getD i RC.zero).2.2.1≠(rs.getD j RC.zero).2.2.1)
theorem LaidO.below {w w':World}{H k:Nat}{q:List RC}{o:List Cel}(h:LaidO w H k q o)(j:Below w.heap.size w w'):LaidO w' H k q o:=by
 obtain⟨y,p,m,b,ha⟩:=h;refine⟨y,⟨p.1,?_⟩,fun i a=>⟨(m i a).1,(m i a).2.1,(m i a).2.2.below j⟩,fun i a=>?_,ha⟩
 ·rcases p.2 with t | ⟨g,d,f,z,x,b,r⟩
  ·exact .inl t
  ·exact .inr ⟨g,d,f,z,x,(j.block g (Array.getElem?_eq_some_iff.1 b).1).trans b,r⟩
 ·obtain⟨g,e,u,v⟩:=b i a
  exact⟨g,e,u,Nat.lt_of_lt_of_le v j.size⟩
theorem LaidO.next {w:World}{H k g m B:Nat}{r:List RC}{o:List Cel}(h:LaidO w H k r o)(O:k<o.length)(a b:Int)(C:a=(o.getD k Cel.none).1)(D:b=(o.getD k Cel.none).2.1)(M:H<B)
  (A:OwnS w B (some ⟨g,0,none⟩) m m (o.getD k Cel.none).2.2) (d:∀ i,i<k->(r.getD i RC.zero).2.2.1≠some ⟨g,0,none⟩) :
  LaidO (((w.setCell ⟨H,k * 3,none⟩ (.slice (some ⟨g,0,none⟩) m m)).setCell ⟨H,k * 3+1,none⟩ (.int .i64 a)).setCell ⟨H,k * 3+2,none⟩ (.int .i64 b)) H (k+1) (r.set k (a,b,some ⟨g,0,none⟩,m,m)) o:=by
 obtain⟨K,L,J,y,ha⟩:=h
 have t:B<=g/\g<w.heap.size:=by
  rcases A.form with ⟨h,_⟩ | ⟨g',I,p,q⟩
  ·cases h
  ·cases I;exact⟨p,q⟩
 refine⟨by simpa using K,?_,fun i z=>?_,fun i z=>?_,fun i j z N u=>?_⟩
 ·have p:=(((L.stored (k * 3) (.slice (some ⟨g,0,none⟩) m m)).1.stored (k * 3+1) (.int .i64 a)).1.stored (k * 3+2) (.int .i64 b)).1
  rwa[flatO_set r k (a,b,some ⟨g,0,none⟩,m,m) (by omega)] at p
 ·rw[rs_set_at _ _ _ _ (by omega)]
  by_cases e:i=k
  ·subst e
   rw[if_pos rfl];exact⟨C,D,(((A.toT.setCell (ne_block (H:=H) (by omega)) _).setCell (ne_block (H:=H) (by omega)) _).setCell (ne_block (H:=H) (by omega)) _).mono (by omega)⟩
  ·rw[if_neg e]
   obtain⟨E,F,v⟩:=J i (by omega);obtain⟨g',f,p,q⟩:=y i (by omega);rw[f] at v;rw[Fits,f];exact⟨E,F,((v.setCell (ne_block (H:=H) (by omega)) _).setCell (ne_block (H:=H) (by omega)) _).setCell (ne_block (H:=H) (by omega)) _⟩
 ·rw[rs_set_at _ _ _ _ (by omega)]
  by_cases e:i=k
  ·subst e
   rw[if_pos rfl];exact⟨g,rfl,by omega,by simpa using t.2⟩
  ·rw[if_neg e]
   obtain⟨g',f,p,q⟩:=y i (by omega);exact⟨g',f,p,by simpa using q⟩
 ·rw[rs_set_at _ _ _ _ (by omega),rs_set_at _ _ _ _ (by omega)]
  by_cases e:i=k
  ·rw[if_pos e,if_neg (by omega)]
   exact fun x=>d j (by omega) x.symm
  ·by_cases f:j=k
   ·rw[if_neg e,if_pos f]
    exact d i (by omega)
   ·rw[if_neg e,if_neg f]
    exact ha i j (by omega) (by omega) u
theorem LaidO.own {w:World}{H:Nat}{f:List RC}{a:List Cel}(h:LaidO w H a.length f a):OwnO w H (some ⟨H,0,none⟩) a.length a.length a:=by
 obtain⟨p,q,k,m,ha⟩:=h;refine⟨rfl,f,p,q,k,fun i o _ e=>?_,fun i j o t b _ _=>ha i j (by omega) (by omega) b⟩;obtain⟨g,d,r,_⟩:=m i (by omega);rw[e] at d;simp only[Option.some.injEq,Addr.mk.injEq,and_true] at d
 omega
theorem toOpS_any (p:Option Addr)(L:Nat)(a:List Cel)(w:World)(hn:a.length+tl a<=1048576)(hc:OIn w p a) :
  Calls Tryz.prog 7 #[.slice p a.length L] w fun e w'=>e = .returned (.slice (some ⟨w.heap.size,0,none⟩) a.length a.length)/\OwnO w' w.heap.size (some ⟨w.heap.size,0,none⟩) a.length a.length a/\Below w.heap.size w w':=by
 obtain⟨i0,X,Z,h4,h5⟩:=info_parts infoOp
 have Y:a.length<=maxLen:=by unfold maxLen;omega
 have F:Hid (OIn w p a):=hc;clear hc
 go_enter Tryz.func7,Tryz.ntmps7
 go_wp2_with (at_make;refine wpList_make_full _ rfl _ _ 31 rfl w.heap.size 60 i0 (.agg #[.slice none 0 0,.int .i64 0,.int .i64 0]) 3 Tryz.underlying31 X Z h4 _ _ _ _ a.length rfl rfl rfl rfl (by rw[h5];omega) Y (Nat.le_refl _) ?_;intro w1 t r);have D:Hid (Below w.heap.size w w1):=(Below.refl _ _).grown r (Nat.le_refl _) (fun k h=>by cases h)
 have HO:Hid (LaidO w1 w.heap.size 0 (List.replicate a.length RC.zero) a):=⟨by simp,by
  have:=t;rw[show(Value.agg #[.slice none 0 0,.int .i64 0,.int .i64 0]).cells=#[.slice none 0 0,.int .i64 0,.int .i64 0] from rfl,made_flatO] at this
  exact this,fun i h=>by omega,fun i h=>by omega,fun i j h=>by omega⟩
 clear t r
 go_loopw [4] (fun i wr=>∃ k B,k<=a.length/\i = .int .i64 k/\Hid (LaidO wr w.heap.size k B a)/\Hid (Below w.heap.size w wr)) (fun i _=>a.length-(intOf i).toNat)
 case atStart=>exact⟨0,_,Nat.zero_le _,rfl,HO,D⟩
 case round=>
  obtain⟨k,B,hk,rfl,y,C⟩:=hrel
  by_cases v:k<a.length
  ·obtain⟨b,o,rfl,z⟩:=F.o (by omega)
   obtain⟨q,qc,h0,h1,h2,h3⟩:=(z k v).below C.o
   have A:(a.getD k Cel.none).2.2.length<=1048576:=by have:=tl_at a k v;omega
   obtain⟨c0,M⟩:∃ x,x=(a.getD k Cel.none).1:=⟨_,rfl⟩
   obtain⟨c1,N⟩:∃ x,x=(a.getD k Cel.none).2.1:=⟨_,rfl⟩
   obtain⟨m,O⟩:∃ x,x=(a.getD k Cel.none).2.2.length:=⟨_,rfl⟩
   rw[<-M] at h0;rw[<-N] at h1;rw[<-O] at h2 A;have I:Hid _:=M;have J:Hid _:=N;have HS:=toOp_any c0 c1 q m qc (a.getD k Cel.none).2.2 wr O A h3;clear M N O z h3 F;go_wp2_with fail;refine HS.mono ?_;rintro e w2 ⟨g,rfl,d,u⟩;have E:Hid (Below w.heap.size w w2):=Below.on C.o u;have f:Hid (LaidO w2 w.heap.size k B a):=y.o.below u;have K:Hid (OwnS w2 wr.heap.size (some ⟨g,0,none⟩) m m (a.getD k Cel.none).2.2):=d
   have V:w.heap.size<wr.heap.size:=by
    rcases y.o.2.1.2 with ⟨R,_⟩ | ⟨g',h6,h7,hv,h9,W,_⟩
    ·simp at R
    ·simp only[Value.slice.injEq,Option.some.injEq,Addr.mk.injEq,and_true,true_and] at hv
     rw[hv.1];exact(Array.getElem?_eq_some_iff.1 W).1
   have e2:wr.heap.size<=g:=by
    rcases d.form with ⟨h,_⟩ | ⟨g',R,U,_⟩
    ·cases h
    ·cases R;exact U
   have HN:Hid (∀ i,i<k->(B.getD i RC.zero).2.2.1≠some ⟨g,0,none⟩):=fun i X e=>by
    obtain⟨g',e',_,h8⟩:=y.o.2.2.2.1 i X;rw[e] at e';simp only[Option.some.injEq,Addr.mk.injEq,and_true] at e'
    omega
   clear d u;obtain⟨a0,a1,a2⟩:=flatO_at B k (by have:=y.o.1;omega);have d0:=(f.o.2.1.cellAt (k * 3) (by omega)).trans a2;have d1:=(f.o.2.1.cellAt (k * 3+1) (by omega)).trans a0;have d2:=(f.o.2.1.cellAt (k * 3+2) (by omega)).trans a1;have ff:=f.o.2.1.frozenAt;clear a0 a1 a2
   go_wp2
   go_roundw
   case rel=>exact⟨k+1,_,by omega,by go_num,f.o.next v _ _ I.o J.o V K.o HN.o,((E.o.setCell (p:=⟨_,_,none⟩) (Nat.le_refl _) _).setCell (p:=⟨_,_,none⟩) (Nat.le_refl _) _).setCell (p:=⟨_,_,none⟩) (Nat.le_refl _) _⟩
   case measure=>simp[intOf];omega
  ·obtain rfl:k=a.length:=by omega
   clear F
   go_wp2
   go_ret;exact⟨rfl,y.o.own,C.o⟩
end
end Go.Proofs.YtlkhmmoimplokaaGreatDoor
