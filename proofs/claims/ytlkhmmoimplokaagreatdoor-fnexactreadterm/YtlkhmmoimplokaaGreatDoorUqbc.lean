/- Texts of RdP. Own work of the verifier. -/
import Derived.Test.YtlkhmmoimplokaaGreatDoorUqay
import Derived.Test.YtlkhmmoimplokaaGreatDoorUqan
namespace Go.Proofs.YtlkhmmoimplokaaGreatDoor
set_option maxHeartbeats 2000000
open Go Go.RowKit
set_option linter.unusedVariables false
set_option linter.unusedSectionVars false
structure RS where
 ts:List Tok
 ns:List (List Int)
 ft:Option (Int×Int)
def RS.kd (s:RS):Int:=match s.ts with | []=>0 | t :: _=>t.1.1
def RS.tx (s:RS):List Int:=match s.ts with | []=>[] | t :: _=>t.2
def RS.nv (s:RS):Int:=match s.ts with | []=>0 | t :: _=>t.1.2.2.2
def RS.pl (L:Int)(s:RS):Int:=match s.ts with | []=>L | t :: _=>t.1.2.1
def RS.ln (s:RS):Int:=match s.ts with | []=>0 | t :: _=>t.1.2.2.1
def RS.tk (s:RS):RS:=⟨s.ts.tail,s.ns,s.ft⟩
def RS.isP (s:RS)(m:List Int):Bool:=decide (s.kd=5) && decide (s.tx=m)
def RS.stop (L:Int)(s:RS):RS:=⟨[],s.ns,some (s.ft.getD (2,s.pl L))⟩
def RS.must (L:Int)(m:List Int)(s:RS):RS:=if s.isP m=true then s.tk else s.stop L
def RS.mustBe (L:Int)(k:Int)(s:RS):RS:=if s.kd=k then s.tk else s.stop L
def nilT:Tr:=(nilC,.nil)
def numT (n:Int):Tr:=((1,n,[]),.nil)
def atmT (s:List Int):Tr:=((2,0,s),.nil)
def RS.new (nm:List Int)(s:RS):(Tr×Int)×RS:=((vT s.ns.length,0),⟨s.ts,s.ns ++ [nm],s.ft⟩)
def RS.var (nm:List Int)(s:RS):(Tr×Int)×RS:=if nm = [95] then s.new [] else if nm ∈ s.ns then((vT (s.ns.idxOf nm),0),s) else s.new nm
def codT (xs:List Int):Tr:=lstT nilT (xs.map numT)
def opB (T:List Cel)(s:RS):Option Cel:=
 if s.isP [124]=true then some (1100,1,[59]) else if s.kd≠1/\s.isP [44]=false then none
 else if 0<=findW T s.tx false then some (opW T (findW T s.tx false)) else none
def negB (xs:List Int)(e:Int)(s:RS):Bool:=decide (xs = [45]) && (decide (s.kd=3) && decide (e=s.pl 0))
def needL (T:List Cel)(xs:List Int):Bool:=decide (0<=findW T xs false) && !decide (0<=findW T xs true)
def RS.begins (T:List Cel)(s:RS):Bool:=
 if s.kd=1 then !needL T s.tx || (decide (s.tk.kd=6) || negB s.tx (s.pl 0+s.ln) s.tk)
 else if s.kd=5 then decide (s.tx = [40]) || (decide (s.tx = [91]) || decide (s.tx = [123]))
 else decide (s.kd=2∨s.kd=3∨s.kd=4∨s.kd=6)
section
variable (rd:Int->RS->Tr×RS)
def bhR (T:List Cel):Nat->Int->Tr->Int->RS->Tr×RS
 | 0,_,t,_,s=>(t,s)
 | g+1,pri,t,p,s=>match opB T s with
   | none=>(t,s)
   | some o=>if pri<o.1∨leftP o<p then(t,s)
     else if postB o.2.1=true then bhR T g pri (cmpT o.2.2 [t]) o.1 s.tk
     else bhR T g pri (cmpT o.2.2 [t,(rd (rightP o) s.tk).1]) o.1 (rd (rightP o) s.tk).2
def serR:Nat->RS->List Tr×RS
 | 0,s=>([(rd 999 s).1],(rd 999 s).2)
 | g+1,s=>if (rd 999 s).2.isP [44]=true then((rd 999 s).1 :: (serR g (rd 999 s).2.tk).1,(serR g (rd 999 s).2.tk).2) else([(rd 999 s).1],(rd 999 s).2)
def insR (L:Int)(m:List Int)(s:RS):Tr×RS:=((rd 1200 s).1,(rd 1200 s).2.must L m)
def lisR (L:Int)(s:RS):Tr×RS:=
 if s.isP [93]=true then(nilT,s.tk)
 else if (serR rd (s.ts.length+1) s).2.isP [124]=true then(lstT (rd 999 (serR rd (s.ts.length+1) s).2.tk).1 (serR rd (s.ts.length+1) s).1,(rd 999 (serR rd (s.ts.length+1) s).2.tk).2.must L [93])
 else(lstT nilT (serR rd (s.ts.length+1) s).1,(serR rd (s.ts.length+1) s).2.must L [93])
def curR (L:Int)(s:RS):Tr×RS:=if s.isP [125]=true then(atmT [123,125],s.tk) else(cmpT [123,125] [(insR rd L [125] s).1],(insR rd L [125] s).2)
def namR (T:List Cel)(L:Int)(pri:Int)(s:RS):(Tr×Int)×RS:=
 if s.tk.kd=6 then((cmpT s.tx (serR rd (s.tk.tk.ts.length+1) s.tk.tk).1,0),(serR rd (s.tk.tk.ts.length+1) s.tk.tk).2.must L [41])
 else if negB s.tx (s.pl 0+s.ln) s.tk=true then((numT (-s.tk.nv),0),s.tk.tk)
 else if 0<=findW T s.tx true/\(opW T (findW T s.tx true)).1<=pri/\s.tk.begins T=true then
  ((cmpT s.tx [(rd (rightP (opW T (findW T s.tx true))) s.tk).1],(opW T (findW T s.tx true)).1),(rd (rightP (opW T (findW T s.tx true))) s.tk).2)
 else((atmT s.tx,0),s.tk)
def braR (L:Int)(s:RS):(Tr×Int)×RS:=
 if s.isP [40]=true then(((insR rd L [41] s.tk).1,0),(insR rd L [41] s.tk).2) else if s.isP [91]=true then(((lisR rd L s.tk).1,0),(lisR rd L s.tk).2)
 else if s.isP [123]=true then(((curR rd L s.tk).1,0),(curR rd L s.tk).2) else((nilT,0),s.stop L)
def sttR (T:List Cel)(L:Int)(pri:Int)(s:RS):(Tr×Int)×RS:=
 if s.kd=3 then((numT s.nv,0),s.tk) else if s.kd=2 then s.tk.var s.tx else if s.kd=4 then((codT s.tx,0),s.tk)
 else if s.kd=6 then(((insR rd L [41] s.tk).1,0),(insR rd L [41] s.tk).2) else if s.kd=5 then braR rd L s else if s.kd=1 then namR rd T L pri s else((nilT,0),s.stop L)
end
def rdR (T:List Cel)(L:Int):Nat->Int->RS->Tr×RS
 | 0,_,s=>(nilT,s)
 | f+1,pri,s=>bhR (rdR T L f) T (sttR (rdR T L f) T L pri s).2.ts.length pri (sttR (rdR T L f) T L pri s).1.1 (sttR (rdR T L f) T L pri s).1.2 (sttR (rdR T L f) T L pri s).2
structure TokG (t:Tok):Prop where
 kd:1<=t.1.1/\t.1.1<=7
 at_:0<=t.1.2.1/\t.1.2.1<=10000
 ln:1<=t.1.2.2.1/\t.1.2.2.1<=10000
 nv:0<=t.1.2.2.2/\t.1.2.2.2<=1000000000000000
 tx:Byte t.2/\t.2.length<=100
 vr:t.1.1=2->t.2≠[]
def wgt:List Tok->Nat
 | []=>0
 | t :: r=>2 * t.2.length+4+wgt r
theorem wgt_tail (a:List Tok):wgt a.tail<=wgt a:=by cases a <;> simp[wgt]
theorem wgt_cons {s:RS}(h:s.ts≠[]):wgt s.tk.ts+2 * s.tx.length+4=wgt s.ts:=by
 obtain⟨a,c,b⟩:=s
 cases a with
 | nil=>simp at h
 | cons t r=>simp[RS.tk,RS.tx,wgt];omega
theorem kd_ne {s:RS}{k:Int}(h:s.kd=k)(a:k≠0):s.ts≠[]:=fun e=>a (by rw[<-h];unfold RS.kd;rw[e])
theorem isP_ne {s:RS}{m:List Int}(h:s.isP m=true):s.ts≠[]:=kd_ne (k:=5) (by unfold RS.isP at h;simp at h;exact h.1) (by decide)
structure RdG (s:RS)(x:Tr)(s':RS):Prop where
 sz:(itC x).length+wgt s'.ts<=wgt s.ts+1
 sub:∃ k,s'.ts=s.ts.drop k
 nm:s'.ns.length+s'.ts.length<=s.ns.length+s.ts.length
def lenS:List Tr->Nat
 | []=>0
 | x :: r=>(itC x).length+1+lenS r
theorem its_len:∀ a:List Tr,(itsF a).cells.length+a.length=lenS a
 | []=>rfl
 | x :: r=>by have:=its_len r;simp[itsF,Fo.cells,lenS,itC];omega
theorem cmp_len (b:List Int)(a:List Tr):(itC (cmpT b a)).length+a.length=lenS a+1:=by have:=its_len a;simp[itC,cmpT];omega
theorem lst_len (e:Tr):∀ a:List Tr,(itC (lstT e a)).length=lenS a+(itC e).length
 | []=>by simp[lstT,lenS]
 | x :: r=>by have:=lst_len e r;simp[lstT,lenS,itC,Fo.cells] at this ⊢;omega
theorem nums_len:∀ a:List Int,lenS (a.map numT)=2 * a.length
 | []=>rfl
 | x :: r=>by have:=nums_len r;simp only[List.map_cons,lenS,this,List.length_cons];simp[itC,numT,Fo.cells];omega
theorem drop_drop' {a b c:List Tok}(h:∃ k,b=a.drop k)(d:∃ k,c=b.drop k):∃ k,c=a.drop k:=by
 obtain⟨k,rfl⟩:=h;obtain⟨j,rfl⟩:=d;exact⟨k+j,by rw[List.drop_drop]⟩
theorem tk_sub (s:RS):∃ k,s.tk.ts=s.ts.drop k:=⟨1,by simp[RS.tk]⟩
theorem stop_sub (L:Int)(s:RS):∃ k,(s.stop L).ts=s.ts.drop k:=⟨s.ts.length,by simp[RS.stop]⟩
theorem tk_len (s:RS):s.tk.ts.length=s.ts.length-1:=by simp[RS.tk]
theorem ne_len {s:RS}(h:s.ts≠[]):1<=s.ts.length:=by cases c:s.ts with | nil=>exact absurd c h | cons a b=>simp
theorem must_sub (L:Int)(m:List Int)(s:RS):∃ k,(s.must L m).ts=s.ts.drop k:=by
 unfold RS.must;split
 ·exact tk_sub s
 ·exact stop_sub L s
theorem must_wgt (L:Int)(m:List Int)(s:RS):wgt (s.must L m).ts<=wgt s.ts:=by
 unfold RS.must;split
 ·exact wgt_tail _
 ·simp[RS.stop,wgt]
theorem must_nm (L:Int)(m:List Int)(s:RS):(s.must L m).ns.length+(s.must L m).ts.length<=s.ns.length+s.ts.length:=by
 unfold RS.must;split
 ·simp[RS.tk]
 ·simp[RS.stop]
section
variable {rd:Int->RS->Tr×RS}(H:∀ pri s,RdG s (rd pri s).1 (rd pri s).2)
include H
theorem bh_g (T:List Cel):∀ (g:Nat) (pri:Int) (t:Tr) (p:Int) (s:RS),(itC (bhR rd T g pri t p s).1).length+wgt (bhR rd T g pri t p s).2.ts<=(itC t).length+wgt s.ts/\(∃ k,(bhR rd T g pri t p s).2.ts=s.ts.drop k)/\(bhR rd T g pri t p s).2.ns.length+(bhR rd T g pri t p s).2.ts.length<=s.ns.length+s.ts.length
 | 0,pri,t,p,s=>⟨Nat.le_refl _,⟨0,rfl⟩,Nat.le_refl _⟩
 | g+1,pri,t,p,s=>by
   unfold bhR
   cases d:opB T s with
   | none=>exact⟨Nat.le_refl _,⟨0,rfl⟩,Nat.le_refl _⟩
   | some o=>
     have f:s.ts≠[]:=by
      unfold opB at d
      split at d
      ·rename_i h;exact isP_ne h
      ·split at d
       ·cases d
       ·rename_i h
        intro e
        apply h
        have:s.kd=0:=by unfold RS.kd;rw[e]
        unfold RS.isP
        rw[this];simp
     have l:=wgt_cons f;simp only
     split
     ·exact⟨Nat.le_refl _,⟨0,rfl⟩,Nat.le_refl _⟩
     ·split
      ·obtain⟨a,b,c⟩:=bh_g T g pri (cmpT o.2.2 [t]) o.1 s.tk
       have i:=cmp_len o.2.2 [t];simp only[lenS,List.length_singleton] at i;exact⟨by omega,drop_drop' (tk_sub s) b,by have:=tk_len s;have:s.tk.ns=s.ns:=rfl;rw[this] at c;omega⟩
      ·have j:=H (rightP o) s.tk
       obtain⟨a,b,c⟩:=bh_g T g pri (cmpT o.2.2 [t,(rd (rightP o) s.tk).1]) o.1 (rd (rightP o) s.tk).2;have i:=cmp_len o.2.2 [t,(rd (rightP o) s.tk).1];simp only[lenS,List.length_cons,List.length_nil] at i;exact⟨by have:=j.sz;omega,drop_drop' (tk_sub s) (drop_drop' j.sub b),by have:=tk_len s;have e:s.tk.ns=s.ns:=rfl;have:=j.nm;rw[e] at this;omega⟩
theorem ser_g:∀ (g:Nat) (s:RS),lenS (serR rd g s).1+wgt (serR rd g s).2.ts<=wgt s.ts+2/\(∃ k,(serR rd g s).2.ts=s.ts.drop k)/\(serR rd g s).2.ns.length+(serR rd g s).2.ts.length<=s.ns.length+s.ts.length/\(serR rd g s).1≠[]
 | 0,s=>by
   have h:=H 999 s;exact⟨by have:=h.sz;simp only[serR,lenS];omega,h.sub,h.nm,by simp[serR]⟩
 | g+1,s=>by
   have h:=H 999 s
   unfold serR
   split
   ·rename_i d
    obtain⟨a,b,c,_⟩:=ser_g g (rd 999 s).2.tk;have f:=wgt_cons (isP_ne d);exact⟨by have:=h.sz;simp only[lenS];omega,drop_drop' h.sub (drop_drop' (tk_sub _) b),by have:=h.nm;have:=tk_len (rd 999 s).2;have e:(rd 999 s).2.tk.ns=(rd 999 s).2.ns:=rfl;rw[e] at c;simp only;omega,by simp⟩
   ·exact⟨by have:=h.sz;simp only[lenS];omega,h.sub,h.nm,by simp⟩
theorem ins_g (L:Int)(m:List Int)(s:RS):RdG s (insR rd L m s).1 (insR rd L m s).2:=by
 have h:=H 1200 s;exact⟨by have:=h.sz;have:=must_wgt L m (rd 1200 s).2;simp only[insR];omega,drop_drop' h.sub (must_sub L m _),Nat.le_trans (must_nm L m _) h.nm⟩
theorem lis_g (L:Int)(s:RS):(itC (lisR rd L s).1).length+wgt (lisR rd L s).2.ts<=wgt s.ts+3/\(∃ k,(lisR rd L s).2.ts=s.ts.drop k)/\(lisR rd L s).2.ns.length+(lisR rd L s).2.ts.length<=s.ns.length+s.ts.length:=by
 have h:=ser_g H (s.ts.length+1) s
 unfold lisR
 split
 ·exact⟨by have:=wgt_tail s.ts;simp only[RS.tk];simp[itC,nilT,Fo.cells];omega,tk_sub s,by simp[RS.tk]⟩
 ·split
  ·rename_i b
   have d:=wgt_cons (isP_ne b);have a:=H 999 (serR rd (s.ts.length+1) s).2.tk;have e:(serR rd (s.ts.length+1) s).2.tk.ns=(serR rd (s.ts.length+1) s).2.ns:=rfl;refine⟨?_,drop_drop' h.2.1 (drop_drop' (tk_sub _) (drop_drop' a.sub (must_sub L _ _))),?_⟩
   ·have:=a.sz;have:=must_wgt L [93] (rd 999 (serR rd (s.ts.length+1) s).2.tk).2
    simp only[lst_len];omega
   ·have:=must_nm L [93] (rd 999 (serR rd (s.ts.length+1) s).2.tk).2
    have c:=a.nm;have g:=tk_len (serR rd (s.ts.length+1) s).2;rw[e] at c;have f:=h.2.2.1;simp only;omega
  ·refine⟨?_,drop_drop' h.2.1 (must_sub L _ _),Nat.le_trans (must_nm L _ _) h.2.2.1⟩
   have:=must_wgt L [93] (serR rd (s.ts.length+1) s).2;have e:(itC nilT).length=1:=rfl;simp only[lst_len,e];omega
theorem cur_g (L:Int)(s:RS):(itC (curR rd L s).1).length+wgt (curR rd L s).2.ts<=wgt s.ts+2/\(∃ k,(curR rd L s).2.ts=s.ts.drop k)/\(curR rd L s).2.ns.length+(curR rd L s).2.ts.length<=s.ns.length+s.ts.length:=by
 have h:=ins_g H L [125] s
 unfold curR
 split
 ·exact⟨by have:=wgt_tail s.ts;simp only[RS.tk];simp[itC,atmT,Fo.cells];omega,tk_sub s,by simp[RS.tk]⟩
 ·have a:=cmp_len [123,125] [(insR rd L [125] s).1]
  simp only[lenS,List.length_singleton] at a;exact⟨by have:=h.sz;simp only;omega,h.sub,h.nm⟩
theorem nam_g (T:List Cel)(L pri:Int)(s:RS)(c:s.ts≠[]):RdG s (namR rd T L pri s).1.1 (namR rd T L pri s).2:=by
 have n:=wgt_cons c;have m:=ne_len c;have j:=tk_len s
 unfold namR
 split
 ·rename_i f
  have i:=wgt_cons (kd_ne f (by decide));have h:=ser_g H (s.tk.tk.ts.length+1) s.tk.tk;have d:=cmp_len s.tx (serR rd (s.tk.tk.ts.length+1) s.tk.tk).1
  have l:1<=(serR rd (s.tk.tk.ts.length+1) s.tk.tk).1.length:=by cases g:(serR rd (s.tk.tk.ts.length+1) s.tk.tk).1 with | nil=>exact absurd g h.2.2.2 | cons a b=>simp
  refine⟨?_,drop_drop' (tk_sub s) (drop_drop' (tk_sub _) (drop_drop' h.2.1 (must_sub L _ _))),?_⟩
  ·have:=must_wgt L [41] (serR rd (s.tk.tk.ts.length+1) s.tk.tk).2
   simp only;omega
  ·have:=must_nm L [41] (serR rd (s.tk.tk.ts.length+1) s.tk.tk).2
   have o:=h.2.2.1;have k:=tk_len s.tk;have e:s.tk.tk.ns.length=s.ns.length:=rfl;simp only;omega
 split
 ·refine⟨?_,drop_drop' (tk_sub s) (tk_sub _),by simp[RS.tk];omega⟩
  have:=wgt_tail s.tk.ts;simp only[RS.tk] at *
  simp[itC,numT,Fo.cells];omega
 split
 ·have h:=H (rightP (opW T (findW T s.tx true))) s.tk
  have d:=cmp_len s.tx [(rd (rightP (opW T (findW T s.tx true))) s.tk).1];simp only[lenS,List.length_singleton] at d;refine⟨by have:=h.sz;simp only;omega,drop_drop' (tk_sub s) h.sub,?_⟩;have:=h.nm;have e:s.tk.ns=s.ns:=rfl;rw[e] at this;simp only;omega
 ·exact⟨by simp[itC,atmT,Fo.cells];omega,tk_sub s,by simp[RS.tk]⟩
theorem stop_g (L:Int)(s:RS):RdG s nilT (s.stop L):=⟨by simp[RS.stop,wgt,itC,nilT,Fo.cells],stop_sub L s,by simp[RS.stop]⟩
theorem bra_g (L:Int)(s:RS):RdG s (braR rd L s).1.1 (braR rd L s).2:=by
 have e:s.tk.ns=s.ns:=rfl;have g:=tk_len s
 unfold braR
 split
 ·rename_i d
  have f:=wgt_cons (isP_ne d);have h:=ins_g H L [41] s.tk;exact⟨by have:=h.sz;simp only;omega,drop_drop' (tk_sub s) h.sub,by have:=h.nm;rw[e] at this;simp only;omega⟩
 split
 ·rename_i d
  have f:=wgt_cons (isP_ne d);obtain⟨a,b,c⟩:=lis_g H L s.tk;exact⟨by simp only;omega,drop_drop' (tk_sub s) b,by rw[e] at c;simp only;omega⟩
 split
 ·rename_i d
  have f:=wgt_cons (isP_ne d);obtain⟨a,b,c⟩:=cur_g H L s.tk;exact⟨by simp only;omega,drop_drop' (tk_sub s) b,by rw[e] at c;simp only;omega⟩
 ·exact stop_g H L s
theorem stt_g (T:List Cel)(L pri:Int)(s:RS):RdG s (sttR rd T L pri s).1.1 (sttR rd T L pri s).2:=by
 have e:s.tk.ns=s.ns:=rfl;have f:=tk_len s
 unfold sttR
 split
 ·rename_i h
  have b:=wgt_cons (kd_ne h (by decide));exact⟨by simp[itC,numT,Fo.cells];omega,tk_sub s,by rw[e];simp only;omega⟩
 split
 ·rename_i h
  have a:=kd_ne h (by decide);have b:=wgt_cons a;have g:=ne_len a
  unfold RS.var RS.new
  split
  ·exact⟨by simp[itC,vT,Fo.cells];omega,tk_sub s,by simp[e];omega⟩
  ·split
   ·exact⟨by simp[itC,vT,Fo.cells];omega,tk_sub s,by rw[e];simp only;omega⟩
   ·exact⟨by simp[itC,vT,Fo.cells];omega,tk_sub s,by simp[e];omega⟩
 split
 ·rename_i h
  have b:=wgt_cons (kd_ne h (by decide));have d:(itC nilT).length=1:=rfl;exact⟨by simp only[codT,lst_len,nums_len,d];omega,tk_sub s,by rw[e];simp only;omega⟩
 split
 ·rename_i c
  have b:=wgt_cons (kd_ne c (by decide));have h:=ins_g H L [41] s.tk;exact⟨by have:=h.sz;simp only;omega,drop_drop' (tk_sub s) h.sub,by have:=h.nm;rw[e] at this;simp only;omega⟩
 split
 ·exact bra_g H L s
 split
 ·rename_i h
  exact nam_g H T L pri s (kd_ne h (by decide))
 ·exact stop_g H L s
end
theorem rd_g (T:List Cel)(L:Int):∀ (f:Nat) (pri:Int) (s:RS),RdG s (rdR T L f pri s).1 (rdR T L f pri s).2
 | 0,pri,s=>⟨by simp[rdR,itC,nilT,Fo.cells];omega,⟨0,rfl⟩,Nat.le_refl _⟩
 | f+1,pri,s=>by
   have h:=stt_g (fun pri s=>rd_g T L f pri s) T L pri s;have a:=bh_g (fun pri s=>rd_g T L f pri s) T (sttR (rdR T L f) T L pri s).2.ts.length pri (sttR (rdR T L f) T L pri s).1.1 (sttR (rdR T L f) T L pri s).1.2 (sttR (rdR T L f) T L pri s).2;exact⟨by have:=h.sz;simp only[rdR];omega,drop_drop' h.sub a.2.1,Nat.le_trans a.2.2 h.nm⟩
theorem sub_len {s a:RS}(h:∃ k,a.ts=s.ts.drop k):a.ts.length<=s.ts.length:=by obtain⟨k,h⟩:=h;rw[h];simp
theorem sub_all {s a:RS}{P:Tok->Prop}(h:∃ k,a.ts=s.ts.drop k)(ha:∀ t ∈ s.ts,P t):∀ t ∈ a.ts,P t:=by obtain⟨k,h⟩:=h;rw[h];exact fun t b=>ha t (List.mem_of_mem_drop b)
end Go.Proofs.YtlkhmmoimplokaaGreatDoor
