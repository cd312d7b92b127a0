/- Texts of MdK, MdH, MdF, MdL. Own work of the verifier. -/
import Derived.Test.YtlkhmmoimplokaaGreatDoorUqbn
import Derived.Test.YtlkhmmoimplokaaGreatDoorUqbb
namespace Go.Proofs.YtlkhmmoimplokaaGreatDoor
set_option maxHeartbeats 4000000
set_option maxRecDepth 100000
open Go Go.RowKit
set_option linter.unusedVariables false
set_option linter.unusedSimpArgs false
theorem fieldP0 (W:World)(a b:Value):(Instr.field 96 (.agg #[a,b]) 0).run Tryz.prog W = .ok a W:=by kernel_rfl
section
variable {w0:World}{pb:Nat}{po:Option Addr}{co:Nat}{kp:Option Addr}{kc:Nat}{T:List Cel}{L:Int}{all:List Tok}{s:RS}{k:Nat}{b:Int}{w:World}
def MRd (w0:World)(pb:Nat)(po:Option Addr)(co:Nat)(kp:Option Addr)(kc:Nat)(T:List Cel)(L:Int)(all:List Tok)(w:World)(x:Tr×RS)(e:Ending)(w':World):Prop:=
 ∃ q n c t p,e = .returned (.agg #[.slice q n c,.int .i64 p])/\CT w' pb q n c t/\t.length<=2001/\(x.2.ft=none->Cut t (itC x.1))/\(∃ k' b',MS w0 pb po co kp kc T L all x.2 k' b' w')/\MF pb w w'
def MSt (w0:World)(pb:Nat)(po:Option Addr)(co:Nat)(kp:Option Addr)(kc:Nat)(T:List Cel)(L:Int)(all:List Tok)(w:World)(x:(Tr×Int)×RS)(e:Ending)(w':World):Prop:=
 ∃ q n c t,e = .returned (.agg #[.slice q n c,.int .i64 x.1.2])/\CT w' pb q n c t/\t.length<=2001/\(x.2.ft=none->Cut t (itC x.1.1))/\(∃ k' b',MS w0 pb po co kp kc T L all x.2 k' b' w')/\MF pb w w'
def MOk (w0:World)(pb:Nat)(po:Option Addr)(co:Nat)(kp:Option Addr)(kc:Nat)(T:List Cel)(L:Int)(all:List Tok)(f:Nat):Prop:=
 ∀ (pri:Int) (s:RS) (k:Nat) (b:Int) (w:World),MS w0 pb po co kp kc T L all s k b w->s.ts.length<f->Calls Tryz.prog 53 #[ptrM pb,.int .i64 pri] w (MRd w0 pb po co kp kc T L all w (rdR T L f pri s))
def MTs (w0:World)(pb:Nat)(po:Option Addr)(co:Nat)(kp:Option Addr)(kc:Nat)(T:List Cel)(L:Int)(all:List Tok)(w:World)(x:List Tr×RS)(e:Ending)(w':World):Prop:=
 ∃ p n c rs tss,e = .returned (.slice p n c)/\TRw w' pb w.heap.size p n c rs tss/\0<n/\n<=10001/\(∀ t ∈ tss,t.length<=2001)/\(x.2.ft=none->Cuts tss (x.1.map itC))/\(∃ k' b',MS w0 pb po co kp kc T L all x.2 k' b' w')/\MF pb w w'
def slLen:Value->Nat
 | .slice _ n _=>n
 | _=>0
structure TIv (w0:World)(pb:Nat)(po:Option Addr)(co:Nat)(kp:Option Addr)(kc:Nat)(T:List Cel)(L:Int)(all:List Tok)(rd:Int->RS->Tr×RS)(w:World)(s:RS)(p:Option Addr)(n c:Nat)(wr:World)(rs:List (Option Addr×Nat×Nat))(tss:List (List Cel))(xs:List Tr)(g:Nat)(s':RS)(k':Nat)(b':Int):Prop where
 row:TRw wr pb w.heap.size p n c rs tss
 len:∀ t ∈ tss,t.length<=2001
 cut:s'.ft=none->Cuts tss (xs.map itC)
 eq:serR rd (s.ts.length+1) s=(xs ++ (serR rd g s').1,(serR rd g s').2)
 fuel:s'.ts.length<g
 num:n+s'.ts.length<=s.ts.length
 ms:MS w0 pb po co kp kc T L all s' k' b' wr
 mf:MF pb w wr
theorem l4terms_any (E:MEnv w0 pb po co kp kc T L all){f:Nat}(H:MOk w0 pb po co kp kc T L all f)(h:MS w0 pb po co kp kc T L all s k b w)(hf:s.ts.length<f) :
  Calls Tryz.prog 174 #[ptrM pb] w (MTs w0 pb po co kp kc T L all w (serR (rdR T L f) (s.ts.length+1) s)):=by
 have k8:s.ts.length<=10000:=by have:=h.nb.2;have:=E.len;omega
 have e4:pb<w.heap.size:=Nat.lt_of_lt_of_le E.lt h.mf.size
 have k6:Hid (TIv w0 pb po co kp kc T L all (rdR T L f) w s none 0 0 w [] [] [] (s.ts.length+1) s k b):=⟨TRw.nil _ _ _,(fun t ht=>by cases ht),fun _=>trivial,by simp,by omega,by omega,h,MF.refl _ _⟩
 have S:Hid (pb<w0.heap.size/\pb<w.heap.size):=⟨E.lt,e4⟩
 have k7:Hid (w0.heap.size<=w.heap.size):=h.mf.size
 have k5:Hid (∀ (a:RS) (A:Nat) (v:Int) (W:World),MS w0 pb po co kp kc T L all a A v W->a.ts.length<=s.ts.length->Calls Tryz.prog 53 #[ptrM pb,.int .i64 999] W (MRd w0 pb po co kp kc T L all W (rdR T L f 999 a))):=fun a A v W hs hl=>H 999 a A v W hs (by omega)
 have e9:Hid (∀ (a:RS) (A:Nat) (v:Int) (W:World),MS w0 pb po co kp kc T L all a A v W->Calls Tryz.prog 145 #[ptrM pb,.string ⟨#[44]⟩] W (MBool w0 pb po co kp kc T L all W (if a.isP [44]=true then a.tk else a) (a.isP [44]))):=fun a A v W hs=>l4got_any E hs [44] ⟨#[44]⟩ rfl (byte_small (by decide))
 have HG:Hid (∀ a,RdG a (rdR T L f 999 a).1 (rdR T L f 999 a).2):=fun a=>rd_g T L f 999 a
 have e8:Hid (∀ a,FK a (rdR T L f 999 a).2):=fun a=>rd_fk T L f 999 a
 generalize rdR T L f=rd at *
 obtain⟨N,eN⟩:∃ N,N=s.ts.length:=⟨_,rfl⟩
 have HN:Hid (N=s.ts.length):=eN;rw[<-eN] at k8;have x7:=fieldP0;clear h E hf e4 H eN
 go_enter Tryz.func174,Tryz.ntmps174
 go_wp2_with fail
 go_loopw [3] (fun o wr=>∃ (p:Option Addr) (n c:Nat),n<=N/\o = .slice p n c/\Hid (∃ F j O g a A v,TIv w0 pb po co kp kc T L all rd w s p n c wr F j O g a A v)) (fun o _=>N+1-slLen o)
 case atStart=>exact⟨none,0,0,Nat.zero_le _,rfl,⟨[],[],[],_,_,_,_,k6.o⟩⟩
 case round=>
  obtain⟨p,n,c,hn,rfl,HI⟩:=hrel;obtain⟨F,j,O,g,a,A,v,M⟩:=HI.o;have HC:=k5.o a A v wr M.ms (by have:=M.num;omega);have h2:Hid (TIv w0 pb po co kp kc T L all rd w s p n c wr F j O g a A v):=M;clear HI M;go_wp2_with fail;refine HC.mono ?_;rintro e Z ⟨q,n1,c1,t,p1,rfl,h8,e6,hcut,⟨k1,b1,e2⟩,X⟩
  have K:Hid (CT Z pb q n1 c1 t/\t.length<=2001/\((rd 999 a).2.ft=none->Cut t (itC (rd 999 a).1))/\MS w0 pb po co kp kc T L all (rd 999 a).2 k1 b1 Z/\MF pb wr Z):=⟨h8,e6,hcut,e2,X⟩
  have J:Hid (TRw Z pb w.heap.size p n c F j):=h2.o.row.mf S.o.2 X;have h6:w.heap.size<=Z.heap.size:=Nat.le_trans h2.o.mf.size X.size;clear h8 e6 hcut e2 X HC
  have Y:Hid (∀ C d u,u.ownsRow w.heap.size 25 1 (.slice (some ⟨C,0,none⟩) (n+1) d) (n+1) ((F ++ [(q,n1,c1)]).map slV)->(Z.alloc (.cells #[.slice q n1 c1] 25)).grownBy u (Value.ownBlock (.slice p n c))->MS w0 pb po co kp kc T L all (rd 999 a).2 k1 b1 u/\
    (∀ i B x,MF pb u i->MS w0 pb po co kp kc T L all (rd 999 a).2 B x i->(rd 999 a).2.isP [44]=false->MTs w0 pb po co kp kc T L all w (serR rd (s.ts.length+1) s) (.returned (.slice (some ⟨C,0,none⟩) (n+1) d)) i)/\
    (∀ i B x,MF pb u i->MS w0 pb po co kp kc T L all (rd 999 a).2.tk B x i->(rd 999 a).2.isP [44]=true->n+1<=N/\∃ F j O g a A v,TIv w0 pb po co kp kc T L all rd w s (some ⟨C,0,none⟩) (n+1) d i F j O g a A v)):=fun C d u e5 h5=>by
   have M:=h2.o;have h1:=J.o.app K.o.1 e5 h5;have r:MF pb w u:=(M.mf.trans K.o.2.2.2.2).grow h5 (fun g hg=>(J.o.lt g hg).1)
   have e1:∀ t' ∈ j ++ [t],t'.length<=2001:=fun t' x2=>by
    rcases List.mem_append.1 x2 with h' | h'
    ·exact M.len t' h'
    ·rw[List.mem_singleton.1 h'];exact K.o.2.1
   have hcut:(rd 999 a).2.ft=none->Cuts (j ++ [t]) ((O ++ [(rd 999 a).1]).map itC):=fun h0=>by
    rw[List.map_append];exact Cuts.snoc (M.cut (e8.o a h0)) (K.o.2.2.1 h0)
   obtain⟨g',rfl⟩:∃ g',g=g'+1:=⟨g-1,by have:=M.fuel;omega⟩
   have z:=serR_step rd g' a;have x4:=sub_len (HG.o a).sub;have x3:=M.num;have x8:=M.fuel;have x6:=HN.o;refine⟨K.o.2.2.2.1.grow S.o.1 h5 (fun g hg=>⟨Nat.le_trans k7.o (J.o.lt g hg).1,(J.o.lt g hg).2.2⟩),fun i B x l y G=>?_,fun i B x l y G=>?_⟩
   ·rw[G,if_neg (by decide)] at z
    have h9:=M.eq;rw[z] at h9;rw[h9];exact⟨some ⟨C,0,none⟩,n+1,d,_,_,rfl,h1.mf S.o.2 l,by omega,by omega,e1,hcut,⟨B,x,y⟩,r.trans l⟩
   ·have x9:=ne_len (isP_ne G)
    have w1:=tk_len (rd 999 a).2;rw[G,if_pos rfl] at z;refine⟨by omega,F ++ [(q,n1,c1)],j ++ [t],O ++ [(rd 999 a).1],g',(rd 999 a).2.tk,B,x,h1.mf S.o.2 l,e1,(fun h0=>hcut h0),?_,by omega,by omega,y,r.trans l⟩;rw[M.eq,z]
    simp
  rcases K.o.2.2.2.1.bad with ⟨V,h4⟩ | ⟨V,h4,k9,e7⟩
  ·have x5:Hid ((rd 999 a).2.ft=none):=V
   subst h4;clear V;go_wp2_with (at_builtin;refine app_sl Z rfl _ _ rfl w.heap.size p n c F q n1 c1 rfl J.o.2.2.2.1 rfl (by omega) h6 ?_;intro C d u m D;obtain⟨r,Q,R⟩:=Y.o C d u m D;have h3:Hid (MS w0 pb po co kp kc T L all (rd 999 a).2 k1 (-1) u):=r;have e3:=r.c3;have P:Hid (∀ i B x,MF pb u i->MS w0 pb po co kp kc T L all (rd 999 a).2 B x i->(rd 999 a).2.isP [44]=false->MTs w0 pb po co kp kc T L all w (serR rd (s.ts.length+1) s) (.returned (.slice (some ⟨C,0,none⟩) (n+1) d)) i):=Q;have U:Hid (∀ i B x,MF pb u i->MS w0 pb po co kp kc T L all (rd 999 a).2.tk B x i->(rd 999 a).2.isP [44]=true->n+1<=N/\∃ F j O g a A v,TIv w0 pb po co kp kc T L all rd w s (some ⟨C,0,none⟩) (n+1) d i F j O g a A v):=R;clear r Q R m D);have I:=e9.o _ _ _ _ h3.o
   cases G:(rd 999 a).2.isP [44] with
   | true=>
     rw[G,if_pos rfl] at I;have HP:Hid ((rd 999 a).2.isP [44]=true):=G;clear G P;go_wp2_with fail;refine I.mono ?_;rintro e i ⟨rfl,⟨B,x,y⟩,l⟩;obtain⟨x1,h7⟩:=U.o i B x l y HP.o;have k2:Hid (∃ F j O g a A v,TIv w0 pb po co kp kc T L all rd w s (some ⟨C,0,none⟩) (n+1) d i F j O g a A v):=h7;clear y l h7 I U;go_wp2_with fail;go_roundw
     case rel=>exact⟨some ⟨C,0,none⟩,n+1,d,x1,rfl,k2⟩
     case measure=>simp[slLen];omega
   | false=>
     rw[G,if_neg (by decide)] at I;have HP:Hid ((rd 999 a).2.isP [44]=false):=G;clear G U;go_wp2_with fail;refine I.mono ?_;rintro e i ⟨rfl,⟨B,x,y⟩,l⟩;have HR:Hid (MTs w0 pb po co kp kc T L all w (serR rd (s.ts.length+1) s) (.returned (.slice (some ⟨C,0,none⟩) (n+1) d)) i):=P.o i B x l y HP.o;clear y l I P;go_wp2_with fail;go_ret;exact HR.o
  ·have G:(rd 999 a).2.isP [44]=false:=by unfold RS.isP;rw[kd_nil e7];rfl
   have k4:Hid ((rd 999 a).2.isP [44]=false):=G
   obtain⟨bi,rfl⟩:∃ bi:Nat,b1=bi:=⟨b1.toNat,by omega⟩
   clear G V e7 h4 k9;go_wp2_with (at_builtin;refine app_sl Z rfl _ _ rfl w.heap.size p n c F q n1 c1 rfl J.o.2.2.2.1 rfl (by omega) h6 ?_;intro C d u m D;obtain⟨r,Q,R⟩:=Y.o C d u m D;have h3:Hid (MS w0 pb po co kp kc T L all (rd 999 a).2 k1 (bi:Int) u):=r;have e3:=r.c3;have P:Hid (∀ i B x,MF pb u i->MS w0 pb po co kp kc T L all (rd 999 a).2 B x i->(rd 999 a).2.isP [44]=false->MTs w0 pb po co kp kc T L all w (serR rd (s.ts.length+1) s) (.returned (.slice (some ⟨C,0,none⟩) (n+1) d)) i):=Q;have U:Hid (∀ i B x,MF pb u i->MS w0 pb po co kp kc T L all (rd 999 a).2.tk B x i->(rd 999 a).2.isP [44]=true->n+1<=N/\∃ F j O g a A v,TIv w0 pb po co kp kc T L all rd w s (some ⟨C,0,none⟩) (n+1) d i F j O g a A v):=R;clear r Q R m D)
   have HR:Hid (MTs w0 pb po co kp kc T L all w (serR rd (s.ts.length+1) s) (.returned (.slice (some ⟨C,0,none⟩) (n+1) d)) u):=P.o u k1 bi (.refl _ _) h3.o k4.o;go_ret;exact HR.o
end
def ARow (w:World)(pb:Nat)(p:Option Addr)(tss:List (List Cel)):Prop:=∃ g,p=some ⟨g,0,none⟩/\∀ (i:Nat) (t:List Cel),tss[i]?=some t->∃ q c,w.cell? ⟨g,i,none⟩=some (.slice q t.length c)/\CT w pb q t.length c t
theorem TRw.arow {w:World}{pb B n c:Nat}{p:Option Addr}{d:List (Option Addr×Nat×Nat)}{tss:List (List Cel)}(h:TRw w pb B p n c d tss)(o:0<n):ARow w pb p tss:=by
 obtain⟨u,v,x,e,q⟩:=h;obtain⟨g,m,l,y,z⟩:=e.form o;simp only[Value.slice.injEq,true_and] at l;obtain⟨rfl,rfl⟩:=l;refine⟨g,rfl,fun i t j=>?_⟩
 have r:i<d.length:=by have:=(List.getElem?_eq_some_iff.1 j).1;omega
 have f:d[i]?=some d[i]:=List.getElem?_eq_getElem r;have a:=q i _ t f j;refine⟨d[i].1,d[i].2.2,?_,by rw[<-a.1];exact a⟩;rw[e.cellAt i (by omega),List.getElem?_map,f]
 simp[slV,a.1]
theorem rw_one {W0 w:World}{pb g:Nat}{k n:Int}{c:Option Addr}{d:Nat}{a:List Int}(h:w.heap[g]?=some (.cells #[.int .i64 k,.int .i64 n,.slice c a.length d] 102))(f:W0.heap.size<=g)(l:MTx W0 pb w c a):RwM W0 pb w (some ⟨g,0,none⟩) 1 1 [(k,n,a)]:=by
 refine⟨rfl,fun e=>by simp at e,[(k,n,c,a.length,d)],rfl,⟨rfl,.inr ⟨g,1,_,rfl,f,h,Nat.le_refl _,by decide,rfl,rfl⟩⟩,fun i j=>?_⟩
 obtain rfl:i=0:=by simp at j;omega
 exact⟨rfl,rfl,rfl,l⟩
theorem l4join_any {w:World}{pb:Nat}(O:pb<w.heap.size)(d f:Int)(V:Option Addr)(l X:Nat)(xs:List Int)(hl:l=xs.length)(S:BK w pb V xs)(p:Option Addr)(n c:Nat)(tss:List (List Cel))(hn:n=tss.length)(H:n<=20000)(R:∀ t ∈ tss,t.length<=2001)(P:ARow w pb p tss)(U:xs.length<=100:=by first | assumption | simp) :
  Calls Tryz.prog 97 #[.agg #[.int .i64 d,.int .i64 f,.slice V l X],.slice p n c] w fun e w'=>∃ r m h,e = .returned (.slice r m h)/\CT w' pb r m h (((d,f,xs) :: tss.flatten).take 2001)/\m<=2001/\Below w.heap.size w w':=by
 obtain⟨g,rfl,E⟩:=P;have J:Hid (∀ (i:Nat) (t:List Cel),tss[i]?=some t->∃ q c,w.cell? ⟨g,i,none⟩=some (.slice q t.length c)/\CT w pb q t.length c t):=E;have M:Hid (∀ t ∈ tss,t.length<=2001):=R;have HN:Hid (n=tss.length):=hn
 have Z:Hid (∀ x ∈ (d,f,xs) :: tss.flatten,x.2.2.length<=100):=fun x hx=>by
  rcases List.mem_cons.1 hx with rfl | hx
  ·exact U
  ·obtain⟨t,ht,h8⟩:=List.mem_flatten.1 hx
   obtain⟨i,hi,rfl⟩:=List.getElem_of_mem ht;obtain⟨q,c,_,h5⟩:=E i _ (List.getElem?_eq_getElem hi);exact h5.bd x h8
 obtain⟨C,v⟩:∃ C,C=w.alloc (.cells #[.int .i64 d,.int .i64 f,.slice V l X] 102):=⟨_,rfl⟩
 have F:Below w.heap.size w C:=by rw[v];exact(Below.refl _ _).alloc (Nat.le_refl _) _
 obtain⟨I,y⟩:∃ I,I=C.alloc (.cells #[.int .i64 d,.int .i64 f,.slice V l X] 102):=⟨_,rfl⟩
 have N:Below w.heap.size w I:=by rw[y];exact Below.on F ((Below.refl _ _).alloc (Nat.le_refl _) _)
 have u:Hid (RwM w pb I (some ⟨C.heap.size,0,none⟩) 1 1 [(d,f,xs)]):=by
  have hg:I.heap[C.heap.size]?=some (.cells #[.int .i64 d,.int .i64 f,.slice V xs.length X] 102):=by rw[y,<-hl];exact heap_alloc_new _ _
  exact rw_one hg F.size (.inl S)
 have B:Hid (Below w.heap.size w I):=N
 have Q:C.heap.size=w.heap.size+1:=by rw[v];simp
 rw[Q] at u;have h2:Hid (pb<w.heap.size):=O;rw[y,v] at u B;clear E R hn F N y v S hl O Q U
 go_enter Tryz.func97,Tryz.ntmps97
 go_wp2_with fail
 go_loopw [5,6] (fun o i wr=>∃ (j:Nat) (r:Option Addr) (m h:Nat),j<=n/\0<m/\m<=1+2001 * j/\i = .int .i64 j/\o = .slice r m h/\Hid (RwM w pb wr r m h ((d,f,xs) :: (tss.take j).flatten))/\Hid (Below w.heap.size w wr)) (fun _ i _=>n-(intOf i).toNat)
 case atStart=>exact⟨0,_,1,1,Nat.zero_le _,by decide,by decide,rfl,rfl,u,B⟩
 case round=>
  obtain⟨j,r,m,h,hj,h7,hm,rfl,rfl,HO,W⟩:=hrel
  by_cases h6:j<n
  ·have G:j<tss.length:=by rw[<-HN.o];exact h6
   obtain⟨q,ci,y1,y2⟩:=J.o j tss[j] (List.getElem?_eq_getElem G);have z1:wr.cell? ⟨g,j,none⟩=some (.slice q tss[j].length ci):=(W.o.cell (World.block_lt_of_cell? _ _ y1)).trans y1;have A:=M.o tss[j] (List.getElem_mem G)
   have K:Hid ((tss.take (j+1)).flatten=(tss.take j).flatten ++ tss[j]):=by show _=_;rw[List.take_succ_eq_append_getElem G,List.flatten_append];simp
   generalize tss[j]=t at y2 z1 A K
   have a:Hid (CT w pb q t.length ci t):=y2
   obtain⟨lt,D⟩:∃ lt,lt=t.length:=⟨_,rfl⟩
   have e2:Hid (lt=t.length):=D;rw[<-D] at z1 A a
   have e3:(0:Int)<=(j:Int):=by omega
   have e4:(j:Int)<(n:Int):=by omega
   clear y1 y2 D;go_wp2_with (at_builtin;refine app_rw w wr rfl _ _ rfl r m h _ rfl HO.o W.o q lt ci t rfl a.o (by omega) ?_;intro g1 n1 z w2 ho hb H)
   have h1:Hid (RwM w pb w2 (some ⟨g1,0,none⟩) n1 z ((d,f,xs) :: (tss.take (j+1)).flatten)):=by rw[K.o];exact ho
   have Y:Hid (Below w.heap.size w w2):=hb;have e1:=H.o;clear ho hb H;go_roundw
   case rel=>exact⟨j+1,_,n1,z,by omega,by omega,by omega,by go_num,rfl,h1,Y⟩
   case measure=>simp[intOf];omega
  ·obtain rfl:j=n:=by omega
   have a:CT wr pb r m h ((d,f,xs) :: tss.flatten):=by
    have h9:=HO.o;rw[List.take_of_length_le (by rw[<-HN.o];exact Nat.le_refl _)] at h9;exact h9.ct h2.o (SF.of pb W.o) h7 Z.o
   have HC:=l4cut_any a (by omega);clear a HO J M u B;go_wp2_with fail;refine HC.mono ?_;rintro e w3 ⟨m3,rfl,h3,h4,rfl⟩
   have K:Hid (CT w3 pb r m3 h (((d,f,xs) :: tss.flatten).take 2001)/\m3<=2001):=⟨h3,h4⟩
   clear h3 h4 HC;go_wp2_with fail;go_ret;exact⟨r,m3,h,rfl,K.o.1,K.o.2,W.o⟩
theorem NmO.at {w:World}{pb B:Nat}{p:Option Addr}{n c:Nat}{a:List (List Int)}(h:NmO w pb B p n c a)(i:Nat)(d:i<a.length):∃ g q l,p=some ⟨g,0,none⟩/\w.cell? ⟨g,i,none⟩=some (.slice q (a.getD i []).length l)/\BK w pb q (a.getD i []):=by
 obtain⟨u,_,rs,t,e,m⟩:=h;obtain⟨g,j,f,o,r⟩:=e.form (by omega);simp only[Value.slice.injEq,true_and] at f;obtain⟨rfl,rfl⟩:=f;refine⟨g,(rs.getD i (none,0)).1,(rs.getD i (none,0)).2,rfl,?_,m i d⟩;rw[e.cellAt i (by omega)];rw[List.getElem?_map,List.getElem?_range d]
 rfl
section
variable {w0:World}{pb:Nat}{po:Option Addr}{co:Nat}{kp:Option Addr}{kc:Nat}{T:List Cel}{L:Int}{all:List Tok}{s:RS}{k:Nat}{b:Int}{w:World}
theorem mcel_leaf (a:pb<w0.heap.size){W:World}{g:RS}(j:MF pb w W){f:Nat}{d:Int}(h:MS w0 pb po co kp kc T L all g f d W){P:List Cel->Prop}{q:Option Addr}{t:Cel}{c:World}(l:OwnC c W.heap.size q 1 1 [t])(e:Below W.heap.size W c)(i:P [t])(m:t.2.2.length<=100:=by simp):MCel w0 pb po co kp kc T L all w g P (.returned (.slice q 1 1)) c:=
 ⟨q,1,1,[t],rfl,l.ct (Nat.lt_of_lt_of_le a h.mf.size) (by decide) (fun x n=>by rw[List.mem_singleton.1 n];exact m),by simp,fun _=>i,⟨f,d,h.below e⟩,j.below e⟩
theorem l4var_any (E:MEnv w0 pb po co kp kc T L all)(h:MS w0 pb po co kp kc T L all s k b w)(q:Option Addr)(m X:Nat)(a:List Int)(hm:m=a.length)(D:BK w pb q a)(K:Byte a/\a.length<=100)(l:s.ns.length+s.ts.length+1<=all.length) :
  Calls Tryz.prog 141 #[ptrM pb,.slice q m X] w (MCel w0 pb po co kp kc T L all w (s.var a).2 fun t=>t=itC (s.var a).1.1):=by
 obtain⟨p,n,c,N,Y⟩:=h.c4;have hn:n=s.ns.length:=Y.1;have hl:=E.len
 have k8:n<=10000:=by omega
 obtain⟨Q,B⟩:∃ Q,Q=strOfNums a:=⟨_,rfl⟩
 have I:Hid (∀ W,SF pb w W->(convert 23 9 (.slice q m X)).run Tryz.prog W = .ok (.string Q) W):=fun W v=>by
  rw[B];exact conv_str (D W v) m X hm 9 Tryz.underlying9
 have x2:=I.o w (SF.refl _ _);have G:=h.mf.size
 by_cases C:a = [95]
 ·have hx:Q=⟨#[95]⟩:=by rw[B,C];rfl
  have hv:s.var a=((vT s.ns.length,0),⟨s.ts,s.ns ++ [[]],s.ft⟩):=by unfold RS.var RS.new;rw[if_pos C]
  rw[hv]
  have f:Hid (∀ g d r,NmO r pb w0.heap.size (some ⟨g,0,none⟩) (n+1) d (s.ns ++ [[]])->(w.alloc (.cells #[.slice none 0 0] 23)).grownBy r (Value.ownBlock (.slice p n c))->(r.cell? ⟨pb,4,none⟩=some (.slice p n c)/\r.frozen? ⟨pb,4,none⟩=false)/\Calls Tryz.prog 176 #[.int .i64 n] (r.setCell ⟨pb,4,none⟩ (.slice (some ⟨g,0,none⟩) (n+1) d)) (MCel w0 pb po co kp kc T L all w ⟨s.ts,s.ns ++ [[]],s.ft⟩ fun t=>t=itC (vT s.ns.length))):=fun g d r F R=>by
   obtain⟨k1,k2,k3⟩:=h.names E.lt N Y F R ⟨(fun x hx=>by cases hx),by simp⟩ l;refine⟨k1,(l2varM_any n _).mono ?_⟩;rintro e w2 ⟨rfl,ho,hb⟩;exact mcel_leaf E.lt k3 k2 ho hb (by rw[hn];rfl)
  have z:Hid (NmO w pb w0.heap.size p n c s.ns/\(w0.heap.size<=w.heap.size/\pb<w0.heap.size)/\BK w pb none ([]:List Int)):=⟨Y,⟨G,E.lt⟩,BK.nil _ _ _⟩
  subst hx;have d4:(w.alloc (.cells #[.slice none 0 0] 23)).cell? ⟨pb,4,none⟩=some (.slice p n c):=(((Below.refl w.heap.size w).alloc (Nat.le_refl _) _).cell (World.block_lt_of_cell? _ _ N)).trans N;clear h Y E B I D K l hn C hv hm
  go_enter Tryz.func141,Tryz.ntmps141
  go_wp2_with (at_builtin;refine app_nameM w rfl _ _ rfl w0.heap.size p n c s.ns rfl z.o.1 z.o.2.1 none 0 0 [] rfl z.o.2.2 rfl (by omega) ?_;intro g d r M R;obtain⟨⟨k1,k2⟩,k4⟩:=f.o g d r M R;have K4:Hid (Calls Tryz.prog 176 #[.int .i64 n] (r.setCell ⟨pb,4,none⟩ (.slice (some ⟨g,0,none⟩) (n+1) d)) (MCel w0 pb po co kp kc T L all w ⟨s.ts,s.ns ++ [[]],s.ft⟩ fun t=>t=itC (vT s.ns.length))):=k4;clear k4 M R);refine K4.o.mono ?_;rintro e w2 ⟨q2,n2,V,t,rfl,Z⟩
  have HR:Hid (MCel w0 pb po co kp kc T L all w ⟨s.ts,s.ns ++ [[]],s.ft⟩ (fun t=>t=itC (vT s.ns.length)) (.returned (.slice q2 n2 V)) w2):=⟨q2,n2,V,t,rfl,Z⟩
  clear Z;go_wp2_with fail;go_ret;exact HR.o
 ·have hx:¬ Q.toList = [95]:=fun e=>by
   have:=strOf_eq (ys:=[95]) K.1 (byte_small (by decide));rw[<-B,e] at this
   simp[show(strOfNums [95])=⟨#[95]⟩ from rfl,C] at this
  have k9:(Q.toList == [95])=false:=by simpa using hx
  obtain⟨H,A⟩:∃ H,H=s.ns.idxOf a:=⟨_,rfl⟩
  have k5:H<=n:=by rw[A,hn];exact List.idxOf_le_length
  have u:Hid (H<n->∀ W,MF pb w W->(∃ k' U,MS w0 pb po co kp kc T L all s k' U W)->Calls Tryz.prog 176 #[.int .i64 H] W (MCel w0 pb po co kp kc T L all w (s.var a).2 fun t=>t=itC (s.var a).1.1)):=fun S W v hs=>by
   obtain⟨k',U,hs⟩:=hs
   have y:a ∈ s.ns:=by rw[A,hn] at S;exact List.idxOf_lt_length_iff.1 S
   have hv:s.var a=((vT (s.ns.idxOf a),0),s):=by unfold RS.var;rw[if_neg C,if_pos y]
   rw[hv];refine(l2varM_any H _).mono ?_;rintro e w2 ⟨rfl,ho,hb⟩;exact mcel_leaf E.lt v hs ho hb (by rw[A];rfl)
  have h1:Hid (∀ j,j<n->∃ g O J si,p=some ⟨g,0,none⟩/\w.cell? ⟨g,j,none⟩=some (.slice O (s.ns.getD j []).length J)/\(∀ W,SF pb w W->(convert 23 9 (.slice O (s.ns.getD j []).length J)).run Tryz.prog W = .ok (.string si) W)/\(j=H->si=Q)/\(j<H->¬ si.toList=Q.toList)):=fun j hj=>by
   obtain⟨g,O,J,e1,e2,e3⟩:=Y.at j (by omega);refine⟨g,O,J,strOfNums (s.ns.getD j []),e1,e2,fun W v=>conv_str (e3 W v) _ J rfl 9 Tryz.underlying9,fun e=>?_,fun e e'=>?_⟩
   ·have y:a ∈ s.ns:=by rw[e,A,hn] at hj;exact List.idxOf_lt_length_iff.1 hj
    rw[B,e,A,(idx_at y).2]
   ·rw[A] at e
    have h3:=idx_no e (by omega)
    have e5:Byte (s.ns.getD j []):=by
     have h9:j<s.ns.length:=by omega
     rw[List.getD,List.getElem?_eq_getElem h9];exact(h.nb.1 _ (List.getElem_mem h9)).1
    have:=strOf_eq e5 K.1;rw[<-B,e'] at this;rw[beq_self_eq_true] at this;exact h3 (by simpa using this.symm)
  have f:Hid (H=n->∀ W,Below w.heap.size w W->∀ g d r,NmO r pb w0.heap.size (some ⟨g,0,none⟩) (n+1) d (s.ns ++ [a])->(W.alloc (.cells #[.slice q m X] 23)).grownBy r (Value.ownBlock (.slice p n c))->(r.cell? ⟨pb,4,none⟩=some (.slice p n c)/\r.frozen? ⟨pb,4,none⟩=false)/\Calls Tryz.prog 176 #[.int .i64 n] (r.setCell ⟨pb,4,none⟩ (.slice (some ⟨g,0,none⟩) (n+1) d)) (MCel w0 pb po co kp kc T L all w (s.var a).2 fun t=>t=itC (s.var a).1.1)):=fun h8 W v g d r F R=>by
   have y:a ∉ s.ns:=fun e7=>by have:=List.idxOf_lt_length_of_mem e7;omega
   have hv:s.var a=((vT s.ns.length,0),⟨s.ts,s.ns ++ [a],s.ft⟩):=by unfold RS.var RS.new;rw[if_neg C,if_neg y]
   rw[hv];obtain⟨k1,k2,k3⟩:=(h.below v).names E.lt ((v.cell (World.block_lt_of_cell? _ _ N)).trans N) (Y.below v) F R K l;refine⟨k1,(l2varM_any n _).mono ?_⟩;rintro e w2 ⟨rfl,ho,hb⟩;exact mcel_leaf E.lt ((MF.of pb v).trans k3) k2 ho hb (by rw[hn];rfl)
  have h6:Hid (∀ W,Below w.heap.size w W->(∃ k' U,MS w0 pb po co kp kc T L all s k' U W)/\NmO W pb w0.heap.size p n c s.ns/\(w0.heap.size<=W.heap.size/\pb<w0.heap.size)/\BK W pb q a/\W.cell? ⟨pb,4,none⟩=some (.slice p n c)/\(W.alloc (.cells #[.slice q m X] 23)).cell? ⟨pb,4,none⟩=some (.slice p n c)):=fun W v=>
   ⟨⟨k,b,h.below v⟩,Y.below v,⟨Nat.le_trans G v.size,E.lt⟩,D.move (SF.of pb v),(v.cell (World.block_lt_of_cell? _ _ N)).trans N,((Below.on v ((Below.refl W.heap.size W).alloc (Nat.le_refl _) _)).cell (World.block_lt_of_cell? _ _ N)).trans N⟩
  have HM:Hid (m=a.length):=hm
  generalize (fun t=>t=itC (s.var a).1.1)=P at u f ⊢
  generalize (s.var a).2=s2 at u f ⊢
  clear h Y E B D K l hn C A hm N G
  go_enter Tryz.func141,Tryz.ntmps141
  go_wp2_with fail
  go_loopw [5] (fun i wr=>∃ j:Nat,j<=n/\j<=H/\i = .int .i64 j/\Hid (Below w.heap.size w wr)) (fun i _=>n-(intOf i).toNat)
  case atStart=>exact⟨0,Nat.zero_le _,Nat.zero_le _,rfl,Below.refl _ _⟩
  case round=>
   obtain⟨j,hj,e6,rfl,HB⟩:=hrel;obtain⟨hs,F,G,D,g4,g5⟩:=h6.o wr HB.o;have HS:Hid (∃ k' U,MS w0 pb po co kp kc T L all s k' U wr):=hs
   have z:Hid (NmO wr pb w0.heap.size p n c s.ns/\(w0.heap.size<=wr.heap.size/\pb<w0.heap.size)/\BK wr pb q a):=⟨F,G,D⟩
   clear hs F G D
   by_cases S:j<n
   ·obtain⟨g,O,J,si,rfl,y1,y2,y3,y4⟩:=h1.o j S
    have z1:wr.cell? ⟨g,j,none⟩=some (.slice O (s.ns.getD j []).length J):=(HB.o.cell (World.block_lt_of_cell? _ _ y1)).trans y1;have e8:=y2 wr.drew (SF.of pb HB.o.drew);have x1:=I.o wr.drew (SF.of pb HB.o.drew)
    obtain⟨li,h7⟩:∃ li,li=(s.ns.getD j []).length:=⟨_,rfl⟩
    rw[<-h7] at z1 e8
    have k6:(0:Int)<=(j:Int):=by omega
    have k7:(j:Int)<(n:Int):=by omega
    clear y1 y2 h7
    by_cases h2:j=H
    ·have he:=y3 h2
     subst he;have HF:=u.o (by omega) wr.drew (MF.of pb HB.o.drew) (by obtain⟨k',U,hs⟩:=HS.o;exact⟨k',U,hs.below (Below.refl _ _).drew⟩);rw[<-h2] at HF;clear h2 e6 y3 y4 u f h6 h1 I;go_wp2_with fail
     go_region_held3 (fun W=>W.cell? ⟨pb,4,none⟩=some (.slice (some ⟨g,0,none⟩) n c)/\W.cell? ⟨g,j,none⟩=some (.slice O li J)/\(convert 23 9 (.slice O li J)).run Tryz.prog W = .ok (.string si) W/\(convert 23 9 (.slice q m X)).run Tryz.prog W = .ok (.string si) W) (go_keep) (fail)
     go_wp2_with fail;refine HF.mono ?_;rintro e w2 ⟨q2,n2,V,t,rfl,Z⟩
     have HR:Hid (MCel w0 pb po co kp kc T L all w s2 P (.returned (.slice q2 n2 V)) w2):=⟨q2,n2,V,t,rfl,Z⟩
     clear Z;go_wp2_with fail;go_ret;exact HR.o
    ·have h3:=y4 (by omega)
     have e9:(si.toList == Q.toList)=false:=by simpa using h3
     clear y3 y4;go_wp2_with fail
     go_region_held3 (fun W=>W.cell? ⟨pb,4,none⟩=some (.slice (some ⟨g,0,none⟩) n c)/\W.cell? ⟨g,j,none⟩=some (.slice O li J)/\(convert 23 9 (.slice O li J)).run Tryz.prog W = .ok (.string si) W/\(convert 23 9 (.slice q m X)).run Tryz.prog W = .ok (.string Q) W) (go_keep) (fail)
     have e4:Hid (Below w.heap.size w wr.drew):=HB.o.drew;go_wp2_with fail;go_roundw
     case rel=>exact⟨j+1,by omega,by omega,by go_num,e4⟩
     case measure=>simp[intOf];omega
   ·obtain rfl:j=n:=by omega
    have h8:H=j:=by omega
    clear u h1 I;go_wp2_with (at_builtin;refine app_nameM wr rfl _ _ rfl w0.heap.size p j c s.ns rfl z.o.1 z.o.2.1 q m X a HM.o z.o.2.2 rfl (by omega) ?_;intro g d r M R;obtain⟨⟨k1,k2⟩,k4⟩:=f.o h8 wr HB.o g d r M R;have K4:Hid (Calls Tryz.prog 176 #[.int .i64 j] (r.setCell ⟨pb,4,none⟩ (.slice (some ⟨g,0,none⟩) (j+1) d)) (MCel w0 pb po co kp kc T L all w s2 P)):=k4;clear k4 M R);refine K4.o.mono ?_;rintro e w2 ⟨q2,n2,V,t,rfl,Z⟩
    have HR:Hid (MCel w0 pb po co kp kc T L all w s2 P (.returned (.slice q2 n2 V)) w2):=⟨q2,n2,V,t,rfl,Z⟩
    clear Z;go_wp2_with fail;go_ret;exact HR.o
end
theorem app_rw1 (l w:World){pb:Nat}{B:Array Oper}{m:List Oper}{o:Oper}{a:Act}{Q:Exit->Act->World->Prop}(F:o.guard=none)(s x:Operand)
  (ho:o.op = .call { callee:=.builtin .append,args:=#[s,x],argTypes:=#[25,25] }) (wr:World) (p:Option Addr) (n c:Nat) (P:List Cel)
  (hs:a.eval s = .slice p n c) (v:RwM l pb wr p n c P) (U:Below l.heap.size l wr) (y:Below wr.heap.size wr w) (E:Addr) (O:Nat) (hx:a.eval x = .slice (some E) 1 O) (z A:Int) (D:Option Addr) (N:Nat) (t:List Int)
  (ht:MTx l pb w D t) (q:∀ j u,(rcV (z,A,D,t.length,N))[j]?=some u->w.cell? (E.add j)=some u) (R:n+1<=1000000000)
  (h:∀ g M e C,RwM l pb C (some ⟨g,0,none⟩) M e (P ++ [(z,A,t)])->Below l.heap.size l C->Hid (M=n+1)->wpList Tryz.prog B Q m (a.put o.dst (.slice (some ⟨g,0,none⟩) M e)) C):wpList Tryz.prog B Q (o :: m) a w:=by
 obtain⟨i0,G,I,J,K⟩:=info_parts infoCell;have f:=Below.on U y;obtain⟨hn,S,rs,Y,H,W⟩:=v.below y;refine wpList_append_lies w F s x 25 ho l.heap.size 102 i0 (.agg #[.int .i64 0,.int .i64 0,.slice none 0 0]) 3 40 Tryz.underlying25 G I J K rfl (by decide) (.slice p n c) n (flat rs) hs H E 1 O (rcV (z,A,D,t.length,N)) hx rfl q (rcV_one _) (by decide) (by unfold maxLen;omega) (by omega) f.size w.heap.size rfl ?_
 intro g e C r d V Z
 refine h g _ e C (RwM.grew (rs2:=[(z,A,D,t.length,N)]) (ds:=[(z,A,t)]) hn S Y H W f rfl rfl (by decide) (fun i G=>?_) (by rw[flat_one];exact r) d) (f.trans ((Below.refl _ _).grown d f.size (fun k X=>(H.lt k X).1))) rfl
 obtain rfl:i=0:=by simp at G;omega
 exact⟨rfl,rfl,rfl,ht⟩
theorem cells_one (w:World)(o:Obj)(a b c:Value)(h:o = .cells #[a,b,c] 102):∀ j u,[a,b,c][j]?=some u->(w.alloc o).cell? ((⟨w.heap.size,0,none⟩:Addr).add j)=some u:=fun j u d=>by
 subst h
 match j,d with
 | 0,d=>simp at d;rw[<-d];simp[Addr.add,World.cell?_alloc_new]
 | 1,d=>simp at d;rw[<-d];simp[Addr.add,World.cell?_alloc_new]
 | 2,d=>simp at d;rw[<-d];simp[Addr.add,World.cell?_alloc_new]
 | j+3,d=>simp at d
theorem lst_cut {a:List (List Cel)}{t:List Cel}{c:List Tr}{e:Tr}(h:Cuts a (c.map itC))(k:Cut t (itC e)):Cut ((mkL a ++ t).take 2001) (itC (lstT e c)):=by
 refine Cut.cut ?_;rw[lstT_cells];refine Cut.cat ?_ k;have:=h.dots dot;rw[List.flatMap_map] at this;exact this
section
variable {w0:World}{pb:Nat}{po:Option Addr}{co:Nat}{kp:Option Addr}{kc:Nat}{T:List Cel}{L:Int}{all:List Tok}{s:RS}{k:Nat}{b:Int}{w:World}
theorem l4bracket_any (E:MEnv w0 pb po co kp kc T L all){f:Nat}(H:MOk w0 pb po co kp kc T L all f)(h:MS w0 pb po co kp kc T L all s k b w)(hf:s.ts.length<f) :
  Calls Tryz.prog 146 #[ptrM pb] w (MCel w0 pb po co kp kc T L all w (lisR (rdR T L f) L s).2 fun t=>Cut t (itC (lisR (rdR T L f) L s).1)):=by
 have b7:Hid (∀ (s':RS) (m:List Int) (S:ByteArray),strOfNums m=S->Byte m->∀ (k':Nat) (b':Int) (W:World),MS w0 pb po co kp kc T L all s' k' b' W->Calls Tryz.prog 145 #[ptrM pb,.string S] W (MBool w0 pb po co kp kc T L all W (if s'.isP m=true then s'.tk else s') (s'.isP m))):=fun s' m S hS hm k' b' W hs=>l4got_any E hs m S hS hm
 have x5:Hid (∀ (s':RS) (k':Nat) (b':Int) (W:World),MS w0 pb po co kp kc T L all s' k' b' W->Calls Tryz.prog 144 #[ptrM pb,.string ⟨#[93]⟩] W (MUnit w0 pb po co kp kc T L all W (s'.must L [93]) (.tuple #[]))):=fun s' k' b' W hs=>l4want_any E hs [93] ⟨#[93]⟩ rfl (byte_small (by decide))
 have c2:Hid (∀ (k':Nat) (b':Int) (W:World),MS w0 pb po co kp kc T L all s k' b' W->Calls Tryz.prog 174 #[ptrM pb] W (MTs w0 pb po co kp kc T L all W (serR (rdR T L f) (s.ts.length+1) s))):=fun k' b' W hs=>l4terms_any E H hs hf
 have c7:(serR (rdR T L f) (s.ts.length+1) s).2.ts.length<=s.ts.length:=sub_len (ser_g (rd_g T L f) _ s).2.1
 have e6:Hid (∀ (k':Nat) (b':Int) (W:World),MS w0 pb po co kp kc T L all (serR (rdR T L f) (s.ts.length+1) s).2.tk k' b' W->Calls Tryz.prog 53 #[ptrM pb,.int .i64 999] W (MRd w0 pb po co kp kc T L all W (rdR T L f 999 (serR (rdR T L f) (s.ts.length+1) s).2.tk))):=fun k' b' W hs=>H 999 _ k' b' W hs (by have:=tk_len (serR (rdR T L f) (s.ts.length+1) s).2;omega)
 have e1:Hid (∀ W,Calls Tryz.prog 147 #[.string ⟨#[91,93]⟩] W fun e w'=>∃ p,e = .returned (.slice p 1 1)/\OwnC w' W.heap.size p 1 1 [(2,0,[91,93])]/\Below W.heap.size W w'):=fun W=>by
  have:=l2atomM_any [91,93] (byte_small (by decide)) W (by decide);rw[show strOfNums [91,93]=⟨#[91,93]⟩ from rfl] at this;exact this
 have b3:Hid (FK (serR (rdR T L f) (s.ts.length+1) s).2.tk (rdR T L f 999 (serR (rdR T L f) (s.ts.length+1) s).2.tk).2):=rd_fk T L f 999 _;have w9:Hid (pb<w0.heap.size):=E.lt;have i3:=fieldP0;have i2:=conv_dot;have e2:=b7.o s [93] ⟨#[93]⟩ rfl (byte_small (by decide)) k b w h
 by_cases hp:s.isP [93]=true
 ·have hv:lisR (rdR T L f) L s=(nilT,s.tk):=by unfold lisR;rw[if_pos hp]
  rw[hv];rw[hp,if_pos rfl] at e2;clear h E H b7 x5 c2 e6 b3 c7 hp hv hf
  go_enter Tryz.func146,Tryz.ntmps146
  go_wp2_with fail;refine e2.mono ?_;rintro e O ⟨rfl,⟨k1,b1,e8⟩,w3⟩
  have f4:Hid (MS w0 pb po co kp kc T L all s.tk k1 b1 O/\MF pb w O):=⟨e8,w3⟩
  have k3:=e1.o O;clear e8 w3 e2 e1;go_wp2_with fail;refine k3.mono ?_;rintro e W2 ⟨q,rfl,ho,hb⟩;have HF:Hid (MCel w0 pb po co kp kc T L all w s.tk (fun t=>Cut t (itC nilT)) (.returned (.slice q 1 1)) W2):=mcel_leaf w9.o f4.o.2 f4.o.1 ho hb rfl;clear ho hb k3;go_wp2_with fail;go_ret;exact HF.o
 ·have f9:s.isP [93]=false:=by simpa using hp
  rw[f9,if_neg (by decide)] at e2
  have e7:Hid ((serR (rdR T L f) (s.ts.length+1) s).2.isP [124]=true->lisR (rdR T L f) L s=(lstT (rdR T L f 999 (serR (rdR T L f) (s.ts.length+1) s).2.tk).1 (serR (rdR T L f) (s.ts.length+1) s).1,(rdR T L f 999 (serR (rdR T L f) (s.ts.length+1) s).2.tk).2.must L [93])):=fun h1=>by unfold lisR;rw[if_neg hp,if_pos h1]
  have x4:Hid ((serR (rdR T L f) (s.ts.length+1) s).2.isP [124]=false->lisR (rdR T L f) L s=(lstT nilT (serR (rdR T L f) (s.ts.length+1) s).1,(serR (rdR T L f) (s.ts.length+1) s).2.must L [93])):=fun h1=>by unfold lisR;rw[if_neg hp,if_neg (by rw[h1];decide)]
  generalize rdR T L f 999 (serR (rdR T L f) (s.ts.length+1) s).2.tk=y at e6 b3 e7
  generalize serR (rdR T L f) (s.ts.length+1) s=x at c2 e6 b3 e7 x4
  generalize lisR (rdR T L f) L s=R at e7 x4 ⊢
  clear h E H c7 hp f9 hf
  go_enter Tryz.func146,Tryz.ntmps146
  go_wp2_with fail;refine e2.mono ?_;rintro e O ⟨rfl,⟨k1,b1,e8⟩,w3⟩;have k3:=c2.o k1 b1 O e8
  have J:Hid (MF pb w O/\pb<O.heap.size):=⟨w3,Nat.lt_of_lt_of_le w9.o e8.mf.size⟩
  clear e8 w3 e2 c2;go_wp2_with fail;refine k3.mono ?_;rintro e W2 ⟨p,n,c,rs,a,rfl,g2,f7,h2,f5,hcut,⟨k2,b2,g3⟩,f6⟩;have f3:Hid (TRw W2 pb O.heap.size p n c rs a):=g2
  have e5:Hid ((∀ t ∈ a,t.length<=2001)/\(x.2.ft=none->Cuts a (x.1.map itC))):=⟨f5,hcut⟩
  have c1:Hid (MS w0 pb po co kp kc T L all x.2 k2 b2 W2/\MF pb O W2):=⟨g3,f6⟩
  have d9:=e1.o W2;clear g2 f5 hcut g3 f6 k3 e1;go_wp2_with fail;refine d9.mono ?_;rintro e W3 ⟨q,rfl,ho,hb⟩;have g5:=c1.o.1.below hb;have a5:Hid (CT W3 pb q 1 1 [(2,0,[91,93])]):=ho.ct (Nat.lt_of_lt_of_le J.o.2 c1.o.2.size) (by decide);have b8:Hid (MF pb O W3):=c1.o.2.below hb;have b9:Hid (TRw W3 pb O.heap.size p n c rs a):=f3.o.mf J.o.2 (.of pb hb);have e4:=b7.o x.2 [124] ⟨#[124]⟩ rfl (byte_small (by decide)) k2 b2 W3 g5;clear ho hb g5 c1 f3 d9 b7
  cases hp:x.2.isP [124]
  rotate_right
  case' _=>
   rw[hp,if_pos rfl] at e4;have HV:Hid (R=(lstT y.1 x.1,y.2.must L [93])):=e7.o hp;clear hp e7 x4;go_wp2_with fail;refine e4.mono ?_;rintro e W4 ⟨rfl,⟨k4,b4,g6⟩,d7⟩;have f1:=e6.o k4 b4 W4 g6;have f2:Hid (MF pb O W4):=b8.o.trans d7;have g7:Hid (TRw W4 pb O.heap.size p n c rs a):=b9.o.mf J.o.2 d7;clear g6 d7 e4 e6 b8 a5;go_wp2_with fail;refine f1.mono ?_;rintro e W5 ⟨q5,n5,c5,t5,p5,rfl,c6,c8,x9,⟨k5,b5,w8⟩,Y⟩;have k7:=x5.o y.2 k5 b5 W5 w8
   have h5:Hid (CT W5 pb q5 n5 c5 t5/\t5.length<=2001):=⟨c6,c8⟩
   have x1:Hid (MF pb O W5):=f2.o.trans Y;have x3:Hid (TRw W5 pb O.heap.size p n c rs a):=g7.o.mf J.o.2 Y
   have I:Hid (y.2.ft=none->Cut t5 (itC y.1)/\x.2.ft=none):=fun h0=>⟨x9 h0,b3.o h0⟩
   clear c6 c8 x9 w8 Y f1 f2 b9 x5;go_wp2_with fail;refine k7.mono ?_;rintro e d ⟨rfl,⟨k6,b6,G⟩,U⟩;have e3:=G.c3;have N:Hid (MS w0 pb po co kp kc T L all (y.2.must L [93]) k6 b6 d):=G;have K:Hid (MF pb w d):=J.o.1.trans (x1.o.trans U)
   have A:Hid (CT d pb q5 n5 c5 t5/\(t5).length<=2001):=⟨h5.o.1.move U.sf,h5.o.2⟩
   have M:Hid (TRw d pb O.heap.size p n c rs a):=x3.o.mf J.o.2 U;have d4:Hid (pb<d.heap.size):=Nat.lt_of_lt_of_le w9.o G.mf.size;have x8:=G.bad;clear G U k7 x1 h5 x3
   rcases x8 with ⟨D,h7⟩ | ⟨D,h7,_,_⟩
   rotate_left
   ·have HF:Hid (MCel w0 pb po co kp kc T L all w R.2 (fun t=>Cut t (itC R.1)) (.returned (.slice q5 n5 c5)) d):=by
     have hv:=HV.o;rw[hv];exact⟨q5,n5,c5,t5,rfl,A.o.1,A.o.2,fun h0=>absurd h0 D,⟨k6,b6,N.o⟩,K.o⟩
    obtain⟨bi,rfl⟩:∃ bi:Nat,b6=bi:=⟨b6.toNat,by omega⟩
    clear D h7 N K A M HV I;go_wp2_with fail;go_ret;exact HF.o
   subst h7;have a6:Hid ((y.2.must L [93]).ft=none):=D;obtain⟨h9,Z⟩:=A.o
   have i1:n5<=2001:=by rw[h9.1];exact Z
   obtain⟨g,rfl,h6⟩:=M.o.arow f7;have e9:Hid (∀ (i:Nat) (t:List Cel),a[i]?=some t->∃ q c,d.cell? ⟨g,i,none⟩=some (.slice q t.length c)/\CT d pb q t.length c t):=h6;have HN:Hid (n=a.length):=M.o.1
   have a3:Hid (∀ x ∈ mkL a ++ t5,x.2.2.length<=100):=fun x hx=>by
    rcases List.mem_append.1 hx with hx | hx
    ·obtain⟨u,hu,hxu⟩:=List.mem_flatMap.1 hx
     rcases List.mem_cons.1 hxu with rfl | hxu
     ·show([46]:List Int).length<=100;decide
     ·obtain⟨i,hi,rfl⟩:=List.getElem_of_mem hu
      obtain⟨_,_,_,P⟩:=h6 i _ (List.getElem?_eq_getElem hi);exact P.bd x hxu
    ·exact h9.bd x hx
   have c4:Hid (∀ W7 r m B,CT W7 pb r m B ((mkL a ++ t5).take 2001)->m<=2001->Below d.heap.size d W7->MCel w0 pb po co kp kc T L all w R.2 (fun t=>Cut t (itC R.1)) (.returned (.slice r m B)) W7):=fun W7 r m B P hm hb=>by
    rw[HV.o];have w1:=fk_must L [93] y.2 a6.o;refine⟨r,m,B,_,rfl,P,by rw[<-P.1];exact hm,fun _=>?_,⟨k6,-1,N.o.below hb⟩,K.o.below hb⟩;exact lst_cut (e5.o.2 (I.o w1).2) (I.o w1).1
   clear D h9 Z h6 M N K HV I;go_wp2_with fail
   go_loopw [5,6] (fun o i wr=>∃ (j:Nat) (r:Option Addr) (m B:Nat),j<=n/\m<=2002 * j/\i = .int .i64 j/\o = .slice r m B/\Hid (RwM d pb wr r m B (mkL (a.take j)))/\Hid (Below d.heap.size d wr)) (fun _ i _=>n-(intOf i).toNat)
   case atStart=>exact⟨0,none,0,0,Nat.zero_le _,by decide,rfl,rfl,RwM.nil _ _ _,Below.refl _ _⟩
   case' round=>
    obtain⟨j,r,m,B,hj,hm,rfl,rfl,HO,HB⟩:=hrel
    by_cases d6:j<n
    ·have Q:j<a.length:=by rw[<-HN.o];exact d6
     have x7:Below wr.heap.size wr (wr.alloc (.cells #[.int .u8 46] 5 (1,2))):=(Below.refl _ _).alloc (Nat.le_refl _) _;have C:Below (wr.alloc (.cells #[.int .u8 46] 5 (1,2))).heap.size (wr.alloc (.cells #[.int .u8 46] 5 (1,2))) ((wr.alloc (.cells #[.int .u8 46] 5 (1,2))).alloc (Obj.cells #[Value.int IntKind.i64 3,Value.int IntKind.i64 2,Value.slice (some ⟨wr.heap.size,0,none⟩) 1 1] 102)):=(Below.refl _ _).alloc (Nat.le_refl _) _;have a2:Hid (Below wr.heap.size wr ((wr.alloc (.cells #[.int .u8 46] 5 (1,2))).alloc (Obj.cells #[Value.int IntKind.i64 3,Value.int IntKind.i64 2,Value.slice (some ⟨wr.heap.size,0,none⟩) 1 1] 102))):=Below.on x7 C;have d5:Hid (MTx d pb ((wr.alloc (.cells #[.int .u8 46] 5 (1,2))).alloc (Obj.cells #[Value.int IntKind.i64 3,Value.int IntKind.i64 2,Value.slice (some ⟨wr.heap.size,0,none⟩) 1 1] 102)) (some ⟨wr.heap.size,0,none⟩) [46]):=.inr ⟨1,((dot_text wr).below C).mono HB.o.size⟩
     have a9:Hid (∀ j u,(rcV (3,2,some ⟨wr.heap.size,0,none⟩,1,1))[j]?=some u->((wr.alloc (.cells #[.int .u8 46] 5 (1,2))).alloc (Obj.cells #[Value.int IntKind.i64 3,Value.int IntKind.i64 2,Value.slice (some ⟨wr.heap.size,0,none⟩) 1 1] 102)).cell? ((⟨wr.heap.size+1,0,none⟩:Addr).add j)=some u):=fun j u hj=>by
      have:=cells_one (wr.alloc (.cells #[.int .u8 46] 5 (1,2))) _ (.int .i64 3) (.int .i64 2) (.slice (some ⟨wr.heap.size,0,none⟩) 1 1) rfl j u hj;rw[World.size_alloc] at this;exact this
     obtain⟨qi,ci,y1,y2⟩:=e9.o j a[j] (List.getElem?_eq_getElem Q);have X:=e5.o.1 a[j] (List.getElem_mem Q)
     have x2:Hid (mkL (a.take (j+1))=mkL (a.take j) ++ [dot] ++ a[j]):=by
      show _=_
      rw[mkL_take a j Q,List.getD,List.getElem?_eq_getElem Q];rfl
     generalize a[j]=t at y1 y2 X x2
     have k9:Hid (CT d pb qi t.length ci t):=y2
     obtain⟨lt,x6⟩:∃ lt,lt=t.length:=⟨_,rfl⟩
     rw[<-x6] at y1 X k9;have Y1:Hid (d.cell? ⟨g,j,none⟩=some (.slice qi lt ci)):=y1
     have g8:(0:Int)<=(j:Int):=by omega
     have g9:(j:Int)<(n:Int):=by omega
     clear x7 C y1 y2 x6;go_wp2_with (at_builtin;first | (refine app_rw1 d _ rfl _ _ rfl wr r m B _ rfl HO.o HB.o a2.o ⟨wr.heap.size+1,0,none⟩ 1 rfl 3 2 (some ⟨wr.heap.size,0,none⟩) 1 [46] d5.o a9.o (by omega) ?_;intro g1 n1 V w2 w6 h8 h2;have d1:Hid (RwM d pb w2 (some ⟨g1,0,none⟩) n1 V (mkL (a.take j) ++ [(3,2,[46])])):=w6;have c9:Hid (Below d.heap.size d w2):=h8;have a7:Hid (n1=m+1):=h2;have f8:n1<=30000000:=(by have:=h2.o;omega);have z1:w2.cell? ⟨g,j,none⟩=some (.slice qi lt ci):=(h8.cell (World.block_lt_of_cell? _ _ Y1.o)).trans Y1.o;clear w6 h8 h2) | (refine app_rw d w2 rfl _ _ rfl (some ⟨g1,0,none⟩) n1 V _ rfl d1.o c9.o qi lt ci t rfl k9.o (by omega) ?_;intro g4 n4 l w4 F v z))
     have d2:Hid (RwM d pb w4 (some ⟨g4,0,none⟩) n4 l (mkL (a.take (j+1)))):=by rw[x2.o];exact F
     have a1:Hid (Below d.heap.size d w4):=v;have a8:Hid (n4=n1+lt):=z
     have w5:n4<=2002 * (j+1):=by have:=a8.o;have:=a7.o;omega
     clear F v z;go_roundw
     case rel=>exact⟨j+1,_,n4,l,by omega,w5,by go_num,rfl,d2,a1⟩
     case measure=>simp[intOf];omega
    obtain rfl:j=n:=by omega
    have d3:Hid (RwM d pb wr r m B (mkL a)):=by have:=HO.o;rwa[List.take_of_length_le (by rw[<-HN.o];exact Nat.le_refl _)] at this
    have k8:Hid (CT d pb q5 n5 c5 t5):=A.o.1;clear HO e9 e5;go_wp2_with (at_builtin;refine app_rw d wr rfl _ _ rfl r m B _ rfl d3.o HB.o q5 n5 c5 t5 rfl k8.o (by omega) ?_;intro g4 n4 l w4 F v z;have a4:=l4cut_any (F.ct d4.o (SF.of pb v) (by have:=k8.o.2.1;have:=z.o;omega) a3.o) (by have:=z.o;omega);have d8:Hid (Below d.heap.size d w4):=v;clear F v z)
  rotate_right
  case' _=>
   rw[hp,if_neg (by decide)] at e4;have HV:Hid (R=(lstT nilT x.1,x.2.must L [93])):=x4.o hp;clear hp e7 x4 e6;go_wp2_with fail;refine e4.mono ?_;rintro e W5 ⟨rfl,⟨k5,b5,w8⟩,Y⟩;have k7:=x5.o x.2 k5 b5 W5 w8
   have h5:Hid (CT W5 pb q 1 1 [(2,0,[91,93])]/\[((2:Int),(0:Int),([91,93]:List Int))].length<=2001):=⟨a5.o.move Y.sf,by decide⟩
   have x1:Hid (MF pb O W5):=b8.o.trans Y;have x3:Hid (TRw W5 pb O.heap.size p n c rs a):=b9.o.mf J.o.2 Y
   have I:Hid (x.2.ft=none->Cut [((2:Int),(0:Int),([91,93]:List Int))] (itC nilT)/\x.2.ft=none):=fun h0=>⟨rfl,h0⟩
   clear w8 Y e4 b8 b9 a5 x5;go_wp2_with fail;refine k7.mono ?_;rintro e d ⟨rfl,⟨k6,b6,G⟩,U⟩;have e3:=G.c3;have N:Hid (MS w0 pb po co kp kc T L all (x.2.must L [93]) k6 b6 d):=G;have K:Hid (MF pb w d):=J.o.1.trans (x1.o.trans U)
   have A:Hid (CT d pb q 1 1 [((2:Int),(0:Int),([91,93]:List Int))]/\([((2:Int),(0:Int),([91,93]:List Int))]).length<=2001):=⟨h5.o.1.move U.sf,h5.o.2⟩
   have M:Hid (TRw d pb O.heap.size p n c rs a):=x3.o.mf J.o.2 U;have d4:Hid (pb<d.heap.size):=Nat.lt_of_lt_of_le w9.o G.mf.size;have x8:=G.bad;clear G U k7 x1 h5 x3
   rcases x8 with ⟨D,h7⟩ | ⟨D,h7,_,_⟩
   rotate_left
   ·have HF:Hid (MCel w0 pb po co kp kc T L all w R.2 (fun t=>Cut t (itC R.1)) (.returned (.slice q 1 1)) d):=by
     have hv:=HV.o;rw[hv];exact⟨q,1,1,[((2:Int),(0:Int),([91,93]:List Int))],rfl,A.o.1,A.o.2,fun h0=>absurd h0 D,⟨k6,b6,N.o⟩,K.o⟩
    obtain⟨bi,rfl⟩:∃ bi:Nat,b6=bi:=⟨b6.toNat,by omega⟩
    clear D h7 N K A M HV I;go_wp2_with fail;go_ret;exact HF.o
   subst h7;have a6:Hid ((x.2.must L [93]).ft=none):=D;obtain⟨h9,Z⟩:=A.o
   have i1:1<=2001:=by rw[h9.1];exact Z
   obtain⟨g,rfl,h6⟩:=M.o.arow f7;have e9:Hid (∀ (i:Nat) (t:List Cel),a[i]?=some t->∃ q c,d.cell? ⟨g,i,none⟩=some (.slice q t.length c)/\CT d pb q t.length c t):=h6;have HN:Hid (n=a.length):=M.o.1
   have a3:Hid (∀ x ∈ mkL a ++ [((2:Int),(0:Int),([91,93]:List Int))],x.2.2.length<=100):=fun x hx=>by
    rcases List.mem_append.1 hx with hx | hx
    ·obtain⟨u,hu,hxu⟩:=List.mem_flatMap.1 hx
     rcases List.mem_cons.1 hxu with rfl | hxu
     ·show([46]:List Int).length<=100;decide
     ·obtain⟨i,hi,rfl⟩:=List.getElem_of_mem hu
      obtain⟨_,_,_,P⟩:=h6 i _ (List.getElem?_eq_getElem hi);exact P.bd x hxu
    ·exact h9.bd x hx
   have c4:Hid (∀ W7 r m B,CT W7 pb r m B ((mkL a ++ [((2:Int),(0:Int),([91,93]:List Int))]).take 2001)->m<=2001->Below d.heap.size d W7->MCel w0 pb po co kp kc T L all w R.2 (fun t=>Cut t (itC R.1)) (.returned (.slice r m B)) W7):=fun W7 r m B P hm hb=>by
    rw[HV.o];have w1:=fk_must L [93] x.2 a6.o;refine⟨r,m,B,_,rfl,P,by rw[<-P.1];exact hm,fun _=>?_,⟨k6,-1,N.o.below hb⟩,K.o.below hb⟩;exact lst_cut (e5.o.2 (I.o w1).2) (I.o w1).1
   clear D h9 Z h6 M N K HV I;go_wp2_with fail
   go_loopw [5,6] (fun o i wr=>∃ (j:Nat) (r:Option Addr) (m B:Nat),j<=n/\m<=2002 * j/\i = .int .i64 j/\o = .slice r m B/\Hid (RwM d pb wr r m B (mkL (a.take j)))/\Hid (Below d.heap.size d wr)) (fun _ i _=>n-(intOf i).toNat)
   case atStart=>exact⟨0,none,0,0,Nat.zero_le _,by decide,rfl,rfl,RwM.nil _ _ _,Below.refl _ _⟩
   case' round=>
    obtain⟨j,r,m,B,hj,hm,rfl,rfl,HO,HB⟩:=hrel
    by_cases d6:j<n
    ·have Q:j<a.length:=by rw[<-HN.o];exact d6
     have x7:Below wr.heap.size wr (wr.alloc (.cells #[.int .u8 46] 5 (1,2))):=(Below.refl _ _).alloc (Nat.le_refl _) _;have C:Below (wr.alloc (.cells #[.int .u8 46] 5 (1,2))).heap.size (wr.alloc (.cells #[.int .u8 46] 5 (1,2))) ((wr.alloc (.cells #[.int .u8 46] 5 (1,2))).alloc (Obj.cells #[Value.int IntKind.i64 3,Value.int IntKind.i64 2,Value.slice (some ⟨wr.heap.size,0,none⟩) 1 1] 102)):=(Below.refl _ _).alloc (Nat.le_refl _) _;have a2:Hid (Below wr.heap.size wr ((wr.alloc (.cells #[.int .u8 46] 5 (1,2))).alloc (Obj.cells #[Value.int IntKind.i64 3,Value.int IntKind.i64 2,Value.slice (some ⟨wr.heap.size,0,none⟩) 1 1] 102))):=Below.on x7 C;have d5:Hid (MTx d pb ((wr.alloc (.cells #[.int .u8 46] 5 (1,2))).alloc (Obj.cells #[Value.int IntKind.i64 3,Value.int IntKind.i64 2,Value.slice (some ⟨wr.heap.size,0,none⟩) 1 1] 102)) (some ⟨wr.heap.size,0,none⟩) [46]):=.inr ⟨1,((dot_text wr).below C).mono HB.o.size⟩
     have a9:Hid (∀ j u,(rcV (3,2,some ⟨wr.heap.size,0,none⟩,1,1))[j]?=some u->((wr.alloc (.cells #[.int .u8 46] 5 (1,2))).alloc (Obj.cells #[Value.int IntKind.i64 3,Value.int IntKind.i64 2,Value.slice (some ⟨wr.heap.size,0,none⟩) 1 1] 102)).cell? ((⟨wr.heap.size+1,0,none⟩:Addr).add j)=some u):=fun j u hj=>by
      have:=cells_one (wr.alloc (.cells #[.int .u8 46] 5 (1,2))) _ (.int .i64 3) (.int .i64 2) (.slice (some ⟨wr.heap.size,0,none⟩) 1 1) rfl j u hj;rw[World.size_alloc] at this;exact this
     obtain⟨qi,ci,y1,y2⟩:=e9.o j a[j] (List.getElem?_eq_getElem Q);have X:=e5.o.1 a[j] (List.getElem_mem Q)
     have x2:Hid (mkL (a.take (j+1))=mkL (a.take j) ++ [dot] ++ a[j]):=by
      show _=_
      rw[mkL_take a j Q,List.getD,List.getElem?_eq_getElem Q];rfl
     generalize a[j]=t at y1 y2 X x2
     have k9:Hid (CT d pb qi t.length ci t):=y2
     obtain⟨lt,x6⟩:∃ lt,lt=t.length:=⟨_,rfl⟩
     rw[<-x6] at y1 X k9;have Y1:Hid (d.cell? ⟨g,j,none⟩=some (.slice qi lt ci)):=y1
     have g8:(0:Int)<=(j:Int):=by omega
     have g9:(j:Int)<(n:Int):=by omega
     clear x7 C y1 y2 x6;go_wp2_with (at_builtin;first | (refine app_rw1 d _ rfl _ _ rfl wr r m B _ rfl HO.o HB.o a2.o ⟨wr.heap.size+1,0,none⟩ 1 rfl 3 2 (some ⟨wr.heap.size,0,none⟩) 1 [46] d5.o a9.o (by omega) ?_;intro g1 n1 V w2 w6 h8 h2;have d1:Hid (RwM d pb w2 (some ⟨g1,0,none⟩) n1 V (mkL (a.take j) ++ [(3,2,[46])])):=w6;have c9:Hid (Below d.heap.size d w2):=h8;have a7:Hid (n1=m+1):=h2;have f8:n1<=30000000:=(by have:=h2.o;omega);have z1:w2.cell? ⟨g,j,none⟩=some (.slice qi lt ci):=(h8.cell (World.block_lt_of_cell? _ _ Y1.o)).trans Y1.o;clear w6 h8 h2) | (refine app_rw d w2 rfl _ _ rfl (some ⟨g1,0,none⟩) n1 V _ rfl d1.o c9.o qi lt ci t rfl k9.o (by omega) ?_;intro g4 n4 l w4 F v z))
     have d2:Hid (RwM d pb w4 (some ⟨g4,0,none⟩) n4 l (mkL (a.take (j+1)))):=by rw[x2.o];exact F
     have a1:Hid (Below d.heap.size d w4):=v;have a8:Hid (n4=n1+lt):=z
     have w5:n4<=2002 * (j+1):=by have:=a8.o;have:=a7.o;omega
     clear F v z;go_roundw
     case rel=>exact⟨j+1,_,n4,l,by omega,w5,by go_num,rfl,d2,a1⟩
     case measure=>simp[intOf];omega
    obtain rfl:j=n:=by omega
    have d3:Hid (RwM d pb wr r m B (mkL a)):=by have:=HO.o;rwa[List.take_of_length_le (by rw[<-HN.o];exact Nat.le_refl _)] at this
    have k8:Hid (CT d pb q 1 1 [((2:Int),(0:Int),([91,93]:List Int))]):=A.o.1;clear HO e9 e5;go_wp2_with (at_builtin;refine app_rw d wr rfl _ _ rfl r m B _ rfl d3.o HB.o q 1 1 [((2:Int),(0:Int),([91,93]:List Int))] rfl k8.o (by omega) ?_;intro g4 n4 l w4 F v z;have a4:=l4cut_any (F.ct d4.o (SF.of pb v) (by have:=k8.o.2.1;have:=z.o;omega) a3.o) (by have:=z.o;omega);have d8:Hid (Below d.heap.size d w4):=v;clear F v z)
  all_goals
   refine a4.mono ?_;rintro e w7 ⟨m7,rfl,h3,h4,rfl⟩;have HF:Hid (MCel w0 pb po co kp kc T L all w R.2 (fun t=>Cut t (itC R.1)) (.returned (.slice (some ⟨g4,0,none⟩) m7 l)) w7):=c4.o w7 _ m7 l h3 h4 d8.o;clear h3 h4 a4;go_wp2_with fail;go_ret;exact HF.o
end
end Go.Proofs.YtlkhmmoimplokaaGreatDoor
