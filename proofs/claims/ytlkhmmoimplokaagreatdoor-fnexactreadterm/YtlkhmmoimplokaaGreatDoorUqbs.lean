/- Texts of RdY, RdZ, ReA, ReB, ReC, ReD. Own work of the verifier. -/
import Derived.Test.YtlkhmmoimplokaaGreatDoorUqbr
namespace Go.Proofs.YtlkhmmoimplokaaGreatDoor
set_option maxHeartbeats 4000000
set_option maxRecDepth 100000
open Go Go.RowKit Go.Maps
set_option linter.unusedVariables false
set_option linter.unusedSimpArgs false
section
variable {w0:World}{rb kb kc:Nat}{ov sv:Value}{T:List Cel}{L:Int}{all:List Tok}{k:Nat}{ft:Option (Int×Int)}{w:World}
theorem takeP_any (P:PEnv w0 rb kb kc ov sv T L all)(h:RP w0 rb kb kc ov sv all k ft w)(C:all.drop k = []):Calls Tryz.prog 71 #[ptrR rb] w fun e O=>∃ p c,e = .returned (tokVR (senT L) p c)/\Below w.heap.size w O:=by
 have j:=nextP_any P (h.below (new_low w zTok));rw[C,List.headD_nil] at j;have M:rb<w.heap.size:=Nat.lt_of_lt_of_le P.lt.1 h.sty.size
 have D:rb≠w.heap.size:=by omega
 have r:(senT L).1.1=0:=rfl
 obtain⟨⟨⟨N,d,tl,f⟩,s⟩,q⟩:∃ t,senT L=t:=⟨_,rfl⟩
 rw[q] at j r;have F:Hid (senT L=((N,d,tl,f),s)):=q
 obtain⟨l,n⟩:∃ l,l=s.length:=⟨_,rfl⟩
 have E:Hid (l=s.length):=n;simp only[tokVR] at j r;rw[<-n] at j;clear h P q n C;obtain rfl:=r
 go_enter Tryz.func71,Tryz.ntmps71
 go_wp2_with fail;refine j.mono ?_;rintro e W ⟨p,c,rfl,m⟩;have b:W.heap[w.heap.size]?=some zTok:=(m.block _ (by simp)).trans (heap_alloc_new w zTok);have u:Hid (Below w.heap.size w W):=Below.on (new_low w zTok) m
 have x:W.cell? ⟨w.heap.size,0,none⟩=some (.int .i64 0):=by unfold World.cell?;rw[b];rfl
 have y:W.cell? ⟨w.heap.size,1,none⟩=some (.int .i64 0):=by unfold World.cell?;rw[b];rfl
 have z:W.cell? ⟨w.heap.size,2,none⟩=some (.int .i64 0):=by unfold World.cell?;rw[b];rfl
 have A:W.cell? ⟨w.heap.size,3,none⟩=some (.slice none 0 0):=by unfold World.cell?;rw[b];rfl
 have B:W.cell? ⟨w.heap.size,4,none⟩=some (.int .i64 0):=by unfold World.cell?;rw[b];rfl
 have g:∀ i,W.frozen? ⟨w.heap.size,i,none⟩=false:=fun i=>by unfold World.frozen?;rw[b];simp
 have G:=g 0;have H:=g 1;have I:=g 2;have J:=g 3;have K:=g 4
 have a:w.heap.size<W.heap.size:=by have:=m.size;simp at this;omega
 have Q:=((new_low W (.cells #[.int .i64 0,.int .i64 d,.int .i64 tl,.slice p l c,.int .i64 f] 86)).cell (p:=⟨w.heap.size,0,none⟩) a).trans x;have V:=((new_low W (.cells #[.int .i64 0,.int .i64 d,.int .i64 tl,.slice p l c,.int .i64 f] 86)).frozen (p:=⟨w.heap.size,0,none⟩) a).trans (g 0);have q1:=((new_low W (.cells #[.int .i64 0,.int .i64 d,.int .i64 tl,.slice p l c,.int .i64 f] 86)).cell (p:=⟨w.heap.size,1,none⟩) a).trans y;have X:=((new_low W (.cells #[.int .i64 0,.int .i64 d,.int .i64 tl,.slice p l c,.int .i64 f] 86)).frozen (p:=⟨w.heap.size,1,none⟩) a).trans (g 1);have R:=((new_low W (.cells #[.int .i64 0,.int .i64 d,.int .i64 tl,.slice p l c,.int .i64 f] 86)).cell (p:=⟨w.heap.size,2,none⟩) a).trans z;have Y:=((new_low W (.cells #[.int .i64 0,.int .i64 d,.int .i64 tl,.slice p l c,.int .i64 f] 86)).frozen (p:=⟨w.heap.size,2,none⟩) a).trans (g 2)
 have S:=((new_low W (.cells #[.int .i64 0,.int .i64 d,.int .i64 tl,.slice p l c,.int .i64 f] 86)).cell (p:=⟨w.heap.size,3,none⟩) a).trans A;have Z:=((new_low W (.cells #[.int .i64 0,.int .i64 d,.int .i64 tl,.slice p l c,.int .i64 f] 86)).frozen (p:=⟨w.heap.size,3,none⟩) a).trans (g 3);have U:=((new_low W (.cells #[.int .i64 0,.int .i64 d,.int .i64 tl,.slice p l c,.int .i64 f] 86)).cell (p:=⟨w.heap.size,4,none⟩) a).trans B;have z4:=((new_low W (.cells #[.int .i64 0,.int .i64 d,.int .i64 tl,.slice p l c,.int .i64 f] 86)).frozen (p:=⟨w.heap.size,4,none⟩) a).trans (g 4);clear m j b;go_wp2_with fail;have hF:=(low_put5 u.o (Nat.le_refl _) (.int .i64 0) (.int .i64 d) (.int .i64 tl) (.slice p l c) (.int .i64 f)).alloc (by simpa using u.o.size) (.cells #[.int .i64 0,.int .i64 d,.int .i64 tl,.slice p l c,.int .i64 f] 86)
 exact bodyPost_ret (v:=.agg #[.int .i64 0,.int .i64 d,.int .i64 tl,.slice p l c,.int .i64 f]) (by simp[results,Tryz.results71,go_sem,a,x,y,z,A,B]) rfl ⟨p,c,by rw[F.o,E.o],hF⟩
theorem stopP_any (P:PEnv w0 rb kb kc ov sv T L all)(h:RP w0 rb kb kc ov sv all k ft w):Calls Tryz.prog 70 #[ptrR rb] w fun e a=>e = .returned (.tuple #[.iface 154 (.string ⟨#[91,93]⟩),.int .i64 0])/\RP w0 rb kb kc ov sv all all.length (flF ft 2 ((all.drop k).headD (senT L)).1.2.1) a/\Sty rb rb w a:=by
 have d:=nextP_any P h
 have b:Hid (∀ W,Below w.heap.size w W->Calls Tryz.prog 59 #[ptrR rb,.int .i64 2,.int .i64 ((all.drop k).headD (senT L)).1.2.1] W fun e a=>e = .returned (.tuple #[])/\RP w0 rb kb kc ov sv all all.length (flF ft 2 ((all.drop k).headD (senT L)).1.2.1) a/\Sty rb rb W a):=fun W r=>failP_any P (h.below r) 2 _ (by decide)
 clear h P
 generalize (all.drop k).headD (senT L)=t at *
 obtain⟨⟨v,u,tl,x⟩,y⟩:=t;simp only[tokVR] at d b ⊢;have s:=fieldT1
 go_enter Tryz.func70,Tryz.ntmps70
 go_wp2_with fail;refine d.mono ?_;rintro e W ⟨p,c,rfl,f⟩;have g:=b.o W f;have l:Hid (Below w.heap.size w W):=f;clear d f b;go_wp2_with fail;refine g.mono ?_;rintro e q ⟨rfl,i,j⟩;have n:Hid _:=i;have m:Hid (Sty rb rb w q):=(Sty.of rb l.o).up j;clear g i j;go_wp2_with fail
 go_ret2
 exact⟨rfl,n.o,m.o⟩
theorem left_kd (P:PEnv w0 rb kb kc ov sv T L all)(k:Nat):((all.drop k).headD (senT L)).1.1=0↔all.drop k = []:=by
 cases a:all.drop k with
 | nil=>simp[senT]
 | cons t r=>
   have:=(P.tg t (List.mem_of_mem_drop (by rw[a];simp))).kd;simp only[List.headD_cons]
   constructor
   ·intro h;omega
   ·intro h;cases h
theorem mustP_any (P:PEnv w0 rb kb kc ov sv T L all)(h:RP w0 rb kb kc ov sv all k ft w):Calls Tryz.prog 33 #[ptrR rb,.int .i64 0] w fun e f=>e = .returned (.tuple #[])/\Sty rb rb w f/\(if all.drop k = [] then RP w0 rb kb kc ov sv all k ft f else RP w0 rb kb kc ov sv all all.length (flF ft 2 ((all.drop k).headD (senT L)).1.2.1) f):=by
 have i:=nextP_any P h;have d:=left_kd P k
 have a:Hid (∀ W,Below w.heap.size w W->Calls Tryz.prog 70 #[ptrR rb] W fun e f=>e = .returned (.tuple #[.iface 154 (.string ⟨#[91,93]⟩),.int .i64 0])/\RP w0 rb kb kc ov sv all all.length (flF ft 2 ((all.drop k).headD (senT L)).1.2.1) f/\Sty rb rb W f):=fun W J=>stopP_any P (h.below J)
 have j:Hid (∀ W k ft,RP w0 rb kb kc ov sv all k ft W->all.drop k = []->Calls Tryz.prog 71 #[ptrR rb] W fun e f=>∃ p c,e = .returned (tokVR (senT L) p c)/\Below W.heap.size W f):=fun W k ft q n=>takeP_any P q n
 have B:Hid (RP w0 rb kb kc ov sv all k ft w):=h;have K:=fieldT0;clear h P
 obtain⟨⟨⟨A,F,tl,V⟩,X⟩,E⟩:∃ t,(all.drop k).headD (senT L)=t:=⟨_,rfl⟩
 rw[E] at i d a ⊢
 obtain⟨⟨⟨Q,O,R,S⟩,U⟩,D⟩:∃ t,senT L=t:=⟨_,rfl⟩
 rw[D] at j;simp only[tokVR] at i a j d ⊢;have C:Hid (A=0↔all.drop k = []):=d;clear E D d
 by_cases u:A=0
 ·have n:=C.o.1 u
  simp only[if_pos n];subst u;have H:Hid (all.drop k = []):=n;clear n
  go_enter Tryz.func33,Tryz.ntmps33
  go_wp2_with fail;refine i.mono ?_;rintro e W ⟨p,c,rfl,g⟩;have l:=j.o W k ft (B.o.below g) H.o;have v:Hid (Below w.heap.size w W):=g;clear i g j a;go_wp2_with fail;refine l.mono ?_;rintro e s ⟨N,I,rfl,b⟩;have r:Hid (Below w.heap.size w s):=Below.on v.o b;clear l b;go_wp2_with fail
  go_end0
  exact⟨rfl,Sty.of rb r.o,B.o.below r.o⟩
 ·simp only[if_neg (fun h=>u (C.o.2 h):¬ all.drop k = [])]
  have M:(A == 0)=false:=by simpa using u
  go_enter Tryz.func33,Tryz.ntmps33
  go_wp2_with fail;refine i.mono ?_;rintro e W ⟨p,c,rfl,g⟩;have l:=a.o W g;have v:Hid (Below w.heap.size w W):=g;clear i g a;go_wp2_with fail;refine l.mono ?_;rintro e z ⟨rfl,q,b⟩;have m:=j.o z _ _ q (by simp);have r:Hid (Sty rb rb w z):=(Sty.of rb v.o).up b;have G:Hid (RP w0 rb kb kc ov sv all all.length (flF ft 2 F) z):=q;clear l q b j;go_wp2_with fail;refine m.mono ?_;rintro e s ⟨N,I,rfl,b⟩;have y:Hid (RP w0 rb kb kc ov sv all all.length (flF ft 2 F) s):=G.o.below b;have x:Hid (Sty rb rb w s):=r.o.below b;clear m b;go_wp2_with fail
  go_end0
  exact⟨rfl,x.o,y.o⟩
end
section
variable {w0:World}{rb kb kc:Nat}{ov sv:Value}{T:List Cel}{L:Int}{all:List Tok}{k:Nat}{ft:Option (Int×Int)}{w:World}
def SeOut (w0:World)(rb kb kc:Nat)(ov sv:Value)(L:Int)(all:List Tok)(w:World)(at0:Int)(x:Tr)(s1:RS)(e:Ending)(w':World):Prop:=
 ∃ v p n c k' B,e = .returned (.agg #[v,.slice p n c,.int .i64 at0])/\FoB w' w.heap.size x.fo [v]/\okH x.fo/\x.2.cells.length<=3000000/\w.heap.size<=B/\OwnV w' B p n c s1.ns/\RP w0 rb kb kc ov sv all k' s1.ft w'/\s1.ts=all.drop k'/\Sty rb rb w w'
theorem sentP_any (P:PEnv w0 rb kb kc ov sv T L all)(h:RP w0 rb kb kc ov sv all k ft w):Calls Tryz.prog 32 #[ptrR rb] w (SeOut w0 rb kb kc ov sv L all w ((⟨all.drop k,[],ft⟩:RS).pl L) (rdR T L (all.length+1) 1200 ⟨all.drop k,[],ft⟩).1 ((rdR T L (all.length+1) 1200 ⟨all.drop k,[],ft⟩).2.mustBe L 7)):=by
 have q:GoS ⟨all.drop k,[],ft⟩:=⟨fun t g=>P.tg t (List.mem_of_mem_drop g),by have:=P.len;simp;omega⟩
 have d:=rd_ok (T:=T) (fun c o=>(P.tab c o).2.2) L (all.length+1) 1200 ⟨all.drop k,[],ft⟩ q;have f:=(rd_g T L (all.length+1) 1200 ⟨all.drop k,[],ft⟩).sz;have u:=wgt_le (all.drop k) (fun t g=>P.tg t (List.mem_of_mem_drop g));have B:=P.len;refine(sentence_any P h).mono ?_;rintro e F ⟨y,E,v,p,n,c,l,rfl,rfl,A,s,i,hF,⟨x,b⟩,m,j⟩;obtain⟨D,C,z,a,r⟩:=b.c4;rw[m] at a;simp only[Option.some.injEq,Value.slice.injEq] at a;obtain⟨rfl,rfl,rfl⟩:=a;refine⟨v,p,n,c,x,y.heap.size,rfl,hF,d,?_,i,r,b.rp (h.sty.up j),b.ts.2,j⟩;simp only[itC,List.length_cons,List.length_drop] at f u
 omega
end
def NewR (w:World)(T:List Cel)(L:Int)(all:List Tok)(ft:Option (Int×Int))(e:Ending)(w':World):Prop:=
 ∃ rb kb kc ov sv,e = .returned (ptrR rb)/\w.heap.size<=rb/\PEnv w' rb kb kc ov sv T L all/\RP w' rb kb kc ov sv all 0 ft w'/\Below w.heap.size w w'
def rtF (L:Int)(x:Tr)(s1:RS):Option (Int×Int):=
 if validB (itC x)=true then(if s1.ts = [] then s1.ft else flF s1.ft 2 (s1.pl L)) else flF (if s1.ts = [] then s1.ft else flF s1.ft 2 (s1.pl L)) 3 0
def RtOut (w:World)(x:Tr)(ns:List (List Int))(f:Option (Int×Int))(e:Ending)(w':World):Prop:=
 Below w.heap.size w w'/\((f=none/\∃ wn B q m cm p n c,e = .returned (.tuple #[.agg #[.slice q m cm,.slice p n c,.int .i64 0],.int .i64 0,.int .i64 0])/\(w.heap.size<=B/\w.heap.size<=wn.heap.size)/\OwnV wn B p n c ns/\wn.heap.size<=w'.heap.size/\(∀ j,B<=j->j<wn.heap.size->w'.heap[j]?=wn.heap[j]?)/\OwnC w' wn.heap.size q m cm (itC x))∨
  ∃ c a,f=some (c,a)/\e = .returned (.tuple #[.agg #[.slice none 0 0,.slice none 0 0,.int .i64 0],.int .i64 c,.int .i64 a]))
theorem Sty.fr {rb:Nat}{w a:World}(h:Sty rb rb w a):RFr rb rb w a:=⟨h.os,h.tape,h.output,h.size,fun j d b c _=>h.block j d b c⟩
theorem Sty.put1 {rb q:Nat}{w b:World}(h:Sty rb rb w b)(f:w.heap.size<=q)(o:Nat)(a:Value):Sty rb rb w (b.setCell ⟨q,o,none⟩ a):=⟨h.os,h.tape,h.output,by simpa using h.size,fun j e c d=>(Below.heap_setCell _ _ _ _ (by show j≠q;omega)).trans (h.block j e c d)⟩
theorem Sty.low {rb B:Nat}{w a:World}(h:Sty rb rb w a)(b:B<=rb)(c:B<=w.heap.size):Below B w a:=⟨h.os,h.tape,h.output,h.size,fun j d=>h.block j (by omega) (by omega) (by omega)⟩
theorem RP.tree {w0:World}{rb kb kc:Nat}{ov sv:Value}{all:List Tok}{k:Nat}{ft:Option (Int×Int)}{w d:World}(h:RP w0 rb kb kc ov sv all k ft w)(f:∃ o,ov = .map o)(g:Sty rb rb w d){B:Nat}{F:Fo}{b:List Value}(i:FoB w B F b):FoB d B F b:=by
 have a:∀ q v,w.cell? ⟨q,0,none⟩=some v->(∀ o,v≠.map o)->q≠rb/\q≠rb:=fun q v c j=>by
  have:q≠rb:=fun e=>by
   subst e;obtain⟨o,rfl⟩:=f;rw[h.c0] at c;exact j o (Option.some.inj c).symm
  exact⟨this,this⟩
 exact FoB.moveR a g.fr F b i
theorem readTerm_any (M N:Value)(w:World){T:List Cel}{L:Int}{all:List Tok}{ft:Option (Int×Int)}(HN:Calls Tryz.prog 31 #[M,N] (w.alloc zCla) (NewR (w.alloc zCla) T L all ft)) :
  Calls Tryz.prog 9 #[M,N] w (RtOut w (rdR T L (all.length+1) 1200 ⟨all,[],ft⟩).1 ((rdR T L (all.length+1) 1200 ⟨all,[],ft⟩).2.mustBe L 7).ns (rtF L (rdR T L (all.length+1) 1200 ⟨all,[],ft⟩).1 ((rdR T L (all.length+1) 1200 ⟨all,[],ft⟩).2.mustBe L 7))):=by
 go_enter Tryz.func9,Tryz.ntmps9
 go_wp2_with fail;refine HN.mono ?_;rintro e g ⟨rb,kb,kc,ov,sv,rfl,k7,P,e7,k1⟩;have HC:=sentP_any P e7;rw[List.drop_zero] at HC
 generalize ex:(rdR T L (all.length+1) 1200 ⟨all,[],ft⟩).1=x at *
 generalize es:((rdR T L (all.length+1) 1200 ⟨all,[],ft⟩).2.mustBe L 7)=s1 at *
 generalize (⟨all,[],ft⟩:RS).pl L=at0 at *
 have HP:Hid (PEnv g rb kb kc ov sv T L all):=P;have R:Hid (Below (w.alloc zCla).heap.size (w.alloc zCla) g):=k1
 have w3:w.heap.size+1<=rb:=by simpa using k7
 clear HN P e7 k1 k7 ex es;go_wp2_with fail;refine HC.mono ?_;rintro e a ⟨v,p,n,c,k2,B,rfl,Z,k6,hl,hB,k5,e8,x1,G⟩;obtain⟨O,Q,rfl⟩:=foC_iface Z
 have K:w.heap.size+1<=g.heap.size:=by have:=R.o.size;simpa using this
 have I:=G.size;have x2:g.heap[w.heap.size]?=some zCla:=(R.o.block _ (by simp)).trans (heap_alloc_new _ _);have x3:a.heap[w.heap.size]?=some zCla:=(G.block _ (by omega) (by omega) (by omega)).trans x2
 have S:Hid (FoB a g.heap.size x.fo [.iface O Q]/\okH x.fo/\x.2.cells.length<=3000000):=⟨Z,k6,hl⟩
 have h:Hid (g.heap.size<=B/\OwnV a B p n c s1.ns):=⟨hB,k5⟩
 have A:Hid (RP g rb kb kc ov sv all k2 s1.ft a/\s1.ts=all.drop k2):=⟨e8,x1⟩
 have x5:Hid (Sty rb rb g a):=G;have x6:Hid (a.heap[w.heap.size]?=some zCla):=x3
 have b:Hid (w.heap.size+1<=g.heap.size/\g.heap.size<=a.heap.size/\rb<g.heap.size):=⟨K,I,HP.o.lt.1⟩
 clear HC Z k6 hl hB k5 e8 x1 G x2 x3 K I
 obtain⟨V,U⟩:∃ V,V=(if s1.ts = [] then s1.ft else flF s1.ft 2 (s1.pl L)):=⟨_,rfl⟩
 have HM:Hid (Calls Tryz.prog 33 #[ptrR rb,.int .i64 0] (a.alloc (.cells #[.iface O Q,.slice p n c,.int .i64 at0] 67)) fun e w'=>e = .returned (.tuple #[])/\Sty rb rb (a.alloc (.cells #[.iface O Q,.slice p n c,.int .i64 at0] 67)) w'/\∃ k3,RP g rb kb kc ov sv all k3 V w'):=by
  refine(mustP_any HP.o (A.o.1.below (new_low a (.cells #[.iface O Q,.slice p n c,.int .i64 at0] 67)))).mono ?_;rintro e w' ⟨rfl,h1,h2⟩;refine⟨rfl,h1,?_⟩
  have x9:((all.drop k2).headD (senT L)).1.2.1=s1.pl L:=by rw[<-hd_pl,RS.hd,A.o.2]
  rw[x9,<-A.o.2] at h2;rw[U]
  split at h2
  ·rename_i X;rw[if_pos X];exact⟨_,h2⟩
  ·rename_i X;rw[if_neg X];exact⟨_,h2⟩
 have h8:Hid (V=(if s1.ts = [] then s1.ft else flF s1.ft 2 (s1.pl L))):=U;clear U;go_wp2_with fail;refine HM.o.mono ?_;rintro e z ⟨rfl,h4,k3,e9⟩;have u:z.heap[a.heap.size]?=some (.cells #[.iface O Q,.slice p n c,.int .i64 at0] 67):=(h4.block _ (by simp) (by have:=b.o;omega) (by have:=b.o;omega)).trans (heap_alloc_new _ _);have J:Sty rb rb a z:=(Sty.of rb (new_low a (.cells #[.iface O Q,.slice p n c,.int .i64 at0] 67))).up h4;have t:Sty rb rb a (z.setCell ⟨a.heap.size,2,none⟩ (.int .i64 0)):=J.put1 (Nat.le_refl _) _ _;have H:RP g rb kb kc ov sv all k3 V (z.setCell ⟨a.heap.size,2,none⟩ (.int .i64 0)):=e9.put (by have:=b.o;omega) b.o.2.1 _ _;have h6:=clause_any HP.o H x (.iface O Q) p n c 0 ((A.o.1.tree HP.o.ovm t S.o.1).toC) S.o.2.1 S.o.2.2
 have g0:z.cell? ⟨a.heap.size,0,none⟩=some (.iface O Q):=by unfold World.cell?;rw[u];rfl
 have g1:z.cell? ⟨a.heap.size,1,none⟩=some (.slice p n c):=by unfold World.cell?;rw[u];rfl
 have g2:z.cell? ⟨a.heap.size,2,none⟩=some (.int .i64 at0):=by unfold World.cell?;rw[u];rfl
 have z2:z.frozen? ⟨a.heap.size,2,none⟩=false:=by unfold World.frozen?;rw[u];simp
 obtain⟨f,ef⟩:∃ f,f=rtF L x s1:=⟨_,rfl⟩
 have h9:Hid (f=if validB (itC x)=true then V else flF V 3 0):=by
  show _=_
  rw[ef,h8.o]
  rfl
 have e2:Hid (Sty rb rb a (z.setCell ⟨a.heap.size,2,none⟩ (.int .i64 0))):=t;have e1:Hid (rtF L x s1=f):=ef.symm;clear HM h4 e9 H u J t h8 ef;go_wp2_with fail;refine h6.mono ?_;rintro e l ⟨q,m,r,rfl,e4,k8,D⟩
 have hR:∃ k4,RP g rb kb kc ov sv all k4 f l:=by
  rw[h9.o]
  split at D
  ·rename_i X;rw[if_pos X];exact⟨_,D⟩
  ·rename_i X;rw[if_neg X];exact⟨_,D⟩
 obtain⟨k4,hR⟩:=hR;have Y:Sty rb rb a l:=e2.o.up k8;have k9:a.heap.size<=(z.setCell ⟨a.heap.size,2,none⟩ (.int .i64 0)).heap.size:=e2.o.size
 obtain⟨d,e5⟩:∃ d,d=l.alloc (.cells #[.slice q m r,.slice p n c,.int .i64 0] 28):=⟨_,rfl⟩
 have s:Below l.heap.size l d:=by rw[e5];exact new_low _ _
 have C:Sty rb rb a d:=Y.below s;have e6:OwnC d a.heap.size q m r (itC x):=(e4.stay s.size (fun j _ hj=>s.block j hj)).lower k9;have E:=hR.below s;have c5:=E.c5;have c6:=E.c6
 have F:d.heap[l.heap.size]?=some (.cells #[.slice q m r,.slice p n c,.int .i64 0] 28):=by rw[e5];exact heap_alloc_new _ _
 have y:d.heap[w.heap.size]?=some zCla:=(C.block _ (by have:=b.o;omega) (by omega) (by omega)).trans x6.o
 have y0:d.cell? ⟨w.heap.size,0,none⟩=some (.slice none 0 0):=by unfold World.cell?;rw[y];rfl
 have y1:d.cell? ⟨w.heap.size,1,none⟩=some (.slice none 0 0):=by unfold World.cell?;rw[y];rfl
 have y2:d.cell? ⟨w.heap.size,2,none⟩=some (.int .i64 0):=by unfold World.cell?;rw[y];rfl
 have yf:∀ i,d.frozen? ⟨w.heap.size,i,none⟩=false:=fun i=>by unfold World.frozen?;rw[y];simp
 have w7:=yf 0;have w8:=yf 1;have w9:=yf 2
 have d0:d.cell? ⟨l.heap.size,0,none⟩=some (.slice q m r):=by unfold World.cell?;rw[F];rfl
 have d1:d.cell? ⟨l.heap.size,1,none⟩=some (.slice p n c):=by unfold World.cell?;rw[F];rfl
 have d2:d.cell? ⟨l.heap.size,2,none⟩=some (.int .i64 0):=by unfold World.cell?;rw[F];rfl
 have h3:∀ c,f=some c->c.1≠0:=fun c hc=>(E.fo c hc).1
 have e3:Hid (Below w.heap.size w d):=(Below.on (new_low w zCla) R.o).trans ((x5.o.up C).low (by omega) (by have:=b.o;omega));have x4:Hid (OwnC d a.heap.size q m r (itC x)):=e6;have h5:Hid (Sty rb rb a d):=C;have h7:Hid (d=l.alloc (.cells #[.slice q m r,.slice p n c,.int .i64 0] 28)):=e5
 have w4:Hid (w.heap.size<l.heap.size):=by have:=Y.size;have:=b.o;show _<_;omega
 clear h6 e4 k8 D hR Y k9 s C e6 E y F yf g0 g1 g2 z2 h9 e5
 go_upto_region 6 with fail
 rw[<-h7.o];clear h7
 cases f with
 | none=>
   simp only[Option.getD_none] at c5 c6;clear h3;go_wp2_with fail;have w5:w.heap.size<g.heap.size:=b.o.1;have a0:=World.cell?_setCell_same' d ⟨w.heap.size,0,none⟩ (.slice q m r) (by rw[y0];rfl);have a1:=World.cell?_setCell_same' (d.setCell ⟨w.heap.size,0,none⟩ (.slice q m r)) ⟨w.heap.size,1,none⟩ (.slice p n c) (by rw[World.cell?_setCell_other _ _ _ _ (by simp),y1];rfl);have a2:=World.cell?_setCell_same' ((d.setCell ⟨w.heap.size,0,none⟩ (.slice q m r)).setCell ⟨w.heap.size,1,none⟩ (.slice p n c)) ⟨w.heap.size,2,none⟩ (.int .i64 0) (by rw[World.cell?_setCell_other _ _ _ _ (by simp),World.cell?_setCell_other _ _ _ _ (by simp),y2];rfl);refine bodyPost_ret (v:=.tuple #[.agg #[.slice q m r,.slice p n c,.int .i64 0],.int .i64 0,.int .i64 0]) (by simp[results,Tryz.results9,go_sem,y0,y1,y2,a0,a1,a2]) rfl ?_;rw[e1.o]
   refine⟨low_put (low_put (low_put e3.o (Nat.le_refl _) _ _) (Nat.le_refl _) _ _) (Nat.le_refl _) _ _,.inl ⟨rfl,a,B,q,m,r,p,n,c,rfl,⟨by have:=h.o.1;omega,by have:=b.o;omega⟩,h.o.2,by simpa using h5.o.size,fun j hj x8=>?_,?_⟩⟩
   ·exact(put3_off (by have:=h.o.1;omega) _ _ _).trans (h5.o.block j x8 (by have:=b.o;have:=h.o.1;omega) (by have:=b.o;have:=h.o.1;omega))
   ·exact x4.o.stay (by simp) (fun j hj _=>put3_off (by have:=b.o;omega) _ _ _)
 | some ca=>
   obtain⟨cc,ca⟩:=ca;have x7:¬ cc=0:=h3 _ rfl
   have w1:(cc == 0)=false:=by simpa using x7
   simp only[Option.getD_some] at c5 c6
   have w6:¬ w.heap.size=rb:=by omega
   have w2:¬ rb=w.heap.size:=by omega
   clear h3;go_wp2_with fail
   go_region_held3 (fun W=>W.cell? ⟨rb,5,none⟩=some (.int .i64 cc)/\W.cell? ⟨rb,6,none⟩=some (.int .i64 ca)) (first | go_keep) (fail)
   go_wp2_with fail;have a0:=World.cell?_setCell_same' d ⟨w.heap.size,0,none⟩ (.slice none 0 0) (by rw[y0];rfl);have a1:=World.cell?_setCell_same' (d.setCell ⟨w.heap.size,0,none⟩ (.slice none 0 0)) ⟨w.heap.size,1,none⟩ (.slice none 0 0) (by rw[World.cell?_setCell_other _ _ _ _ (by simp),y1];rfl);have a2:=World.cell?_setCell_same' ((d.setCell ⟨w.heap.size,0,none⟩ (.slice none 0 0)).setCell ⟨w.heap.size,1,none⟩ (.slice none 0 0)) ⟨w.heap.size,2,none⟩ (.int .i64 0) (by rw[World.cell?_setCell_other _ _ _ _ (by simp),World.cell?_setCell_other _ _ _ _ (by simp),y2];rfl);refine bodyPost_ret (v:=.tuple #[.agg #[.slice none 0 0,.slice none 0 0,.int .i64 0],.int .i64 cc,.int .i64 ca]) (by simp[results,Tryz.results9,go_sem,y0,y1,y2,a0,a1,a2]) rfl ?_;rw[e1.o];exact⟨(low_put (low_put (low_put e3.o (Nat.le_refl _) _ _) (Nat.le_refl _) _ _) (Nat.le_refl _) _ _).drew,.inr ⟨cc,ca,rfl,rfl⟩⟩
abbrev senO (L:Int):Obj:=.cells #[.int .i64 0,.int .i64 L,.int .i64 0,.slice none 0 0,.int .i64 0] 86
abbrev newO (kb:Nat):Obj:=.cells #[.map none,.slice (some ⟨kb,0,none⟩) 1 1,.map none,.map none,.slice none 0 0,.int .i64 0,.int .i64 0] 78
theorem deadP {w:World}{rb kb:Nat}{L:Int}(a:w.heap[kb]?=some (senO L))(b:rb<w.heap.size/\kb<w.heap.size)(d:kb≠rb)(e:0<=L/\L<=9000000000):PEnv w rb kb 1 (.map none) (.map none) [] L []:=by
 refine⟨b,d,⟨by simp,by decide⟩,by simp,e,fun i j=>?_,(fun t l=>by cases l),(fun c g=>by cases g),fun h=>absurd rfl h,fun W f x n o m=>?_,⟨none,rfl⟩⟩
 ·obtain rfl:i=0:=by simpa using j
  refine⟨none,0,?_,?_,?_,?_,?_,fun W f=>?_⟩
  ·unfold World.cell?;simp only[Nat.zero_mul];rw[a];rfl
  ·unfold World.cell?;simp only[Nat.zero_mul];rw[a];rfl
  ·unfold World.cell?;simp only[Nat.zero_mul];rw[a];rfl
  ·unfold World.cell?;simp only[Nat.zero_mul];rw[a];rfl
  ·unfold World.cell?;simp only[Nat.zero_mul];rw[a];rfl
  ·intro h;simp[senT] at h
 ·obtain rfl:=m rfl
  rw[if_neg (by decide)]
  kernel_rfl
theorem deadR {w:World}{rb kb:Nat}{L:Int}(l:w.heap[kb]?=some (senO L))(f:w.heap[rb]?=some (newO kb))(d:kb≠rb)(n:0<=L/\L<=9000000000)(c a:Int)(j:c≠0) :
  Calls Tryz.prog 59 #[ptrR rb,.int .i64 c,.int .i64 a] w fun e h=>e = .returned (.tuple #[])/\PEnv h rb kb 1 (.map none) (.map none) [] L []/\RP h rb kb 1 (.map none) (.map none) [] 0 (some (c,a)) h/\Sty rb rb w h:=by
 have m:rb<w.heap.size:=(Array.getElem?_eq_some_iff.1 f).1;have g:kb<w.heap.size:=(Array.getElem?_eq_some_iff.1 l).1;have P:=deadP l ⟨m,g⟩ d n
 have p:RP w rb kb 1 (.map none) (.map none) [] 0 none w:=by
  refine⟨Sty.refl _ _ _,?_,?_,?_,⟨.map none,?_⟩,⟨.slice none 0 0,?_⟩,?_,?_,fun o=>?_,by simp,fun c j=>by cases j⟩
  ·unfold World.cell?;rw[f];rfl
  ·unfold World.cell?;rw[f];rfl
  ·unfold World.cell?;rw[f];rfl
  ·unfold World.cell?;rw[f];rfl
  ·unfold World.cell?;rw[f];rfl
  ·unfold World.cell?;rw[f];rfl
  ·unfold World.cell?;rw[f];rfl
  ·unfold World.frozen?;rw[f];simp
 refine(failP_any P p c a j).mono ?_;rintro e h ⟨rfl,b,i⟩;have r:=i.size;refine⟨rfl,deadP ((i.block _ g d d).trans l) ⟨by omega,by omega⟩ d n,?_,i⟩;exact⟨Sty.refl _ _ _,b.c0,b.c1,b.c2,b.c3,b.c4,b.c5,b.c6,b.fz,by simp,fun x q=>⟨(b.fo x q).1,by simp⟩⟩
def nrW (w:World)(n:Nat):World:=(w.alloc (senO (n:Int))).alloc (newO w.heap.size)
theorem nrW_facts (w:World)(n:Nat):Below w.heap.size w (nrW w n)/\(nrW w n).heap.size=w.heap.size+2/\(nrW w n).heap[w.heap.size]?=some (senO n)/\(nrW w n).heap[w.heap.size+1]?=some (newO w.heap.size):=by
 unfold nrW
 refine⟨((Below.refl _ _).alloc (Nat.le_refl _) _).alloc (by simp) _,by simp,((new_low _ _).block _ (by simp)).trans (heap_alloc_new _ _),?_⟩;have:=heap_alloc_new (w.alloc (senO (n:Int))) (newO w.heap.size)
 simpa using this
theorem dead_new {w W:World}{n:Nat}(b:Below (nrW w n).heap.size (nrW w n) W)(m:(n:Int)<=9000000000)(c a:Int)(l:c≠0) :
  Calls Tryz.prog 59 #[ptrR (w.heap.size+1),.int .i64 c,.int .i64 a] W fun e d=>e = .returned (.tuple #[])/\NewR w [] n [] (some (c,a)) (.returned (ptrR (w.heap.size+1))) d:=by
 obtain⟨f,p,g,h⟩:=nrW_facts w n;refine(deadR (rb:=w.heap.size+1) (kb:=w.heap.size) (L:=n) ((b.block _ (by omega)).trans g) ((b.block _ (by omega)).trans h) (by omega) ⟨by omega,m⟩ c a l).mono ?_;rintro e d ⟨rfl,i,j,o⟩;exact⟨rfl,_,_,_,_,_,rfl,by omega,i,j,(Below.on f b).trans (o.low (by omega) (by have:=b.size;omega))⟩
theorem newBad_any (a:Value)(p:Option Addr)(n c:Nat)(w:World)(t:(n:Int)<=9000000000)
  (d:Calls Tryz.prog 58 #[a] (nrW w n) fun e g=>e = .returned (.bool false)/\Below (nrW w n).heap.size (nrW w n) g) :
  Calls Tryz.prog 31 #[a,.slice p n c] w (NewR w [] n [] (some (1,0))):=by
 have b:Hid (∀ W,Below (nrW w n).heap.size (nrW w n) W->Calls Tryz.prog 59 #[ptrR (w.heap.size+1),.int .i64 1,.int .i64 0] W fun e g=>e = .returned (.tuple #[])/\NewR w [] n [] (some (1,0)) (.returned (ptrR (w.heap.size+1))) g):=fun W s=>dead_new s t 1 0 (by decide)
 obtain⟨V,f⟩:∃ V,V=nrW w n:=⟨_,rfl⟩
 have l:Hid (V=(w.alloc (senO (n:Int))).alloc (newO w.heap.size)):=f;rw[<-f] at d b;clear f
 go_enter Tryz.func31,Tryz.ntmps31
 go_wp2_with fail;rw[<-l.o];refine d.mono ?_;rintro e q ⟨rfl,j⟩;have h:=b.o q j;clear d j b;go_wp2_with fail;refine h.mono ?_;rintro e r ⟨rfl,i⟩;have m:Hid (NewR w [] n [] (some (1,0)) (.returned (ptrR (w.heap.size+1))) r):=i;clear h i;go_wp2_with fail;refine bodyPost_ret (v:=ptrR (w.heap.size+1)) (by simp[results,Tryz.results31,go_sem]) rfl ?_;exact m.o
theorem newLex_any (b:Value)(p:Option Addr)(n c:Nat)(code a:Int)(w:World)(F:(n:Int)<=9000000000)(x:code≠0)
  (l:Calls Tryz.prog 58 #[b] (nrW w n) fun e f=>e = .returned (.bool true)/\Below (nrW w n).heap.size (nrW w n) f)
  (s:∀ W,Below (nrW w n).heap.size (nrW w n) W->Calls Tryz.prog 60 #[.slice p n c] W fun e f=>∃ i,e = .returned (.tuple #[i,.int .i64 code,.int .i64 a])/\Below W.heap.size W f) :
  Calls Tryz.prog 31 #[b,.slice p n c] w (NewR w [] n [] (some (code,a))):=by
 have j:Hid (∀ W,Below (nrW w n).heap.size (nrW w n) W->Calls Tryz.prog 59 #[ptrR (w.heap.size+1),.int .i64 code,.int .i64 a] W fun e f=>e = .returned (.tuple #[])/\NewR w [] n [] (some (code,a)) (.returned (ptrR (w.heap.size+1))) f):=fun W D=>dead_new D F code a x
 have d:Hid (∀ W,Below (nrW w n).heap.size (nrW w n) W->Calls Tryz.prog 60 #[.slice p n c] W fun e f=>∃ i,e = .returned (.tuple #[i,.int .i64 code,.int .i64 a])/\Below W.heap.size W f):=s;clear s
 have E:(code == 0)=false:=by simpa using x
 obtain⟨V,m⟩:∃ V,V=nrW w n:=⟨_,rfl⟩
 have z:Hid (V=(w.alloc (senO (n:Int))).alloc (newO w.heap.size)):=m;rw[<-m] at l j d;clear m
 go_enter Tryz.func31,Tryz.ntmps31
 go_wp2_with fail;rw[<-z.o];refine l.mono ?_;rintro e t ⟨rfl,q⟩;have g:=d.o t q;have y:Hid (Below V.heap.size V t):=q;clear l q d;go_wp2_with fail;refine g.mono ?_;rintro e B ⟨i,rfl,h⟩;have r:=j.o B (Below.on y.o h);clear g h j;go_wp2_with fail;refine r.mono ?_;rintro e C ⟨rfl,u⟩;have A:Hid (NewR w [] n [] (some (code,a)) (.returned (ptrR (w.heap.size+1))) C):=u;clear r u;go_wp2_with fail;refine bodyPost_ret (v:=ptrR (w.heap.size+1)) (by simp[results,Tryz.results31,go_sem]) rfl ?_;exact A.o
theorem lawIntR:Keyed Tryz.prog 3:=int_keyed Tryz.underlying3
def IMap (w:World)(b N:Nat)(E:List (Int×Value)):Prop:=∃ D:DataW Value,w.ownsMap Tryz.prog 3 anyE b N D/\Maps.size D=E.length/\(∀ x:Int,Maps.has D (.int .i64 x)=(look E x).isSome)/\
 (∀ (x:Int) z,D.atKey (.int .i64 x) z=match look E x with | some v=>.held v | none=>z)
theorem IMap.lt {w:World}{b N:Nat}{E:List (Int×Value)}(h:IMap w b N E):b<w.heap.size:=by obtain⟨D,h,_⟩:=h;exact h.lt
theorem IMap.of_block {w c:World}{b N:Nat}{E:List (Int×Value)}(h:IMap w b N E)(g:c.heap[b]?=w.heap[b]?):IMap c b N E:=by
 obtain⟨D,⟨d,a,e,r⟩,f⟩:=h;exact⟨D,⟨d,a,g.trans e,r⟩,f⟩
theorem IMap.below {w w':World}{b N:Nat}{E:List (Int×Value)}(h:IMap w b N E)(a:Below w.heap.size w w'):IMap w' b N E:=h.of_block (a.block _ h.lt)
theorem IMap.mono {w:World}{b N a:Nat}{E:List (Int×Value)}(h:IMap w b N E)(e:N<=a):IMap w b a E:=by
 obtain⟨D,c,d⟩:=h;exact⟨D,c.mono e,d⟩
theorem IMap.made (w:World):IMap (w.alloc (.map #[] 0)) w.heap.size 0 []:=⟨_,World.ownsMap_made _ _ _ _,rfl,fun x=>rfl,fun x z=>rfl⟩
theorem keyN_of (x:Int)(b:0<=x)(c:x<=1000000):keyOf Tryz.prog 3 (.int .i64 x)=some (.int .i64 x):=keyOf_int_mk (P:=Tryz.prog) Tryz.underlying3 (q:=.i64) (a:=x) (WalkArith.wf_i64 (by omega))
theorem IMap.look {w:World}{b N:Nat}{E:List (Int×Value)}(h:IMap w b N E){t e:TypeId}(n:Tryz.prog.underlying t=some (.map 3 e)){z:Value}(o:(zeroValue e).run Tryz.prog w = .ok z w)(x:Int)(j:0<=x)(l:x<=1000000) :
  (Instr.lookup t (.map (some b)) (.int .i64 x) true).run Tryz.prog w = .ok (.tuple #[(match Go.Proofs.YtlkhmmoimplokaaGreatDoor.look E x with | some v=>v | none=>z),.bool (Go.Proofs.YtlkhmmoimplokaaGreatDoor.look E x).isSome]) w:=by
 obtain⟨D,d,m,c,g⟩:=h;obtain⟨v,p,f,a⟩:=d.look_ok lawIntR n o (zd:=.held z) (zp:=[]) rfl (keyN_of x j l);rw[f,c];rw[g] at a;simp only[anyE,Option.some.injEq,Prod.mk.injEq] at a;have a:=a.1
 cases i:Go.Proofs.YtlkhmmoimplokaaGreatDoor.look E x with
 | none=>rw[i] at a;cases a;rfl
 | some u=>rw[i] at a;cases a;rfl
theorem IMap.put {w:World}{b N:Nat}{E:List (Int×Value)}(h:IMap w b N E){t e:TypeId}(p:Tryz.prog.underlying t=some (.map 3 e))(q:N<=1000000)(x:Int)(m:0<=x)(n:x<=1000000)(v:Value) :
  ∃ w',(Instr.mapUpdate t (.map (some b)) (.int .i64 x) v).run Tryz.prog w = .ok () w'/\IMap w' b (N+1) (putE E x v)/\w.grownBy w' (some b):=by
 obtain⟨D,a,j,c,i⟩:=h;obtain⟨w',g,d,o⟩:=a.update lawIntR p (by unfold maxLen;omega) (keyN_of x m n) (show anyE v=some (.held v,[]) from rfl);have l:=a.isMap;have f:WideAt.IsKeyLit (.int .i64 x):=trivial;refine⟨w',g,⟨_,d,?_,fun y=>?_,fun y z=>?_⟩,o⟩
 ·rw[size_put (a.tidy lawIntR),c,j,putE_len]
 ·rw[look_putE]
  by_cases e:y=x
  ·subst e;rw[has_put_same l f];simp
  ·rw[has_put_other (by simpa using e),c];simp[e]
 ·rw[look_putE]
  by_cases e:y=x
  ·subst e
   rw[atKey_put_same l f];simp
  ·rw[atKey_put_other (by simpa using e),i];simp[e]
def stE (rb:Nat):List (Int×Value):=[3,2,4,5,6,1].map fun k=>(k,.func (.func (stF k)) #[ptrR rb] #[])
theorem zeroSt (w:World):(zeroValue 208).run Tryz.prog w = .ok .nilFunc w:=by kernel_rfl
theorem stE_look (rb:Nat)(x:Int)(a:0<=x)(b:x<=7):look (stE rb) x=if 1<=x/\x<=6 then some (.func (.func (stF x)) #[ptrR rb] #[]) else none:=by
 have:x=0∨x=1∨x=2∨x=3∨x=4∨x=5∨x=6∨x=7:=by omega
 rcases this with rfl | rfl | rfl | rfl | rfl | rfl | rfl | rfl <;> rfl
theorem starts_look {w:World}{b N rb:Nat}(h:IMap w b N (stE rb))(x:Int)(c:0<=x)(d:x<=7) :
  (Instr.lookup 75 (.map (some b)) (.int .i64 x) true).run Tryz.prog w = .ok (.tuple #[if 1<=x/\x<=6 then .func (.func (stF x)) #[ptrR rb] #[] else .nilFunc,.bool (decide (1<=x/\x<=6))]) w:=by
 rw[h.look Tryz.underlying75 (zeroSt w) x c (by omega),stE_look rb x c d]
 by_cases a:1<=x/\x<=6
 ·simp[a]
 ·simp only[if_neg a,Option.isSome_none,decide_eq_false a]
theorem starts_put {w:World}{b N:Nat}{E:List (Int×Value)}(h:IMap w b N E)(j:N<=1000)(x:Int)(d:0<=x)(i:x<=7)(v:Value)(g:look E x=none) :
  ∃ a,(Instr.mapUpdate 75 (.map (some b)) (.int .i64 x) v).run Tryz.prog w = .ok () a/\IMap a b (N+1) (E ++ [(x,v)])/\w.grownBy a (some b):=by
 obtain⟨a,e,c,f⟩:=h.put Tryz.underlying75 (by omega) x d (by omega) v;rw[putE_new v g] at c;exact⟨a,e,c,f⟩
theorem OwnK.stay {w w':World}{B:Nat}{p:Option Addr}{n c:Nat}{t:List Tok}(h:OwnK w B p n c t)(y:w.heap.size<=w'.heap.size)(q:∀ k,B<=k->k<w.heap.size->w'.heap[k]?=w.heap[k]?):OwnK w' B p n c t:=by
 obtain⟨rfl,A,v,s,d,ha⟩:=h;refine⟨rfl,A,v,⟨s.1,?_⟩,fun i f=>⟨(d i f).1,(d i f).2.other y (fun g x e=>?_)⟩,ha⟩
 ·rcases s.2 with u | ⟨g,a,b,z,m,o,r⟩
  ·exact .inl u
  ·exact .inr ⟨g,a,b,z,m,(q g (by omega) (Array.getElem?_eq_some_iff.1 o).1).trans o,r⟩
 ·obtain⟨C,l,m,j,_⟩:=(d i f).2.2 x
  rw[e] at l
  cases l
  exact q g (by omega) j
theorem drop_headD (L:Int):∀ (a:List Tok) (i:Nat),i<=a.length->(a ++ [senT L]).getD i Tok.none=(a.drop i).headD (senT L)
 | [],i,h=>by
   obtain rfl:i=0:=by simpa using h
   rfl
 | t :: r,0,h=>rfl
 | t :: r,i+1,h=>by
   have:=drop_headD L r i (by simpa using h)
   simpa using this
theorem liveP {w:World}{rb g kc q z N M B:Nat}{T:List Cel}{b:List Tok}{L:Int}(Y:OwnK w B (some ⟨g,0,none⟩) (b.length+1) kc (b ++ [senT L]))(hB:rb<B)(D:OpMap w q N T)(m:q≠rb)(E:IMap w z M (stE rb))(n:z≠rb)
  (v:∀ t ∈ b,TokG t) (l:b.length<=10000) (o:∀ c ∈ T,(1<=c.1/\c.1<=1200)/\(0<=c.2.1/\c.2.1<=6)/\Byte c.2.2/\c.2.2.length<=100) (Z:0<=L/\L<=9000000000) (u:rb<w.heap.size) :
  PEnv w rb g kc (.map (some q)) (.map (some z)) T L b:=by
 obtain⟨F,y,hl,f,hf,_⟩:=Y
 have a:b.length+1<=kc/\kc<=9223372036854775807/\B<=g/\g<w.heap.size:=by
  rcases f.2 with ⟨h',C⟩ | ⟨R,P,Q,G,j,hg,U,V,_⟩
  ·omega
  ·simp only[Value.slice.injEq,Option.some.injEq,Addr.mk.injEq,true_and,and_true] at G
   obtain⟨rfl,rfl⟩:=G;exact⟨U,by unfold maxLen at V;omega,j,(Array.getElem?_eq_some_iff.1 hg).1⟩
 refine⟨⟨u,a.2.2.2⟩,by omega,⟨a.1,a.2.1⟩,l,Z,fun i hi=>?_,v,o,fun _=>⟨q,N,rfl,fun W d=>D.of_block (d.block _ D.lt m m)⟩,fun W d x C X _=>starts_look (E.of_block (d.block _ E.lt n n)) x C X,⟨_,rfl⟩⟩
 have r:i<(b ++ [senT L]).length:=by simp;omega
 obtain⟨h,p⟩:=hf i r;obtain⟨H,I,J,K,O⟩:=flatT_at y i (by omega);rw[drop_headD L b i hi] at h p;refine⟨(y.getD i RT.zero).2.1,(y.getD i RT.zero).2.2.2,?_,?_,?_,?_,?_,fun W d=>?_⟩
 ·rw[f.cellAt _ (by omega),H,h]
 ·rw[f.cellAt _ (by omega),I,h]
 ·rw[f.cellAt _ (by omega),J,h]
 ·rw[f.cellAt _ (by omega),K,p.len]
 ·rw[f.cellAt _ (by omega),O,h]
 ·refine(p.other d.size (fun S F e=>?_)).bin
  obtain⟨R,A,j,s,_⟩:=p.2 F;rw[e] at A
  cases A
  exact d.block S s (by omega) (by omega)
theorem starts_all (W:World)(rb:Nat):∃ c d e f g b,(Instr.mapUpdate 75 (.map (some W.heap.size)) (.int .i64 3) (.func (.func (stF 3)) #[ptrR rb] #[])).run Tryz.prog (W.alloc (.map #[] 0)) = .ok () c/\(Instr.mapUpdate 75 (.map (some W.heap.size)) (.int .i64 2) (.func (.func (stF 2)) #[ptrR rb] #[])).run Tryz.prog c = .ok () d/\(Instr.mapUpdate 75 (.map (some W.heap.size)) (.int .i64 4) (.func (.func (stF 4)) #[ptrR rb] #[])).run Tryz.prog d = .ok () e/\(Instr.mapUpdate 75 (.map (some W.heap.size)) (.int .i64 5) (.func (.func (stF 5)) #[ptrR rb] #[])).run Tryz.prog e = .ok () f/\(Instr.mapUpdate 75 (.map (some W.heap.size)) (.int .i64 6) (.func (.func (stF 6)) #[ptrR rb] #[])).run Tryz.prog f = .ok () g/\(Instr.mapUpdate 75 (.map (some W.heap.size)) (.int .i64 1) (.func (.func (stF 1)) #[ptrR rb] #[])).run Tryz.prog g = .ok () b/\IMap b W.heap.size 6 (stE rb)/\Below W.heap.size W b:=by
 have C:=IMap.made W;have h:Below W.heap.size W (W.alloc (.map #[] 0)):=new_low _ _;obtain⟨c,p,D,v⟩:=starts_put C (by decide) 3 (by decide) (by decide) (.func (.func (stF 3)) #[ptrR rb] #[]) (by rfl);have i:Below W.heap.size W c:=h.grown v h.size (fun k a=>by cases a;exact Nat.le_refl _);obtain⟨d,q,E,x⟩:=starts_put D (by decide) 2 (by decide) (by decide) (.func (.func (stF 2)) #[ptrR rb] #[]) (by rfl);have j:Below W.heap.size W d:=i.grown x i.size (fun k a=>by cases a;exact Nat.le_refl _);obtain⟨e,r,F,y⟩:=starts_put E (by decide) 4 (by decide) (by decide) (.func (.func (stF 4)) #[ptrR rb] #[]) (by rfl);have l:Below W.heap.size W e:=j.grown y j.size (fun k a=>by cases a;exact Nat.le_refl _);obtain⟨f,s,G,z⟩:=starts_put F (by decide) 5 (by decide) (by decide) (.func (.func (stF 5)) #[ptrR rb] #[]) (by rfl)
 have m:Below W.heap.size W f:=l.grown z l.size (fun k a=>by cases a;exact Nat.le_refl _);obtain⟨g,t,H,A⟩:=starts_put G (by decide) 6 (by decide) (by decide) (.func (.func (stF 6)) #[ptrR rb] #[]) (by rfl);have n:Below W.heap.size W g:=m.grown A m.size (fun k a=>by cases a;exact Nat.le_refl _);obtain⟨b,u,I,B⟩:=starts_put H (by decide) 1 (by decide) (by decide) (.func (.func (stF 1)) #[ptrR rb] #[]) (by rfl);have o:Below W.heap.size W b:=n.grown B n.size (fun k a=>by cases a;exact Nat.le_refl _);exact⟨c,d,e,f,g,b,p,q,r,s,t,u,I,o⟩
end Go.Proofs.YtlkhmmoimplokaaGreatDoor
