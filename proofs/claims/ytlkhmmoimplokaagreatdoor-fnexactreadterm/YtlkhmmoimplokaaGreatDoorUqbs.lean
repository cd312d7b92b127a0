/- Texts of RdY, RdZ, ReA, ReB, ReC, ReD, MdT. Own work of the verifier. -/
import Derived.Test.YtlkhmmoimplokaaGreatDoorUqbr
import Derived.Test.YtlkhmmoimplokaaGreatDoorUqbv
import Derived.Test.YtlkhmmoimplokaaGreatDoorUqbf
namespace Go.Proofs.YtlkhmmoimplokaaGreatDoor
set_option maxHeartbeats 4000000
set_option maxRecDepth 100000
open Go Go.RowKit Go.Maps
set_option linter.unusedVariables false
set_option linter.unusedSimpArgs false
section
variable {w0:World}{rb kb kc:Nat}{ov sv:Value}{T:List Cel}{L:Int}{all:List Tok}{k:Nat}{ft:Option (Int×Int)}{w:World}
theorem takeP_any (P:PEnv w0 rb kb kc ov sv T L all)(h:RP w0 rb kb kc ov sv all k ft w)(C:all.drop k = []):Calls Tryz.prog 71 #[ptrR rb] w fun e O=>∃ p c,e = .returned (tokVR (senT L) p c)/\Below w.heap.size w O:=by
 have j:=nextP_any P (h.below (new_low w zTok));rw[C,List.headD_nil] at j;have M:rb<w.heap.size:=Nat.lt_of_lt_of_le P.lt.1 h.sty.size
 have D:rb≠w.heap.size:=by omega
 have r:(senT L).1.1=0:=rfl
 obtain⟨⟨⟨N,d,tl,f⟩,s⟩,q⟩:∃ t,senT L=t:=⟨_,rfl⟩
 rw[q] at j r;have F:Hid (senT L=((N,d,tl,f),s)):=q
 obtain⟨l,n⟩:∃ l,l=s.length:=⟨_,rfl⟩
 have E:Hid (l=s.length):=n;simp only[tokVR] at j r;rw[<-n] at j;clear h P q n C;obtain rfl:=r
 go_enter Tryz.func71,Tryz.ntmps71
 go_wp2_with fail;refine j.mono ?_;rintro e W ⟨p,c,rfl,m⟩;have b:W.heap[w.heap.size]?=some zTok:=(m.block _ (by simp)).trans (heap_alloc_new w zTok);have u:Hid (Below w.heap.size w W):=Below.on (new_low w zTok) m
 have x:W.cell? ⟨w.heap.size,0,none⟩=some (.int .i64 0):=by unfold World.cell?;rw[b];rfl
 have y:W.cell? ⟨w.heap.size,1,none⟩=some (.int .i64 0):=by unfold World.cell?;rw[b];rfl
 have z:W.cell? ⟨w.heap.size,2,none⟩=some (.int .i64 0):=by unfold World.cell?;rw[b];rfl
 have A:W.cell? ⟨w.heap.size,3,none⟩=some (.slice none 0 0):=by unfold World.cell?;rw[b];rfl
 have B:W.cell? ⟨w.heap.size,4,none⟩=some (.int .i64 0):=by unfold World.cell?;rw[b];rfl
 have g:∀ i,W.frozen? ⟨w.heap.size,i,none⟩=false:=fun i=>by unfold World.frozen?;rw[b];simp
 have G:=g 0;have H:=g 1;have I:=g 2;have J:=g 3;have K:=g 4
 have a:w.heap.size<W.heap.size:=by have:=m.size;simp at this;omega
 have Q:=((new_low W (.cells #[.int .i64 0,.int .i64 d,.int .i64 tl,.slice p l c,.int .i64 f] 86)).cell (p:=⟨w.heap.size,0,none⟩) a).trans x;have V:=((new_low W (.cells #[.int .i64 0,.int .i64 d,.int .i64 tl,.slice p l c,.int .i64 f] 86)).frozen (p:=⟨w.heap.size,0,none⟩) a).trans (g 0);have q1:=((new_low W (.cells #[.int .i64 0,.int .i64 d,.int .i64 tl,.slice p l c,.int .i64 f] 86)).cell (p:=⟨w.heap.size,1,none⟩) a).trans y;have X:=((new_low W (.cells #[.int .i64 0,.int .i64 d,.int .i64 tl,.slice p l c,.int .i64 f] 86)).frozen (p:=⟨w.heap.size,1,none⟩) a).trans (g 1);have R:=((new_low W (.cells #[.int .i64 0,.int .i64 d,.int .i64 tl,.slice p l c,.int .i64 f] 86)).cell (p:=⟨w.heap.size,2,none⟩) a).trans z;have Y:=((new_low W (.cells #[.int .i64 0,.int .i64 d,.int .i64 tl,.slice p l c,.int .i64 f] 86)).frozen (p:=⟨w.heap.size,2,none⟩) a).trans (g 2)
 have S:=((new_low W (.cells #[.int .i64 0,.int .i64 d,.int .i64 tl,.slice p l c,.int .i64 f] 86)).cell (p:=⟨w.heap.size,3,none⟩) a).trans A;have Z:=((new_low W (.cells #[.int .i64 0,.int .i64 d,.int .i64 tl,.slice p l c,.int .i64 f] 86)).frozen (p:=⟨w.heap.size,3,none⟩) a).trans (g 3);have U:=((new_low W (.cells #[.int .i64 0,.int .i64 d,.int .i64 tl,.slice p l c,.int .i64 f] 86)).cell (p:=⟨w.heap.size,4,none⟩) a).trans B;have z4:=((new_low W (.cells #[.int .i64 0,.int .i64 d,.int .i64 tl,.slice p l c,.int .i64 f] 86)).frozen (p:=⟨w.heap.size,4,none⟩) a).trans (g 4);clear m j b;go_wp2_with fail;have hF:=(low_put5 u.o (Nat.le_refl _) (.int .i64 0) (.int .i64 d) (.int .i64 tl) (.slice p l c) (.int .i64 f)).alloc (by simpa using u.o.size) (.cells #[.int .i64 0,.int .i64 d,.int .i64 tl,.slice p l c,.int .i64 f] 86)
 exact bodyPost_ret (v:=.agg #[.int .i64 0,.int .i64 d,.int .i64 tl,.slice p l c,.int .i64 f]) (by simp[results,Tryz.results71,go_sem,a,x,y,z,A,B]) rfl ⟨p,c,by rw[F.o,E.o],hF⟩
theorem stopP_any (P:PEnv w0 rb kb kc ov sv T L all)(h:RP w0 rb kb kc ov sv all k ft w):Calls Tryz.prog 70 #[ptrR rb] w fun e a=>e = .returned (.tuple #[.iface 154 (.string ⟨#[91,93]⟩),.int .i64 0])/\RP w0 rb kb kc ov sv all all.length (flF ft 2 ((all.drop k).headD (senT L)).1.2.1) a/\Sty rb rb w a:=by
 have d:=nextP_any P h
 have b:Hid (∀ W,Below w.heap.size w W->Calls Tryz.prog 59 #[ptrR rb,.int .i64 2,.int .i64 ((all.drop k).headD (senT L)).1.2.1] W fun e a=>e = .returned (.tuple #[])/\RP w0 rb kb kc ov sv all all.length (flF ft 2 ((all.drop k).headD (senT L)).1.2.1) a/\Sty rb rb W a):=fun W r=>failP_any P (h.below r) 2 _ (by decide)
 clear h P
 generalize (all.drop k).headD (senT L)=t at *
 obtain⟨⟨v,u,tl,x⟩,y⟩:=t;simp only[tokVR] at d b ⊢;have s:=fieldT1
 go_enter Tryz.func70,Tryz.ntmps70
 go_wp2_with fail;refine d.mono ?_;rintro e W ⟨p,c,rfl,f⟩;have g:=b.o W f;have l:Hid (Below w.heap.size w W):=f;clear d f b;go_wp2_with fail;refine g.mono ?_;rintro e q ⟨rfl,i,j⟩;have n:Hid _:=i;have m:Hid (Sty rb rb w q):=(Sty.of rb l.o).up j;clear g i j;go_wp2_with fail
 go_ret2
 exact⟨rfl,n.o,m.o⟩
theorem left_kd (P:PEnv w0 rb kb kc ov sv T L all)(k:Nat):((all.drop k).headD (senT L)).1.1=0↔all.drop k = []:=by
 cases a:all.drop k with
 | nil=>simp[senT]
 | cons t r=>
   have:=(P.tg t (List.mem_of_mem_drop (by rw[a];simp))).kd;simp only[List.headD_cons]
   constructor
   ·intro h;omega
   ·intro h;cases h
theorem mustP_any (P:PEnv w0 rb kb kc ov sv T L all)(h:RP w0 rb kb kc ov sv all k ft w):Calls Tryz.prog 33 #[ptrR rb,.int .i64 0] w fun e f=>e = .returned (.tuple #[])/\Sty rb rb w f/\(if all.drop k = [] then RP w0 rb kb kc ov sv all k ft f else RP w0 rb kb kc ov sv all all.length (flF ft 2 ((all.drop k).headD (senT L)).1.2.1) f):=by
 have i:=nextP_any P h;have d:=left_kd P k
 have a:Hid (∀ W,Below w.heap.size w W->Calls Tryz.prog 70 #[ptrR rb] W fun e f=>e = .returned (.tuple #[.iface 154 (.string ⟨#[91,93]⟩),.int .i64 0])/\RP w0 rb kb kc ov sv all all.length (flF ft 2 ((all.drop k).headD (senT L)).1.2.1) f/\Sty rb rb W f):=fun W J=>stopP_any P (h.below J)
 have j:Hid (∀ W k ft,RP w0 rb kb kc ov sv all k ft W->all.drop k = []->Calls Tryz.prog 71 #[ptrR rb] W fun e f=>∃ p c,e = .returned (tokVR (senT L) p c)/\Below W.heap.size W f):=fun W k ft q n=>takeP_any P q n
 have B:Hid (RP w0 rb kb kc ov sv all k ft w):=h;have K:=fieldT0;clear h P
 obtain⟨⟨⟨A,F,tl,V⟩,X⟩,E⟩:∃ t,(all.drop k).headD (senT L)=t:=⟨_,rfl⟩
 rw[E] at i d a ⊢
 obtain⟨⟨⟨Q,O,R,S⟩,U⟩,D⟩:∃ t,senT L=t:=⟨_,rfl⟩
 rw[D] at j;simp only[tokVR] at i a j d ⊢;have C:Hid (A=0↔all.drop k = []):=d;clear E D d
 by_cases u:A=0
 ·have n:=C.o.1 u
  simp only[if_pos n];subst u;have H:Hid (all.drop k = []):=n;clear n
  go_enter Tryz.func33,Tryz.ntmps33
  go_wp2_with fail;refine i.mono ?_;rintro e W ⟨p,c,rfl,g⟩;have l:=j.o W k ft (B.o.below g) H.o;have v:Hid (Below w.heap.size w W):=g;clear i g j a;go_wp2_with fail;refine l.mono ?_;rintro e s ⟨N,I,rfl,b⟩;have r:Hid (Below w.heap.size w s):=Below.on v.o b;clear l b;go_wp2_with fail
  go_end0
  exact⟨rfl,Sty.of rb r.o,B.o.below r.o⟩
 ·simp only[if_neg (fun h=>u (C.o.2 h):¬ all.drop k = [])]
  have M:(A == 0)=false:=by simpa using u
  go_enter Tryz.func33,Tryz.ntmps33
  go_wp2_with fail;refine i.mono ?_;rintro e W ⟨p,c,rfl,g⟩;have l:=a.o W g;have v:Hid (Below w.heap.size w W):=g;clear i g a;go_wp2_with fail;refine l.mono ?_;rintro e z ⟨rfl,q,b⟩;have m:=j.o z _ _ q (by simp);have r:Hid (Sty rb rb w z):=(Sty.of rb v.o).up b;have G:Hid (RP w0 rb kb kc ov sv all all.length (flF ft 2 F) z):=q;clear l q b j;go_wp2_with fail;refine m.mono ?_;rintro e s ⟨N,I,rfl,b⟩;have y:Hid (RP w0 rb kb kc ov sv all all.length (flF ft 2 F) s):=G.o.below b;have x:Hid (Sty rb rb w s):=r.o.below b;clear m b;go_wp2_with fail
  go_end0
  exact⟨rfl,x.o,y.o⟩
end
section
variable {w0:World}{rb kb kc:Nat}{ov sv:Value}{T:List Cel}{L:Int}{all:List Tok}{k:Nat}{ft:Option (Int×Int)}{w:World}
def SeOut (w0:World)(rb kb kc:Nat)(ov sv:Value)(L:Int)(all:List Tok)(w:World)(at0:Int)(x:Tr)(s1:RS)(e:Ending)(w':World):Prop:=
 ∃ v p n c k' B,e = .returned (.agg #[v,.slice p n c,.int .i64 at0])/\FoB w' w.heap.size x.fo [v]/\okH x.fo/\x.2.cells.length<=3000000/\w.heap.size<=B/\OwnV w' B p n c s1.ns/\RP w0 rb kb kc ov sv all k' s1.ft w'/\s1.ts=all.drop k'/\Sty rb rb w w'
theorem sentP_any (P:PEnv w0 rb kb kc ov sv T L all)(h:RP w0 rb kb kc ov sv all k ft w):Calls Tryz.prog 32 #[ptrR rb] w (SeOut w0 rb kb kc ov sv L all w ((⟨all.drop k,[],ft⟩:RS).pl L) (rdR T L (all.length+1) 1200 ⟨all.drop k,[],ft⟩).1 ((rdR T L (all.length+1) 1200 ⟨all.drop k,[],ft⟩).2.mustBe L 7)):=by
 have q:GoS ⟨all.drop k,[],ft⟩:=⟨fun t g=>P.tg t (List.mem_of_mem_drop g),by have:=P.len;simp;omega⟩
 have d:=rd_ok (T:=T) (fun c o=>(P.tab c o).2.2) L (all.length+1) 1200 ⟨all.drop k,[],ft⟩ q;have f:=(rd_g T L (all.length+1) 1200 ⟨all.drop k,[],ft⟩).sz;have u:=wgt_le (all.drop k) (fun t g=>P.tg t (List.mem_of_mem_drop g));have B:=P.len;refine(sentence_any P h).mono ?_;rintro e F ⟨y,E,v,p,n,c,l,rfl,rfl,A,s,i,hF,⟨x,b⟩,m,j⟩;obtain⟨D,C,z,a,r⟩:=b.c4;rw[m] at a;simp only[Option.some.injEq,Value.slice.injEq] at a;obtain⟨rfl,rfl,rfl⟩:=a;refine⟨v,p,n,c,x,y.heap.size,rfl,hF,d,?_,i,r,b.rp (h.sty.up j),b.ts.2,j⟩;simp only[itC,List.length_cons,List.length_drop] at f u
 omega
end
def NewR (w:World)(T:List Cel)(L:Int)(all:List Tok)(ft:Option (Int×Int))(e:Ending)(w':World):Prop:=
 ∃ rb kb kc ov sv,e = .returned (ptrR rb)/\w.heap.size<=rb/\PEnv w' rb kb kc ov sv T L all/\RP w' rb kb kc ov sv all 0 ft w'/\Below w.heap.size w w'
def rtF (L:Int)(x:Tr)(s1:RS):Option (Int×Int):=
 if validB (itC x)=true then(if s1.ts = [] then s1.ft else flF s1.ft 2 (s1.pl L)) else flF (if s1.ts = [] then s1.ft else flF s1.ft 2 (s1.pl L)) 3 0
def RtOut (w:World)(x:Tr)(ns:List (List Int))(f:Option (Int×Int))(e:Ending)(w':World):Prop:=
 Below w.heap.size w w'/\((f=none/\∃ wn B q m cm p n c,e = .returned (.tuple #[.agg #[.slice q m cm,.slice p n c,.int .i64 0],.int .i64 0,.int .i64 0])/\(w.heap.size<=B/\w.heap.size<=wn.heap.size)/\OwnV wn B p n c ns/\wn.heap.size<=w'.heap.size/\(∀ j,B<=j->j<wn.heap.size->w'.heap[j]?=wn.heap[j]?)/\OwnC w' wn.heap.size q m cm (itC x))∨
  ∃ c a,f=some (c,a)/\e = .returned (.tuple #[.agg #[.slice none 0 0,.slice none 0 0,.int .i64 0],.int .i64 c,.int .i64 a]))
theorem Sty.fr {rb:Nat}{w a:World}(h:Sty rb rb w a):RFr rb rb w a:=⟨h.os,h.tape,h.output,h.size,fun j d b c _=>h.block j d b c⟩
theorem Sty.put1 {rb q:Nat}{w b:World}(h:Sty rb rb w b)(f:w.heap.size<=q)(o:Nat)(a:Value):Sty rb rb w (b.setCell ⟨q,o,none⟩ a):=⟨h.os,h.tape,h.output,by simpa using h.size,fun j e c d=>(Below.heap_setCell _ _ _ _ (by show j≠q;omega)).trans (h.block j e c d)⟩
theorem Sty.low {rb B:Nat}{w a:World}(h:Sty rb rb w a)(b:B<=rb)(c:B<=w.heap.size):Below B w a:=⟨h.os,h.tape,h.output,h.size,fun j d=>h.block j (by omega) (by omega) (by omega)⟩
theorem RP.tree {w0:World}{rb kb kc:Nat}{ov sv:Value}{all:List Tok}{k:Nat}{ft:Option (Int×Int)}{w d:World}(h:RP w0 rb kb kc ov sv all k ft w)(f:∃ o,ov = .map o)(g:Sty rb rb w d){B:Nat}{F:Fo}{b:List Value}(i:FoB w B F b):FoB d B F b:=by
 have a:∀ q v,w.cell? ⟨q,0,none⟩=some v->(∀ o,v≠.map o)->q≠rb/\q≠rb:=fun q v c j=>by
  have:q≠rb:=fun e=>by
   subst e;obtain⟨o,rfl⟩:=f;rw[h.c0] at c;exact j o (Option.some.inj c).symm
  exact⟨this,this⟩
 exact FoB.moveR a g.fr F b i
theorem readTerm_any (M N:Value)(w:World){T:List Cel}{L:Int}{all:List Tok}{ft:Option (Int×Int)}(HN:Calls Tryz.prog 31 #[M,N] (w.alloc zCla) (NewR (w.alloc zCla) T L all ft)) :
  Calls Tryz.prog 9 #[M,N] w (RtOut w (rdR T L (all.length+1) 1200 ⟨all,[],ft⟩).1 ((rdR T L (all.length+1) 1200 ⟨all,[],ft⟩).2.mustBe L 7).ns (rtF L (rdR T L (all.length+1) 1200 ⟨all,[],ft⟩).1 ((rdR T L (all.length+1) 1200 ⟨all,[],ft⟩).2.mustBe L 7))):=by
 go_enter Tryz.func9,Tryz.ntmps9
 go_wp2_with fail;refine HN.mono ?_;rintro e g ⟨rb,kb,kc,ov,sv,rfl,k7,P,e7,k1⟩;have HC:=sentP_any P e7;rw[List.drop_zero] at HC
 generalize ex:(rdR T L (all.length+1) 1200 ⟨all,[],ft⟩).1=x at *
 generalize es:((rdR T L (all.length+1) 1200 ⟨all,[],ft⟩).2.mustBe L 7)=s1 at *
 generalize (⟨all,[],ft⟩:RS).pl L=at0 at *
 have HP:Hid (PEnv g rb kb kc ov sv T L all):=P;have R:Hid (Below (w.alloc zCla).heap.size (w.alloc zCla) g):=k1
 have w3:w.heap.size+1<=rb:=by simpa using k7
 clear HN P e7 k1 k7 ex es;go_wp2_with fail;refine HC.mono ?_;rintro e a ⟨v,p,n,c,k2,B,rfl,Z,k6,hl,hB,k5,e8,x1,G⟩;obtain⟨O,Q,rfl⟩:=foC_iface Z
 have K:w.heap.size+1<=g.heap.size:=by have:=R.o.size;simpa using this
 have I:=G.size;have x2:g.heap[w.heap.size]?=some zCla:=(R.o.block _ (by simp)).trans (heap_alloc_new _ _);have x3:a.heap[w.heap.size]?=some zCla:=(G.block _ (by omega) (by omega) (by omega)).trans x2
 have S:Hid (FoB a g.heap.size x.fo [.iface O Q]/\okH x.fo/\x.2.cells.length<=3000000):=⟨Z,k6,hl⟩
 have h:Hid (g.heap.size<=B/\OwnV a B p n c s1.ns):=⟨hB,k5⟩
 have A:Hid (RP g rb kb kc ov sv all k2 s1.ft a/\s1.ts=all.drop k2):=⟨e8,x1⟩
 have x5:Hid (Sty rb rb g a):=G;have x6:Hid (a.heap[w.heap.size]?=some zCla):=x3
 have b:Hid (w.heap.size+1<=g.heap.size/\g.heap.size<=a.heap.size/\rb<g.heap.size):=⟨K,I,HP.o.lt.1⟩
 clear HC Z k6 hl hB k5 e8 x1 G x2 x3 K I
 obtain⟨V,U⟩:∃ V,V=(if s1.ts = [] then s1.ft else flF s1.ft 2 (s1.pl L)):=⟨_,rfl⟩
 have HM:Hid (Calls Tryz.prog 33 #[ptrR rb,.int .i64 0] (a.alloc (.cells #[.iface O Q,.slice p n c,.int .i64 at0] 67)) fun e w'=>e = .returned (.tuple #[])/\Sty rb rb (a.alloc (.cells #[.iface O Q,.slice p n c,.int .i64 at0] 67)) w'/\∃ k3,RP g rb kb kc ov sv all k3 V w'):=by
  refine(mustP_any HP.o (A.o.1.below (new_low a (.cells #[.iface O Q,.slice p n c,.int .i64 at0] 67)))).mono ?_;rintro e w' ⟨rfl,h1,h2⟩;refine⟨rfl,h1,?_⟩
  have x9:((all.drop k2).headD (senT L)).1.2.1=s1.pl L:=by rw[<-hd_pl,RS.hd,A.o.2]
  rw[x9,<-A.o.2] at h2;rw[U]
  split at h2
  ·rename_i X;rw[if_pos X];exact⟨_,h2⟩
  ·rename_i X;rw[if_neg X];exact⟨_,h2⟩
 have h8:Hid (V=(if s1.ts = [] then s1.ft else flF s1.ft 2 (s1.pl L))):=U;clear U;go_wp2_with fail;refine HM.o.mono ?_;rintro e z ⟨rfl,h4,k3,e9⟩;have u:z.heap[a.heap.size]?=some (.cells #[.iface O Q,.slice p n c,.int .i64 at0] 67):=(h4.block _ (by simp) (by have:=b.o;omega) (by have:=b.o;omega)).trans (heap_alloc_new _ _);have J:Sty rb rb a z:=(Sty.of rb (new_low a (.cells #[.iface O Q,.slice p n c,.int .i64 at0] 67))).up h4;have t:Sty rb rb a (z.setCell ⟨a.heap.size,2,none⟩ (.int .i64 0)):=J.put1 (Nat.le_refl _) _ _;have H:RP g rb kb kc ov sv all k3 V (z.setCell ⟨a.heap.size,2,none⟩ (.int .i64 0)):=e9.put (by have:=b.o;omega) b.o.2.1 _ _;have h6:=clause_any HP.o H x (.iface O Q) p n c 0 ((A.o.1.tree HP.o.ovm t S.o.1).toC) S.o.2.1 S.o.2.2
 have g0:z.cell? ⟨a.heap.size,0,none⟩=some (.iface O Q):=by unfold World.cell?;rw[u];rfl
 have g1:z.cell? ⟨a.heap.size,1,none⟩=some (.slice p n c):=by unfold World.cell?;rw[u];rfl
 have g2:z.cell? ⟨a.heap.size,2,none⟩=some (.int .i64 at0):=by unfold World.cell?;rw[u];rfl
 have z2:z.frozen? ⟨a.heap.size,2,none⟩=false:=by unfold World.frozen?;rw[u];simp
 obtain⟨f,ef⟩:∃ f,f=rtF L x s1:=⟨_,rfl⟩
 have h9:Hid (f=if validB (itC x)=true then V else flF V 3 0):=by
  show _=_
  rw[ef,h8.o]
  rfl
 have e2:Hid (Sty rb rb a (z.setCell ⟨a.heap.size,2,none⟩ (.int .i64 0))):=t;have e1:Hid (rtF L x s1=f):=ef.symm;clear HM h4 e9 H u J t h8 ef;go_wp2_with fail;refine h6.mono ?_;rintro e l ⟨q,m,r,rfl,e4,k8,D⟩
 have hR:∃ k4,RP g rb kb kc ov sv all k4 f l:=by
  rw[h9.o]
  split at D
  ·rename_i X;rw[if_pos X];exact⟨_,D⟩
  ·rename_i X;rw[if_neg X];exact⟨_,D⟩
 obtain⟨k4,hR⟩:=hR;have Y:Sty rb rb a l:=e2.o.up k8;have k9:a.heap.size<=(z.setCell ⟨a.heap.size,2,none⟩ (.int .i64 0)).heap.size:=e2.o.size
 obtain⟨d,e5⟩:∃ d,d=l.alloc (.cells #[.slice q m r,.slice p n c,.int .i64 0] 28):=⟨_,rfl⟩
 have s:Below l.heap.size l d:=by rw[e5];exact new_low _ _
 have C:Sty rb rb a d:=Y.below s;have e6:OwnC d a.heap.size q m r (itC x):=(e4.stay s.size (fun j _ hj=>s.block j hj)).lower k9;have E:=hR.below s;have c5:=E.c5;have c6:=E.c6
 have F:d.heap[l.heap.size]?=some (.cells #[.slice q m r,.slice p n c,.int .i64 0] 28):=by rw[e5];exact heap_alloc_new _ _
 have y:d.heap[w.heap.size]?=some zCla:=(C.block _ (by have:=b.o;omega) (by omega) (by omega)).trans x6.o
 have y0:d.cell? ⟨w.heap.size,0,none⟩=some (.slice none 0 0):=by unfold World.cell?;rw[y];rfl
 have y1:d.cell? ⟨w.heap.size,1,none⟩=some (.slice none 0 0):=by unfold World.cell?;rw[y];rfl
 have y2:d.cell? ⟨w.heap.size,2,none⟩=some (.int .i64 0):=by unfold World.cell?;rw[y];rfl
 have yf:∀ i,d.frozen? ⟨w.heap.size,i,none⟩=false:=fun i=>by unfold World.frozen?;rw[y];simp
 have w7:=yf 0;have w8:=yf 1;have w9:=yf 2
 have d0:d.cell? ⟨l.heap.size,0,none⟩=some (.slice q m r):=by unfold World.cell?;rw[F];rfl
 have d1:d.cell? ⟨l.heap.size,1,none⟩=some (.slice p n c):=by unfold World.cell?;rw[F];rfl
 have d2:d.cell? ⟨l.heap.size,2,none⟩=some (.int .i64 0):=by unfold World.cell?;rw[F];rfl
 have h3:∀ c,f=some c->c.1≠0:=fun c hc=>(E.fo c hc).1
 have e3:Hid (Below w.heap.size w d):=(Below.on (new_low w zCla) R.o).trans ((x5.o.up C).low (by omega) (by have:=b.o;omega));have x4:Hid (OwnC d a.heap.size q m r (itC x)):=e6;have h5:Hid (Sty rb rb a d):=C;have h7:Hid (d=l.alloc (.cells #[.slice q m r,.slice p n c,.int .i64 0] 28)):=e5
 have w4:Hid (w.heap.size<l.heap.size):=by have:=Y.size;have:=b.o;show _<_;omega
 clear h6 e4 k8 D hR Y k9 s C e6 E y F yf g0 g1 g2 z2 h9 e5
 go_upto_region 6 with fail
 rw[<-h7.o];clear h7
 cases f with
 | none=>
   simp only[Option.getD_none] at c5 c6;clear h3;go_wp2_with fail;have w5:w.heap.size<g.heap.size:=b.o.1;have a0:=World.cell?_setCell_same' d ⟨w.heap.size,0,none⟩ (.slice q m r) (by rw[y0];rfl);have a1:=World.cell?_setCell_same' (d.setCell ⟨w.heap.size,0,none⟩ (.slice q m r)) ⟨w.heap.size,1,none⟩ (.slice p n c) (by rw[World.cell?_setCell_other _ _ _ _ (by simp),y1];rfl);have a2:=World.cell?_setCell_same' ((d.setCell ⟨w.heap.size,0,none⟩ (.slice q m r)).setCell ⟨w.heap.size,1,none⟩ (.slice p n c)) ⟨w.heap.size,2,none⟩ (.int .i64 0) (by rw[World.cell?_setCell_other _ _ _ _ (by simp),World.cell?_setCell_other _ _ _ _ (by simp),y2];rfl);refine bodyPost_ret (v:=.tuple #[.agg #[.slice q m r,.slice p n c,.int .i64 0],.int .i64 0,.int .i64 0]) (by simp[results,Tryz.results9,go_sem,y0,y1,y2,a0,a1,a2]) rfl ?_;rw[e1.o]
   refine⟨low_put (low_put (low_put e3.o (Nat.le_refl _) _ _) (Nat.le_refl _) _ _) (Nat.le_refl _) _ _,.inl ⟨rfl,a,B,q,m,r,p,n,c,rfl,⟨by have:=h.o.1;omega,by have:=b.o;omega⟩,h.o.2,by simpa using h5.o.size,fun j hj x8=>?_,?_⟩⟩
   ·exact(put3_off (by have:=h.o.1;omega) _ _ _).trans (h5.o.block j x8 (by have:=b.o;have:=h.o.1;omega) (by have:=b.o;have:=h.o.1;omega))
   ·exact x4.o.stay (by simp) (fun j hj _=>put3_off (by have:=b.o;omega) _ _ _)
 | some ca=>
   obtain⟨cc,ca⟩:=ca;have x7:¬ cc=0:=h3 _ rfl
   have w1:(cc == 0)=false:=by simpa using x7
   simp only[Option.getD_some] at c5 c6
   have w6:¬ w.heap.size=rb:=by omega
   have w2:¬ rb=w.heap.size:=by omega
   clear h3;go_wp2_with fail
   go_region_held3 (fun W=>W.cell? ⟨rb,5,none⟩=some (.int .i64 cc)/\W.cell? ⟨rb,6,none⟩=some (.int .i64 ca)) (first | go_keep) (fail)
   go_wp2_with fail;have a0:=World.cell?_setCell_same' d ⟨w.heap.size,0,none⟩ (.slice none 0 0) (by rw[y0];rfl);have a1:=World.cell?_setCell_same' (d.setCell ⟨w.heap.size,0,none⟩ (.slice none 0 0)) ⟨w.heap.size,1,none⟩ (.slice none 0 0) (by rw[World.cell?_setCell_other _ _ _ _ (by simp),y1];rfl);have a2:=World.cell?_setCell_same' ((d.setCell ⟨w.heap.size,0,none⟩ (.slice none 0 0)).setCell ⟨w.heap.size,1,none⟩ (.slice none 0 0)) ⟨w.heap.size,2,none⟩ (.int .i64 0) (by rw[World.cell?_setCell_other _ _ _ _ (by simp),World.cell?_setCell_other _ _ _ _ (by simp),y2];rfl);refine bodyPost_ret (v:=.tuple #[.agg #[.slice none 0 0,.slice none 0 0,.int .i64 0],.int .i64 cc,.int .i64 ca]) (by simp[results,Tryz.results9,go_sem,y0,y1,y2,a0,a1,a2]) rfl ?_;rw[e1.o];exact⟨(low_put (low_put (low_put e3.o (Nat.le_refl _) _ _) (Nat.le_refl _) _ _) (Nat.le_refl _) _ _).drew,.inr ⟨cc,ca,rfl,rfl⟩⟩
abbrev senO (L:Int):Obj:=.cells #[.int .i64 0,.int .i64 L,.int .i64 0,.slice none 0 0,.int .i64 0] 86
abbrev newO (kb:Nat):Obj:=.cells #[.map none,.slice (some ⟨kb,0,none⟩) 1 1,.map none,.map none,.slice none 0 0,.int .i64 0,.int .i64 0] 78
theorem deadP {w:World}{rb kb:Nat}{L:Int}(a:w.heap[kb]?=some (senO L))(b:rb<w.heap.size/\kb<w.heap.size)(d:kb≠rb)(e:0<=L/\L<=9000000000):PEnv w rb kb 1 (.map none) (.map none) [] L []:=by
 refine⟨b,d,⟨by simp,by decide⟩,by simp,e,fun i j=>?_,(fun t l=>by cases l),(fun c g=>by cases g),fun h=>absurd rfl h,fun W f x n o m=>?_,⟨none,rfl⟩⟩
 ·obtain rfl:i=0:=by simpa using j
  refine⟨none,0,?_,?_,?_,?_,?_,fun W f=>?_⟩
  ·unfold World.cell?;simp only[Nat.zero_mul];rw[a];rfl
  ·unfold World.cell?;simp only[Nat.zero_mul];rw[a];rfl
  ·unfold World.cell?;simp only[Nat.zero_mul];rw[a];rfl
  ·unfold World.cell?;simp only[Nat.zero_mul];rw[a];rfl
  ·unfold World.cell?;simp only[Nat.zero_mul];rw[a];rfl
  ·intro h;simp[senT] at h
 ·obtain rfl:=m rfl
  rw[if_neg (by decide)]
  kernel_rfl
theorem deadR {w:World}{rb kb:Nat}{L:Int}(l:w.heap[kb]?=some (senO L))(f:w.heap[rb]?=some (newO kb))(d:kb≠rb)(n:0<=L/\L<=9000000000)(c a:Int)(j:c≠0) :
  Calls Tryz.prog 59 #[ptrR rb,.int .i64 c,.int .i64 a] w fun e h=>e = .returned (.tuple #[])/\PEnv h rb kb 1 (.map none) (.map none) [] L []/\RP h rb kb 1 (.map none) (.map none) [] 0 (some (c,a)) h/\Sty rb rb w h:=by
 have m:rb<w.heap.size:=(Array.getElem?_eq_some_iff.1 f).1;have g:kb<w.heap.size:=(Array.getElem?_eq_some_iff.1 l).1;have P:=deadP l ⟨m,g⟩ d n
 have p:RP w rb kb 1 (.map none) (.map none) [] 0 none w:=by
  refine⟨Sty.refl _ _ _,?_,?_,?_,⟨.map none,?_⟩,⟨.slice none 0 0,?_⟩,?_,?_,fun o=>?_,by simp,fun c j=>by cases j⟩
  ·unfold World.cell?;rw[f];rfl
  ·unfold World.cell?;rw[f];rfl
  ·unfold World.cell?;rw[f];rfl
  ·unfold World.cell?;rw[f];rfl
  ·unfold World.cell?;rw[f];rfl
  ·unfold World.cell?;rw[f];rfl
  ·unfold World.cell?;rw[f];rfl
  ·unfold World.frozen?;rw[f];simp
 refine(failP_any P p c a j).mono ?_;rintro e h ⟨rfl,b,i⟩;have r:=i.size;refine⟨rfl,deadP ((i.block _ g d d).trans l) ⟨by omega,by omega⟩ d n,?_,i⟩;exact⟨Sty.refl _ _ _,b.c0,b.c1,b.c2,b.c3,b.c4,b.c5,b.c6,b.fz,by simp,fun x q=>⟨(b.fo x q).1,by simp⟩⟩
def nrW (w:World)(n:Nat):World:=(w.alloc (senO (n:Int))).alloc (newO w.heap.size)
theorem nrW_facts (w:World)(n:Nat):Below w.heap.size w (nrW w n)/\(nrW w n).heap.size=w.heap.size+2/\(nrW w n).heap[w.heap.size]?=some (senO n)/\(nrW w n).heap[w.heap.size+1]?=some (newO w.heap.size):=by
 unfold nrW
 refine⟨((Below.refl _ _).alloc (Nat.le_refl _) _).alloc (by simp) _,by simp,((new_low _ _).block _ (by simp)).trans (heap_alloc_new _ _),?_⟩;have:=heap_alloc_new (w.alloc (senO (n:Int))) (newO w.heap.size)
 simpa using this
theorem dead_new {w W:World}{n:Nat}(b:Below (nrW w n).heap.size (nrW w n) W)(m:(n:Int)<=9000000000)(c a:Int)(l:c≠0) :
  Calls Tryz.prog 59 #[ptrR (w.heap.size+1),.int .i64 c,.int .i64 a] W fun e d=>e = .returned (.tuple #[])/\NewR w [] n [] (some (c,a)) (.returned (ptrR (w.heap.size+1))) d:=by
 obtain⟨f,p,g,h⟩:=nrW_facts w n;refine(deadR (rb:=w.heap.size+1) (kb:=w.heap.size) (L:=n) ((b.block _ (by omega)).trans g) ((b.block _ (by omega)).trans h) (by omega) ⟨by omega,m⟩ c a l).mono ?_;rintro e d ⟨rfl,i,j,o⟩;exact⟨rfl,_,_,_,_,_,rfl,by omega,i,j,(Below.on f b).trans (o.low (by omega) (by have:=b.size;omega))⟩
theorem newBad_any (a:Value)(p:Option Addr)(n c:Nat)(w:World)(t:(n:Int)<=9000000000)
  (d:Calls Tryz.prog 58 #[a] (nrW w n) fun e g=>e = .returned (.bool false)/\Below (nrW w n).heap.size (nrW w n) g) :
  Calls Tryz.prog 31 #[a,.slice p n c] w (NewR w [] n [] (some (1,0))):=by
 have b:Hid (∀ W,Below (nrW w n).heap.size (nrW w n) W->Calls Tryz.prog 59 #[ptrR (w.heap.size+1),.int .i64 1,.int .i64 0] W fun e g=>e = .returned (.tuple #[])/\NewR w [] n [] (some (1,0)) (.returned (ptrR (w.heap.size+1))) g):=fun W s=>dead_new s t 1 0 (by decide)
 obtain⟨V,f⟩:∃ V,V=nrW w n:=⟨_,rfl⟩
 have l:Hid (V=(w.alloc (senO (n:Int))).alloc (newO w.heap.size)):=f;rw[<-f] at d b;clear f
 go_enter Tryz.func31,Tryz.ntmps31
 go_wp2_with fail;rw[<-l.o];refine d.mono ?_;rintro e q ⟨rfl,j⟩;have h:=b.o q j;clear d j b;go_wp2_with fail;refine h.mono ?_;rintro e r ⟨rfl,i⟩;have m:Hid (NewR w [] n [] (some (1,0)) (.returned (ptrR (w.heap.size+1))) r):=i;clear h i;go_wp2_with fail;refine bodyPost_ret (v:=ptrR (w.heap.size+1)) (by simp[results,Tryz.results31,go_sem]) rfl ?_;exact m.o
theorem newLex_any (b:Value)(p:Option Addr)(n c:Nat)(code a:Int)(w:World)(F:(n:Int)<=9000000000)(x:code≠0)
  (l:Calls Tryz.prog 58 #[b] (nrW w n) fun e f=>e = .returned (.bool true)/\Below (nrW w n).heap.size (nrW w n) f)
  (s:∀ W,Below (nrW w n).heap.size (nrW w n) W->Calls Tryz.prog 60 #[.slice p n c] W fun e f=>∃ i,e = .returned (.tuple #[i,.int .i64 code,.int .i64 a])/\Below W.heap.size W f) :
  Calls Tryz.prog 31 #[b,.slice p n c] w (NewR w [] n [] (some (code,a))):=by
 have j:Hid (∀ W,Below (nrW w n).heap.size (nrW w n) W->Calls Tryz.prog 59 #[ptrR (w.heap.size+1),.int .i64 code,.int .i64 a] W fun e f=>e = .returned (.tuple #[])/\NewR w [] n [] (some (code,a)) (.returned (ptrR (w.heap.size+1))) f):=fun W D=>dead_new D F code a x
 have d:Hid (∀ W,Below (nrW w n).heap.size (nrW w n) W->Calls Tryz.prog 60 #[.slice p n c] W fun e f=>∃ i,e = .returned (.tuple #[i,.int .i64 code,.int .i64 a])/\Below W.heap.size W f):=s;clear s
 have E:(code == 0)=false:=by simpa using x
 obtain⟨V,m⟩:∃ V,V=nrW w n:=⟨_,rfl⟩
 have z:Hid (V=(w.alloc (senO (n:Int))).alloc (newO w.heap.size)):=m;rw[<-m] at l j d;clear m
 go_enter Tryz.func31,Tryz.ntmps31
 go_wp2_with fail;rw[<-z.o];refine l.mono ?_;rintro e t ⟨rfl,q⟩;have g:=d.o t q;have y:Hid (Below V.heap.size V t):=q;clear l q d;go_wp2_with fail;refine g.mono ?_;rintro e B ⟨i,rfl,h⟩;have r:=j.o B (Below.on y.o h);clear g h j;go_wp2_with fail;refine r.mono ?_;rintro e C ⟨rfl,u⟩;have A:Hid (NewR w [] n [] (some (code,a)) (.returned (ptrR (w.heap.size+1))) C):=u;clear r u;go_wp2_with fail;refine bodyPost_ret (v:=ptrR (w.heap.size+1)) (by simp[results,Tryz.results31,go_sem]) rfl ?_;exact A.o
theorem lawIntR:Keyed Tryz.prog 3:=int_keyed Tryz.underlying3
def IMap (w:World)(b N:Nat)(E:List (Int×Value)):Prop:=∃ D:DataW Value,w.ownsMap Tryz.prog 3 anyE b N D/\Maps.size D=E.length/\(∀ x:Int,Maps.has D (.int .i64 x)=(look E x).isSome)/\
 (∀ (x:Int) z,D.atKey (.int .i64 x) z=match look E x with | some v=>.held v | none=>z)
theorem IMap.lt {w:World}{b N:Nat}{E:List (Int×Value)}(h:IMap w b N E):b<w.heap.size:=by obtain⟨D,h,_⟩:=h;exact h.lt
theorem IMap.of_block {w c:World}{b N:Nat}{E:List (Int×Value)}(h:IMap w b N E)(g:c.heap[b]?=w.heap[b]?):IMap c b N E:=by
 obtain⟨D,⟨d,a,e,r⟩,f⟩:=h;exact⟨D,⟨d,a,g.trans e,r⟩,f⟩
theorem IMap.below {w w':World}{b N:Nat}{E:List (Int×Value)}(h:IMap w b N E)(a:Below w.heap.size w w'):IMap w' b N E:=h.of_block (a.block _ h.lt)
theorem IMap.mono {w:World}{b N a:Nat}{E:List (Int×Value)}(h:IMap w b N E)(e:N<=a):IMap w b a E:=by
 obtain⟨D,c,d⟩:=h;exact⟨D,c.mono e,d⟩
theorem IMap.made (w:World):IMap (w.alloc (.map #[] 0)) w.heap.size 0 []:=⟨_,World.ownsMap_made _ _ _ _,rfl,fun x=>rfl,fun x z=>rfl⟩
theorem keyN_of (x:Int)(b:0<=x)(c:x<=1000000):keyOf Tryz.prog 3 (.int .i64 x)=some (.int .i64 x):=keyOf_int_mk (P:=Tryz.prog) Tryz.underlying3 (q:=.i64) (a:=x) (WalkArith.wf_i64 (by omega))
theorem IMap.look {w:World}{b N:Nat}{E:List (Int×Value)}(h:IMap w b N E){t e:TypeId}(n:Tryz.prog.underlying t=some (.map 3 e)){z:Value}(o:(zeroValue e).run Tryz.prog w = .ok z w)(x:Int)(j:0<=x)(l:x<=1000000) :
  (Instr.lookup t (.map (some b)) (.int .i64 x) true).run Tryz.prog w = .ok (.tuple #[(match Go.Proofs.YtlkhmmoimplokaaGreatDoor.look E x with | some v=>v | none=>z),.bool (Go.Proofs.YtlkhmmoimplokaaGreatDoor.look E x).isSome]) w:=by
 obtain⟨D,d,m,c,g⟩:=h;obtain⟨v,p,f,a⟩:=d.look_ok lawIntR n o (zd:=.held z) (zp:=[]) rfl (keyN_of x j l);rw[f,c];rw[g] at a;simp only[anyE,Option.some.injEq,Prod.mk.injEq] at a;have a:=a.1
 cases i:Go.Proofs.YtlkhmmoimplokaaGreatDoor.look E x with
 | none=>rw[i] at a;cases a;rfl
 | some u=>rw[i] at a;cases a;rfl
theorem IMap.put {w:World}{b N:Nat}{E:List (Int×Value)}(h:IMap w b N E){t e:TypeId}(p:Tryz.prog.underlying t=some (.map 3 e))(q:N<=1000000)(x:Int)(m:0<=x)(n:x<=1000000)(v:Value) :
  ∃ w',(Instr.mapUpdate t (.map (some b)) (.int .i64 x) v).run Tryz.prog w = .ok () w'/\IMap w' b (N+1) (putE E x v)/\w.grownBy w' (some b):=by
 obtain⟨D,a,j,c,i⟩:=h;obtain⟨w',g,d,o⟩:=a.update lawIntR p (by unfold maxLen;omega) (keyN_of x m n) (show anyE v=some (.held v,[]) from rfl);have l:=a.isMap;have f:WideAt.IsKeyLit (.int .i64 x):=trivial;refine⟨w',g,⟨_,d,?_,fun y=>?_,fun y z=>?_⟩,o⟩
 ·rw[size_put (a.tidy lawIntR),c,j,putE_len]
 ·rw[look_putE]
  by_cases e:y=x
  ·subst e;rw[has_put_same l f];simp
  ·rw[has_put_other (by simpa using e),c];simp[e]
 ·rw[look_putE]
  by_cases e:y=x
  ·subst e
   rw[atKey_put_same l f];simp
  ·rw[atKey_put_other (by simpa using e),i];simp[e]
def stE (rb:Nat):List (Int×Value):=[3,2,4,5,6,1].map fun k=>(k,.func (.func (stF k)) #[ptrR rb] #[])
theorem zeroSt (w:World):(zeroValue 208).run Tryz.prog w = .ok .nilFunc w:=by kernel_rfl
theorem stE_look (rb:Nat)(x:Int)(a:0<=x)(b:x<=7):look (stE rb) x=if 1<=x/\x<=6 then some (.func (.func (stF x)) #[ptrR rb] #[]) else none:=by
 have:x=0∨x=1∨x=2∨x=3∨x=4∨x=5∨x=6∨x=7:=by omega
 rcases this with rfl | rfl | rfl | rfl | rfl | rfl | rfl | rfl <;> rfl
theorem starts_look {w:World}{b N rb:Nat}(h:IMap w b N (stE rb))(x:Int)(c:0<=x)(d:x<=7) :
  (Instr.lookup 75 (.map (some b)) (.int .i64 x) true).run Tryz.prog w = .ok (.tuple #[if 1<=x/\x<=6 then .func (.func (stF x)) #[ptrR rb] #[] else .nilFunc,.bool (decide (1<=x/\x<=6))]) w:=by
 rw[h.look Tryz.underlying75 (zeroSt w) x c (by omega),stE_look rb x c d]
 by_cases a:1<=x/\x<=6
 ·simp[a]
 ·simp only[if_neg a,Option.isSome_none,decide_eq_false a]
theorem starts_put {w:World}{b N:Nat}{E:List (Int×Value)}(h:IMap w b N E)(j:N<=1000)(x:Int)(d:0<=x)(i:x<=7)(v:Value)(g:look E x=none) :
  ∃ a,(Instr.mapUpdate 75 (.map (some b)) (.int .i64 x) v).run Tryz.prog w = .ok () a/\IMap a b (N+1) (E ++ [(x,v)])/\w.grownBy a (some b):=by
 obtain⟨a,e,c,f⟩:=h.put Tryz.underlying75 (by omega) x d (by omega) v;rw[putE_new v g] at c;exact⟨a,e,c,f⟩
theorem OwnK.stay {w w':World}{B:Nat}{p:Option Addr}{n c:Nat}{t:List Tok}(h:OwnK w B p n c t)(y:w.heap.size<=w'.heap.size)(q:∀ k,B<=k->k<w.heap.size->w'.heap[k]?=w.heap[k]?):OwnK w' B p n c t:=by
 obtain⟨rfl,A,v,s,d,ha⟩:=h;refine⟨rfl,A,v,⟨s.1,?_⟩,fun i f=>⟨(d i f).1,(d i f).2.other y (fun g x e=>?_)⟩,ha⟩
 ·rcases s.2 with u | ⟨g,a,b,z,m,o,r⟩
  ·exact .inl u
  ·exact .inr ⟨g,a,b,z,m,(q g (by omega) (Array.getElem?_eq_some_iff.1 o).1).trans o,r⟩
 ·obtain⟨C,l,m,j,_⟩:=(d i f).2.2 x
  rw[e] at l
  cases l
  exact q g (by omega) j
theorem drop_headD (L:Int):∀ (a:List Tok) (i:Nat),i<=a.length->(a ++ [senT L]).getD i Tok.none=(a.drop i).headD (senT L)
 | [],i,h=>by
   obtain rfl:i=0:=by simpa using h
   rfl
 | t :: r,0,h=>rfl
 | t :: r,i+1,h=>by
   have:=drop_headD L r i (by simpa using h)
   simpa using this
theorem liveP {w:World}{rb g kc q z N M B:Nat}{T:List Cel}{b:List Tok}{L:Int}(Y:OwnK w B (some ⟨g,0,none⟩) (b.length+1) kc (b ++ [senT L]))(hB:rb<B)(D:OpMap w q N T)(m:q≠rb)(E:IMap w z M (stE rb))(n:z≠rb)
  (v:∀ t ∈ b,TokG t) (l:b.length<=10000) (o:∀ c ∈ T,(1<=c.1/\c.1<=1200)/\(0<=c.2.1/\c.2.1<=6)/\Byte c.2.2/\c.2.2.length<=100) (Z:0<=L/\L<=9000000000) (u:rb<w.heap.size) :
  PEnv w rb g kc (.map (some q)) (.map (some z)) T L b:=by
 obtain⟨F,y,hl,f,hf,_⟩:=Y
 have a:b.length+1<=kc/\kc<=9223372036854775807/\B<=g/\g<w.heap.size:=by
  rcases f.2 with ⟨h',C⟩ | ⟨R,P,Q,G,j,hg,U,V,_⟩
  ·omega
  ·simp only[Value.slice.injEq,Option.some.injEq,Addr.mk.injEq,true_and,and_true] at G
   obtain⟨rfl,rfl⟩:=G;exact⟨U,by unfold maxLen at V;omega,j,(Array.getElem?_eq_some_iff.1 hg).1⟩
 refine⟨⟨u,a.2.2.2⟩,by omega,⟨a.1,a.2.1⟩,l,Z,fun i hi=>?_,v,o,fun _=>⟨q,N,rfl,fun W d=>D.of_block (d.block _ D.lt m m)⟩,fun W d x C X _=>starts_look (E.of_block (d.block _ E.lt n n)) x C X,⟨_,rfl⟩⟩
 have r:i<(b ++ [senT L]).length:=by simp;omega
 obtain⟨h,p⟩:=hf i r;obtain⟨H,I,J,K,O⟩:=flatT_at y i (by omega);rw[drop_headD L b i hi] at h p;refine⟨(y.getD i RT.zero).2.1,(y.getD i RT.zero).2.2.2,?_,?_,?_,?_,?_,fun W d=>?_⟩
 ·rw[f.cellAt _ (by omega),H,h]
 ·rw[f.cellAt _ (by omega),I,h]
 ·rw[f.cellAt _ (by omega),J,h]
 ·rw[f.cellAt _ (by omega),K,p.len]
 ·rw[f.cellAt _ (by omega),O,h]
 ·refine(p.other d.size (fun S F e=>?_)).bin
  obtain⟨R,A,j,s,_⟩:=p.2 F;rw[e] at A
  cases A
  exact d.block S s (by omega) (by omega)
theorem starts_all (W:World)(rb:Nat):∃ c d e f g b,(Instr.mapUpdate 75 (.map (some W.heap.size)) (.int .i64 3) (.func (.func (stF 3)) #[ptrR rb] #[])).run Tryz.prog (W.alloc (.map #[] 0)) = .ok () c/\(Instr.mapUpdate 75 (.map (some W.heap.size)) (.int .i64 2) (.func (.func (stF 2)) #[ptrR rb] #[])).run Tryz.prog c = .ok () d/\(Instr.mapUpdate 75 (.map (some W.heap.size)) (.int .i64 4) (.func (.func (stF 4)) #[ptrR rb] #[])).run Tryz.prog d = .ok () e/\(Instr.mapUpdate 75 (.map (some W.heap.size)) (.int .i64 5) (.func (.func (stF 5)) #[ptrR rb] #[])).run Tryz.prog e = .ok () f/\(Instr.mapUpdate 75 (.map (some W.heap.size)) (.int .i64 6) (.func (.func (stF 6)) #[ptrR rb] #[])).run Tryz.prog f = .ok () g/\(Instr.mapUpdate 75 (.map (some W.heap.size)) (.int .i64 1) (.func (.func (stF 1)) #[ptrR rb] #[])).run Tryz.prog g = .ok () b/\IMap b W.heap.size 6 (stE rb)/\Below W.heap.size W b:=by
 have C:=IMap.made W;have h:Below W.heap.size W (W.alloc (.map #[] 0)):=new_low _ _;obtain⟨c,p,D,v⟩:=starts_put C (by decide) 3 (by decide) (by decide) (.func (.func (stF 3)) #[ptrR rb] #[]) (by rfl);have i:Below W.heap.size W c:=h.grown v h.size (fun k a=>by cases a;exact Nat.le_refl _);obtain⟨d,q,E,x⟩:=starts_put D (by decide) 2 (by decide) (by decide) (.func (.func (stF 2)) #[ptrR rb] #[]) (by rfl);have j:Below W.heap.size W d:=i.grown x i.size (fun k a=>by cases a;exact Nat.le_refl _);obtain⟨e,r,F,y⟩:=starts_put E (by decide) 4 (by decide) (by decide) (.func (.func (stF 4)) #[ptrR rb] #[]) (by rfl);have l:Below W.heap.size W e:=j.grown y j.size (fun k a=>by cases a;exact Nat.le_refl _);obtain⟨f,s,G,z⟩:=starts_put F (by decide) 5 (by decide) (by decide) (.func (.func (stF 5)) #[ptrR rb] #[]) (by rfl)
 have m:Below W.heap.size W f:=l.grown z l.size (fun k a=>by cases a;exact Nat.le_refl _);obtain⟨g,t,H,A⟩:=starts_put G (by decide) 6 (by decide) (by decide) (.func (.func (stF 6)) #[ptrR rb] #[]) (by rfl);have n:Below W.heap.size W g:=m.grown A m.size (fun k a=>by cases a;exact Nat.le_refl _);obtain⟨b,u,I,B⟩:=starts_put H (by decide) 1 (by decide) (by decide) (.func (.func (stF 1)) #[ptrR rb] #[]) (by rfl);have o:Below W.heap.size W b:=n.grown B n.size (fun k a=>by cases a;exact Nat.le_refl _);exact⟨c,d,e,f,g,b,p,q,r,s,t,u,I,o⟩
end Go.Proofs.YtlkhmmoimplokaaGreatDoor
namespace Go.Proofs.YtlkhmmoimplokaaGreatDoor
set_option maxHeartbeats 8000000
set_option maxRecDepth 100000
open Go Go.RowKit
set_option linter.unusedVariables false
set_option linter.unusedSimpArgs false
section
variable {w0:World}{pb:Nat}{po:Option Addr}{co:Nat}{kp:Option Addr}{kc:Nat}{T:List Cel}{L:Int}{all:List Tok}{s:RS}{k:Nat}{b:Int}{w:World}
structure MC (w0:World)(pb:Nat)(po:Option Addr)(co:Nat)(kp:Option Addr)(kc:Nat)(T:List Cel)(L:Int)(all:List Tok)(s:RS)(k:Nat)(b:Int)(w:World):Prop where
 mf:MF pb w0 w
 c0:w.cell? ⟨pb,0,none⟩=some (.slice po T.length co)
 c1:w.cell? ⟨pb,1,none⟩=some (.slice kp all.length kc)
 c2:w.cell? ⟨pb,2,none⟩=some (.int .i64 k)
 c3:w.cell? ⟨pb,3,none⟩=some (.int .i64 b)
 c4:∃ v,w.cell? ⟨pb,4,none⟩=some v
 fz:∀ o,w.frozen? ⟨pb,o,none⟩=false
 kl:k<=all.length+1
 rel:(s.ft=none/\b = -1/\s.ts=all.drop k)∨∃ i:Nat,b=i/\i<=all.length/\s.ft=some (2,plM all L i)/\s.ts = []
theorem MS.mc (h:MS w0 pb po co kp kc T L all s k b w):MC w0 pb po co kp kc T L all s k b w:=by
 obtain⟨p,n,c,a,_⟩:=h.c4;exact⟨h.mf,h.c0,h.c1,h.c2,h.c3,⟨_,a⟩,h.fz,by have:=h.kl;omega,h.rel⟩
theorem MC.of {w':World}(h:MC w0 pb po co kp kc T L all s k b w)(d:MF pb w0 w')(e:w'.heap[pb]?=w.heap[pb]?):MC w0 pb po co kp kc T L all s k b w':=by
 have c:∀ o v,w.cell? ⟨pb,o,none⟩=some v->w'.cell? ⟨pb,o,none⟩=some v:=fun o v c=>(World.cell?_of_block (a:=⟨pb,o,none⟩) e).trans c
 obtain⟨v,f⟩:=h.c4;exact⟨d,c _ _ h.c0,c _ _ h.c1,c _ _ h.c2,c _ _ h.c3,⟨v,c _ _ f⟩,fun o=>(World.frozen?_of_block (a:=⟨pb,o,none⟩) e).trans (h.fz o),h.kl,h.rel⟩
theorem MC.below {w':World}(h:MC w0 pb po co kp kc T L all s k b w)(a:Below w.heap.size w w'):MC w0 pb po co kp kc T L all s k b w':=h.of (h.mf.below a) (a.block _ (World.block_lt_of_cell? _ _ h.c0))
theorem MF.put3 {w a:World}(h:MF pb w a){R:Nat}(f:w.heap.size<=R)(x y z:Value):MF pb w (put3 a R x y z):=⟨h.os,h.tape,h.output,by rw[put3_size];exact h.size,fun k e c d=>(put3_heap _ _ _ _ _ (by omega)).trans (h.block k e c d)⟩
theorem MC.put3 (h:MC w0 pb po co kp kc T L all s k b w)(c:pb<w0.heap.size){R:Nat}(a:w0.heap.size<=R)(x y z:Value):MC w0 pb po co kp kc T L all s k b (put3 w R x y z):=h.of (h.mf.put3 a _ _ _) (put3_heap _ _ _ _ _ (by omega))
theorem MC.halt (h:MC w0 pb po co kp kc T L all s k b w)(a:s.ft=none)(e:k<=all.length):MC w0 pb po co kp kc T L all (s.stop L) k (k:Nat) (w.setCell ⟨pb,3,none⟩ (.int .i64 (k:Nat))):=by
 obtain⟨v,d⟩:=h.c4
 have f:s.ts=all.drop k:=by
  rcases h.rel with ⟨_,_,c⟩ | ⟨i,_,_,c,_⟩
  ·exact c
  ·rw[a] at c;cases c
 refine⟨h.mf.trans (.set _ _ _ _),cell_pbD _ _ (by decide) h.c0,cell_pbD _ _ (by decide) h.c1,cell_pbD _ _ (by decide) h.c2,World.cell?_setCell_same' _ _ _ (by rw[h.c3];rfl),⟨v,cell_pbD _ _ (by decide) d⟩,fun o=>by rw[World.frozen?_setCell];exact h.fz o,h.kl,.inr ⟨k,rfl,e,?_,rfl⟩⟩
 unfold RS.stop plM
 rw[a,<-f];rfl
theorem MC.start (h:MC w0 pb po co kp kc T L all s k b w)(d:k<=all.length)(e:pb<w0.heap.size):MS w0 pb po co kp kc T L all ⟨s.ts,[],s.ft⟩ k b (w.setCell ⟨pb,4,none⟩ (.slice none 0 0)):=by
 obtain⟨v,c⟩:=h.c4;refine⟨h.mf.trans (.set _ _ _ _),cell_pbD _ _ (by decide) h.c0,cell_pbD _ _ (by decide) h.c1,cell_pbD _ _ (by decide) h.c2,cell_pbD _ _ (by decide) h.c3,⟨none,0,0,World.cell?_setCell_same' _ _ _ (by rw[c];rfl),NmO.nil _ _ _⟩,fun o=>by rw[World.frozen?_setCell];exact h.fz o,d,h.rel,(fun g f=>by cases f),?_⟩
 rcases h.rel with ⟨_,_,a⟩ | ⟨i,_,_,_,a⟩
 ·simp[a]
 ·simp[a]
theorem l4stopC_any (h:MC w0 pb po co kp kc T L all s k b w)(a:s.ft=none)(m:k<=all.length)(l:all.length<=10000):Calls Tryz.prog 27 #[ptrM pb] w fun e f=>e = .returned (.tuple #[])/\MC w0 pb po co kp kc T L all (s.stop L) k (k:Nat) f/\MF pb w f:=by
 have n:=h.c2;have j:=h.c3;have p:=h.fz 3
 have d:b = -1:=by
  rcases h.rel with ⟨_,c,_⟩ | ⟨i,_,_,c,_⟩
  ·exact c
  ·rw[a] at c;cases c
 have g:Hid (MC w0 pb po co kp kc T L all (s.stop L) k (k:Nat) (w.setCell ⟨pb,3,none⟩ (.int .i64 (k:Nat)))):=h.halt a m;rw[d] at j;clear h d
 go_enter Tryz.func27,Tryz.ntmps27
 go_wp2_with fail
 go_end0
 exact⟨rfl,g.o,.set _ _ _ _⟩
def ClO (w0:World)(pb:Nat)(po:Option Addr)(co:Nat)(kp:Option Addr)(kc:Nat)(T:List Cel)(L:Int)(all:List Tok)(w:World)(x:Tr)(s1:RS)(e:Ending)(w':World):Prop:=
 ∃ q n c p m cp k' b',e = .returned (.agg #[.slice q n c,.slice p m cp,.int .i64 0])/\MF pb w w'/\MC w0 pb po co kp kc T L all s1 k' b' w'/\(s1.ft=none->k'<=all.length/\∃ t,OwnC w' w.heap.size q n c t/\t.length<=2001/\(∀ y ∈ t,y.2.2.length<=100)/\Cut t (itC x)/\OwnV w' w.heap.size p m cp s1.ns/\(∀ xs ∈ s1.ns,xs.length<=100)/\s1.ns.length<=10000)
theorem tl_bd:∀ (t:List Cel),(∀ y ∈ t,y.2.2.length<=100)->tl t<=100 * t.length
 | [],_=>by simp[tl]
 | x :: r,h=>by
   have:=tl_bd r (fun y a=>h y (List.mem_cons_of_mem _ a));have c:=h x (List.mem_cons_self ..);simp only[tl,List.length_cons];omega
theorem OwnV.lower {w:World}{B a:Nat}{p:Option Addr}{n c:Nat}{e:List (List Int)}(h:OwnV w B p n c e)(d:a<=B):OwnV w a p n c e:=by
 obtain⟨l,f,q,j,m,o,ha⟩:=h;exact⟨l,f,q,j,ownsRow_down m d,fun i g=>(o i g).mono d,ha⟩
def CIv (W6:World)(C:Nat)(q6:Option Addr)(n6 c6:Nat)(ns:List (List Int))(wr:World)(j:Nat)(pv:Option Addr)(cv:Nat):Prop:=
 wr.heap[C]?=some (.cells #[.slice q6 n6 c6,.slice pv j cv,.int .i64 0] 28)/\OwnV wr (C+1) pv j cv (ns.take j)/\Below W6.heap.size W6 wr
def NmI (W:World)(pb:Nat)(p:Option Addr)(n c:Nat)(ns:List (List Int)):Prop:=W.cell? ⟨pb,4,none⟩=some (.slice p n c)/\n=ns.length/\∀ i,i<ns.length->∃ g q cq,p=some ⟨g,0,none⟩/\W.cell? ⟨g,i,none⟩=some (.slice q (ns.getD i []).length cq)/\BIn W q (ns.getD i [])
theorem NmI.below {W d:World}{p:Option Addr}{n c:Nat}{j:List (List Int)}(h:NmI W pb p n c j)(a:Below W.heap.size W d):NmI d pb p n c j:=⟨(a.cell (World.block_lt_of_cell? _ _ h.1)).trans h.1,h.2.1,fun i o=>by
 obtain⟨g,q,l,e,f,m⟩:=h.2.2 i o
 exact⟨g,q,l,e,(a.cell (World.block_lt_of_cell? _ _ f)).trans f,m.below a⟩⟩
theorem l4clause_any (E:MEnv w0 pb po co kp kc T L all)(a6:MOk w0 pb po co kp kc T L all (all.length+1))(h:MC w0 pb po co kp kc T L all s k b w)(hk:k<=all.length)(c5:w0.heap.size<=w.heap.size) :
  Calls Tryz.prog 26 #[ptrM pb] w (ClO w0 pb po co kp kc T L all w (rdR T L (all.length+1) 1200 ⟨s.ts,[],s.ft⟩).1 ((rdR T L (all.length+1) 1200 ⟨s.ts,[],s.ft⟩).2.mustBe L 7)):=by
 have g8:pb<w.heap.size:=Nat.lt_of_lt_of_le E.lt c5
 have h6:Hid (pb<w0.heap.size/\w0.heap.size<=w.heap.size/\pb<w.heap.size):=⟨E.lt,c5,g8⟩
 obtain⟨Q,eA⟩:∃ Q,Q=w.alloc (.cells #[.slice none 0 0,.slice none 0 0,.int .i64 0] 28):=⟨_,rfl⟩
 have b7:Below w.heap.size w Q:=by rw[eA];exact bel_alloc _ _
 have h3:=h.below b7;have i6:Hid (Q=w.alloc (.cells #[.slice none 0 0,.slice none 0 0,.int .i64 0] 28)):=eA
 have i1:Q.heap.size=w.heap.size+1:=by rw[eA];simp
 have g9:Q.heap[w.heap.size]?=some (.cells #[.slice none 0 0,.slice none 0 0,.int .i64 0] 28):=by rw[eA];exact heap_alloc_new _ _
 have j3:Hid (∀ W,MF pb Q W->W.heap[w.heap.size]?=some (.cells #[.slice none 0 0,.slice none 0 0,.int .i64 0] 28)):=fun W hW=>hW.tag g9 (by decide) (by omega)
 have x4:=h3.start hk E.lt;obtain⟨v4,a4⟩:=h3.c4;have j6:=h3.fz 4
 obtain⟨A1,k6⟩:∃ A1,A1=Q.setCell ⟨pb,4,none⟩ (.slice none 0 0):=⟨_,rfl⟩
 have i5:Hid (A1=Q.setCell ⟨pb,4,none⟩ (.slice none 0 0)):=k6;rw[<-k6] at x4
 have j1:Hid (MF pb Q A1):=by rw[k6];exact .set _ _ _ _
 have i2:(⟨s.ts,[],s.ft⟩:RS).ts.length<all.length+1:=by have:=x4.nb.2;simp only[List.length_nil] at this ⊢;omega
 have w1:=a6 1200 ⟨s.ts,[],s.ft⟩ k b A1 x4 i2
 generalize rdR T L (all.length+1) 1200 ⟨s.ts,[],s.ft⟩=y at w1 ⊢
 obtain⟨S1,b3⟩:∃ S1,S1=y.2.mustBe L 7:=⟨_,rfl⟩
 rw[<-b3];have a8:Hid (S1=y.2.mustBe L 7):=b3;clear b3
 have HK:Hid (∀ (k':Nat) (b':Int) (W:World),MS w0 pb po co kp kc T L all y.2 k' b' W->∀ W',Below W.heap.size W W'->Calls Tryz.prog 54 #[ptrM pb,.int .i64 0] W' fun e w'=>e = .returned (.int .i64 y.2.kd)/\Below W'.heap.size W' w'):=fun k' b' W hs=>l4kind0 E hs
 have b1:Hid (∀ (k':Nat) (b':Int) (W:World),MS w0 pb po co kp kc T L all y.2 k' b' W->Calls Tryz.prog 27 #[ptrM pb] W (MUnit w0 pb po co kp kc T L all W (y.2.stop L) (.tuple #[]))):=fun k' b' W hs=>l4stop_any E hs
 have c7:Hid (all.length<=10000):=E.len
 have x9:Hid (Below w.heap.size w Q/\Q.heap.size=w.heap.size+1):=⟨b7,i1⟩
 have m9:=fieldP0;clear a6 h E hk c5 g8 eA b7 h3 i1 g9 x4 k6 i2
 go_enter Tryz.func26,Tryz.ntmps26
 go_upto_region 1 with fail
 rw[<-i6.o]
 go_upto_region 2 with fail
 rw[<-i5.o];go_wp2_with fail;refine w1.mono ?_;rintro e W2 ⟨q,n,c,t,p2,rfl,f3,hl,hcut,⟨k2,b2,b9⟩,f5⟩;have w5:=HK.o k2 b2 W2 b9 W2 (Below.refl _ _)
 have u:Hid (CT W2 pb q n c t/\t.length<=2001/\(y.2.ft=none->Cut t (itC y.1))/\MS w0 pb po co kp kc T L all y.2 k2 b2 W2/\MF pb Q W2):=⟨f3,hl,hcut,b9,j1.o.trans f5⟩
 clear f3 hl hcut b9 f5 w1 HK a4 j6;go_wp2_with fail;refine w5.mono ?_;rintro e W3 ⟨rfl,K⟩
 by_cases h7:y.2.kd=7
 rotate_right
 case' _=>
  have l2:(y.2.kd != 7)=true:=by simpa using h7
  have w6:=b1.o k2 b2 W3 (u.o.2.2.2.1.below K)
  have HV:Hid (S1=y.2.stop L):=by show _=_;rw[a8.o];unfold RS.mustBe;rw[if_neg h7]
  have a5:Hid (MF pb W2 W3):=MF.of pb K
  have r:Hid ((y.2.stop L).ns=y.2.ns/\(y.2.stop L).ft≠none):=⟨rfl,by simp[RS.stop]⟩
  generalize y.2.stop L=s1 at w6 r HV
  generalize y.2.kd=kd at *
  clear h7 w5 b1 K;go_wp2_with fail;refine w6.mono ?_;rintro e W4 ⟨rfl,⟨k4,b4,N⟩,f6⟩;have u2:=N.c2;have uz:=N.fz 2;have m1:=N.kl;have l6:=c7.o;have m4:IntKind.i64.wrap ((k4:Int)+1)=(k4:Int)+1:=wrapM (by omega) (by omega)
  obtain⟨l,x⟩:∃ l,l=W4.setCell ⟨pb,2,none⟩ (.int .i64 ((k4:Int)+1)):=⟨_,rfl⟩
  have d2:Hid (l=W4.setCell ⟨pb,2,none⟩ (.int .i64 ((k4:Int)+1))):=x
  have X:MF pb W2 l:=by rw[x];exact(a5.o.trans f6).trans (.set _ _ _ _)
  obtain⟨pn,H,cn,h4,h5⟩:=N.c4
  have d6:l.cell? ⟨pb,4,none⟩=some (.slice pn H cn):=by rw[x];exact cell_pbD _ _ (by decide) h4
  have x1:NmO l pb w0.heap.size pn H cn s1.ns:=by rw[x];exact h5.of (MF.set _ _ _ _).sf fun g hg=>Below.heap_setCell _ _ _ _ (by have:=(h5.lt g hg).1;have:=h6.o;show g≠pb;omega)
  have d:Hid (CT l pb q n c t/\t.length<=2001/\MF pb Q l/\NmI l pb pn H cn y.2.ns/\(∀ xs ∈ y.2.ns,Byte xs/\xs.length<=100)/\y.2.ns.length<=10000):=by
   rw[r.o.1] at x1;have f7:=N.nb;rw[r.o.1] at f7;exact⟨u.o.1.move X.sf,u.o.2.1,u.o.2.2.2.2.trans X,⟨d6,x1.1,fun i hi=>by obtain⟨g,q',cq,e1,e2,e3⟩:=x1.at i hi;exact⟨g,q',cq,e1,e2,e3.bin⟩⟩,f7.1,by omega⟩
  have m:MC w0 pb po co kp kc T L all s1 (k4+1) b4 l:=by
   have V:=N.mc;obtain⟨v9,l3⟩:=V.c4;rw[x];refine⟨V.mf.trans (.set _ _ _ _),cell_pbD _ _ (by decide) V.c0,cell_pbD _ _ (by decide) V.c1,?_,cell_pbD _ _ (by decide) V.c3,⟨v9,cell_pbD _ _ (by decide) l3⟩,fun o=>by rw[World.frozen?_setCell];exact V.fz o,by have:=N.kl;omega,?_⟩
   ·rw[show((k4+1:Nat):Int)=(k4:Int)+1 by omega]
    exact World.cell?_setCell_same' _ _ _ (by rw[V.c2];rfl)
   ·rcases V.rel with ⟨h',_⟩ | h'
    ·exact absurd h' r.o.2
    ·exact .inr h'
  have w8:Hid (∀ F,MF pb w0 F->F.heap[pb]?=l.heap[pb]?->∃ k' b',MC w0 pb po co kp kc T L all s1 k' b' F/\(s1.ft=none->k'<=all.length)):=fun F hF hp=>⟨_,_,m.of hF hp,fun h0=>absurd h0 r.o.2⟩
  have w7:Hid (s1.ft=none->Cut t (itC y.1)):=fun h0=>absurd h0 r.o.2
  have a7:Hid (MF pb w0 l):=m.mf;have e4:Hid (s1.ns=y.2.ns):=r.o.1;clear N m x X h4 h5 d6 x1 w6 u f6 a5 r
 rotate_right
 case' _=>
  have l2:(y.2.kd != 7)=false:=by simp[h7]
  have f8:=kd_ne h7 (by decide);have k3:=u.o.2.2.2.1.below K;have m:=k3.adv h6.o.1 f8;have u2:=k3.c2;have uz:=k3.fz 2;have m1:=k3.kl;have l6:=c7.o;have m4:IntKind.i64.wrap ((k2:Int)+1)=(k2:Int)+1:=wrapM (by omega) (by omega)
  have HV:Hid (S1=y.2.tk):=by show _=_;rw[a8.o];unfold RS.mustBe;rw[if_pos h7]
  obtain⟨l,x⟩:∃ l,l=W3.setCell ⟨pb,2,none⟩ (.int .i64 ((k2:Int)+1)):=⟨_,rfl⟩
  have d2:Hid (l=W3.setCell ⟨pb,2,none⟩ (.int .i64 ((k2:Int)+1))):=x;rw[<-x] at m
  have X:MF pb W2 l:=by rw[x];exact(MF.of pb K).trans (.set _ _ _ _)
  obtain⟨pn,H,cn,h4,h5⟩:=m.c4
  have d:Hid (CT l pb q n c t/\t.length<=2001/\MF pb Q l/\NmI l pb pn H cn y.2.ns/\(∀ xs ∈ y.2.ns,Byte xs/\xs.length<=100)/\y.2.ns.length<=10000):=⟨u.o.1.move X.sf,u.o.2.1,u.o.2.2.2.2.trans X,⟨h4,h5.1,fun i hi=>by obtain⟨g,q',cq,e1,e2,e3⟩:=h5.at i hi;exact⟨g,q',cq,e1,e2,e3.bin⟩⟩,m.nb.1,by have:=m.nb.2;have e:y.2.tk.ns=y.2.ns:=rfl;rw[e] at this;omega⟩
  have w8:Hid (∀ F,MF pb w0 F->F.heap[pb]?=l.heap[pb]?->∃ k' b',MC w0 pb po co kp kc T L all y.2.tk k' b' F/\(y.2.tk.ft=none->k'<=all.length)):=fun F hF hp=>⟨_,_,m.mc.of hF hp,fun _=>m.kl⟩
  have w7:Hid (y.2.tk.ft=none->Cut t (itC y.1)):=u.o.2.2.1;have a7:Hid (MF pb w0 l):=m.mf;have e4:Hid (y.2.tk.ns=y.2.ns):=rfl
  generalize y.2.tk=s1 at w8 w7 e4 HV
  generalize y.2.kd=kd at *
  clear k3 m f8 h7 x X h4 h5 w5 b1 u K
 all_goals
  go_upto_region 6 with fail
  rw[<-d2.o];have c8:=l2copy_any q n c t l d.o.1.1 (by have:=tl_bd t d.o.1.bd;have:=d.o.2.1;omega) d.o.1.cin;clear u2 uz;go_wp2_with fail;refine c8.mono ?_;rintro e U ⟨P,O,I,rfl,g5,b6⟩
  obtain⟨WL,k8⟩:∃ WL,WL=U.alloc (.cells #[.slice P O I,.slice none 0 0,.int .i64 0] 28):=⟨_,rfl⟩
  have j5:Hid (WL=U.alloc (.cells #[.slice P O I,.slice none 0 0,.int .i64 0] 28)):=k8
  obtain⟨C,eC⟩:∃ C,C=U.heap.size:=⟨_,rfl⟩
  have Y:Hid (C=U.heap.size):=eC
  have f2:Below U.heap.size U WL:=by rw[k8];exact bel_alloc _ _
  have e6:=d.o.2.2.2.1.below b6
  have w9:Hid (NmI U pb pn H cn y.2.ns/\(∀ xs ∈ y.2.ns,Byte xs/\xs.length<=100)/\y.2.ns.length<=10000):=⟨e6,d.o.2.2.2.2⟩
  have n1:H<=10000:=by rw[e6.2.1];exact d.o.2.2.2.2.2
  have e5:Hid (OwnC U l.heap.size P O I t/\Below l.heap.size l U):=⟨g5,b6⟩
  have i8:Hid (CIv U C P O I y.2.ns WL 0 none 0):=⟨by rw[k8,eC];exact heap_alloc_new _ _,by rw[List.take_zero];exact OwnV.nil _ _,f2⟩
  have j2:Hid (pb<C):=by
   show pb<C
   have V:=World.block_lt_of_cell? _ _ e6.1;rw[eC];exact V
  have h8:Hid (H=y.2.ns.length):=e6.2.1;clear c8 g5 b6 k8 eC f2 e6;go_wp2_with fail;rw[<-j5.o,<-Y.o]
  go_loopw [5] (fun i wr=>∃ (j:Nat) (D:Option Addr) (B:Nat),j<=H/\i = .int .i64 j/\Hid (CIv U C P O I y.2.ns wr j D B)) (fun i _=>H-(intOf i).toNat)
  case atStart=>exact⟨0,none,0,Nat.zero_le _,rfl,i8⟩
  case round=>
   obtain⟨j,D,B,hj,rfl,R⟩:=hrel;have x5:=w9.o.1.below R.o.2.2;have f4:=x5.1;obtain⟨j7,d3,j8,j9,m5,l1⟩:=res3 R.o.1
   by_cases x3:j<H
   ·obtain⟨g,qj,cj,rfl,y1,y2⟩:=x5.2.2 j (by rw[<-h8.o];exact x3)
    have b8:Byte (y.2.ns.getD j [])/\(y.2.ns.getD j []).length<=100:=by
     have e8:j<y.2.ns.length:=by rw[<-h8.o];exact x3
     rw[List.getD,List.getElem?_eq_getElem e8];exact w9.o.2.1 _ (List.getElem_mem e8)
    have a9:Hid (y.2.ns.take (j+1)=y.2.ns.take j ++ [y.2.ns.getD j []]):=by
     have e8:j<y.2.ns.length:=by rw[<-h8.o];exact x3
     show _=_
     rw[List.take_succ_eq_append_getElem e8,List.getD,List.getElem?_eq_getElem e8];rfl
    have k5:=l1copy_all qj (y.2.ns.getD j []).length cj (y.2.ns.getD j []) wr.drew rfl (by have:=b8.2;omega) y2
    generalize y.2.ns.getD j []=nm at y1 y2 b8 a9 k5
    obtain⟨lj,d5⟩:∃ lj,lj=nm.length:=⟨_,rfl⟩
    rw[<-d5] at y1 k5
    have l7:(0:Int)<=(j:Int):=by omega
    have l8:(j:Int)<(H:Int):=by omega
    have a3:Hid (Calls Tryz.prog 56 #[.slice qj lj cj] wr.drew fun e w'=>∃ p' n' c',e = .returned (.slice p' n' c')/\OwnS w' wr.drew.heap.size p' n' c' nm/\Below wr.drew.heap.size wr.drew w'):=k5
    have hD:∀ W,Below wr.heap.size wr W->W.cell? ⟨C,1,none⟩=some (.slice D j B)/\W.cell? ⟨pb,4,none⟩=some (.slice (some ⟨g,0,none⟩) H cn)/\W.cell? ⟨g,j,none⟩=some (.slice qj lj cj):=fun W hW=>⟨(hW.cell (World.block_lt_of_cell? _ _ d3)).trans d3,(hW.cell (World.block_lt_of_cell? _ _ f4)).trans f4,(hW.cell (World.block_lt_of_cell? _ _ y1)).trans y1⟩
    have HD:Hid (∀ W,Below wr.heap.size wr W->W.cell? ⟨C,1,none⟩=some (.slice D j B)/\W.cell? ⟨pb,4,none⟩=some (.slice (some ⟨g,0,none⟩) H cn)/\W.cell? ⟨g,j,none⟩=some (.slice qj lj cj)):=hD
    have i7:Hid (g<C):=by
     obtain⟨g',_,_,e9,V,_⟩:=w9.o.1.2.2 j (by rw[<-h8.o];exact x3)
     cases e9
     rw[Y.o];exact World.block_lt_of_cell? _ _ V
    clear x5 y2 b8 d5 k5 hD j7 j8 j9 l1;go_wp2_with fail;refine wp_region_any (by kernel_rfl) ?_;refine wpAny_tail (p:=12) (S:=fun W=>W.cell? ⟨C,1,none⟩=some (.slice D j B)/\W.cell? ⟨pb,4,none⟩=some (.slice (some ⟨g,0,none⟩) H cn)/\W.cell? ⟨g,j,none⟩=some (.slice qj lj cj)) (by kernel_rfl) 12 _ _ _ rfl (clo_start _ _ _) (by kernel_rfl) (by kernel_rfl) ?_
    change wpAnyH _ _ _ _ _ _ _ _ wr.drew
    have l5:=HD.o wr.drew (Below.refl _ _).drew;refine hTq 0 (.pointer (some ⟨C,1,none⟩)) 36 ?_
    simp only[Act.put,zzA,zzB,zzC];refine hTr 1 (.slice D j B) 37 (fun o G W h1=>?y1) ?_
    case y1=>cases G;obtain⟨s0,s2,s3⟩:=h1;simp[execOp,go_sem,Act.eval,s0]
    simp only[Act.put,zzA,zzB,zzC];refine hTq 2 (ptrM pb) 38 ?_
    simp only[Act.put,zzA,zzB,zzC];refine hTq 3 (ptrM pb) 39 ?_
    simp only[Act.put,zzA,zzB,zzC];refine hTq 4 (.pointer (some ⟨pb,4,none⟩)) 40 ?_
    simp only[Act.put,zzA,zzB,zzC];refine hTr 5 (.slice (some ⟨g,0,none⟩) H cn) 41 (fun o G W h1=>?y5) ?_
    case y5=>cases G;obtain⟨s0,s2,s3⟩:=h1;simp[execOp,go_sem,Act.eval,s2]
    simp only[Act.put,zzA,zzB,zzC];refine hTq 6 (.int .i64 j) 42 ?_
    simp only[Act.put,zzA,zzB,zzC];refine hTr 7 (.pointer (some ⟨g,j,none⟩)) 43 (fun o G W h1=>?y7) ?_
    case y7=>cases G;simp[execOp,go_sem,Act.eval,l7,l8]
    simp only[Act.put,zzA,zzB,zzC];refine hTr 8 (.slice qj lj cj) 44 (fun o G W h1=>?y8) ?_
    case y8=>cases G;obtain⟨s0,s2,s3⟩:=h1;simp[execOp,go_sem,Act.eval,s3]
    simp only[Act.put,zzA,zzB,zzC];refine hCallE (i:=9) (f:=56) (args:=#[.slice qj lj cj]) (some 45) (by kernel_rfl) (by kernel_rfl) (by kernel_rfl) (fun o G=>?c9) a3.o ?k9 (fun ch w' hh=>by obtain⟨_,_,_,h,_⟩:=hh;cases h) (fun w' hh=>by obtain⟨_,_,_,h,_⟩:=hh;cases h)
    case c9=>cases G;simp[execOp,go_sem,Act.eval]
    case k9=>
     rintro z w2 ⟨p',n',c',hu,f9,x6⟩;obtain rfl:=Ending.returned.inj hu;have x2:Below wr.heap.size wr w2:=((Below.refl wr.heap.size wr).drew).trans x6;have d8:=HD.o w2 x2;have g6:OwnT w2 wr.heap.size p' n' c' nm:=f9.toT;clear hu x6 f9;refine⟨d8,?_⟩;simp only[Act.put,zzA,zzB,zzC]
     obtain⟨V1,k7⟩:∃ V1,V1=w2.alloc (.cells #[.slice p' n' c'] 23):=⟨_,rfl⟩
     have j4:Hid (w2.alloc (.cells #[.slice p' n' c'] 23)=V1):=k7.symm
     have M:Below wr.heap.size wr V1:=by rw[k7];exact Below.on x2 (bel_alloc _ _)
     have f1:=HD.o V1 M;have i3:C+1<=wr.heap.size:=(Array.getElem?_eq_some_iff.1 R.o.1).1;obtain⟨g3,J,w3,k1,g4,A⟩:=run_app_name wr w2 (C+1) D j B (y.2.ns.take j) R.o.2.1 x2 i3 p' n' c' nm g6 (by omega);rw[<-k7] at k1 A
     have x8:∀ k,Value.ownBlock (.slice D j B)=some k->C+1<=k/\k<wr.heap.size:=fun k hk=>by
      have V:=R.o.2.1.row k hk;exact⟨V.1,V.2.1⟩
     have h2:∀ k,k<C+1->w3.heap[k]?=wr.heap[k]?:=fun k hk=>(A.block k (by have:=M.size;omega) (fun e=>by have:=(x8 k e.symm).1;omega)).trans (M.block k (by omega))
     have d9:w3.cell? ⟨C,1,none⟩=some (.slice D j B)/\w3.cell? ⟨pb,4,none⟩=some (.slice (some ⟨g,0,none⟩) H cn)/\w3.cell? ⟨g,j,none⟩=some (.slice qj lj cj):=by
      obtain⟨e0,e1,e2⟩:=HD.o wr (Below.refl _ _);exact⟨(World.cell?_of_block (a:=⟨C,1,none⟩) (h2 C (by omega))).trans e0,(World.cell?_of_block (a:=⟨pb,4,none⟩) (h2 pb (by have:=j2.o;omega))).trans e1,(World.cell?_of_block (a:=⟨g,j,none⟩) (h2 g (by have:=i7.o;omega))).trans e2⟩
     refine hStep (i:=10) (v:=.slice (some ⟨w2.heap.size,0,none⟩) 1 1) (w':=V1) (some 46) (by kernel_rfl) (by kernel_rfl) (by kernel_rfl) (fun o G=>?y10) f1 ?_
     case y10=>
      cases G
      simp[execOp,go_sem,Act.eval]
      exact j4.o
     simp only[Act.put,zzA,zzB,zzC];refine hStep (i:=11) (v:=.slice (some ⟨g3,0,none⟩) (j+1) J) (w':=w3) (some 47) (by kernel_rfl) (by kernel_rfl) (by kernel_rfl) (fun o G=>?ya) d9 ?_
     case ya=>
      cases G
      exact exec_appN rfl rfl rfl rfl k1
     simp only[Act.put,zzA,zzB,zzC];have b5:w3.heap[C]?=some (.cells #[.slice P O I,.slice D j B,.int .i64 0] 28):=(h2 C (by omega)).trans R.o.1;obtain⟨_,d1,_,_,d4,_⟩:=res3 b5
     obtain⟨w4,Z⟩:∃ w4,w4=w3.setCell ⟨C,1,none⟩ (.slice (some ⟨g3,0,none⟩) (j+1) J):=⟨_,rfl⟩
     have i4:∀ k,k≠C->w4.heap[k]?=w3.heap[k]?:=fun k hk=>by rw[Z];exact Below.heap_setCell _ _ _ _ hk
     have d7:CIv U C P O I y.2.ns w4 (j+1) (some ⟨g3,0,none⟩) J:=by
      refine⟨by rw[Z];exact set1_box b5,?_,?_⟩
      ·rw[a9.o]
       exact g4.of (by rw[Z];simp) fun k hk _=>i4 k (by omega)
      ·have K:Below U.heap.size U w3:=⟨A.os.trans (M.os.trans R.o.2.2.os),A.tape.trans (M.tape.trans R.o.2.2.tape),A.output.trans (M.output.trans R.o.2.2.output),Nat.le_trans R.o.2.2.size (Nat.le_trans M.size A.size),fun k hk=>(h2 k (by rw[Y.o];omega)).trans (R.o.2.2.block k hk)⟩
       rw[Z];exact below_set K (by rw[Y.o];exact Nat.le_refl _) _ _
     refine wpAnyH_done (by kernel_rfl) ?_ _;refine tail_store (v:=.pointer (some ⟨C,1,none⟩)) (w':=w4) (some 48) (by rfl) (by rfl) (by rfl) ?_ (by rfl) (by rfl) (by rfl) ?_ ?_
     ·simp[execOp,go_sem,Act.eval]
     ·rw[Z]
      simp[execOp,go_sem,Act.eval,Act.put,d1,d4]
     simp only[Act.put,zzA,zzB,zzC];have i9:Hid (CIv U C P O I y.2.ns w4 (j+1) (some ⟨g3,0,none⟩) J):=d7;clear d7 i4 Z d1 d4 b5 d9 h2 x8 A g4 k1 f1 M k7 g6 d8 x2 l5;go_wp2_with fail;go_roundw
     case rel=>exact⟨j+1,_,J,by omega,by go_num,i9⟩
     case measure=>simp[intOf];omega
   ·obtain rfl:j=H:=by omega
    have HF:Hid (ClO w0 pb po co kp kc T L all w y.1 S1 (.returned (.agg #[.slice P O I,.slice D j B,.int .i64 0])) (put3 wr w.heap.size (.slice P O I) (.slice D j B) (.int .i64 0))):=by
     rw[HV.o];have x7:=R.o.2.2;have e7:Below l.heap.size l wr:=Below.on e5.o.2 x7
     have m8:w.heap.size<l.heap.size:=by have:=d.o.2.2.1.size;have:=x9.o.2;omega
     have h3:MF pb Q wr:=d.o.2.2.1.below e7;have m3:MF pb w (put3 wr w.heap.size (.slice P O I) (.slice D j B) (.int .i64 0)):=((MF.of pb x9.o.1).trans h3).put3 (Nat.le_refl _) _ _ _;have m2:MF pb w0 (put3 wr w.heap.size (.slice P O I) (.slice D j B) (.int .i64 0)):=(a7.o.below e7).put3 h6.o.2.1 _ _ _;have g7:pb<l.heap.size:=Nat.lt_of_lt_of_le h6.o.2.2 (by omega);obtain⟨k',b',m,l9⟩:=w8.o _ m2 ((put3_heap _ _ _ _ _ (by have:=h6.o;omega)).trans (e7.block _ g7));refine⟨P,O,I,D,j,B,k',b',rfl,m3,m,fun h0=>⟨l9 h0,t,?_,d.o.2.1,d.o.1.bd,w7.o h0,?_,fun xs hx=>(d.o.2.2.2.2.1 xs (by rw[e4.o] at hx;exact hx)).2,by rw[e4.o];exact d.o.2.2.2.2.2⟩⟩
     ·have G:=(e5.o.1.below x7).stay (w':=put3 wr w.heap.size (.slice P O I) (.slice D j B) (.int .i64 0)) (by rw[put3_size];exact Nat.le_refl _) (fun k hk _=>put3_heap _ _ _ _ _ (by omega))
      exact G.lower (by omega)
     ·rw[e4.o]
      have G:=R.o.2.1;rw[List.take_of_length_le (by rw[<-h8.o];exact Nat.le_refl _)] at G
      have m6:w.heap.size<=C:=by rw[Y.o];have:=e5.o.2.size;omega
      exact(G.of (w':=put3 wr w.heap.size (.slice P O I) (.slice D j B) (.int .i64 0)) (by rw[put3_size];exact Nat.le_refl _) (fun k hk _=>put3_heap _ _ _ _ _ (by omega))).lower (by omega)
    have r0:=j3.o wr (d.o.2.2.1.below (Below.on e5.o.2 R.o.2.2));obtain⟨g0,g1,g2,z0,z1,z2⟩:=res3 r0
    have l4:¬ C=w.heap.size:=by rw[Y.o];have:=e5.o.2.size;have:=d.o.2.2.1.size;have:=x9.o.2;omega
    have m7:¬ w.heap.size=C:=fun e=>l4 e.symm
    unfold put3 at HF
    clear x5 r0 R;go_wp2_with fail;obtain⟨a0,a1,a2⟩:=set3 g0 g1 g2 (.slice P O I) (.slice D j B) (.int .i64 0);refine bodyPost_ret (v:=.agg #[.slice P O I,.slice D j B,.int .i64 0]) (by simp[results,Tryz.results26,go_sem,a0,a1,a2]) rfl ?_;exact HF.o
end
end Go.Proofs.YtlkhmmoimplokaaGreatDoor
