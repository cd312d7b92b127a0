/- Texts of ReE, ReG, MdU, MdV, LawRt. Own work of the verifier. -/
import Derived.Test.YtlkhmmoimplokaaGreatDoorUqbs
import Derived.Test.YtlkhmmoimplokaaGreatDoorUqbq
import Derived.Test.YtlkhmmoimplokaaGreatDoorUqby
import Derived.Test.YtlkhmmoimplokaaGreatDoorUqbx
import Derived.Test.YtlkhmmoimplokaaGreatDoorUqal
namespace Go.Proofs.YtlkhmmoimplokaaGreatDoor
set_option maxHeartbeats 8000000
set_option linter.unusedVariables false
set_option linter.unusedSimpArgs false
set_option maxRecDepth 100000
section
open Go Go.RowKit Go.Maps
theorem newGood_any (C:Value)(p:Option Addr)(n c N:Nat)(A:List Tok)(T:List Cel)(w:World)(hn:(n:Int)<=9000000000)(w4:∀ t ∈ A,TokG t)(h8:A.length<=10000)(e1:∀ c ∈ T,(1<=c.1/\c.1<=1200)/\(0<=c.2.1/\c.2.1<=6)/\Byte c.2.2/\c.2.2.length<=100)
  (HV:Calls Tryz.prog 58 #[C] (nrW w n) fun e G=>e = .returned (.bool true)/\Below (nrW w n).heap.size (nrW w n) G)
  (HL:∀ W,Below (nrW w n).heap.size (nrW w n) W->Calls Tryz.prog 60 #[.slice p n c] W fun e G=>∃ q m O,e = .returned (.tuple #[.slice q m O,.int .i64 0,.int .i64 0])/\OwnK G W.heap.size q m O A/\Below W.heap.size W G)
  (HT:∀ W,Below (nrW w n).heap.size (nrW w n) W->Calls Tryz.prog 61 #[C] W fun e G=>e = .returned (.map (some W.heap.size))/\OpMap G W.heap.size N T/\Below W.heap.size W G) :
  Calls Tryz.prog 31 #[C,.slice p n c] w (NewR w T n A none):=by
 have e5:Hid (∀ W,Below (nrW w n).heap.size (nrW w n) W->Calls Tryz.prog 60 #[.slice p n c] W fun e G=>∃ q m O,e = .returned (.tuple #[.slice q m O,.int .i64 0,.int .i64 0])/\OwnK G W.heap.size q m O A/\Below W.heap.size W G):=HL;have e8:Hid (∀ W,Below (nrW w n).heap.size (nrW w n) W->Calls Tryz.prog 61 #[C] W fun e G=>e = .returned (.map (some W.heap.size))/\OpMap G W.heap.size N T/\Below W.heap.size W G):=HT;have I:Hid (Below w.heap.size w (nrW w n)/\(nrW w n).heap.size=w.heap.size+2/\(nrW w n).heap[w.heap.size]?=some (senO n)/\(nrW w n).heap[w.heap.size+1]?=some (newO w.heap.size)):=nrW_facts w n
 have H:Hid ((∀ t ∈ A,TokG t)/\(∀ c ∈ T,(1<=c.1/\c.1<=1200)/\(0<=c.2.1/\c.2.1<=6)/\Byte c.2.2/\c.2.2.length<=100)/\(0<=(n:Int)/\(n:Int)<=9000000000)/\A.length<=10000):=⟨w4,e1,⟨by omega,hn⟩,h8⟩
 have c2:=@run_makeMap Tryz.prog;clear HL HT w4 e1
 obtain⟨V,eV⟩:∃ V,V=nrW w n:=⟨_,rfl⟩
 have HE:Hid (V=(w.alloc (senO (n:Int))).alloc (newO w.heap.size)):=eV;rw[<-eV] at HV e5 e8 I;clear eV
 go_enter Tryz.func31,Tryz.ntmps31
 go_wp2_with fail;rw[<-HE.o];refine HV.mono ?_;rintro e B ⟨rfl,k7⟩;have HC:=e5.o B k7;have e2:Hid (Below V.heap.size V B):=k7;clear HV k7 e5 HE;go_wp2_with fail;refine HC.mono ?_;rintro e J ⟨q,m,O,rfl,x4,k8⟩;have x2:=e8.o J (Below.on e2.o k8);have e3:Hid (OwnK J B.heap.size q m O A):=x4;have x1:Hid (Below B.heap.size B J):=k8;clear HC x4 k8 e8;go_wp2_with fail;refine x2.mono ?_;rintro e i ⟨rfl,x6,h5⟩
 obtain⟨a,Q⟩:∃ a,a=w.heap.size+1:=⟨_,rfl⟩
 have b4:=I.o.2.1;have s1:=e2.o.size;have s2:=x1.o.size;have s3:=h5.size;have h4:Below V.heap.size V i:=Below.on (Below.on e2.o x1.o) h5
 have S:i.heap[a]?=some (newO w.heap.size):=by rw[Q];exact(h4.block _ (by omega)).trans I.o.2.2.2
 have w1:i.heap[w.heap.size]?=some (senO n):=(h4.block _ (by omega)).trans I.o.2.2.1
 have x0:i.cell? ⟨a,0,none⟩=some (.map none):=by unfold World.cell?;rw[S];rfl
 have z0:i.frozen? ⟨a,0,none⟩=false:=by unfold World.frozen?;rw[S];simp
 obtain⟨l,e4⟩:∃ l,l=i.setCell ⟨a,0,none⟩ (.map (some J.heap.size)):=⟨_,rfl⟩
 have Z:∀ j,j≠a->l.heap[j]?=i.heap[j]?:=fun j hj=>by rw[e4];exact Below.heap_setCell _ _ _ _ hj
 have w3:l.heap.size=i.heap.size:=by rw[e4];simp
 have x5:OwnK l B.heap.size q m O A:=(e3.o.below h5).stay (by omega) (fun j hj _=>Z j (by omega));have x7:OpMap l J.heap.size N T:=x6.of_block (Z _ (by omega));have w2:l.heap[w.heap.size]?=some (senO n):=(Z _ (by omega)).trans w1
 have y1:l.cell? ⟨a,1,none⟩=some (.slice (some ⟨w.heap.size,0,none⟩) 1 1):=by rw[e4,World.cell?_setCell_other _ _ _ _ (by simp)];unfold World.cell?;rw[S];rfl
 rw[<-Q]
 have hm:m<=10000:=by have:=e3.o.1;have:=H.o.2.2.2;omega
 have x3:Hid (OwnK l B.heap.size q m O A):=x5;have e7:Hid (OpMap l J.heap.size N T):=x7
 have w6:Hid (B.heap.size<=l.heap.size):=by show _<=_;omega
 have w9:Hid (OwnT l l.heap.size none 0 0 []):=⟨rfl,fun h=>absurd h (Nat.lt_irrefl 0)⟩
 have b1:Hid (∀ j u,(rtV ((0,(n:Int),0,0),none,0,0))[j]?=some u->l.cell? ((⟨w.heap.size,0,none⟩:Addr).add j)=some u):=news_rt (r:=((0,(n:Int),0,0),none,0,0)) w2;have z:Hid (i.heap[a]?=some (newO w.heap.size)):=S;have f:Hid (l=i.setCell ⟨a,0,none⟩ (.map (some J.heap.size))):=e4
 have D:Hid (a=w.heap.size+1/\a<B.heap.size/\B.heap.size<=J.heap.size/\J.heap.size<=i.heap.size/\l.heap.size=i.heap.size):=⟨Q,by omega,s2,s3,w3⟩
 have b3:Hid (Below w.heap.size w i):=Below.on I.o.1 h4;have c1:Hid (a=w.heap.size+1):=Q;clear x5 x7 w2 S w1 e4 w3 Z x6 h5 h4 x2 b4 s1 s2 s3 Q h8
 go_upto_region 10 with fail
 rw[<-f.o]
 have b5:l.frozen? ⟨a,1,none⟩=false:=by rw[f.o,World.frozen?_setCell];unfold World.frozen?;rw[z.o];simp
 go_upto_region 11 with (refine app_tok l _ rfl _ _ rfl B.heap.size q m O A rfl x3.o (Below.refl _ _) w6.o ⟨w.heap.size,0,none⟩ 1 rfl (0,(n:Int),0,0) none 0 0 [] w9.o b1.o (by omega) ?_;intro g n5 M K R h6 x9 b9;have u1:K.cell? ⟨a,1,none⟩=some (.slice (some ⟨w.heap.size,0,none⟩) 1 1):=(h6.cell (p:=⟨a,1,none⟩) D.o.2.1).trans y1;have uf:K.frozen? ⟨a,1,none⟩=false:=(h6.frozen (p:=⟨a,1,none⟩) D.o.2.1).trans b5;have w8:Hid (OwnK K B.heap.size (some ⟨g,0,none⟩) n5 M (A ++ [((0,(n:Int),0,0),[])])):=R;have d:Hid (Below B.heap.size l K):=h6;have w7:Hid (l.grownBy K (Value.ownBlock (.slice q m O))):=x9;clear R h6 x9)
 obtain⟨E,e6⟩:∃ E,E=K.setCell ⟨a,1,none⟩ (.slice (some ⟨g,0,none⟩) n5 M):=⟨_,rfl⟩
 rw[<-e6];obtain⟨v1,v2,v3,v4,v5,Y,k1,k2,k3,k4,k5,k6,x8,h7⟩:=starts_all E a;have y:Hid (E=K.setCell ⟨a,1,none⟩ (.slice (some ⟨g,0,none⟩) n5 M)):=e6;have b2:Hid (IMap Y E.heap.size 6 (stE a)):=x8;have x:Hid (Below E.heap.size E Y):=h7
 have h3:∀ o,o≠0->o≠1->Y.cell? ⟨a,o,none⟩=i.cell? ⟨a,o,none⟩/\Y.frozen? ⟨a,o,none⟩=i.frozen? ⟨a,o,none⟩:=fun o h0 h1=>by
  have hr:a<K.heap.size:=by have:=D.o;have:=d.o.size;omega
  have F:a<E.heap.size:=by rw[e6];simpa using hr
  constructor
  ·rw[h7.cell (p:=⟨a,o,none⟩) F,e6,World.cell?_setCell_other _ _ _ _ (by simp[h1]),d.o.cell (p:=⟨a,o,none⟩) D.o.2.1,f.o,World.cell?_setCell_other _ _ _ _ (by simp[h0])]
  ·rw[h7.frozen (p:=⟨a,o,none⟩) F,e6,World.frozen?_setCell,d.o.frozen (p:=⟨a,o,none⟩) D.o.2.1,f.o,World.frozen?_setCell]
 have q2:Y.cell? ⟨a,2,none⟩=some (.map none):=by rw[(h3 2 (by decide) (by decide)).1];unfold World.cell?;rw[z.o];rfl
 have qf:Y.frozen? ⟨a,2,none⟩=false:=by rw[(h3 2 (by decide) (by decide)).2];unfold World.frozen?;rw[z.o];simp
 have w5:Hid (∀ o,o≠0->o≠1->Y.cell? ⟨a,o,none⟩=i.cell? ⟨a,o,none⟩/\Y.frozen? ⟨a,o,none⟩=i.frozen? ⟨a,o,none⟩):=h3
 simp[stF] at k1 k2 k3 k4 k5 k6
 clear x8 h7 e6 h3;go_wp2_with fail
 obtain⟨X,U⟩:∃ X,X=Y.setCell ⟨a,2,none⟩ (.map (some E.heap.size)):=⟨_,rfl⟩
 rw[<-U];refine bodyPost_ret (v:=ptrR a) (by simp[results,Tryz.results31,go_sem]) rfl ?_;obtain⟨z1,z2,z3,z4,z5⟩:=D.o;have c3:=d.o.size
 have c4:E.heap.size=K.heap.size:=by rw[y.o];simp
 have s6:=x.o.size
 have sX:X.heap.size=Y.heap.size:=by rw[U];simp
 have e9:∀ j,j<K.heap.size->j≠a->X.heap[j]?=K.heap[j]?:=fun j hj hr=>by
  rw[U,Below.heap_setCell _ _ _ _ hr,x.o.block j (by omega),y.o,Below.heap_setCell _ _ _ _ hr]
 have b8:m=A.length:=x3.o.1
 have h9:n5=A.length+1:=by rw[b9.o,b8]
 have hK:OwnK X B.heap.size (some ⟨g,0,none⟩) n5 M (A ++ [senT n]):=w8.o.stay (by omega) (fun j hj b7=>e9 j b7 (by omega));rw[h9] at hK;have hO:OpMap X J.heap.size N T:=e7.o.of_block ((e9 _ (by have:=e7.o.lt;omega) (by omega)).trans (w7.o.block _ e7.o.lt (fun e=>by obtain⟨_,rs,_,hr,_⟩:=e3.o;have:=(hr.lt _ e.symm).2;omega)));have hS:IMap X E.heap.size 6 (stE a):=b2.o.of_block (by rw[U];exact Below.heap_setCell _ _ _ _ (by show E.heap.size≠a;omega));have P:=liveP hK z2 hO (by omega) hS (by omega) H.o.1 H.o.2.2.2 H.o.2.1 H.o.2.2.1 (by omega)
 have F:a<E.heap.size:=by omega
 have y0:l.cell? ⟨a,0,none⟩=some (.map (some J.heap.size)):=by rw[f.o];exact World.cell?_setCell_same' _ _ _ (by rw[x0];rfl)
 have b6:∀ o,X.frozen? ⟨a,o,none⟩=false:=fun o=>by
  rw[U,World.frozen?_setCell,x.o.frozen (p:=⟨a,o,none⟩) F,y.o,World.frozen?_setCell,d.o.frozen (p:=⟨a,o,none⟩) z2,f.o,World.frozen?_setCell]
  unfold World.frozen?;rw[z.o];simp
 have ho:∀ o v,o≠0->o≠1->o≠2->i.cell? ⟨a,o,none⟩=some v->X.cell? ⟨a,o,none⟩=some v:=fun o v h0 h1 h2 hv=>by
  rw[U,World.cell?_setCell_other _ _ _ _ (by simp[h2]),(w5.o o h0 h1).1];exact hv
 refine⟨a,g,M,_,_,rfl,by omega,P,⟨Sty.refl _ _ _,?_,?_,?_,⟨.map none,?_⟩,⟨.slice none 0 0,?_⟩,?_,?_,b6,Nat.zero_le _,fun c hc=>by cases hc⟩,?_⟩
 ·rw[U,World.cell?_setCell_other _ _ _ _ (by simp),x.o.cell (p:=⟨a,0,none⟩) F,y.o,World.cell?_setCell_other _ _ _ _ (by simp),d.o.cell (p:=⟨a,0,none⟩) z2];exact y0
 ·rw[U,World.cell?_setCell_other _ _ _ _ (by simp),x.o.cell (p:=⟨a,1,none⟩) F,y.o,World.cell?_setCell_same' _ _ _ (by rw[u1];rfl),h9];simp
 ·rw[U];exact World.cell?_setCell_same' _ _ _ (by rw[q2];rfl)
 ·exact ho 3 _ (by decide) (by decide) (by decide) (by unfold World.cell?;rw[z.o];rfl)
 ·exact ho 4 _ (by decide) (by decide) (by decide) (by unfold World.cell?;rw[z.o];rfl)
 ·exact ho 5 _ (by decide) (by decide) (by decide) (by unfold World.cell?;rw[z.o];rfl)
 ·exact ho 6 _ (by decide) (by decide) (by decide) (by unfold World.cell?;rw[z.o];rfl)
 ·have k9:X.os=i.os/\X.tape=i.tape/\X.output=i.output:=by
   rw[U];refine⟨x.o.os.trans ?_,x.o.tape.trans ?_,x.o.output.trans ?_⟩
   ·rw[y.o];exact d.o.os.trans (by rw[f.o];rfl)
   ·rw[y.o];exact d.o.tape.trans (by rw[f.o];rfl)
   ·rw[y.o];exact d.o.output.trans (by rw[f.o];rfl)
  refine b3.o.trans ⟨k9.1,k9.2.1,k9.2.2,by omega,fun j hj=>?_⟩;rw[e9 j (by omega) (by omega),d.o.block j (by omega),f.o,Below.heap_setCell _ _ _ _ (by show j≠a;omega)]
end
section
open Go Go.RowKit
theorem chain_allR:∀ (d:List Cel) (a:Option Cel),chainO a d=true->∀ c ∈ d,okC c=true
 | [],a,h,c,hc=>by cases hc
 | x :: r,a,h,c,hc=>by
   simp only[chainO,Bool.and_eq_true] at h
   rcases List.mem_cons.1 hc with rfl | hc
   ·exact h.1.1
   ·exact chain_allR r (some x) h.2 c hc
theorem tabR_good {T:List Cel}(h:tabB T=true)(g:∀ i,i<T.length->Byte (T.getD i Cel.none).2.2):T.length<=200/\(∀ c ∈ T,(1<=c.1/\c.1<=1200)/\(0<=c.2.1/\c.2.1<=6)/\Byte c.2.2/\c.2.2.length<=100)/\(∀ c ∈ T,okT c)/\Apart T:=by
 simp only[tabB,Bool.and_eq_true,decide_eq_true_eq] at h
 have e:∀ c ∈ T,Byte c.2.2:=fun c d=>by
  obtain⟨i,f,rfl⟩:=List.getElem_of_mem d;have:=g i f
  simpa only[List.getD,List.getElem?_eq_getElem f,Option.getD_some] using this
 have a:∀ c ∈ T,(1<=c.1/\c.1<=1200)/\(0<=c.2.1/\c.2.1<=6)/\Byte c.2.2/\c.2.2.length<=100:=fun c d=>by
  have a:=chain_allR T none h.2.1 c d;simp only[okC,okB,Bool.and_eq_true,decide_eq_true_eq] at a;exact⟨a.2.2.1,a.2.1,e c d,a.1.2⟩
 exact⟨h.1,a,fun c d=>⟨e c d,by have:=(a c d).2.2.2;omega⟩,List.Pairwise.imp (fun h=>ltO_key h) (chain_asc T none h.2.1)⟩
structure RxEnv (w:World)(m:Int):Prop where
 tab:Tab w
 ml:w.cell? ⟨2,0,none⟩=some (.int .i64 m)
 et:w.cell? ⟨1,0,none⟩=some (.iface 257 (.agg #[.pointer (some ⟨4,197,none⟩)]))
theorem RxEnv.below {w w':World}{m:Int}(h:RxEnv w m)(a:Below w.heap.size w w'):RxEnv w' m:=
 ⟨h.tab.below a,(a.cell (World.block_lt_of_cell? _ _ h.ml)).trans h.ml,(a.cell (World.block_lt_of_cell? _ _ h.et)).trans h.et⟩
def rtT (T:List Cel)(L:Int)(all:List Tok):Option (Int×Int)×Tr×List (List Int):=
 (rtF L (rdR T L (all.length+1) 1200 ⟨all,[],none⟩).1 ((rdR T L (all.length+1) 1200 ⟨all,[],none⟩).2.mustBe L 7),(rdR T L (all.length+1) 1200 ⟨all,[],none⟩).1,((rdR T L (all.length+1) 1200 ⟨all,[],none⟩).2.mustBe L 7).ns)
def rtA (T:List Cel)(Z:List Int):Option (Int×Int)×Tr×List (List Int):=
 if tabB T=true then if (lexT Z).2.1=0 then rtT T Z.length (lexT Z).1 else(some (lexT Z).2,nilT,[]) else(some (1,0),nilT,[])
theorem dead_rt (L c a:Int):rtF L (rdR [] L ([]:List Tok).length.succ 1200 ⟨[],[],some (c,a)⟩).1 ((rdR [] L ([]:List Tok).length.succ 1200 ⟨[],[],some (c,a)⟩).2.mustBe L 7)=some (c,a):=by
 have e:validB (itC nilT)=true:=by decide
 have d:(rdR [] L ([]:List Tok).length.succ 1200 ⟨[],[],some (c,a)⟩)=(nilT,⟨[],[],some (c,a)⟩):=by
  simp[rdR,sttR,bhR,RS.kd,RS.stop]
 rw[d]
 simp[rtF,RS.mustBe,RS.kd,RS.stop,e]
theorem RtOut.dead {w:World}{x f:Tr}{d a:List (List Int)}{q:Int×Int}{e:Ending}{c:World}(h:RtOut w x d (some q) e c):RtOut w f a (some q) e c:=by
 refine⟨h.1,.inr ?_⟩
 rcases h.2 with ⟨h',_⟩ | h'
 ·cases h'
 ·exact h'
theorem implRt_any (T:List Cel)(Z:List Int)(po:Option Addr)(co g f:Nat)(m:Int)(w:World)(z:∀ i,i<T.length->Byte (T.getD i Cel.none).2.2)(A:T.length+tl T<=1000000000)(G:OIn w po T)(I:Bytes Z)(J:Z.length<=9000000000)(q:Z.length<=f)(H:Row w g Z)(E:RxEnv w m) :
  Calls Tryz.prog 9 #[.slice po T.length co,.slice (some ⟨g,0,none⟩) Z.length f] w (RtOut w (rtA T Z).2.1 (rtA T Z).2.2 (rtA T Z).1):=by
 have C:Below w.heap.size w (w.alloc zCla):=new_low w _;have a:Below w.heap.size w (nrW (w.alloc zCla) Z.length):=Below.on C (nrW_facts _ _).1;have j:=implTab_any po co T (nrW (w.alloc zCla) Z.length) A (G.below a)
 have B:((Z.length:Nat):Int)<=9000000000:=by omega
 have D:∀ W,Below (nrW (w.alloc zCla) Z.length).heap.size (nrW (w.alloc zCla) Z.length) W->Calls Tryz.prog 60 #[.slice (some ⟨g,0,none⟩) Z.length f] W (LexOut W (lexT Z)):=fun W d=>
  (lexP_any g f Z m W I J q (H.below (Below.on a d)).2 (H.below (Below.on a d)).1 (E.below (Below.on a d)).tab (E.below (Below.on a d)).ml (E.below (Below.on a d)).et).mono fun e u h=>lexOut_of h
 unfold rtA
 by_cases l:tabB T=true
 ·rw[if_pos l]
  rw[l] at j;obtain⟨R,O,P,Q⟩:=tabR_good l z
  by_cases o:(lexT Z).2.1=0
  ·rw[if_pos o]
   have x:(lexT Z).2.2=0:=by
    revert o
    unfold lexT
    cases K:lexR Z with
    | ok S=>intro _;rfl
    | error r=>intro h;exact absurd h (lexR_code K)
   obtain⟨M,N⟩:=lexT_tok I;refine readTerm_any _ _ w (newGood_any _ _ _ _ T.length (lexT Z).1 T (w.alloc zCla) B M N O j (fun W d=>(D W d).mono ?_) (fun W d=>tableOf_any po co T W (by omega) P Q (G.below (Below.on a d))));rintro e u ⟨p,n,c,rfl,F,y⟩;exact⟨p,n,c,by rw[o,x],F,y⟩
  ·rw[if_neg o]
   refine(readTerm_any _ _ w (newLex_any _ _ _ _ (lexT Z).2.1 (lexT Z).2.2 (w.alloc zCla) B o j (fun W d=>(D W d).mono ?_))).mono ?_
   ·rintro e u ⟨p,n,c,rfl,F,y⟩
    exact⟨_,rfl,y⟩
   ·intro e u h
    have t:=dead_rt Z.length (lexT Z).2.1 (lexT Z).2.2;simp only[Nat.succ_eq_add_one] at t;rw[t] at h;exact h.dead
 ·rw[if_neg l]
  have v:tabB T=false:=by simpa using l
  rw[v] at j;refine(readTerm_any _ _ w (newBad_any _ _ _ _ (w.alloc zCla) B j)).mono ?_
  intro e u h
  have t:=dead_rt Z.length 1 0;simp only[Nat.succ_eq_add_one] at t;rw[t] at h;exact h.dead
end
section
open Go Go.RowKit
theorem row_sf2 {w W:World}{B pb n c z:Nat}{p:Option Addr}{e:TypeId}{m:List Value}(h:w.ownsRow B e z (.slice p n c) n m)(t:e≠23)(i:e≠25)(j:e≠96)(v:w.heap.size<=pb)(q:SF pb w W):W.ownsRow B e z (.slice p n c) n m:=by
 refine⟨h.1,?_⟩
 rcases h.2 with o | ⟨g,a,d,x,f,l,r⟩
 ·exact .inl o
 ·have u:=(Array.getElem?_eq_some_iff.1 l).1
  exact .inr ⟨g,a,d,x,f,(q.block g u (by omega) (sl_tag l t i j)).trans l,r⟩
theorem opAt_of {w:World}{B pb:Nat}{po:Option Addr}{n co:Nat}{T:List Cel}(h:OwnO w B po n co T)(d:w.heap.size<=pb):∀ i c,T[i]?=some c->OpAt w pb po i c:=fun i c p=>by
 obtain⟨rfl,f,E,q,y,_⟩:=h;have z:i<T.length:=(List.getElem?_eq_some_iff.1 p).1;obtain⟨g,x,r,C,D⟩:=q.form (by omega);simp only[Value.slice.injEq,true_and] at r;obtain⟨rfl,rfl⟩:=r
 have e:T.getD i Cel.none=c:=by rw[List.getD,p];rfl
 have hF:=y i z;rw[e] at hF;obtain⟨u,v,t⟩:=flatO_at f i (by omega);refine⟨g,0,(f.getD i RC.zero).2.2.1,(f.getD i RC.zero).2.2.2.2,rfl,fun W o=>?_⟩;have a:=row_sf2 q (by decide) (by decide) (by decide) d o;have j:=(a.cellAt (i * 3) (by omega)).trans t;have l:=(a.cellAt (i * 3+1) (by omega)).trans u;have m:=(a.cellAt (i * 3+2) (by omega)).trans v;rw[hF.1] at l;rw[hF.2.1] at m;rw[hF.2.2.1] at j;rw[Nat.zero_add];exact⟨j,l,m,(hF.2.2.bk (pb:=pb) (fun g _ A=>by omega)) W o⟩
theorem tokAt_of {w:World}{B pb:Nat}{kp:Option Addr}{n kc:Nat}{all:List Tok}(h:OwnK w B kp n kc all)(c:w.heap.size<=pb):∀ i t,all[i]?=some t->TokAt w pb kp i t:=fun i t r=>by
 obtain⟨rfl,d,I,q,D,_⟩:=h;have E:i<all.length:=(List.getElem?_eq_some_iff.1 r).1;obtain⟨g,C,u,G,H⟩:=q.form (by omega);simp only[Value.slice.injEq,true_and] at u;obtain⟨rfl,rfl⟩:=u
 have e:all.getD i Tok.none=t:=by rw[List.getD,r];rfl
 have hF:=D i E;rw[e] at hF;obtain⟨v,x,y,z,A⟩:=flatT_at d i (by omega);refine⟨g,(d.getD i RT.zero).2.1,(d.getD i RT.zero).2.2.2,rfl,fun W p=>?_⟩;have a:=row_sf2 q (by decide) (by decide) (by decide) c p;have f:=(a.cellAt (i * 5) (by omega)).trans v;have j:=(a.cellAt (i * 5+1) (by omega)).trans x;have l:=(a.cellAt (i * 5+2) (by omega)).trans y;have m:=(a.cellAt (i * 5+3) (by omega)).trans z;have o:=(a.cellAt (i * 5+4) (by omega)).trans A;rw[hF.1] at f j l o;rw[hF.2.1] at m;exact⟨f,j,l,m,o,(hF.2.bk (pb:=pb) (fun g _ F=>by omega)) W p⟩
theorem OpAt.move {w d:World}{pb:Nat}{po:Option Addr}{i:Nat}{c:Cel}(h:OpAt w pb po i c)(j:SF pb w d):OpAt d pb po i c:=by
 obtain⟨b,o,q,f,e,g⟩:=h;exact⟨b,o,q,f,e,fun W a=>g W (j.trans a)⟩
theorem TokAt.move {w d:World}{pb:Nat}{kp:Option Addr}{i:Nat}{t:Tok}(h:TokAt w pb kp i t)(g:SF pb w d):TokAt d pb kp i t:=by
 obtain⟨j,p,c,e,f⟩:=h;exact⟨j,p,c,e,fun W a=>f W (g.trans a)⟩
theorem OwnK.room {w:World}{B:Nat}{p:Option Addr}{n c:Nat}{d:List Tok}(h:OwnK w B p n c d):d.length<=c/\c<=9223372036854775807:=by
 obtain⟨rfl,u,t,l,_⟩:=h
 rcases l.2 with ⟨i,q⟩ | ⟨g,e,f,a,r,j,m,o,_⟩
 ·simp only[Value.slice.injEq] at i;omega
 ·simp only[Value.slice.injEq,true_and] at a
  obtain⟨_,rfl⟩:=a;exact⟨m,by unfold maxLen at o;omega⟩
section
variable {w0:World}{pb:Nat}{po:Option Addr}{co:Nat}{kp:Option Addr}{kc:Nat}{T:List Cel}{L:Int}{all:List Tok}{s:RS}{k:Nat}{b:Int}{w:World}
theorem md_all (E:MEnv w0 pb po co kp kc T L all):∀ f,MOk w0 pb po co kp kc T L all f
 | 0=>fun a s k b w h d=>absurd d (Nat.not_lt_zero _)
 | f+1=>fun a s k b w h d=>l4read_any E (md_all E f) h (by omega) a (fun W g=>l4start_any E (md_all E f) g (by omega) a (fun l j i c e=>l4atom_any E (md_all E f) c (by omega) e a))
theorem plM_ge {i:Nat}(h:all.length<=i):plM all L i=L:=by
 unfold plM RS.pl
 rw[List.drop_eq_nil_of_le h]
theorem plM_lt {i:Nat}{t:Tok}(h:all[i]?=some t):plM all L i=t.1.2.1:=by
 have a:=(List.getElem?_eq_some_iff.1 h).1;have e:all[i]=t:=(List.getElem?_eq_some_iff.1 h).2
 unfold plM RS.pl
 rw[List.drop_eq_getElem_cons a,e]
theorem l4offset_any (E:MEnv w0 pb po co kp kc T L all)(h:MC w0 pb po co kp kc T L all s k b w)(i:Nat)(t:i<=all.length)(q:Option Addr)(n c:Nat)(u:(n:Int)=L):Calls Tryz.prog 28 #[ptrM pb,.slice q n c,.int .i64 i] w fun e z=>e = .returned (.int .i64 (plM all L i))/\z=w:=by
 have l:=h.c1;have f:=E.len;have a:=E.cap
 by_cases j:i<all.length
 ·obtain⟨C,p,A,rfl,r⟩:=E.tok i all[i] (List.getElem?_eq_getElem j)
  have v:=(r w h.mf.sf).2.1;have g:Hid (plM all L i=all[i].1.2.1):=plM_lt (List.getElem?_eq_getElem j)
  generalize all[i].1.2.1=x at v g
  obtain⟨m,d⟩:∃ m,m=all.length:=⟨_,rfl⟩
  rw[<-d] at l j f a
  have B:(0:Int)<=(i:Int):=by omega
  have y:(i:Int)<(m:Int):=by omega
  clear h E r t d
  go_enter Tryz.func28,Tryz.ntmps28
  go_wp2_with fail;go_ret;exact⟨by rw[g.o];rfl,rfl⟩
 ·have g:Hid (plM all L i=(n:Int)):=by show _=_;rw[u];exact plM_ge (by omega)
  obtain⟨m,d⟩:∃ m,m=all.length:=⟨_,rfl⟩
  rw[<-d] at l j f a
  have y:¬ (i:Int)<(m:Int):=by omega
  clear h E t d u
  go_enter Tryz.func28,Tryz.ntmps28
  go_wp2_with fail;go_ret;exact⟨by rw[g.o];rfl,rfl⟩
end
def SpOut (w:World)(x:Tr)(ns:List (List Int))(f:Option (Int×Int))(e:Ending)(w':World):Prop:=
 Below w.heap.size w w'/\((f=none/\∃ q m cm p n c,e = .returned (.tuple #[.agg #[.slice q m cm,.slice p n c,.int .i64 0],.int .i64 0,.int .i64 0])/\OwnC w' w.heap.size q m cm (itC x)/\OwnV w' w.heap.size p n c ns/\(∀ xs ∈ ns,xs.length<=100)/\ns.length<=10000/\(∀ y ∈ itC x,y.2.2.length<=100)/\(itC x).length<=2001)∨
  ∃ c a,f=some (c,a)/\e = .returned (.tuple #[.agg #[.slice none 0 0,.slice none 0 0,.int .i64 0],.int .i64 c,.int .i64 a]))
theorem cut_valid {t u:List Cel}(h:Cut t u):validB t=validB u/\(validB u=true->t=u):=by
 by_cases d:u.length<=2000
 ·have e:=h.small d
  rw[e];exact⟨rfl,fun _=>rfl⟩
 ·have f:=h.great (by omega)
  have a:validB t=false:=by unfold validB;rw[decide_eq_false (by omega)];rfl
  have c:validB u=false:=by unfold validB;rw[decide_eq_false (by omega)];rfl
  rw[a,c];exact⟨rfl,fun h=>by cases h⟩
abbrev zClM:Obj:=.cells #[.slice none 0 0,.slice none 0 0,.int .i64 0] 28
abbrev psO (po:Option Addr)(n co:Nat)(kp:Option Addr)(m kc:Nat):Obj:=.cells #[.slice po n co,.slice kp m kc,.int .i64 0,.int .i64 (-1),.slice none 0 0] 55
theorem res5 {V:World}{R:Nat}{a b c d e:Value}{t:TypeId}(h:V.heap[R]?=some (.cells #[a,b,c,d,e] t)):V.cell? ⟨R,0,none⟩=some a/\V.cell? ⟨R,1,none⟩=some b/\V.cell? ⟨R,2,none⟩=some c/\V.cell? ⟨R,3,none⟩=some d/\V.cell? ⟨R,4,none⟩=some e/\∀ o,V.frozen? ⟨R,o,none⟩=false:=
 ⟨by unfold World.cell?;rw[h];rfl,by unfold World.cell?;rw[h];rfl,by unfold World.cell?;rw[h];rfl,by unfold World.cell?;rw[h];rfl,by unfold World.cell?;rw[h];rfl,fun o=>by unfold World.frozen?;rw[h];simp⟩
theorem OwnK.lowerK {w:World}{B a:Nat}{p:Option Addr}{n c:Nat}{g:List Tok}(h:OwnK w B p n c g)(d:a<=B):OwnK w a p n c g:=by
 obtain⟨l,o,j,m,e,ha⟩:=h;exact⟨l,o,j,ownsRow_down m d,fun i f=>⟨(e i f).1,(e i f).2.mono d⟩,ha⟩
theorem pl_ts {s a:RS}(h:s.ts=a.ts)(L:Int):s.pl L=a.pl L:=by unfold RS.pl;rw[h]
theorem rtF_ft {L:Int}{x:Tr}{c:RS}{q:Int×Int}(h:c.ft=some q)(a:c.ts = []):rtF L x c=some q:=by
 unfold rtF flF
 rw[if_pos a,h]
 split <;> rfl
theorem rtF_left {L:Int}{x:Tr}{a:RS}(h:a.ft=none)(c:a.ts≠[]):rtF L x a=some (2,a.pl L):=by
 unfold rtF flF
 rw[if_neg c,h]
 split <;> rfl
theorem rtF_end {L:Int}{x:Tr}{c:RS}(h:c.ft=none)(a:c.ts = []):rtF L x c=if validB (itC x)=true then none else some (3,0):=by
 unfold rtF flF
 rw[if_pos a,h]
 split <;> rfl
theorem made_env {a:World}{B:Nat}{po:Option Addr}{co:Nat}{kp:Option Addr}{kc:Nat}{T:List Cel}{L:Int}{all:List Tok}(r:OwnO a B po T.length co T)(h:OwnK a B kp all.length kc all)(u:tabB T=true)(e:∀ i,i<T.length->Byte (T.getD i Cel.none).2.2)(g:∀ t ∈ all,TokG t)(f:all.length<=10000)(q:0<=L/\L<=9000000000) :
  MEnv (a.alloc (psO po T.length co kp all.length kc)) a.heap.size po co kp kc T L all/\MC (a.alloc (psO po T.length co kp all.length kc)) a.heap.size po co kp kc T L all ⟨all,[],none⟩ 0 (-1) (a.alloc (psO po T.length co kp all.length kc)):=by
 obtain⟨z,A,_,_⟩:=tabR_good u e;have v:Below a.heap.size a (a.alloc (psO po T.length co kp all.length kc)):=bel_alloc _ _;have d:SF a.heap.size a (a.alloc (psO po T.length co kp all.length kc)):=SF.of _ v;obtain⟨j,l,m,n,o,p⟩:=res5 (heap_alloc_new a (psO po T.length co kp all.length kc));exact⟨⟨by simp,f,h.room,q,fun i t y=>(tokAt_of h (Nat.le_refl _) i t y).move d,g,z,A,fun i c x=>(opAt_of r (Nat.le_refl _) i c x).move d⟩,⟨MF.refl _ _,j,l,m,n,⟨_,o⟩,p,by omega,.inl ⟨rfl,rfl,rfl⟩⟩⟩
theorem specRt_any (T:List Cel)(Z:List Int)(po:Option Addr)(co g Y B:Nat)(w:World)(x2:∀ i,i<T.length->Byte (T.getD i Cel.none).2.2)(x3:T.length+tl T<=1000000000)(hO:OwnO w B po T.length co T)(w7:B<=w.heap.size)(hb:Bytes Z)(hl:Z.length<=9000000000)(h5:Z.length<=Y)(hZ:Row w g Z) :
  Calls Tryz.prog 6 #[.slice po T.length co,.slice (some ⟨g,0,none⟩) Z.length Y] w (SpOut w (rtA T Z).2.1 (rtA T Z).2.2 (rtA T Z).1):=by
 obtain⟨f,eA⟩:∃ f,f=w.alloc zClM:=⟨_,rfl⟩
 have h4:Below w.heap.size w f:=by rw[eA];exact bel_alloc _ _
 have w4:Hid (f=w.alloc zClM):=eA
 have x7:f.heap.size=w.heap.size+1:=by rw[eA];simp
 have x6:f.heap[w.heap.size]?=some zClM:=by rw[eA];exact heap_alloc_new _ _
 have D:Hid (Below w.heap.size w f/\f.heap.size=w.heap.size+1/\f.heap[w.heap.size]?=some zClM):=⟨h4,x7,x6⟩
 have HV:=specTab_any po co T f x3 (hO.oin.below h4)
 have u:Hid (∀ c a,(rtA T Z).1=some (c,a)->∀ W,Below w.heap.size w W->SpOut w (rtA T Z).2.1 (rtA T Z).2.2 (rtA T Z).1 (.returned (.tuple #[.agg #[.slice none 0 0,.slice none 0 0,.int .i64 0],.int .i64 c,.int .i64 a])) (put3 W w.heap.size (.slice none 0 0) (.slice none 0 0) (.int .i64 0))):=fun c a h W O=>⟨put3_below O (Nat.le_refl _) _ _ _,.inr ⟨c,a,h,rfl⟩⟩
 by_cases h1:tabB T=true
 ·rw[h1] at HV
  have k5:Hid (∀ W,Below f.heap.size f W->Calls Tryz.prog 25 #[.slice (some ⟨g,0,none⟩) Z.length Y] W (LexOut W (lexT Z))):=fun W O=>(lexS_any g Y Z W hb hl h5 (hZ.below (Below.on h4 O)).2).mono fun e w' h=>lexOut_of h
  by_cases h2:(lexT Z).2.1=0
  ·have c6:(lexT Z).2.2=0:=by
    revert h2
    unfold lexT
    cases hr:lexR Z with
    | ok ts=>intro _;rfl
    | error r=>intro h;exact absurd h (lexR_code hr)
   have I:rtA T Z=rtT T Z.length (lexT Z).1:=by unfold rtA;rw[if_pos h1,if_pos h2]
   rw[I];rw[I] at u;obtain⟨k1,k2⟩:=lexT_tok hb
   have S:Hid (∀ W,Below f.heap.size f W->Calls Tryz.prog 25 #[.slice (some ⟨g,0,none⟩) Z.length Y] W fun e w'=>∃ kp n kc,e = .returned (.tuple #[.slice kp n kc,.int .i64 0,.int .i64 0])/\n=(lexT Z).1.length/\OwnK w' W.heap.size kp n kc (lexT Z).1/\Below W.heap.size W w'):=fun W O=>(k5.o W O).mono fun e w' ⟨p,n,c,he,ho,w9⟩=>⟨p,n,c,by rw[he,h2,c6],ho.1,ho,w9⟩
   generalize (lexT Z).1=all at S k1 k2 I u ⊢
   have c4:Hid (∀ (w1:World) (kp:Option Addr) (kc:Nat) (B1:Nat),Below f.heap.size f w1->f.heap.size<=B1->OwnK w1 B1 kp all.length kc all->MEnv (w1.alloc (psO po T.length co kp all.length kc)) w1.heap.size po co kp kc T Z.length all/\MC (w1.alloc (psO po T.length co kp all.length kc)) w1.heap.size po co kp kc T Z.length all ⟨all,[],none⟩ 0 (-1) (w1.alloc (psO po T.length co kp all.length kc))):=fun w1 kp kc B1 P d5 hk=>by
    have a8:OwnO w1 B po T.length co T:=hO.below (Below.on h4 P);exact made_env a8 (hk.lowerK (by omega)) h1 x2 k1 k2 ⟨by omega,by omega⟩
   obtain⟨y,ey⟩:∃ y,y=rdR T Z.length (all.length+1) 1200 ⟨all,[],none⟩:=⟨_,rfl⟩
   obtain⟨j,w6⟩:∃ j,j=y.2.mustBe Z.length 7:=⟨_,rfl⟩
   have hR:rtT T Z.length all=(rtF Z.length y.1 j,y.1,j.ns):=by rw[w6,ey];rfl
   rw[hR];rw[hR] at u
   have b6:Hid (∀ (w0:World) (pb:Nat) (kp:Option Addr) (kc:Nat) (W:World),MEnv w0 pb po co kp kc T Z.length all->MC w0 pb po co kp kc T Z.length all ⟨all,[],none⟩ 0 (-1) W->w0.heap.size<=W.heap.size->Calls Tryz.prog 26 #[ptrM pb] W (ClO w0 pb po co kp kc T Z.length all W y.1 j)):=fun w0 pb kp kc W E h hs=>by
    rw[w6,ey];exact l4clause_any E (md_all E _) h (by omega) hs
   have a4:Hid (all.length<=10000):=k2;clear x2 x3 hO w7 hb hl h5 hZ eA h4 x7 x6 h1 h2 c6 I k1 ey w6 hR k5
   go_enter Tryz.func6,Tryz.ntmps6
   go_wp2_with fail;rw[<-w4.o];refine HV.mono ?_;rintro e W1 ⟨rfl,P⟩;have HC:=S.o W1 P;have e2:Hid (Below f.heap.size f W1):=P;clear HV S P;go_wp2_with fail;refine HC.mono ?_;rintro e W2 ⟨kp,n,kc,rfl,hn,hK,e7⟩;subst hn;have A:Below f.heap.size f W2:=Below.on e2.o e7;obtain⟨hE,hM⟩:=c4.o W2 kp kc W1.heap.size A e2.o.size hK
   obtain⟨V,eV⟩:∃ V,V=W2.alloc (psO po T.length co kp all.length kc):=⟨_,rfl⟩
   have a7:Hid (V=W2.alloc (psO po T.length co kp all.length kc)):=eV
   obtain⟨pb,x1⟩:∃ pb,pb=W2.heap.size:=⟨_,rfl⟩
   have a6:Hid (pb=W2.heap.size):=x1;rw[<-eV,<-x1] at hE hM;have e3:=b6.o V pb kp kc V hE hM (Nat.le_refl _)
   have b2:Below f.heap.size f V:=by rw[eV];exact Below.on A (bel_alloc _ _)
   have b7:Hid (MEnv V pb po co kp kc T Z.length all):=hE
   have N:Hid (Below f.heap.size f V/\w.heap.size<pb/\w.heap.size<V.heap.size):=⟨b2,by rw[x1];have:=A.size;have:=D.o.2.1;omega,by have:=b2.size;have:=D.o.2.1;omega⟩
   clear HC c4 b6 hK e7 A hE hM eV x1 b2 e2;go_wp2_with fail;rw[<-a7.o,<-a6.o];refine e3.mono ?_;rintro e W3 ⟨q,m,cm,p,nn,cp,k',b',rfl,h6,e8,z⟩
   obtain⟨U,eU⟩:∃ U,U=W3.alloc (.cells #[.slice q m cm,.slice p nn cp,.int .i64 0] 28):=⟨_,rfl⟩
   have k6:Hid (U=W3.alloc (.cells #[.slice q m cm,.slice p nn cp,.int .i64 0] 28)):=eU
   obtain⟨C,eC⟩:∃ C,C=W3.heap.size:=⟨_,rfl⟩
   have b5:Hid (C=W3.heap.size):=eC
   have h3:Below W3.heap.size W3 U:=by rw[eU];exact bel_alloc _ _
   have w8:U.heap[C]?=some (.cells #[.slice q m cm,.slice p nn cp,.int .i64 0] 28):=by rw[eU,eC];exact heap_alloc_new _ _
   have G:=e8.below h3;have k4:Below w.heap.size w V:=Below.on D.o.1 N.o.1;have e6:V.heap[w.heap.size]?=some zClM:=(N.o.1.block _ (by have:=D.o.2.1;omega)).trans D.o.2.2
   have X:Hid (∀ W,MF pb V W->Below w.heap.size w W/\W.heap[w.heap.size]?=some zClM):=fun W O=>⟨k4.trans (O.low (by have:=N.o.2.1;omega) (by have:=N.o.2.2;omega)),O.tag e6 (by decide) (by have:=N.o.2.1;omega)⟩
   have e5:Hid (MC V pb po co kp kc T Z.length all j k' b' U/\MF pb V U):=⟨G,h6.below h3⟩
   have u1:=G.c1;have u2:=G.c2;have u3:=G.c3;have w5:Hid (j.ft=none->k'<=all.length/\∃ t,OwnC W3 V.heap.size q m cm t/\t.length<=2001/\(∀ y ∈ t,y.2.2.length<=100)/\Cut t (itC y.1)/\OwnV W3 V.heap.size p nn cp j.ns/\(∀ xs ∈ j.ns,xs.length<=100)/\j.ns.length<=10000):=z;have a5:Hid (Below W3.heap.size W3 U):=h3
   have f1:w.heap.size<C:=by rw[eC];have:=h6.size;have:=N.o.2.2;omega
   have d8:((Z.length:Nat):Int)=(Z.length:Int):=rfl
   rcases G.rel with ⟨F,a9,J⟩ | ⟨i,d1,hi,F,J⟩
   rotate_right
   case' _=>
    have e4:=l4offset_any b7.o G i hi (some ⟨g,0,none⟩) Z.length Y rfl;obtain⟨d,r4⟩:=X.o U e5.o.2;obtain⟨g0,g1,g2,z0,z1,z2⟩:=res3 r4;have K:Hid (SpOut w y.1 j.ns (rtF Z.length y.1 j) (.returned (.tuple #[.agg #[.slice none 0 0,.slice none 0 0,.int .i64 0],.int .i64 2,.int .i64 (plM all Z.length i)])) (put3 U w.heap.size (.slice none 0 0) (.slice none 0 0) (.int .i64 0))):=u.o 2 _ (rtF_ft F J) U d
    generalize plM all Z.length i=pl at e4 K
    subst d1;clear e8 z eU eC h3 w8 G k4 e6 h6 e3 F J d r4 u w5
    go_upto_region 8 with fail
    rw[<-k6.o]
   rotate_right
   case' _=>
    obtain⟨c8,t,h7,x9,x8,hcut,x5,c9,a3⟩:=z F;subst a9
    have d3:Hid (j.ft=none/\j.ts=all.drop k'):=⟨F,J⟩
    by_cases d9:k'<all.length
    rotate_left
    ·have k3:j.ts = []:=by rw[J];exact List.drop_eq_nil_of_le (by omega)
     have M:=rtF_end (L:=Z.length) (x:=y.1) F k3;have hn:m=t.length:=h7.1;have H:=specValid_any q cm t U (by omega) (h7.cin.below h3);obtain⟨x4,b3⟩:=cut_valid hcut;rw[<-hn] at H
     have d2:¬ (k':Int)<(all.length:Int):=by omega
     obtain⟨k7,k8,k9,_,_,_⟩:=res3 w8
     have d6:¬ C=w.heap.size:=by omega
     have d7:¬ w.heap.size=C:=by omega
     have c7:w.heap.size<=V.heap.size:=by have:=N.o.2.2;omega
     cases h8:validB t with
     | true=>
       rw[h8] at H
       have e1:validB (itC y.1)=true:=by rw[<-x4];exact h8
       have w2:=b3 e1;rw[if_pos e1] at M
       have l:Hid (∀ W,Below U.heap.size U W->SpOut w y.1 j.ns (rtF Z.length y.1 j) (.returned (.tuple #[.agg #[.slice q m cm,.slice p nn cp,.int .i64 0],.int .i64 0,.int .i64 0])) (put3 W w.heap.size (.slice q m cm) (.slice p nn cp) (.int .i64 0))):=fun W O=>by
        have b1:Below W3.heap.size W3 W:=Below.on a5.o O;refine⟨put3_below (X.o W (e5.o.2.below O)).1 (Nat.le_refl _) _ _ _,.inl ⟨M,q,m,cm,p,nn,cp,rfl,?_,?_,c9,a3,by rw[<-w2];exact x8,by rw[<-w2];exact x9⟩⟩
        ·rw[<-w2]
         exact((h7.below b1).stay (w':=put3 W w.heap.size (.slice q m cm) (.slice p nn cp) (.int .i64 0)) (by rw[put3_size];exact Nat.le_refl _) (fun k hk _=>put3_heap _ _ _ _ _ (by have:=N.o.2.2;omega))).lower c7
        ·have h9:OwnV W V.heap.size p nn cp j.ns:=x5.of b1.size fun k _ hk=>b1.block k hk
         exact(h9.of (w':=put3 W w.heap.size (.slice q m cm) (.slice p nn cp) (.int .i64 0)) (by rw[put3_size];exact Nat.le_refl _) (fun k hk _=>put3_heap _ _ _ _ _ (by have:=N.o.2.2;omega))).lower c7
       clear e8 z eU eC h3 G k4 e6 h6 e3 h7 x9 x8 hcut x5 F J k3 hn M x4 b3 h8 e1 w2 w5 u
       go_upto_region 8 with fail
       rw[<-k6.o,<-b5.o];go_wp2_with fail;refine H.mono ?_;rintro e W4 ⟨rfl,R⟩;have K:=l.o W4 R;obtain⟨d,r4⟩:=X.o W4 (e5.o.2.below R);obtain⟨g0,g1,g2,z0,z1,z2⟩:=res3 r4;have y0:W4.cell? ⟨C,0,none⟩=some (.slice q m cm):=(R.cell (World.block_lt_of_cell? _ _ k7)).trans k7;have y1:W4.cell? ⟨C,1,none⟩=some (.slice p nn cp):=(R.cell (World.block_lt_of_cell? _ _ k8)).trans k8;have y2:W4.cell? ⟨C,2,none⟩=some (.int .i64 0):=(R.cell (World.block_lt_of_cell? _ _ k9)).trans k9;have b8:Hid (SpOut w y.1 j.ns (rtF Z.length y.1 j) (.returned (.tuple #[.agg #[.slice q m cm,.slice p nn cp,.int .i64 0],.int .i64 0,.int .i64 0])) (put3 W4 w.heap.size (.slice q m cm) (.slice p nn cp) (.int .i64 0))):=K;clear K R d r4 H k7 k8 k9 l u1 u2 u3;have K:=b8;clear b8
       unfold put3 at K
       go_wp2_with fail;obtain⟨a0,a1,a2⟩:=set3 g0 g1 g2 (.slice q m cm) (.slice p nn cp) (.int .i64 0);refine bodyPost_ret (v:=.tuple #[.agg #[.slice q m cm,.slice p nn cp,.int .i64 0],.int .i64 0,.int .i64 0]) (by simp[results,Tryz.results6,go_sem,a0,a1,a2]) rfl ?_;exact K.o
     | false=>
       rw[h8] at H
       have e1:¬ validB (itC y.1)=true:=by rw[<-x4,h8];decide
       rw[if_neg e1] at M
       have l:Hid (∀ W,Below w.heap.size w W->SpOut w y.1 j.ns (rtF Z.length y.1 j) (.returned (.tuple #[.agg #[.slice none 0 0,.slice none 0 0,.int .i64 0],.int .i64 3,.int .i64 0])) (put3 W w.heap.size (.slice none 0 0) (.slice none 0 0) (.int .i64 0))):=fun W O=>u.o 3 0 M W O
       clear e8 z eU eC h3 G k4 e6 h6 e3 h7 x9 x8 hcut x5 F J k3 hn M x4 b3 h8 e1 w5 u
       go_upto_region 8 with fail
       rw[<-k6.o,<-b5.o];go_wp2_with fail;refine H.mono ?_;rintro e W4 ⟨rfl,R⟩;obtain⟨d,r4⟩:=X.o W4 (e5.o.2.below R);obtain⟨g0,g1,g2,z0,z1,z2⟩:=res3 r4;have K:Hid (SpOut w y.1 j.ns (rtF Z.length y.1 j) (.returned (.tuple #[.agg #[.slice none 0 0,.slice none 0 0,.int .i64 0],.int .i64 3,.int .i64 0])) (put3 W4 w.heap.size (.slice none 0 0) (.slice none 0 0) (.int .i64 0))):=l.o W4 d;clear R d r4 H k7 k8 k9 l u1 u2 u3
       unfold put3 at K
       go_wp2_with fail;obtain⟨a0,a1,a2⟩:=set3 g0 g1 g2 (.slice none 0 0) (.slice none 0 0) (.int .i64 0);refine bodyPost_ret (v:=.tuple #[.agg #[.slice none 0 0,.slice none 0 0,.int .i64 0],.int .i64 3,.int .i64 0]) (by simp[results,Tryz.results6,go_sem,a0,a1,a2]) rfl ?_;exact K.o
    have H:=l4stopC_any G F c8 a4.o
    have b9:Hid (rtF Z.length y.1 j=some (2,plM all Z.length k')):=by
     show _=_
     rw[rtF_left F (by rw[J];intro e;have:=congrArg List.length e;simp at this;omega)]
     have e9:j.pl Z.length=plM all Z.length k':=by unfold plM;exact pl_ts J _
     rw[e9]
    have d2:(k':Int)<(all.length:Int):=by omega
    clear e8 z eU eC h3 w8 G k4 e6 h6 e3 h7 x9 x8 hcut x5 F J
    go_upto_region 8 with fail
    rw[<-k6.o];go_wp2_with fail;refine H.mono ?_;rintro e W4 ⟨rfl,b4,w3⟩;have v3:=b4.c3;have e4:=l4offset_any b7.o b4 k' c8 (some ⟨g,0,none⟩) Z.length Y rfl;obtain⟨d,r4⟩:=X.o W4 (e5.o.2.trans w3);obtain⟨g0,g1,g2,z0,z1,z2⟩:=res3 r4;have K:Hid (SpOut w y.1 j.ns (rtF Z.length y.1 j) (.returned (.tuple #[.agg #[.slice none 0 0,.slice none 0 0,.int .i64 0],.int .i64 2,.int .i64 (plM all Z.length k')])) (put3 W4 w.heap.size (.slice none 0 0) (.slice none 0 0) (.int .i64 0))):=u.o 2 _ b9.o W4 d
    generalize plM all Z.length k'=pl at e4 K b9
    clear b4 w3 d r4 H u1 u2 u3
   all_goals
    go_wp2_with fail;refine e4.mono ?_;rintro e W5 ⟨rfl,rfl⟩;clear e4
    unfold put3 at K
    go_wp2_with fail;obtain⟨a0,a1,a2⟩:=set3 g0 g1 g2 (.slice none 0 0) (.slice none 0 0) (.int .i64 0);refine bodyPost_ret (v:=.tuple #[.agg #[.slice none 0 0,.slice none 0 0,.int .i64 0],.int .i64 2,.int .i64 pl]) (by simp[results,Tryz.results6,go_sem,a0,a1,a2]) rfl ?_;exact K.o
  ·have I:rtA T Z=(some (lexT Z).2,nilT,[]):=by unfold rtA;rw[if_pos h1,if_neg h2]
   have l:Hid (∀ W,Below w.heap.size w W->SpOut w (rtA T Z).2.1 (rtA T Z).2.2 (rtA T Z).1 (.returned (.tuple #[.agg #[.slice none 0 0,.slice none 0 0,.int .i64 0],.int .i64 (lexT Z).2.1,.int .i64 (lexT Z).2.2])) (put3 W w.heap.size (.slice none 0 0) (.slice none 0 0) (.int .i64 0))):=fun W O=>u.o _ _ (by rw[I]) W O
   generalize SpOut w (rtA T Z).2.1 (rtA T Z).2.2 (rtA T Z).1=Q at l ⊢
   have S:Hid (∀ W,Below f.heap.size f W->Calls Tryz.prog 25 #[.slice (some ⟨g,0,none⟩) Z.length Y] W fun e w'=>∃ tv n kc,e = .returned (.tuple #[.slice tv n kc,.int .i64 (lexT Z).2.1,.int .i64 (lexT Z).2.2])/\Below W.heap.size W w'):=fun W O=>(k5.o W O).mono fun e w' ⟨p,n,c,he,ho,w9⟩=>⟨p,n,c,he,w9⟩
   generalize (lexT Z).2.1=code at S l h2
   generalize (lexT Z).2.2=at0 at S l
   have d4:(code != 0)=true:=by simpa using h2
   clear x2 x3 hO w7 hb hl h5 hZ eA h4 x7 x6 h1 I k5 u
   go_enter Tryz.func6,Tryz.ntmps6
   go_wp2_with fail;rw[<-w4.o];refine HV.mono ?_;rintro e W1 ⟨rfl,P⟩;have HC:=S.o W1 P;have e2:Hid (Below f.heap.size f W1):=P;clear HV S P;go_wp2_with fail;refine HC.mono ?_;rintro e W2 ⟨tv,n,kc,rfl,e7⟩;have A:Below f.heap.size f W2:=Below.on e2.o e7;have K:Hid (Q (.returned (.tuple #[.agg #[.slice none 0 0,.slice none 0 0,.int .i64 0],.int .i64 code,.int .i64 at0])) (put3 W2 w.heap.size (.slice none 0 0) (.slice none 0 0) (.int .i64 0))):=l.o W2 (Below.on D.o.1 A);have r2:=(A.block _ (by have:=D.o.2.1;omega)).trans D.o.2.2;obtain⟨g0,g1,g2,z0,z1,z2⟩:=res3 r2;clear HC e7 A r2
   unfold put3 at K
   go_wp2_with fail;obtain⟨a0,a1,a2⟩:=set3 g0 g1 g2 (.slice none 0 0) (.slice none 0 0) (.int .i64 0);refine bodyPost_ret (v:=.tuple #[.agg #[.slice none 0 0,.slice none 0 0,.int .i64 0],.int .i64 code,.int .i64 at0]) (by simp[results,Tryz.results6,go_sem,a0,a1,a2]) rfl ?_;exact K.o
 ·have c5:tabB T=false:=by simpa using h1
  rw[c5] at HV
  have I:rtA T Z=(some (1,0),nilT,[]):=by unfold rtA;rw[if_neg h1]
  have l:Hid (∀ W,Below w.heap.size w W->SpOut w (rtA T Z).2.1 (rtA T Z).2.2 (rtA T Z).1 (.returned (.tuple #[.agg #[.slice none 0 0,.slice none 0 0,.int .i64 0],.int .i64 1,.int .i64 0])) (put3 W w.heap.size (.slice none 0 0) (.slice none 0 0) (.int .i64 0))):=fun W O=>u.o _ _ (by rw[I]) W O
  generalize SpOut w (rtA T Z).2.1 (rtA T Z).2.2 (rtA T Z).1=Q at l ⊢
  clear x2 x3 hO w7 hb hl h5 hZ eA h4 x7 x6 h1 c5 I u
  go_enter Tryz.func6,Tryz.ntmps6
  go_wp2_with fail;rw[<-w4.o];refine HV.mono ?_;rintro e W2 ⟨rfl,A⟩;have K:Hid (Q (.returned (.tuple #[.agg #[.slice none 0 0,.slice none 0 0,.int .i64 0],.int .i64 1,.int .i64 0])) (put3 W2 w.heap.size (.slice none 0 0) (.slice none 0 0) (.int .i64 0))):=l.o W2 (Below.on D.o.1 A);have r2:=(A.block _ (by have:=D.o.2.1;omega)).trans D.o.2.2;obtain⟨g0,g1,g2,z0,z1,z2⟩:=res3 r2;clear HV A r2
  unfold put3 at K
  go_wp2_with fail;obtain⟨a0,a1,a2⟩:=set3 g0 g1 g2 (.slice none 0 0) (.slice none 0 0) (.int .i64 0);refine bodyPost_ret (v:=.tuple #[.agg #[.slice none 0 0,.slice none 0 0,.int .i64 0],.int .i64 1,.int .i64 0]) (by simp[results,Tryz.results6,go_sem,a0,a1,a2]) rfl ?_;exact K.o
end
end Go.Proofs.YtlkhmmoimplokaaGreatDoor
namespace Go.Proofs.YtlkhmmoimplokaaGreatDoor
set_option maxRecDepth 100000
set_option maxHeartbeats 2000000
open Go Go.RowKit
set_option linter.unusedVariables false
def rtC (T:List Cel)(Z:List Int):List Cel:=if (rtA T Z).1=none then itC (rtA T Z).2.1 else []
def rtN (T:List Cel)(Z:List Int):List (List Int):=if (rtA T Z).1=none then(rtA T Z).2.2 else []
def rtE (T:List Cel)(Z:List Int):Int×Int:=(rtA T Z).1.getD (0,0)
theorem tnn_bd:∀ (b:List (List Int)),(∀ d ∈ b,d.length<=100)->tnn b<=100 * b.length
 | [],_=>by simp[tnn]
 | a :: r,h=>by
   have e:=tnn_bd r (fun x c=>h x (List.mem_cons_of_mem _ c));have f:=h a (List.mem_cons_self ..);simp only[tnn,List.length_cons];omega
theorem spRt {w d:World}{T:List Cel}{Z:List Int}{e:Ending}(h:SpOut w (rtA T Z).2.1 (rtA T Z).2.2 (rtA T Z).1 e d) :
  ∃ q f p c,e = .returned (.tuple #[.agg #[.slice q (rtC T Z).length f,.slice p (rtN T Z).length c,.int .i64 0],.int .i64 (rtE T Z).1,.int .i64 (rtE T Z).2])/\(CIn d q (rtC T Z)/\NIn d p (rtN T Z))/\((rtC T Z).length+tl (rtC T Z)<=1000000/\(rtN T Z).length+tnn (rtN T Z)<=1048576)/\Below w.heap.size w d:=by
 obtain⟨k,⟨b,q,m,f,p,n,c,rfl,l,o,r,t,s,u⟩ | ⟨c,a,b,rfl⟩⟩:=h
 ·have g:rtC T Z=itC (rtA T Z).2.1:=by unfold rtC;rw[if_pos b]
  have i:rtN T Z=(rtA T Z).2.2:=by unfold rtN;rw[if_pos b]
  have j:rtE T Z=(0,0):=by unfold rtE;rw[b];rfl
  rw[g,i,j];refine⟨q,f,p,c,by rw[l.1,o.1],⟨l.cin,o.up.nin⟩,⟨?_,?_⟩,k⟩
  ·have:=tl_bd _ s;omega
  ·have:=tnn_bd _ r;omega
 ·have g:rtC T Z = []:=by unfold rtC;rw[if_neg (by rw[b];simp)]
  have i:rtN T Z = []:=by unfold rtN;rw[if_neg (by rw[b];simp)]
  have j:rtE T Z=(c,a):=by unfold rtE;rw[b];rfl
  rw[g,i,j];exact⟨none,0,none,0,rfl,⟨fun h=>absurd h (by simp),fun h=>absurd h (by simp)⟩,⟨by simp[tl],by simp[tnn]⟩,k⟩
theorem imRt {w d:World}{T:List Cel}{Z:List Int}{e:Ending}(h:RtOut w (rtA T Z).2.1 (rtA T Z).2.2 (rtA T Z).1 e d) :
  ∃ q f p c,e = .returned (.tuple #[.agg #[.slice q (rtC T Z).length f,.slice p (rtN T Z).length c,.int .i64 0],.int .i64 (rtE T Z).1,.int .i64 (rtE T Z).2])/\OwnCl d w.heap.size d.heap.size q (rtC T Z).length f p (rtN T Z).length c (rtC T Z) (rtN T Z)/\Below w.heap.size w d:=by
 obtain⟨g,⟨b,C,B,q,m,f,p,n,c,rfl,r,x,v,A,u⟩ | ⟨c,a,b,rfl⟩⟩:=h
 ·have i:rtC T Z=itC (rtA T Z).2.1:=by unfold rtC;rw[if_pos b]
  have j:rtN T Z=(rtA T Z).2.2:=by unfold rtN;rw[if_pos b]
  have l:rtE T Z=(0,0):=by unfold rtE;rw[b];rfl
  rw[i,j,l];have s:=u.1;have t:=x.1
  have o:=(x.up.other v (fun k y z D=>A k z y))
  refine⟨q,f,p,c,by rw[s,t],⟨C.heap.size,?_,?_,?_,v⟩,g⟩
  ·rw[<-t];exact o.lowerU r.1
  ·rw[<-s];exact u.up
  ·exact r.2
 ·have i:rtC T Z = []:=by unfold rtC;rw[if_neg (by rw[b];simp)]
  have j:rtN T Z = []:=by unfold rtN;rw[if_neg (by rw[b];simp)]
  have l:rtE T Z=(c,a):=by unfold rtE;rw[b];rfl
  rw[i,j,l];refine⟨none,0,none,0,rfl,⟨d.heap.size,?_,(OwnC.nil _ _).up,g.size,Nat.le_refl _⟩,g⟩;exact((OwnV.nil d d.heap.size).up).lowerU g.size
theorem eqB_same (p q:Option Addr)(b c:Nat)(a:List Int)(w:World)(d:a.length<=1000000000)(i:BIn w p a)(j:BIn w q a) :
  Calls Tryz.prog 12 #[.slice p a.length b,.slice q a.length c] w fun e f=>e = .returned (.bool true)/\Below w.heap.size w f:=
 (eqByteS_any p q b c a a w d d i j).mono fun e f ⟨g,k,h⟩=>⟨by rw[g];simp,by rw[h];exact below_drewN (Below.refl _ _) k⟩
theorem markB_keep (B U g n c:Nat)(k:Int)(d:List Int)(w:World)(f:0<=k)(h:k<=1000000000000)(o:n<=1000000000)(a:OwnS w B (some ⟨g,0,none⟩) n c d)(p:B<=g)(q:g<U) :
  Calls Tryz.prog 14 #[.slice (some ⟨g,0,none⟩) n c,.int .i64 k] w fun e b=>e = .returned (.int .i64 (k+n))/\Keep B U w b:=
 (mark_own B _ n c k d w f h o a).mono fun e b ⟨i,_,l⟩=>⟨i,Keep.of_grown l fun j m=>by simp[Value.ownBlock] at m;omega⟩
theorem endO_eq (k:Int)(a:List Cel):endO k a=k+2 * a.length+tl a:=by simp[endO,kAt]
theorem lawRt_any (po:Option Addr)(co:Nat)(T:List Cel)(p:Option Addr)(b3:Nat)(d:List Int)(m:Int)(w:World)(h5:OArg w po T)(r9:Bytes d)(hm:d.length<=9223372036854775807)(e6:BIn w p d)(hE:RxEnv w m) :
  Calls Tryz.prog 3 #[.slice po T.length co,.slice p d.length b3] w fun e w'=>e = .returned (.bool true)/\Below w.heap.size w w':=by
 by_cases hn:d.length<=1048576
 ·have HI:Hid (OArg w po T):=h5
  have HJ:Hid (BIn w p d):=e6;have HS:=szOpS_any po co T 1048576 w (Nat.le_refl _) h5.len h5.text h5.lies;have v7:=h5.len
  by_cases e9:T.length+tl T<=1048576
  ·obtain⟨r,er,hr⟩:∃ r:Nat,szR 1048576 (T.length+tl T)=r/\r<=1048576:=⟨1048576-(T.length+tl T),by rw[szR,if_pos e9];omega,by omega⟩
   rw[er] at HS;clear er
   have e7:Hid (∀ (q:Option Addr) (b B:Nat) (w:World),OwnO w B q T.length T.length T->B<=w.heap.size->Row w b d->Calls Tryz.prog 6 #[.slice q T.length T.length,.slice (some ⟨b,0,none⟩) d.length d.length] w fun e w'=>∃ q cm p c,e = .returned (.tuple #[.agg #[.slice q (rtC T d).length cm,.slice p (rtN T d).length c,.int .i64 0],.int .i64 (rtE T d).1,.int .i64 (rtE T d).2])/\(CIn w' q (rtC T d)/\NIn w' p (rtN T d))/\((rtC T d).length+tl (rtC T d)<=1000000/\(rtN T d).length+tnn (rtN T d)<=1048576)/\Below w.heap.size w w'):=fun q b B w h1 h2 h3=>(specRt_any T d q T.length b d.length B w HI.o.byte (by omega) h1 h2 r9 (by omega) (Nat.le_refl _) h3).mono fun e w' h=>spRt h
   have h8:Hid (∀ (q:Option Addr) (b:Nat) (W:World),Below w.heap.size w W->OIn W q T->Row W b d->Calls Tryz.prog 9 #[.slice q T.length T.length,.slice (some ⟨b,0,none⟩) d.length d.length] W fun e w'=>∃ q cm p c,e = .returned (.tuple #[.agg #[.slice q (rtC T d).length cm,.slice p (rtN T d).length c,.int .i64 0],.int .i64 (rtE T d).1,.int .i64 (rtE T d).2])/\OwnCl w' W.heap.size w'.heap.size q (rtC T d).length cm p (rtN T d).length c (rtC T d) (rtN T d)/\Below W.heap.size W w'):=fun q b W hW h1 h3=>(implRt_any T d q T.length b d.length m W HI.o.byte (by omega) h1 r9 (by omega) (Nat.le_refl _) h3 (hE.below hW)).mono fun e w' h=>imRt h
   generalize rtC T d=t at e7 h8
   generalize rtN T d=s at e7 h8
   generalize (rtE T d).1=code at e7 h8
   generalize (rtE T d).2=at_ at e7 h8
   obtain⟨j,l2⟩:∃ x,x=t.length:=⟨_,rfl⟩
   obtain⟨i,l1⟩:∃ x,x=s.length:=⟨_,rfl⟩
   have K:Hid (j=t.length/\i=s.length):=⟨l2,l1⟩
   rw[<-l2,<-l1] at e7 h8;clear h5 e6 hE l2 l1 hr hm
   go_enter Tryz.func3,Tryz.ntmps3
   go_wp2_with fail;refine(HS).mono ?_;rintro e w0 ⟨rfl,a⟩;have b4:Hid (Below w.heap.size w w0):=a;clear a HS;go_wp2_with fail;refine(toOpS_any po co T w0 e9 (HI.o.below b4.o).lies).mono ?_;rintro e w1 ⟨rfl,y,a⟩;have l3:Hid (Below w.heap.size w w1):=Below.on b4.o a;have t3:Hid (OwnO w1 w0.heap.size (some ⟨w0.heap.size,0,none⟩) T.length T.length T):=y;have t4:Hid (w0.heap.size<=w1.heap.size):=a.size;clear y a;go_wp2_with fail;refine(toByteS_any p b3 d w1 hn (HJ.o.below l3.o)).mono ?_;rintro e w2 ⟨rfl,y,a⟩;have s2:Hid (Below w.heap.size w w2):=Below.on l3.o a;have o4:Hid (OwnO w2 w0.heap.size (some ⟨w0.heap.size,0,none⟩) T.length T.length T):=t3.o.below a;have o5:Hid (Row w2 w1.heap.size d):=row_of_owns y;have r7:Hid (w1.heap.size<=w2.heap.size):=a.size;clear y a;go_wp2_with fail
   refine(e7.o _ _ _ w2 o4.o (Nat.le_trans t4.o r7.o) o5.o).mono ?_;rintro e D ⟨F,n,E,H,rfl,i8,r8,a⟩;have s3:Hid (Below w.heap.size w D):=Below.on s2.o a;have r6:Hid (CIn D F t/\NIn D E s):=i8
   have J:Hid (t.length+tl t<=1000000/\s.length+tnn s<=1048576):=by rw[<-K.o.1,<-K.o.2];exact r8
   clear i8 r8 a o4 o5
   obtain⟨g,b6⟩:∃ W,W=D.alloc (.cells #[.slice F j n,.slice E i H,.int .i64 0] 28):=⟨_,rfl⟩
   have s9:Hid (g=D.alloc (.cells #[.slice F j n,.slice E i H,.int .i64 0] 28)):=b6
   have a:Below D.heap.size D g:=by rw[b6];exact box_below _ _
   have h4:g.heap[D.heap.size]?=some (.cells #[.slice F j n,.slice E i H,.int .i64 0] 28):=by rw[b6];exact box_new _ _
   have i9:Hid (Below w.heap.size w g):=Below.on s3.o a
   have e8:Hid (CIn g F t/\NIn g E s):=⟨r6.o.1.below a,r6.o.2.below a⟩
   have s6:Hid (Below g.heap.size g g):=Below.refl _ _;have j6:Hid (g.heap[D.heap.size]?=some (.cells #[.slice F j n,.slice E i H,.int .i64 0] 28)):=h4;clear b6 a h4;have x8:Hid (D.heap.size<g.heap.size):=(Array.getElem?_eq_some_iff.1 j6.o).1;go_wp2_with fail;rw[<-s9.o];refine(toOpS_any po co T g e9 (HI.o.below i9.o).lies).mono ?_;rintro e z ⟨rfl,y,a⟩;have j1:Hid (Below w.heap.size w z):=Below.on i9.o a;have k5:Hid (Below g.heap.size g z):=Below.on s6.o a;have q4:Hid (z.heap[D.heap.size]?=some (.cells #[.slice F j n,.slice E i H,.int .i64 0] 28)):=(a.block _ (Array.getElem?_eq_some_iff.1 j6.o).1).trans j6.o;have t8:Hid (OwnOU z g.heap.size z.heap.size (some ⟨g.heap.size,0,none⟩) T.length T.length T):=y.up;clear y a;go_wp2_with fail
   refine(toByteS_any p b3 d z hn (HJ.o.below j1.o)).mono ?_;rintro e Y ⟨rfl,y,a⟩;have j2:Hid (Below w.heap.size w Y):=Below.on j1.o a;have k6:Hid (Below g.heap.size g Y):=Below.on k5.o a;have q5:Hid (Y.heap[D.heap.size]?=some (.cells #[.slice F j n,.slice E i H,.int .i64 0] 28)):=(a.block _ (Array.getElem?_eq_some_iff.1 q4.o).1).trans q4.o;have r2:Hid (OwnOU Y g.heap.size z.heap.size (some ⟨g.heap.size,0,none⟩) T.length T.length T):=t8.o.below a;have r5:Hid (OwnS Y z.heap.size (some ⟨z.heap.size,0,none⟩) d.length d.length d):=OwnS.of_row y;have x7:Hid (z.heap.size<Y.heap.size):=(OwnS.of_row y).row.1;clear y a;go_wp2_with fail;refine(h8.o _ _ Y j2.o r2.o.toO.oin r5.o.row).mono ?_;rintro e l ⟨v,f,u,A,rfl,y,a⟩;have s4:Hid (Below w.heap.size w l):=Below.on j2.o a
   have s7:Hid (Below g.heap.size g l):=Below.on k6.o a;have q6:Hid (l.heap[D.heap.size]?=some (.cells #[.slice F j n,.slice E i H,.int .i64 0] 28)):=(a.block _ (Array.getElem?_eq_some_iff.1 q5.o).1).trans q5.o;have t9:Hid (OwnOU l g.heap.size z.heap.size (some ⟨g.heap.size,0,none⟩) T.length T.length T):=r2.o.below a;have v3:Hid (OwnS l z.heap.size (some ⟨z.heap.size,0,none⟩) d.length d.length d):=r5.o.below a;have t1:Hid (OwnCl l Y.heap.size l.heap.size v j f u i A t s):=y;have t5:Hid (l.heap.size<=l.heap.size):=Nat.le_refl _;have x9:Hid (Y.heap.size<=l.heap.size):=a.size;clear y a
   obtain⟨w8,b7⟩:∃ W,W=l.alloc (.cells #[.slice v j f,.slice u i A,.int .i64 0] 28):=⟨_,rfl⟩
   have n4:Hid (w8=l.alloc (.cells #[.slice v j f,.slice u i A,.int .i64 0] 28)):=b7
   have a:Below l.heap.size l w8:=by rw[b7];exact box_below _ _
   have h4:w8.heap[l.heap.size]?=some (.cells #[.slice v j f,.slice u i A,.int .i64 0] 28):=by rw[b7];exact box_new _ _
   have s5:Hid (Below w.heap.size w w8):=Below.on s4.o a;have j3:Hid (Below g.heap.size g w8):=Below.on s7.o a;have j7:Hid (w8.heap[D.heap.size]?=some (.cells #[.slice F j n,.slice E i H,.int .i64 0] 28)):=(a.block _ (Array.getElem?_eq_some_iff.1 q6.o).1).trans q6.o;have v1:Hid (OwnOU w8 g.heap.size z.heap.size (some ⟨g.heap.size,0,none⟩) T.length T.length T):=t9.o.below a;have v4:Hid (OwnS w8 z.heap.size (some ⟨z.heap.size,0,none⟩) d.length d.length d):=v3.o.below a;have j4:Hid (OwnCl w8 Y.heap.size l.heap.size v j f u i A t s):=t1.o.below a;have t6:Hid (l.heap.size<=w8.heap.size):=Nat.le_trans t5.o a.size;have j5:Hid (w8.heap[l.heap.size]?=some (.cells #[.slice v j f,.slice u i A,.int .i64 0] 28)):=h4;clear b7 a h4;obtain⟨y0,y1,y2⟩:=box3 j5.o
   obtain⟨x0,x1,x2⟩:=box3 j7.o;rw[n4.o] at y0 y1 y2 x0 x1 x2;go_wp2_with fail;rw[<-n4.o];refine(eqClause_same v F j f n u E i A H t s w8 (by have:=J.o;omega) J.o.2 ⟨j4.o.ins.1,j4.o.ins.2.1⟩ ⟨e8.o.1.below j3.o,e8.o.2.below j3.o⟩ K.o.1 K.o.2).mono ?_;rintro e w9 ⟨rfl,a⟩;clear y0 y1 y2 x0 x1 x2;have m3:Hid (Below w.heap.size w w9):=Below.on s5.o a;have s8:Hid (Below g.heap.size g w9):=Below.on j3.o a;have q8:Hid (w9.heap[D.heap.size]?=some (.cells #[.slice F j n,.slice E i H,.int .i64 0] 28)):=(a.block _ (Array.getElem?_eq_some_iff.1 j7.o).1).trans j7.o;have v2:Hid (OwnOU w9 g.heap.size z.heap.size (some ⟨g.heap.size,0,none⟩) T.length T.length T):=v1.o.below a;have v5:Hid (OwnS w9 z.heap.size (some ⟨z.heap.size,0,none⟩) d.length d.length d):=v4.o.below a
   have t2:Hid (OwnCl w9 Y.heap.size l.heap.size v j f u i A t s):=j4.o.below a;have t7:Hid (l.heap.size<=w9.heap.size):=Nat.le_trans t6.o a.size;have o2:Hid (w9.heap[l.heap.size]?=some (.cells #[.slice v j f,.slice u i A,.int .i64 0] 28)):=(a.block _ (Array.getElem?_eq_some_iff.1 j5.o).1).trans j5.o;clear a;go_wp2_with fail;refine(toOpS_any po co T w9 e9 (HI.o.below m3.o).lies).mono ?_;rintro e S ⟨rfl,y,a⟩;have l4:Hid (Below w.heap.size w S):=Below.on m3.o a;have m4:Hid (Below g.heap.size g S):=Below.on s8.o a;have f9:Hid (S.heap[D.heap.size]?=some (.cells #[.slice F j n,.slice E i H,.int .i64 0] 28)):=(a.block _ (Array.getElem?_eq_some_iff.1 q8.o).1).trans q8.o;have i3:Hid (OwnOU S g.heap.size z.heap.size (some ⟨g.heap.size,0,none⟩) T.length T.length T):=v2.o.below a
   have r3:Hid (OwnS S z.heap.size (some ⟨z.heap.size,0,none⟩) d.length d.length d):=v5.o.below a;have n5:Hid (OwnCl S Y.heap.size l.heap.size v j f u i A t s):=t2.o.below a;have o6:Hid (l.heap.size<=S.heap.size):=Nat.le_trans t7.o a.size;have d3:Hid (S.heap[l.heap.size]?=some (.cells #[.slice v j f,.slice u i A,.int .i64 0] 28)):=(a.block _ (Array.getElem?_eq_some_iff.1 o2.o).1).trans o2.o;have f4:Hid (OIn S (some ⟨w9.heap.size,0,none⟩) T):=y.oin;clear y a;go_wp2_with fail;refine(eqOpS_any _ _ _ _ T T S (by omega) (by omega) i3.o.toO.oin f4.o).mono ?_;rintro e U ⟨rfl,a⟩;have b8:Hid (Below w.heap.size w U):=Below.on l4.o a;have m5:Hid (Below g.heap.size g U):=Below.on m4.o a;have g1:Hid (U.heap[D.heap.size]?=some (.cells #[.slice F j n,.slice E i H,.int .i64 0] 28)):=(a.block _ (Array.getElem?_eq_some_iff.1 f9.o).1).trans f9.o
   have q9:Hid (OwnOU U g.heap.size z.heap.size (some ⟨g.heap.size,0,none⟩) T.length T.length T):=i3.o.below a;have r4:Hid (OwnS U z.heap.size (some ⟨z.heap.size,0,none⟩) d.length d.length d):=r3.o.below a;have n6:Hid (OwnCl U Y.heap.size l.heap.size v j f u i A t s):=n5.o.below a;have o7:Hid (l.heap.size<=U.heap.size):=Nat.le_trans o6.o a.size;have d4:Hid (U.heap[l.heap.size]?=some (.cells #[.slice v j f,.slice u i A,.int .i64 0] 28)):=(a.block _ (Array.getElem?_eq_some_iff.1 d3.o).1).trans d3.o
   have ht:decide (T=T)=true:=by simp
   rw[ht];clear ht a f4;go_wp2_with fail;refine(toByteS_any p b3 d U hn (HJ.o.below b8.o)).mono ?_;rintro e V ⟨rfl,y,a⟩;have l5:Hid (Below w.heap.size w V):=Below.on b8.o a;have m6:Hid (Below g.heap.size g V):=Below.on m5.o a;have g2:Hid (V.heap[D.heap.size]?=some (.cells #[.slice F j n,.slice E i H,.int .i64 0] 28)):=(a.block _ (Array.getElem?_eq_some_iff.1 g1.o).1).trans g1.o;have r1:Hid (OwnOU V g.heap.size z.heap.size (some ⟨g.heap.size,0,none⟩) T.length T.length T):=q9.o.below a;have i5:Hid (OwnS V z.heap.size (some ⟨z.heap.size,0,none⟩) d.length d.length d):=r4.o.below a;have n7:Hid (OwnCl V Y.heap.size l.heap.size v j f u i A t s):=n6.o.below a;have o8:Hid (l.heap.size<=V.heap.size):=Nat.le_trans o7.o a.size
   have d5:Hid (V.heap[l.heap.size]?=some (.cells #[.slice v j f,.slice u i A,.int .i64 0] 28)):=(a.block _ (Array.getElem?_eq_some_iff.1 d4.o).1).trans d4.o;have f6:Hid (Row V U.heap.size d):=row_of_owns y;clear y a;go_wp2_with fail;refine(eqB_same _ _ _ _ d V (by omega) i5.o.bin f6.o.bin).mono ?_;rintro e Z ⟨rfl,a⟩;have b9:Hid (Below w.heap.size w Z):=Below.on l5.o a;have c8:Hid (Below g.heap.size g Z):=Below.on m6.o a;have g3:Hid (Z.heap[D.heap.size]?=some (.cells #[.slice F j n,.slice E i H,.int .i64 0] 28)):=(a.block _ (Array.getElem?_eq_some_iff.1 g2.o).1).trans g2.o;have i4:Hid (OwnOU Z g.heap.size z.heap.size (some ⟨g.heap.size,0,none⟩) T.length T.length T):=r1.o.below a;have i6:Hid (OwnS Z z.heap.size (some ⟨z.heap.size,0,none⟩) d.length d.length d):=i5.o.below a
   have n8:Hid (OwnCl Z Y.heap.size l.heap.size v j f u i A t s):=n7.o.below a;have o9:Hid (l.heap.size<=Z.heap.size):=Nat.le_trans o8.o a.size;have d6:Hid (Z.heap[l.heap.size]?=some (.cells #[.slice v j f,.slice u i A,.int .i64 0] 28)):=(a.block _ (Array.getElem?_eq_some_iff.1 d5.o).1).trans d5.o;clear a f6;go_wp2_with fail;refine(markOps_any g.heap.size z.heap.size _ _ _ 1 T Z (by decide) (by decide) (by omega) i4.o).mono ?_;rintro e h6 ⟨rfl,y,N⟩;have c1:Hid (Below w.heap.size w h6):=b9.o.trans (N.below i9.o.size b9.o.size);have c9:Hid (Below g.heap.size g h6):=c8.o.trans (N.below (Nat.le_refl _) c8.o.size);have g4:Hid (h6.heap[D.heap.size]?=some (.cells #[.slice F j n,.slice E i H,.int .i64 0] 28)):=(N.block _ (Array.getElem?_eq_some_iff.1 g3.o).1 (.inl (by have:=x8.o;have:=k5.o.size;have:=k6.o.size;omega))).trans g3.o
   have i7:Hid (OwnS h6 z.heap.size (some ⟨z.heap.size,0,none⟩) d.length d.length d):=ownS_block i6.o (N.block _ (ownS_lt i6.o).2 (.inr (Nat.le_refl _)));have n9:Hid (OwnCl h6 Y.heap.size l.heap.size v j f u i A t s):=n8.o.keep N (.inr (Nat.le_of_lt x7.o));have p1:Hid (l.heap.size<=h6.heap.size):=Nat.le_trans o9.o N.size;have d7:Hid (h6.heap[l.heap.size]?=some (.cells #[.slice v j f,.slice u i A,.int .i64 0] 28)):=(N.block _ (Array.getElem?_eq_some_iff.1 d6.o).1 (.inr (by have:=x7.o;have:=x9.o;omega))).trans d6.o
   obtain⟨k1,j8⟩:∃ k,k=endO 1 T:=⟨_,rfl⟩
   have s1:0<=k1/\k1<=10000000:=by rw[j8,endO_eq];omega
   rw[<-j8];clear j8 y N i4;go_wp2_with fail;refine(markB_keep z.heap.size Y.heap.size z.heap.size d.length d.length k1 d h6 s1.1 (by omega) (by omega) i7.o (Nat.le_refl _) x7.o).mono ?_;rintro e e1 ⟨rfl,N⟩;have l6:Hid (Below w.heap.size w e1):=c1.o.trans (N.below j1.o.size c1.o.size);have k3:Hid (Below g.heap.size g e1):=c9.o.trans (N.below k5.o.size c9.o.size);have b1:Hid (e1.heap[D.heap.size]?=some (.cells #[.slice F j n,.slice E i H,.int .i64 0] 28)):=(N.block _ (Array.getElem?_eq_some_iff.1 g4.o).1 (.inl (by have:=x8.o;have:=k5.o.size;have:=k6.o.size;omega))).trans g4.o;have k7:Hid (OwnCl e1 Y.heap.size l.heap.size v j f u i A t s):=n9.o.keep N (.inr (Nat.le_refl _));have p2:Hid (l.heap.size<=e1.heap.size):=Nat.le_trans p1.o N.size
   have x3:Hid (e1.heap[l.heap.size]?=some (.cells #[.slice v j f,.slice u i A,.int .i64 0] 28)):=(N.block _ (Array.getElem?_eq_some_iff.1 d7.o).1 (.inr (by have:=x7.o;have:=x9.o;omega))).trans d7.o
   obtain⟨k2,j9⟩:∃ k:Int,k=k1+(d.length:Nat):=⟨_,rfl⟩
   have y9:¬ k2<0:=by rw[j9];omega
   rw[<-j9];clear j9 N i7 s1;obtain⟨y0,y1,y2⟩:=box3 x3.o;obtain⟨x0,x1,x2⟩:=box3 b1.o;go_wp2_with fail;refine(eqClause_same v F j f n u E i A H t s e1 (by have:=J.o;omega) J.o.2 ⟨k7.o.ins.1,k7.o.ins.2.1⟩ ⟨e8.o.1.below k3.o,e8.o.2.below k3.o⟩ K.o.1 K.o.2).mono ?_;rintro e e2 ⟨rfl,a⟩;clear y0 y1 y2 x0 x1 x2;have c2:Hid (Below w.heap.size w e2):=Below.on l6.o a;have a1:Hid (Below g.heap.size g e2):=Below.on k3.o a;have g5:Hid (e2.heap[D.heap.size]?=some (.cells #[.slice F j n,.slice E i H,.int .i64 0] 28)):=(a.block _ (Array.getElem?_eq_some_iff.1 b1.o).1).trans b1.o;have a3:Hid (OwnCl e2 Y.heap.size l.heap.size v j f u i A t s):=k7.o.below a;have f8:Hid (l.heap.size<=e2.heap.size):=Nat.le_trans p2.o a.size
   have x4:Hid (e2.heap[l.heap.size]?=some (.cells #[.slice v j f,.slice u i A,.int .i64 0] 28)):=(a.block _ (Array.getElem?_eq_some_iff.1 x3.o).1).trans x3.o;clear a;obtain⟨y0,y1,y2⟩:=box3 x4.o;go_wp2_with fail;refine(markClause_any Y.heap.size l.heap.size v j f u i A t s e2 (by have:=J.o;omega) (by have:=J.o;omega) a3.o f8.o).mono ?_;rintro e h7 ⟨rfl,y,N⟩;clear y0 y1 y2;have l7:Hid (Below w.heap.size w h7):=c2.o.trans (N.below j2.o.size c2.o.size);have m7:Hid (Below g.heap.size g h7):=a1.o.trans (N.below k6.o.size a1.o.size);have g6:Hid (h7.heap[D.heap.size]?=some (.cells #[.slice F j n,.slice E i H,.int .i64 0] 28)):=(N.block _ (Array.getElem?_eq_some_iff.1 g5.o).1 (.inl (by have:=x8.o;have:=k5.o.size;have:=k6.o.size;omega))).trans g5.o
   have p4:Hid (l.heap.size<=h7.heap.size):=Nat.le_trans f8.o N.size;have x5:Hid (h7.heap[l.heap.size]?=some (.cells #[.slice v j f,.slice u i A,.int .i64 0] 28)):=(N.block _ (Array.getElem?_eq_some_iff.1 x4.o).1 (.inr (by have:=x7.o;have:=x9.o;omega))).trans x4.o
   have e3:Hid (CIn h7 v (markC 1 t)/\NIn h7 u (mixN (endC 1 t) s s.length)):=⟨y.ins.1,y.ins.2.1⟩
   obtain⟨mm,b5⟩:∃ mm,mm=endC 1 t+(tnn s:Nat):=⟨_,rfl⟩
   have z1:¬ mm<0:=by rw[b5];exact endC_pos t _
   have o1:Hid (mm=endC 1 t+(tnn s:Nat)):=b5;rw[<-b5];clear b5 y N a3;obtain⟨y0,y1,y2⟩:=box3 x5.o;go_wp2_with fail;refine(heldClause_any v j f u i A t s h7 (by have:=J.o;omega) (by have:=J.o;omega) K.o.1 K.o.2 e3.o.1 e3.o.2).mono ?_;rintro e I ⟨rfl,a⟩;clear y0 y1 y2;have c4:Hid (Below w.heap.size w I):=Below.on l7.o a;have m8:Hid (Below g.heap.size g I):=Below.on m7.o a;have g7:Hid (I.heap[D.heap.size]?=some (.cells #[.slice F j n,.slice E i H,.int .i64 0] 28)):=(a.block _ (Array.getElem?_eq_some_iff.1 g6.o).1).trans g6.o;have p5:Hid (l.heap.size<=I.heap.size):=Nat.le_trans p4.o a.size;have d8:Hid (I.heap[l.heap.size]?=some (.cells #[.slice v j f,.slice u i A,.int .i64 0] 28)):=(a.block _ (Array.getElem?_eq_some_iff.1 x5.o).1).trans x5.o
   have a4:Hid (CIn I v (markC 1 t)/\NIn I u (mixN (endC 1 t) s s.length)):=⟨e3.o.1.below a,e3.o.2.below a⟩
   rw[<-o1.o];clear a;go_wp2_with fail;refine(toOpS_any po co T I e9 (HI.o.below c4.o).lies).mono ?_;rintro e L ⟨rfl,y,a⟩;have c5:Hid (Below w.heap.size w L):=Below.on c4.o a;have m9:Hid (Below g.heap.size g L):=Below.on m8.o a;have g8:Hid (L.heap[D.heap.size]?=some (.cells #[.slice F j n,.slice E i H,.int .i64 0] 28)):=(a.block _ (Array.getElem?_eq_some_iff.1 g7.o).1).trans g7.o;have p6:Hid (l.heap.size<=L.heap.size):=Nat.le_trans p5.o a.size;have d9:Hid (L.heap[l.heap.size]?=some (.cells #[.slice v j f,.slice u i A,.int .i64 0] 28)):=(a.block _ (Array.getElem?_eq_some_iff.1 d8.o).1).trans d8.o
   have a5:Hid (CIn L v (markC 1 t)/\NIn L u (mixN (endC 1 t) s s.length)):=⟨a4.o.1.below a,a4.o.2.below a⟩
   have o3:Hid (OwnO L I.heap.size (some ⟨I.heap.size,0,none⟩) T.length T.length T):=y;have y6:Hid (I.heap.size<=L.heap.size):=a.size;clear y a;go_wp2_with fail;refine(toByteS_any p b3 d L hn (HJ.o.below c5.o)).mono ?_;rintro e Q ⟨rfl,y,a⟩;have c6:Hid (Below w.heap.size w Q):=Below.on c5.o a;have n1:Hid (Below g.heap.size g Q):=Below.on m9.o a;have g9:Hid (Q.heap[D.heap.size]?=some (.cells #[.slice F j n,.slice E i H,.int .i64 0] 28)):=(a.block _ (Array.getElem?_eq_some_iff.1 g8.o).1).trans g8.o;have p8:Hid (l.heap.size<=Q.heap.size):=Nat.le_trans p6.o a.size;have f1:Hid (Q.heap[l.heap.size]?=some (.cells #[.slice v j f,.slice u i A,.int .i64 0] 28)):=(a.block _ (Array.getElem?_eq_some_iff.1 d9.o).1).trans d9.o
   have a6:Hid (CIn Q v (markC 1 t)/\NIn Q u (mixN (endC 1 t) s s.length)):=⟨a5.o.1.below a,a5.o.2.below a⟩
   have f5:Hid (OwnO Q I.heap.size (some ⟨I.heap.size,0,none⟩) T.length T.length T):=o3.o.below a;have f7:Hid (Row Q L.heap.size d):=row_of_owns y;have v6:Hid (L.heap.size<=Q.heap.size):=a.size;clear y a;go_wp2_with fail;refine(h8.o _ _ Q c6.o f5.o.oin f7.o).mono ?_;rintro e C ⟨P,M,O,h9,rfl,y,a⟩;have l8:Hid (Below w.heap.size w C):=Below.on c6.o a;have n2:Hid (Below g.heap.size g C):=Below.on n1.o a;have i1:Hid (C.heap[D.heap.size]?=some (.cells #[.slice F j n,.slice E i H,.int .i64 0] 28)):=(a.block _ (Array.getElem?_eq_some_iff.1 g9.o).1).trans g9.o;have p9:Hid (l.heap.size<=C.heap.size):=Nat.le_trans p8.o a.size;have f2:Hid (C.heap[l.heap.size]?=some (.cells #[.slice v j f,.slice u i A,.int .i64 0] 28)):=(a.block _ (Array.getElem?_eq_some_iff.1 f1.o).1).trans f1.o
   have a7:Hid (CIn C v (markC 1 t)/\NIn C u (mixN (endC 1 t) s s.length)):=⟨a6.o.1.below a,a6.o.2.below a⟩
   have d1:Hid (CIn C P t/\NIn C O s):=⟨y.ins.1,y.ins.2.1⟩
   clear y a f5 f7
   obtain⟨G,e5⟩:∃ W,W=C.alloc (.cells #[.slice P j M,.slice O i h9,.int .i64 0] 28):=⟨_,rfl⟩
   have a2:Hid (G=C.alloc (.cells #[.slice P j M,.slice O i h9,.int .i64 0] 28)):=e5
   have a:Below C.heap.size C G:=by rw[e5];exact box_below _ _
   have h4:G.heap[C.heap.size]?=some (.cells #[.slice P j M,.slice O i h9,.int .i64 0] 28):=by rw[e5];exact box_new _ _
   have l9:Hid (Below w.heap.size w G):=Below.on l8.o a;have k4:Hid (Below g.heap.size g G):=Below.on n2.o a;have b2:Hid (G.heap[D.heap.size]?=some (.cells #[.slice F j n,.slice E i H,.int .i64 0] 28)):=(a.block _ (Array.getElem?_eq_some_iff.1 i1.o).1).trans i1.o;have q1:Hid (l.heap.size<=G.heap.size):=Nat.le_trans p9.o a.size;have f3:Hid (G.heap[l.heap.size]?=some (.cells #[.slice v j f,.slice u i A,.int .i64 0] 28)):=(a.block _ (Array.getElem?_eq_some_iff.1 f2.o).1).trans f2.o
   have a8:Hid (CIn G v (markC 1 t)/\NIn G u (mixN (endC 1 t) s s.length)):=⟨a7.o.1.below a,a7.o.2.below a⟩
   have k9:Hid (CIn G P t/\NIn G O s):=⟨d1.o.1.below a,d1.o.2.below a⟩
   have k8:Hid (G.heap[C.heap.size]?=some (.cells #[.slice P j M,.slice O i h9,.int .i64 0] 28)):=h4;clear e5 a h4;obtain⟨y0,y1,y2⟩:=box3 k8.o;obtain⟨x0,x1,x2⟩:=box3 b2.o;rw[a2.o] at y0 y1 y2 x0 x1 x2;go_wp2_with fail;rw[<-a2.o];refine(eqClause_same P F j M n O E i h9 H t s G (by have:=J.o;omega) J.o.2 k9.o ⟨e8.o.1.below k4.o,e8.o.2.below k4.o⟩ K.o.1 K.o.2).mono ?_;rintro e R ⟨rfl,a⟩;clear y0 y1 y2 x0 x1 x2;have m1:Hid (Below w.heap.size w R):=Below.on l9.o a;have n3:Hid (Below g.heap.size g R):=Below.on k4.o a;have i2:Hid (R.heap[D.heap.size]?=some (.cells #[.slice F j n,.slice E i H,.int .i64 0] 28)):=(a.block _ (Array.getElem?_eq_some_iff.1 b2.o).1).trans b2.o;have q2:Hid (l.heap.size<=R.heap.size):=Nat.le_trans q1.o a.size
   have x6:Hid (R.heap[l.heap.size]?=some (.cells #[.slice v j f,.slice u i A,.int .i64 0] 28)):=(a.block _ (Array.getElem?_eq_some_iff.1 f3.o).1).trans f3.o
   have e4:Hid (CIn R v (markC 1 t)/\NIn R u (mixN (endC 1 t) s s.length)):=⟨a8.o.1.below a,a8.o.2.below a⟩
   have d2:Hid (CIn R P t/\NIn R O s):=⟨k9.o.1.below a,k9.o.2.below a⟩
   have a9:Hid (R.heap[C.heap.size]?=some (.cells #[.slice P j M,.slice O i h9,.int .i64 0] 28)):=(a.block _ (Array.getElem?_eq_some_iff.1 k8.o).1).trans k8.o;clear a;obtain⟨y0,y1,y2⟩:=box3 x6.o;go_wp2_with fail;refine(heldClause_any v j f u i A t s R (by have:=J.o;omega) (by have:=J.o;omega) K.o.1 K.o.2 e4.o.1 e4.o.2).mono ?_;rintro e X ⟨rfl,a⟩;clear y0 y1 y2;have m2:Hid (Below w.heap.size w X):=Below.on m1.o a;have v8:Hid (Below g.heap.size g X):=Below.on n3.o a;have y8:Hid (X.heap[D.heap.size]?=some (.cells #[.slice F j n,.slice E i H,.int .i64 0] 28)):=(a.block _ (Array.getElem?_eq_some_iff.1 i2.o).1).trans i2.o;have y7:Hid (l.heap.size<=X.heap.size):=Nat.le_trans q2.o a.size;have y5:Hid (X.heap[l.heap.size]?=some (.cells #[.slice v j f,.slice u i A,.int .i64 0] 28)):=(a.block _ (Array.getElem?_eq_some_iff.1 x6.o).1).trans x6.o
   have v9:Hid (CIn X v (markC 1 t)/\NIn X u (mixN (endC 1 t) s s.length)):=⟨e4.o.1.below a,e4.o.2.below a⟩
   have y4:Hid (CIn X P t/\NIn X O s):=⟨d2.o.1.below a,d2.o.2.below a⟩
   have y3:Hid (X.heap[C.heap.size]?=some (.cells #[.slice P j M,.slice O i h9,.int .i64 0] 28)):=(a.block _ (Array.getElem?_eq_some_iff.1 a9.o).1).trans a9.o;rw[<-o1.o];clear a;go_wp2_with fail;go_ret;exact⟨rfl,m2.o⟩
  ·have er:szR 1048576 (T.length+tl T) = -1:=by rw[szR,if_neg e9]
   rw[er] at HS;clear er h5 e6 hE
   go_enter Tryz.func3,Tryz.ntmps3
   go_wp2_with fail;refine HS.mono ?_;rintro e w0 ⟨rfl,a⟩;have b4:Hid (Below w.heap.size w w0):=a;clear a HS;go_wp2_with fail;go_ret;exact⟨rfl,b4.o⟩
 ·have z2:(1048576:Int)<(d.length:Int):=by omega
  clear h5 e6 hE
  go_enter Tryz.func3,Tryz.ntmps3
  go_wp2_with fail;go_ret;exact⟨rfl,Below.refl _ _⟩
end Go.Proofs.YtlkhmmoimplokaaGreatDoor
