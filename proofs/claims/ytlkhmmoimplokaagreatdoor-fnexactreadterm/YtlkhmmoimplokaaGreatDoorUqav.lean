/- Texts of Lx3, Lx4, Lx5. Own work of the verifier. -/
import Derived.Test.YtlkhmmoimplokaaGreatDoorUqau
namespace Go.Proofs.YtlkhmmoimplokaaGreatDoor
set_option maxHeartbeats 16000000
set_option maxRecDepth 100000
open Go Go.RowKit
set_option linter.unusedVariables false
theorem hexI_byte {b:List Int}{a j:Nat}{v:Int}(h:hexI b a=some (v,j)):0<=v/\v<256:=by
 have d:=digI_rng (byteI b a);have c:=digI_rng (byteI b (a+1));rw[hexI_cases] at h
 split at h
 ·cases h
 ·split at h
  ·split at h
   ·cases h;omega
   ·cases h
  ·split at h
   ·cases h;omega
   ·cases h
theorem escI_byte {a:List Int}{i j:Nat}{v:Int}(h:escI a i=some (v,j)):0<=v/\v<256:=by
 rw[escI,escF] at h
 split at h
 ·cases h;omega
 split at h
 ·cases h;omega
 split at h
 ·cases h;omega
 split at h
 ·cases h;omega
 split at h
 ·cases h;omega
 split at h
 ·cases h;omega
 split at h
 ·exact hexI_byte h
 ·cases h
def TxtOut (w:World)(pos:Nat)(r:Option (List Int×Nat))(e:Ending)(w':World):Prop:=
 match r with
 | none=>e = .returned (.tuple #[.slice none 0 0,.int .i64 0])/\Below w.heap.size w w'
 | some (ys,j)=>∃ p n c,e = .returned (.tuple #[.slice p n c,.int .i64 ((j-pos:Nat):Int)])/\OwnS w' w.heap.size p n c ys/\Below w.heap.size w w'/\pos<j/\j<=30001
theorem txtOut_of {w b:World}{a:Nat}{e:Ending}{r c:Option (List Int×Nat)}(h:TxtOut w a r e b)(d:c=r):TxtOut w a c e b:=d▸h
theorem one_news (W:World)(x:Int):∀ j u,([x].map (Value.int .u8))[j]?=some u->(W.alloc (.cells #[.int .u8 x] 5)).cell? ((⟨W.heap.size,0,none⟩:Addr).add j)=some u:=fun j u a=>by
 have b:j=0:=by
  rcases Nat.eq_zero_or_pos j with h | h
  ·exact h
  ·rw[List.getElem?_eq_none (by simp;omega)] at a;cases a
 subst b;have c:=heap_alloc_new W (.cells #[.int .u8 x] 5)
 simp at a
 rw[<-a]
 show World.cell? _ ⟨W.heap.size,0,none⟩=_
 unfold World.cell?;rw[c];rfl
theorem textS_any (b h7 c:Nat)(q:Int)(f:List Int)(w:World)(hb:Bytes f)(hn:f.length<=10000)(hp:c<f.length)(hq:f.getD c 0=q)(k2:q=39∨q=34)(hc:∀ m,m<f.length->w.cell? ⟨b,m,none⟩=some (.int .u8 (f.getD m 0))) :
  Calls Tryz.prog 92 #[.slice (some ⟨b,0,none⟩) f.length h7,.int .i64 c] w (TxtOut w c (txtI f q (c+1) [])):=by
 obtain⟨n,en⟩:∃ n,n=f.length:=⟨_,rfl⟩
 rw[<-en] at hn hp ⊢;have HN:=hid en
 have M:Hid (∀ W,Below w.heap.size w W->∀ m,m<n->W.cell? ⟨b,m,none⟩=some (.int .u8 (f.getD m 0))):=fun W hW m hm=>(hW.cell (World.block_lt_of_cell? _ _ (hc m (by omega)))).trans (hc m (by omega))
 have A:Hid (∀ (W:World) (i:Nat),Below w.heap.size w W->i<=100000->Calls Tryz.prog 137 #[.slice (some ⟨b,0,none⟩) n h7,.int .i64 ((i:Int)+1)] W (EscOut W (escS f i))):=fun W i hW hi=>by
  have:=escapeS_any b h7 i f W hb (by omega) hi (fun m hm=>M.o W hW m (by omega));rw[<-en,show((i+1:Nat):Int)=(i:Int)+1 by omega] at this;exact this
 have t:=hid hb;have e4:=hc c (by omega);rw[hq] at e4
 have k9:0<=q/\q<256:=by omega
 have k3:=hid k9.1
 have e7:Hid (q≠-1/\q≠92):=⟨by omega,by omega⟩
 clear hb hc en hq k2
 go_enter Tryz.func92,Tryz.ntmps92
 go_wp2_with fail;clear e4
 go_loopw [7,8] (fun s j wr=>∃ (i H K:Nat) (S:Option Addr) (L:List Int),i<=30000/\H<=i/\c+1<=i/\s = .slice S H K/\j = .int .i64 i/\Hid (txtI f q i L=txtI f q (c+1) [])/\Hid (OwnS wr w.heap.size S H K L)/\Hid (Below w.heap.size w wr)) (fun _ j _=>40000-(intOf j).toNat)
 case atStart=>exact⟨c+1,0,0,none,[],by omega,by omega,by omega,rfl,by go_num,rfl,OwnS.nil _ _,Below.refl _ _⟩
 case round=>
  obtain⟨i,H,K,S,L,hi,w8,x9,rfl,rfl,C,HO,I⟩:=hrel;have a:=txt_step f q k3.o i L
  by_cases e9:i<n
  ·have hx:=M.o wr I.o i e9
   have hr:=t.o.at i;have h3:byteI f i=f.getD i 0:=byteI_lt (by rw[<-HN.o];exact e9)
   obtain⟨x,ex⟩:∃ x,x=f.getD i 0:=⟨_,rfl⟩
   rw[<-ex] at hx hr h3;rw[h3] at a;clear ex h3;have k1:w.heap.size<=wr.heap.size:=I.o.size
   by_cases P:x=q
   ·subst P
    rw[if_pos rfl] at a
    have p:Hid (byteI f (i+1)≠x->TxtOut w c (txtI f x (c+1) []) (.returned (.tuple #[.slice S H K,.int .i64 ((i:Int)+1-c)])) wr):=fun h=>by
     rw[if_neg h] at a;refine txtOut_of (r:=some (L,i+1)) ⟨S,H,K,?_,HO.o,I.o,by omega,by omega⟩ (by rw[<-C.o];exact a);rw[show((i+1-c:Nat):Int)=(i:Int)+1-c by omega]
    by_cases h1:i+1<n
    ·have hy:=M.o wr I.o (i+1) h1
     have T:byteI f (i+1)=f.getD (i+1) 0:=byteI_lt (by rw[<-HN.o];exact h1)
     obtain⟨y,ey⟩:∃ y,y=f.getD (i+1) 0:=⟨_,rfl⟩
     rw[<-ey] at hy T;clear ey
     have h2:¬ ((n:Int)<=(i:Int)+1):=by omega
     by_cases O:y=x
     ·have F:Hid (txtI f x (i+2) (L ++ [x])=txtI f x (c+1) []):=by show _=_;rw[<-C.o,a,T,if_pos O]
      subst O
      have x3:(y != y)=false:=by simp
      clear p a T M A t C;go_wp2_with (refine app_bytes _ rfl _ _ rfl w.heap.size S H K L [y] 1 rfl rfl (HO.o.alloc _) ⟨wr.heap.size,0,none⟩ 1 rfl (one_news wr y) (by omega) (by omega) (by simp;omega) ?_;intro g6 n6 X w6 l k R);have h6:=hid l;have h5:Hid (Below w.heap.size w w6):=(I.o.alloc k1 _).trans k;have e3:=R.o;clear l k R;go_wp2_with fail;go_roundw
      case rel=>exact⟨i+2,n6,X,_,_,by omega,by omega,by omega,by trivial,by go_num,F,h6,h5⟩
      case measure=>simp[intOf];omega
     ·have HF:Hid (TxtOut w c (txtI f x (c+1) []) (.returned (.tuple #[.slice S H K,.int .i64 ((i:Int)+1-c)])) wr):=p.o (by rw[T];exact O)
      have x3:(y != x)=true:=by simpa using O
      clear p a T M A t C HO I O;go_wp2_with fail
      go_ret2
      exact HF.o
    ·have h2:(n:Int)<=(i:Int)+1:=by omega
     have HF:Hid (TxtOut w c (txtI f x (c+1) []) (.returned (.tuple #[.slice S H K,.int .i64 ((i:Int)+1-c)])) wr):=p.o (by rw[byteI_ge (by rw[<-HN.o];omega)];exact fun h=>e7.o.1 h.symm);clear p a M A t C HO I;go_wp2_with fail
     go_ret2
     exact HF.o
   ·rw[if_neg P] at a
    have w1:(x == q)=false:=by simpa using P
    by_cases J:x=92
    ·rw[if_pos J] at a
     have z:=A.o wr i I.o (by omega);subst J
     by_cases D:byteI f (i+1)=10
     ·have E:escS f i=([],1):=by rw[escS,if_pos D]
      have F:Hid (txtI f q (i+2) L=txtI f q (c+1) []):=by show _=_;rw[<-C.o,a,if_pos D]
      rw[E] at z;clear a M A t C E D;go_wp2_with fail;refine z.mono ?_;rintro e w5 ⟨p6,n6,c6,rfl,B,k⟩;obtain rfl:n6=0:=B.1;have h4:=hid (HO.o.below k);have Y:=hid (Below.on I.o k)
      have k8:H<=K:=by
       rcases HO.o.2.2 with ⟨hv,h0⟩ | ⟨_,_,_,hv,_,_,h9,_⟩
       ·omega
       ·simp only[Value.slice.injEq] at hv;omega
      clear z B k;go_wp2_with (refine app_nothing _ rfl _ _ rfl S H K k8 rfl p6 c6 rfl ?_);go_roundw
      case rel=>exact⟨i+2,H,K,_,_,by omega,by omega,by omega,by trivial,by go_num,F,h4,Y⟩
      case measure=>simp[intOf];omega
     ·rw[if_neg D] at a
      cases he:escI f i with
      | none=>
        have E:escS f i=([],0):=by rw[escS,if_neg D,he]
        rw[he] at a
        have k7:Hid (txtI f q (c+1) []=none):=by show _=_;rw[<-C.o];exact a
        rw[E] at z;clear a M A t C E D he;go_wp2_with fail;refine z.mono ?_;rintro e w5 ⟨p6,n6,c6,rfl,B,k⟩;have HF:Hid (TxtOut w c (txtI f q (c+1) []) (.returned (.tuple #[.slice none 0 0,.int .i64 0])) w5):=txtOut_of (r:=none) ⟨rfl,Below.on I.o k⟩ k7.o;clear z B k;go_wp2_with fail
        go_ret2
        exact HF.o
      | some r=>
        obtain⟨v,j⟩:=r;have x2:=escI_rng he;have e5:=escI_byte he
        have E:escS f i=([v],j-(i+1)):=by rw[escS,if_neg D,he]
        rw[he] at a;have V:v % 256=v:=Int.emod_eq_of_lt e5.1 e5.2
        have F:Hid (txtI f q j (L ++ [v])=txtI f q (c+1) []):=by show _=_;rw[<-C.o,a];simp only[V]
        rw[E] at z
        obtain⟨d,ed⟩:∃ d,d=j-(i+1):=⟨_,rfl⟩
        rw[<-ed] at z
        have x7:1<=d:=by omega
        have x6:d<=11000:=by have:=HN.o;omega
        have Z:j=i+(d+1):=by omega
        have w3:((d:Int) == 0)=false:=by simp;omega
        have x8:j<=30000:=by have:=HN.o;omega
        have k5:=hid Z;clear a M A t C E D he x2 V ed Z;go_wp2_with fail;refine z.mono ?_;rintro e w5 ⟨p6,n6,c6,rfl,B,k⟩;have e8:n6=1:=B.1;subst e8
        rcases B.form with ⟨_,h9,_⟩ | ⟨g6,rfl,w2,w4⟩
        ·omega
        have Q:∀ j' u,([v].map (Value.int .u8))[j']?=some u->w5.cell? ((⟨g6,0,none⟩:Addr).add j')=some u:=B.2.cells (g:=g6) rfl;have h4:=hid (HO.o.below k);have Y:=hid (Below.on I.o k);have x1:Hid _:=Q;have e2:w.heap.size<=w5.heap.size:=Y.o.size;clear z B k Q;go_wp2_with (refine app_bytes _ rfl _ _ rfl w.heap.size S H K L [v] 1 rfl rfl h4.o ⟨g6,0,none⟩ c6 rfl x1.o (by omega) (by omega) e2 ?_;intro g7 n7 h8 w7 U e1 e6);have k6:=hid U;have k4:=hid (Y.o.trans e1);have x4:=e6.o;clear U e1 e6;go_wp2_with fail;have Z:=k5.o;go_roundw
        case rel=>exact⟨j,n7,h8,_,_,by omega,by omega,by omega,by trivial,by rw[Z];go_num,F,k6,k4⟩
        case measure=>simp[intOf];omega
    ·rw[if_neg J] at a
     have x5:(x == 92)=false:=by simpa using J
     have G:=raw_any x wr hr.1 hr.2
     by_cases hw:32<=x/\x≠127
     ·rw[if_pos hw] at a
      have N:rawB x=true:=by simp only[rawB,hw,and_self,decide_true,ne_eq,not_false_eq_true]
      rw[N] at G
      have F:Hid (txtI f q (i+1) (L ++ [x])=txtI f q (c+1) []):=by show _=_;rw[<-C.o,a]
      clear a M A t C hw N P J;go_wp2_with (first | (go_at_call 138;refine G.mono ?_;rintro e w' ⟨rfl,rfl⟩) | (refine app_bytes _ rfl _ _ rfl w.heap.size S H K L [x] 1 rfl rfl (HO.o.alloc _) ⟨_,0,none⟩ 1 rfl (one_news _ x) (by omega) (by omega) (by simp;omega) ?_;intro g6 n6 X w6 l k R));have h6:=hid l;have h5:Hid (Below w.heap.size w w6):=(I.o.alloc k1 _).trans k;have e3:=R.o;clear l k R;go_wp2_with fail;go_roundw
      case rel=>exact⟨i+1,n6,X,_,_,by omega,by omega,by omega,by trivial,by go_num,F,h6,h5⟩
      case measure=>simp[intOf];omega
     ·rw[if_neg hw] at a
      have N:rawB x=false:=by simp only[rawB,decide_eq_false_iff_not];exact hw
      rw[N] at G;have HF:Hid (TxtOut w c (txtI f q (c+1) []) (.returned (.tuple #[.slice none 0 0,.int .i64 0])) wr):=txtOut_of (r:=none) ⟨rfl,I.o⟩ (by rw[<-C.o];exact a);clear a M A t C hw N P J;go_wp2_with (go_at_call 138;refine G.mono ?_;rintro e w' ⟨rfl,rfl⟩)
      go_ret2
      exact HF.o
  ·have h2:byteI f i = -1:=byteI_ge (by have:=HN.o;omega)
   rw[h2,if_neg (fun h=>e7.o.1 h.symm),if_neg (by decide),if_neg (by decide)] at a;have HF:Hid (TxtOut w c (txtI f q (c+1) []) (.returned (.tuple #[.slice none 0 0,.int .i64 0])) wr):=txtOut_of (r:=none) ⟨rfl,I.o⟩ (by rw[<-C.o];exact a);clear a h2 M A t C;go_wp2_with fail
   go_ret2
   exact HF.o
def numS (r:TokR):Int×Nat×Int:=
 match r with
 | .ok (_,len,_,v)=>(v,len,0)
 | .error c=>(0,0,c)
def NumOut (w:World)(r:Int×Nat×Int)(e:Ending)(w':World):Prop:=e = .returned (.tuple #[.int .i64 r.1,.int .i64 (r.2.1:Nat),.int .i64 r.2.2])/\Below w.heap.size w w'
def chrS (xs:List Int)(pos:Nat):Int×Nat×Int:=
 match chrI xs (pos+2) with
 | none=>(0,0,2)
 | some (v,q)=>if isOfB (byteI xs q) 7=true then(0,0,2) else(v,q-pos,0)
theorem chrS_none {b:List Int}{a:Nat}(h:chrI b (a+2)=none):chrS b a=(0,0,2):=by rw[chrS,h]
theorem chrS_some {b:List Int}{a q:Nat}{v:Int}(h:chrI b (a+2)=some (v,q)):chrS b a=if isOfB (byteI b q) 7=true then(0,0,2) else(v,q-a,0):=by rw[chrS,h]
theorem of7 {a:List Int}(b:Bytes a){q:Nat}(h:q<a.length):isOfB (byteI a q) 7=alnumB (a.getD q 0):=by
 have:=b.at q;rw[byteI_lt h];exact(isOf_at this.1 this.2).2.1
theorem of7_end {a:List Int}{q:Nat}(h:a.length<=q):isOfB (byteI a q) 7=false:=by rw[byteI_ge h];exact isOf_lo (by decide)
theorem charS_any (b h5 a:Nat)(f:List Int)(w:World)(hb:Bytes f)(hn:f.length<=10000)(hp:a<f.length)(hc:∀ m,m<f.length->w.cell? ⟨b,m,none⟩=some (.int .u8 (f.getD m 0))) :
  Calls Tryz.prog 135 #[.slice (some ⟨b,0,none⟩) f.length h5,.int .i64 a] w (NumOut w (chrS f a)):=by
 obtain⟨n,en⟩:∃ n,n=f.length:=⟨_,rfl⟩
 rw[<-en] at hn hp ⊢;have U:=hid en
 have L:Hid (∀ (W:World),Below w.heap.size w W->∀ m,m<n->W.cell? ⟨b,m,none⟩=some (.int .u8 (f.getD m 0))):=fun W hW m hm=>(hW.cell (World.block_lt_of_cell? _ _ (hc m (by omega)))).trans (hc m (by omega))
 have A:Calls Tryz.prog 137 #[.slice (some ⟨b,0,none⟩) n h5,.int .i64 ((a:Int)+3)] w (EscOut w (escS f (a+2))):=by
  have:=escapeS_any b h5 (a+2) f w hb (by omega) (by omega) hc;rw[<-en,show((a+2+1:Nat):Int)=(a:Int)+3 by omega] at this;exact this
 have p:=hid hb;have i:chrI f (a+2)=chrF (byteI f (a+2)) (byteI f (a+3)) f (a+2):=rfl
 have l:Hid (chrI f (a+2)=none->∀ W,Below w.heap.size w W->NumOut w (chrS f a) (.returned (.tuple #[.int .i64 0,.int .i64 0,.int .i64 2])) W):=fun h W hW=>⟨by rw[chrS_none h];rfl,hW⟩
 have g:Hid (∀ (v:Int) (q:Nat),chrI f (a+2)=some (v,q)->isOfB (byteI f q) 7=true->∀ W,Below w.heap.size w W->NumOut w (chrS f a) (.returned (.tuple #[.int .i64 0,.int .i64 0,.int .i64 2])) W):=fun v q h K W hW=>⟨by rw[chrS_some h,if_pos K];rfl,hW⟩
 have t:Hid (∀ (v:Int) (k:Nat),chrI f (a+2)=some (v,a+k)->isOfB (byteI f (a+k)) 7=false->∀ W,Below w.heap.size w W->NumOut w (chrS f a) (.returned (.tuple #[.int .i64 v,.int .i64 (k:Nat),.int .i64 0])) W):=fun v k h K W hW=>⟨by rw[chrS_some h,if_neg (by rw[K];simp),show a+k-a=k by omega],hW⟩
 clear hb hc en
 by_cases h2:a+2<n
 ·have hx:=L.o w (Below.refl _ _) (a+2) h2
  have h1:=p.o.at (a+2);have Z:byteI f (a+2)=f.getD (a+2) 0:=byteI_lt (by rw[<-U.o];exact h2)
  obtain⟨x,ex⟩:∃ x,x=f.getD (a+2) 0:=⟨_,rfl⟩
  rw[<-ex] at hx h1 Z;rw[Z] at i;clear ex Z
  have e1:(a:Int)+2<n:=by omega
  have s:=hid l.o
  by_cases P:x=39
  ·subst P
   by_cases h3:a+3<n
   ·have hy:=L.o w (Below.refl _ _) (a+3) h3
    have h4:byteI f (a+3)=f.getD (a+3) 0:=byteI_lt (by rw[<-U.o];exact h3)
    obtain⟨y,ey⟩:∃ y,y=f.getD (a+3) 0:=⟨_,rfl⟩
    rw[<-ey] at hy h4;rw[h4] at i;clear ey h4
    have V:(a:Int)+3<n:=by omega
    by_cases R:y=39
    ·subst R
     have G:Hid (chrI f (a+2)=some (39,a+4)):=by show _=_;rw[i];simp[chrF]
     clear i s A
     by_cases D:a+4<n
     ·have hz:=L.o w (Below.refl _ _) (a+4) D
      have E:=p.o.at (a+4);have K:=of7 p.o (q:=a+4) (by rw[<-U.o];exact D)
      obtain⟨z,Y⟩:∃ z,z=f.getD (a+4) 0:=⟨_,rfl⟩
      rw[<-Y] at hz E K
      have F:(a:Int)+4<n:=by omega
      have I:=fun W=>alnum_any z W E.1 E.2
      clear Y
      cases u:alnumB z
      rotate_right
      case' _=>
       have B:Hid (∀ W,Below w.heap.size w W->NumOut w (chrS f a) (.returned (.tuple #[.int .i64 0,.int .i64 0,.int .i64 2])) W):=g.o 39 (a+4) G.o (by rw[K];exact u)
      rotate_right
      case' _=>
       have B:Hid (∀ W,Below w.heap.size w W->NumOut w (chrS f a) (.returned (.tuple #[.int .i64 39,.int .i64 ((4:Nat):Int),.int .i64 0])) W):=t.o 39 (4) G.o (by rw[K];exact u)
      all_goals
       rw[u] at I;clear K L p l g t u
       go_enter Tryz.func135,Tryz.ntmps135
       go_wp2_with (go_at_call 88;refine(I _).mono ?_;rintro e w' ⟨rfl,rfl⟩)
       go_ret3
       exact B.o _ (Below.refl _ _)
     ·have F:¬ (a:Int)+4<n:=by omega
      have B:Hid (∀ W,Below w.heap.size w W->NumOut w (chrS f a) (.returned (.tuple #[.int .i64 39,.int .i64 ((4:Nat):Int),.int .i64 0])) W):=t.o 39 (4) G.o (of7_end (by rw[<-U.o];omega));clear L p l g t
      go_enter Tryz.func135,Tryz.ntmps135
      go_wp2_with fail
      go_ret3
      exact B.o _ (Below.refl _ _)
    ·have k6:(y == 39)=false:=by simpa using R
     have B:Hid (∀ W,Below w.heap.size w W->NumOut w (chrS f a) (.returned (.tuple #[.int .i64 0,.int .i64 0,.int .i64 2])) W):=s.o (by rw[i];simp[chrF,R]);clear i s A L p l g t R
     go_enter Tryz.func135,Tryz.ntmps135
     go_wp2_with fail
     go_ret3
     exact B.o _ (Below.refl _ _)
   ·have V:¬ (a:Int)+3<n:=by omega
    have B:Hid (∀ W,Below w.heap.size w W->NumOut w (chrS f a) (.returned (.tuple #[.int .i64 0,.int .i64 0,.int .i64 2])) W):=s.o (by rw[i,byteI_ge (by rw[<-U.o];omega)];simp[chrF]);clear i s A L p l g t
    go_enter Tryz.func135,Tryz.ntmps135
    go_wp2_with fail
    go_ret3
    exact B.o _ (Below.refl _ _)
  ·have k2:(x == 39)=false:=by simpa using P
   have e8:(x != 39)=true:=by simpa using P
   have e4:Hid (∀ c:Bool,c=decide ((a:Int)+3<n)->True):=fun _ _=>trivial
   by_cases S:x=92
   ·subst S
    have C:chrI f (a+2)=escI f (a+2):=by rw[i];simp[chrF]
    clear i
    by_cases V:(a:Int)+3<n
    rotate_right
    case' _=>
     skip
    rotate_right
    case' _=>
     skip
    all_goals
     by_cases Q:byteI f (a+3)=10
     ·have O:escS f (a+2)=([],1):=by rw[escS,if_pos Q]
      have B:Hid (∀ W,Below w.heap.size w W->NumOut w (chrS f a) (.returned (.tuple #[.int .i64 0,.int .i64 0,.int .i64 2])) W):=s.o (by rw[C,escI,Q];simp[escF]);rw[O] at A;clear C s L p l g t O Q
      go_enter Tryz.func135,Tryz.ntmps135
      go_wp2_with fail;refine A.mono ?_;rintro e w5 ⟨p6,n6,c6,rfl,H,M⟩;obtain rfl:n6=0:=H.1;have N:=hid M;clear A H M;go_wp2_with fail
      go_ret3
      exact B.o _ N.o
     ·cases X:escI f (a+2) with
      | none=>
        have O:escS f (a+2)=([],0):=by rw[escS,if_neg Q,X]
        have B:Hid (∀ W,Below w.heap.size w W->NumOut w (chrS f a) (.returned (.tuple #[.int .i64 0,.int .i64 0,.int .i64 2])) W):=s.o (by rw[C,X]);rw[O] at A;clear C s L p l g t O Q X
        go_enter Tryz.func135,Tryz.ntmps135
        go_wp2_with fail;refine A.mono ?_;rintro e w5 ⟨p6,n6,c6,rfl,H,M⟩;obtain rfl:n6=0:=H.1;have N:=hid M;clear A H M;go_wp2_with fail
        go_ret3
        exact B.o _ N.o
      | some r=>
        obtain⟨v,j⟩:=r;have e2:=escI_rng X;have k1:=escI_byte X
        have O:escS f (a+2)=([v],j-(a+3)):=by rw[escS,if_neg Q,X]
        obtain⟨d,ed⟩:∃ d,d=j-(a+3):=⟨_,rfl⟩
        rw[O,<-ed] at A
        have G:Hid (chrI f (a+2)=some (v,a+(3+d))):=by show _=_;rw[C,X,show a+(3+d)=j by omega]
        have e9:1<=d:=by omega
        have e7:d<=11000:=by have:=U.o;omega
        have k4:¬ (3+(d:Int)=0):=by omega
        have e5:(3+(d:Int) == 0)=false:=by simp;omega
        clear C s O Q X e2 ed
        go_enter Tryz.func135,Tryz.ntmps135
        go_wp2_with fail;refine A.mono ?_;rintro e w5 ⟨p6,n6,c6,rfl,H,M⟩;have h8:n6=1:=H.1;subst h8
        rcases H.form with ⟨_,h9,_⟩ | ⟨g6,rfl,k3,k5⟩
        ·omega
        have h6:=H.row.2 0 (by simp);have N:=hid M;have e6:w5.cell? ⟨g6,0,none⟩=some (.int .u8 v):=h6;clear A H M h6
        by_cases D:a+(3+d)<n
        ·have hz:=L.o w5 N.o (a+(3+d)) D
         have E:=p.o.at (a+(3+d));have K:=of7 p.o (q:=a+(3+d)) (by rw[<-U.o];exact D)
         obtain⟨z,Y⟩:∃ z,z=f.getD (a+(3+d)) 0:=⟨_,rfl⟩
         rw[<-Y] at hz E K
         have F:(a:Int)+(3+d)<n:=by omega
         have I:=fun W=>alnum_any z W E.1 E.2
         clear Y
         cases u:alnumB z with
         | true=>
           have B:Hid (∀ W,Below w.heap.size w W->NumOut w (chrS f a) (.returned (.tuple #[.int .i64 0,.int .i64 0,.int .i64 2])) W):=g.o v (a+(3+d)) G.o (by rw[K];exact u);rw[u] at I;clear K L p l g t u;go_wp2_with (go_at_call 88;refine(I _).mono ?_;rintro e w' ⟨rfl,rfl⟩)
           go_ret3
           exact B.o _ N.o
         | false=>
           have B:Hid (∀ W,Below w.heap.size w W->NumOut w (chrS f a) (.returned (.tuple #[.int .i64 v,.int .i64 (((3+d):Nat):Int),.int .i64 0])) W):=t.o v ((3+d)) G.o (by rw[K];exact u);rw[u] at I;clear K L p l g t u;go_wp2_with (go_at_call 88;refine(I _).mono ?_;rintro e w' ⟨rfl,rfl⟩)
           go_ret3
           exact B.o _ N.o
        ·have F:¬ (a:Int)+(3+d)<n:=by omega
         have B:Hid (∀ W,Below w.heap.size w W->NumOut w (chrS f a) (.returned (.tuple #[.int .i64 v,.int .i64 (((3+d):Nat):Int),.int .i64 0])) W):=t.o v ((3+d)) G.o (of7_end (by rw[<-U.o];omega));clear L p l g t;go_wp2_with fail
         go_ret3
         exact B.o _ N.o
   ·have e3:(x == 92)=false:=by simpa using S
    have J:=fun W=>raw_any x W h1.1 h1.2
    by_cases hw:32<=x/\x≠127
    ·have T:rawB x=true:=by simp only[rawB,hw,and_self,decide_true,ne_eq,not_false_eq_true]
     rw[T] at J
     have G:Hid (chrI f (a+2)=some (x,a+3)):=by show _=_;rw[i];simp[chrF,P,S,hw]
     clear i s A hw T P S
     by_cases D:a+3<n
     ·have hz:=L.o w (Below.refl _ _) (a+3) D
      have E:=p.o.at (a+3);have K:=of7 p.o (q:=a+3) (by rw[<-U.o];exact D)
      obtain⟨z,Y⟩:∃ z,z=f.getD (a+3) 0:=⟨_,rfl⟩
      rw[<-Y] at hz E K
      have F:(a:Int)+3<n:=by omega
      have I:=fun W=>alnum_any z W E.1 E.2
      clear Y
      cases u:alnumB z
      rotate_right
      case' _=>
       have B:Hid (∀ W,Below w.heap.size w W->NumOut w (chrS f a) (.returned (.tuple #[.int .i64 0,.int .i64 0,.int .i64 2])) W):=g.o x (a+3) G.o (by rw[K];exact u)
      rotate_right
      case' _=>
       have B:Hid (∀ W,Below w.heap.size w W->NumOut w (chrS f a) (.returned (.tuple #[.int .i64 x,.int .i64 ((3:Nat):Int),.int .i64 0])) W):=t.o x (3) G.o (by rw[K];exact u)
      all_goals
       rw[u] at I;clear K L p l g t u
       go_enter Tryz.func135,Tryz.ntmps135
       go_wp2_with (first | (go_at_call 88;refine(I _).mono ?_;rintro e w' ⟨rfl,rfl⟩) | (go_at_call 138;refine(J _).mono ?_;rintro e w' ⟨rfl,rfl⟩))
       go_ret3
       exact B.o _ (Below.refl _ _)
     ·have F:¬ (a:Int)+3<n:=by omega
      have B:Hid (∀ W,Below w.heap.size w W->NumOut w (chrS f a) (.returned (.tuple #[.int .i64 x,.int .i64 ((3:Nat):Int),.int .i64 0])) W):=t.o x (3) G.o (of7_end (by rw[<-U.o];omega));clear L p l g t
      go_enter Tryz.func135,Tryz.ntmps135
      go_wp2_with (first | fail | (go_at_call 138;refine(J _).mono ?_;rintro e w' ⟨rfl,rfl⟩))
      go_ret3
      exact B.o _ (Below.refl _ _)
    ·have T:rawB x=false:=by simp only[rawB,decide_eq_false_iff_not];exact hw
     rw[T] at J;have B:Hid (∀ W,Below w.heap.size w W->NumOut w (chrS f a) (.returned (.tuple #[.int .i64 0,.int .i64 0,.int .i64 2])) W):=s.o (by rw[i];simp only[chrF,P,S,false_and,if_false,hw,not_false_eq_true,or_true,if_true]);clear i s A L p l g t hw T P S
     by_cases V:(a:Int)+3<n
     ·go_enter Tryz.func135,Tryz.ntmps135
      go_wp2_with (go_at_call 138;refine(J _).mono ?_;rintro e w' ⟨rfl,rfl⟩)
      go_ret3
      exact B.o _ (Below.refl _ _)
     ·go_enter Tryz.func135,Tryz.ntmps135
      go_wp2_with (go_at_call 138;refine(J _).mono ?_;rintro e w' ⟨rfl,rfl⟩)
      go_ret3
      exact B.o _ (Below.refl _ _)
 ·have e1:¬ (a:Int)+2<n:=by omega
  have V:¬ (a:Int)+3<n:=by omega
  have B:Hid (∀ W,Below w.heap.size w W->NumOut w (chrS f a) (.returned (.tuple #[.int .i64 0,.int .i64 0,.int .i64 2])) W):=l.o (by rw[i,byteI_ge (by rw[<-U.o];omega)];simp[chrF]);clear i A L p l g t
  go_enter Tryz.func135,Tryz.ntmps135
  go_wp2_with fail
  go_ret3
  exact B.o _ (Below.refl _ _)
def capV (big:Bool)(v:Int):Int:=if big then 1000000000000001 else v
theorem capV_step {b:Bool}{v d a:Int}(f:0<=v)(l:v<=1000000000000000)(i:b=true->v=1000000000000000)(g:0<=d)(n:d<a)(e:2<=a)(c:a<=16) :
  min (capV b v * a+d) 1000000000000001=if 1000000000000000<v * a+d then capV true 1000000000000000 else capV false (v * a+d):=by
 have k:v * a<=v * 16:=Int.mul_le_mul_of_nonneg_left c f;have j:v * 2<=v * a:=Int.mul_le_mul_of_nonneg_left e f
 cases b with
 | true=>
   have:=i rfl;subst this;have m:(1000000000000001:Int) * 2<=1000000000000001 * a:=Int.mul_le_mul_of_nonneg_left e (by decide);rw[if_pos (by omega)];simp only[capV,if_true]
   omega
 | false=>
   by_cases h:1000000000000000<v * a+d
   ·rw[if_pos h];simp only[capV,if_true,Bool.false_eq_true,if_false];omega
   ·rw[if_neg h];simp only[capV,Bool.false_eq_true,if_false];omega
theorem big_stays {v d a:Int}(h:v=1000000000000000)(c:0<=d)(b:2<=a):1000000000000000<v * a+d:=by
 subst h;have e:(1000000000000000:Int) * 2<=1000000000000000 * a:=Int.mul_le_mul_of_nonneg_left b (by decide)
 omega
theorem numS_of {b:List Int}{a q:Nat}{V:Int}(h:numI b a=some (V,q)):numS (numR b a)=if isOfB (byteI b q) 7=true then(0,0,2) else if 1000000000000000<V then(0,0,3) else(V,q-a,0):=by
 rw[numR,h];simp only
 split
 ·rfl
 ·split <;> rfl
theorem numS_chr {c:List Int}{a:Nat}(g:Bytes c)(e:byteI c a=48)(f:byteI c (a+1)=39):numS (numR c a)=chrS c a:=by
 have h:numI c a=chrI c (a+2):=by rw[numI,numF,e,f];simp
 cases d:chrI c (a+2) with
 | none=>rw[chrS_none d,numR,h,d];rfl
 | some r=>
   obtain⟨v,q⟩:=r;rw[chrS_some d,numS_of (h.trans d)]
   have i:¬ 1000000000000000<v:=by
    have b:=d;rw[chrI,chrF] at b;have j:=byteI_rng g (a+2)
    split at b
    ·cases b;omega
    ·split at b
     ·have:=escI_byte b;omega
     ·split at b
      ·cases b
      ·cases b;omega
   rw[if_neg i]
theorem numberS_any (b x2 a:Nat)(c:List Int)(w:World)(hb:Bytes c)(hn:c.length<=10000)(hp:a<c.length)(hc:∀ m,m<c.length->w.cell? ⟨b,m,none⟩=some (.int .u8 (c.getD m 0))) :
  Calls Tryz.prog 87 #[.slice (some ⟨b,0,none⟩) c.length x2,.int .i64 a] w (NumOut w (numS (numR c a))):=by
 have e8:=charS_any b x2 a c w hb hn hp hc
 obtain⟨n,en⟩:∃ n,n=c.length:=⟨_,rfl⟩
 rw[<-en] at hn hp e8 ⊢;have HN:=hid en
 have K:Hid (∀ m,m<n->w.cell? ⟨b,m,none⟩=some (.int .u8 (c.getD m 0))):=by rw[en];exact hc
 have g:=hid hb
 have t:Hid (∀ (V:Int) (q:Nat),numI c a=some (V,q)->isOfB (byteI c q) 7=true->NumOut w (numS (numR c a)) (.returned (.tuple #[.int .i64 0,.int .i64 0,.int .i64 2])) w):=fun V q h u=>⟨by rw[numS_of h,if_pos u];rfl,Below.refl _ _⟩
 have p:Hid (∀ (V:Int) (q:Nat),numI c a=some (V,q)->isOfB (byteI c q) 7=false->1000000000000000<V->NumOut w (numS (numR c a)) (.returned (.tuple #[.int .i64 0,.int .i64 0,.int .i64 3])) w):=fun V q h u hV=>⟨by rw[numS_of h,if_neg (by rw[u];simp),if_pos hV];rfl,Below.refl _ _⟩
 have l:Hid (∀ (V:Int) (k:Nat),numI c a=some (V,a+k)->isOfB (byteI c (a+k)) 7=false->V<=1000000000000000->NumOut w (numS (numR c a)) (.returned (.tuple #[.int .i64 V,.int .i64 (k:Nat),.int .i64 0])) w):=fun V k h u hV=>⟨by rw[numS_of h,if_neg (by rw[u];simp),if_neg (by omega),show a+k-a=k by omega],Below.refl _ _⟩
 have hx:=hc a (by omega);have x7:=hb.at a;have k6:byteI c a=c.getD a 0:=byteI_lt (by omega);have r:numI c a=numF (byteI c a) (byteI c (a+1)) (byteI c (a+2)) c a:=rfl
 obtain⟨x,ex⟩:∃ x,x=c.getD a 0:=⟨_,rfl⟩
 rw[<-ex] at hx x7 k6;rw[k6] at r;have x6:=hid k6;clear hb hc en ex k6
 by_cases k5:x=48
 subst k5
 by_cases h1:a+1<n
 have hm:=K.o (a+1) h1;have e9:byteI c (a+1)=c.getD (a+1) 0:=byteI_lt (by rw[<-HN.o];exact h1)
 obtain⟨m,em⟩:∃ m,m=c.getD (a+1) 0:=⟨_,rfl⟩
 rw[<-em] at hm e9;rw[e9] at r
 have x5:(a:Int)+1<n:=by omega
 clear em
 by_cases k4:m=39
 subst k4;have HE:=hid (numS_chr g.o x6.o e9)
 have HF:Hid (∀ e W,NumOut w (chrS c a) e W->NumOut w (numS (numR c a)) e W):=fun e W h=>by rw[HE.o];exact h
 obtain⟨c3,x1⟩:∃ c3,c3=chrS c a:=⟨_,rfl⟩
 rw[<-x1] at e8 HF;obtain⟨c1,c2,c4⟩:=c3;clear HE r e9 K g t p l x1
 go_enter Tryz.func87,Tryz.ntmps87
 go_wp2_with fail;refine e8.mono ?_;rintro e w5 ⟨rfl,k9⟩;have w1:Hid _:=HF.o _ w5 ⟨rfl,k9⟩;clear HF k9;go_wp2_with fail
 go_ret3
 exact w1.o
 have x9:(m == 39)=false:=by simpa using k4
 clear e8 e9
 by_cases h8:m=120
 subst h8
 have J:baseI 120=16:=by decide
 by_cases h2:a+2<n
 have k2:=K.o (a+2) h2;have S:=g.o.at (a+2);have h4:byteI c (a+2)=c.getD (a+2) 0:=byteI_lt (by rw[<-HN.o];exact h2)
 obtain⟨zz,h9⟩:∃ zz,zz=c.getD (a+2) 0:=⟨_,rfl⟩
 rw[<-h9] at k2 S h4;rw[h4] at r
 have e1:=fun W=>hex_any zz W S.1 S.2
 have k1:=hexS_rng S.1 S.2
 obtain⟨hz,T⟩:∃ hz,hz=hexS zz:=⟨_,rfl⟩
 simp only[<-T] at e1 k1
 have k3:(a:Int)+2<n:=by omega
 by_cases e6:hz<16
 have M:Hid (numI c a=some (digsB c 16 c.length (a+2) (capV false 0))):=by
  show _=_
  rw[r,numF,if_neg (by decide),if_neg (by decide),J,if_pos ((hex_dig zz (by decide)).1 (by rw[<-T];exact e6))]
  rfl
 clear r J h4 h9 T
 ·skip
  go_enter Tryz.func87,Tryz.ntmps87
  go_wp2_with (go_at_call 136;refine(e1 _).mono ?_;rintro e L ⟨rfl,e7⟩;obtain rfl:=e7.symm)
  go_loopw [8,11,12] (fun nv vv bv wr=>∃ (k:Nat) (v:Int) (d:Bool),2<=k/\a+k<=n+2/\0<=v/\v<=1000000000000000/\nv = .int .i64 k/\vv = .int .i64 v/\bv = .bool d/\Hid (wr=w/\(d=true->v=1000000000000000))/\Hid (numI c a=some (digsB c 16 c.length (a+k) (capV d v)))) (fun nv _ _ _=>n+3-(intOf nv).toNat)
  case atStart=>exact⟨2,0,false,by omega,by omega,by omega,by omega,by trivial,by trivial,by trivial,⟨rfl,fun h=>by cases h⟩,M.o⟩
  case round=>
   obtain⟨k,v,d,k8,k7,e4,N,rfl,rfl,rfl,HW,H⟩:=hrel;obtain⟨hw,h5⟩:=HW.o;subst hw;have X:=hid h5;clear HW h5 M
   by_cases Q:a+k<n
   ·have hy:=K.o (a+k) Q
    have A:=g.o.at (a+k);have s:byteI c (a+k)=c.getD (a+k) 0:=byteI_lt (by rw[<-HN.o];exact Q);have u:=of7 g.o (q:=a+k) (by rw[<-HN.o];exact Q)
    obtain⟨y,Z⟩:∃ y,y=c.getD (a+k) 0:=⟨_,rfl⟩
    rw[<-Z] at hy A s u
    have h3:(a:Int)+k<n:=by omega
    have U:=fun W=>hex_any y W A.1 A.2
    have E:=fun W=>alnum_any y W A.1 A.2
    have O:=hexS_rng A.1 A.2
    obtain⟨z,G⟩:∃ z,z=hexS y:=⟨_,rfl⟩
    rw[<-G] at O;simp only[<-G] at U
    by_cases hd:z<16
    ·have Y:digI y<16:=(hex_dig y (by decide)).1 (by rw[<-G];exact hd)
     have F:z=digI y:=by rw[G];exact hex_same (by omega)
     have f:=digs_step c 16 (by decide) (a+k) (capV d v) (by rw[s];exact Y);rw[s,<-F,capV_step e4 N X.o O.1 hd (by decide) (by decide)] at f
     have I:Hid (numI c a=some (digsB c 16 c.length (a+(k+1)) (if 1000000000000000<v * 16+z then capV true 1000000000000000 else capV false (v * 16+z)))):=by show _=_;rw[H.o,f];rfl
     clear f F Y u Z G s H
     by_cases C:1000000000000000<v * 16+z
     ·have P:Hid (numI c a=some (digsB c 16 c.length (a+(k+1)) (capV true 1000000000000000))):=by show _=_;rw[I.o,if_pos C]
      clear I K g t p l;go_wp2_with (go_at_call 136;refine(U _).mono ?_;rintro e L ⟨rfl,rfl⟩);go_roundw
      case rel=>exact⟨k+1,1000000000000000,true,by omega,by omega,by omega,by omega,by go_num,by trivial,by trivial,⟨by trivial,fun _=>rfl⟩,P⟩
      case measure=>simp[intOf];omega
     ·have e2:d=false:=by
       cases e3:d with
       | false=>rfl
       | true=>exact absurd (big_stays (X.o e3) O.1 (by decide)) C
      subst e2
      have P:Hid (numI c a=some (digsB c 16 c.length (a+(k+1)) (capV false (v * 16+z)))):=by show _=_;rw[I.o,if_neg C]
      clear I K g t p l;go_wp2_with (go_at_call 136;refine(U _).mono ?_;rintro e L ⟨rfl,rfl⟩);go_roundw
      case rel=>exact⟨k+1,v * 16+z,false,by omega,by omega,by omega,by omega,by go_num,by trivial,by trivial,⟨by trivial,fun h=>by cases h⟩,P⟩
      case measure=>simp[intOf];omega
    ·have f:=digs_stop c 16 (a+k) (capV d v) (by rw[s];exact fun h=>hd (by rw[G];exact(hex_dig y (by decide)).2 h))
     have D:Hid (numI c a=some (capV d v,a+k)):=by show _=_;rw[H.o,f]
     cases B:alnumB y with
     | true=>
       have HF:=t.o _ _ D.o (by rw[u];exact B);have j:Hid _:=HF;rw[B] at E;clear HF f D u Z G s H K g t p l B;go_wp2_with (first | (go_at_call 136;refine(U _).mono ?_;rintro e L ⟨rfl,rfl⟩) | (go_at_call 88;refine(E _).mono ?_;rintro e L ⟨rfl,rfl⟩))
       go_ret3
       exact j.o
     | false=>
       rw[B] at E u
       cases d with
       | true=>
         have j:Hid _:=p.o _ _ D.o u (by simp[capV]);clear f D u Z G s H K g t p l B;go_wp2_with (first | (go_at_call 136;refine(U _).mono ?_;rintro e L ⟨rfl,rfl⟩) | (go_at_call 88;refine(E _).mono ?_;rintro e L ⟨rfl,rfl⟩))
         go_ret3
         exact j.o
       | false=>
         have j:Hid _:=l.o v k D.o u N;clear f D u Z G s H K g t p l B;go_wp2_with (first | (go_at_call 136;refine(U _).mono ?_;rintro e L ⟨rfl,rfl⟩) | (go_at_call 88;refine(E _).mono ?_;rintro e L ⟨rfl,rfl⟩))
         go_ret3
         exact j.o
   ·have h3:¬ (a:Int)+k<n:=by omega
    have R:byteI c (a+k) = -1:=byteI_ge (by rw[<-HN.o];omega);have f:=digs_stop c 16 (a+k) (capV d v) (by rw[R];decide)
    have D:Hid (numI c a=some (capV d v,a+k)):=by show _=_;rw[H.o,f]
    have u:isOfB (byteI c (a+k)) 7=false:=of7_end (by rw[<-HN.o];omega)
    cases d with
    | true=>
      have j:Hid _:=p.o _ _ D.o u (by simp[capV]);clear f D u R H K g t p l;go_wp2_with fail
      go_ret3
      exact j.o
    | false=>
      have j:Hid _:=l.o v k D.o u N;clear f D u R H K g t p l;go_wp2_with fail
      go_ret3
      exact j.o
 have M:Hid (numI c a=some (digsB c 10 c.length (a+0) (capV false 0))):=by
  show _=_
  rw[r,numF,if_neg (by decide),if_neg (by decide),J,if_neg (fun h=>e6 (by rw[T];exact(hex_dig zz (by decide)).2 h))]
  rfl
 clear r J h4 h9 T
 rotate_left
 have k3:¬ (a:Int)+2<n:=by omega
 have M:Hid (numI c a=some (digsB c 10 c.length (a+0) (capV false 0))):=by
  show _=_
  rw[r,numF,if_neg (by decide),if_neg (by decide),J,byteI_ge (by rw[<-HN.o];omega),if_neg (by decide)]
  rfl
 clear r J
 rotate_left
 have x3:(m == 120)=false:=by simpa using h8
 by_cases h6:m=111
 subst h6
 have J:baseI 111=8:=by decide
 by_cases h2:a+2<n
 have k2:=K.o (a+2) h2;have S:=g.o.at (a+2);have h4:byteI c (a+2)=c.getD (a+2) 0:=byteI_lt (by rw[<-HN.o];exact h2)
 obtain⟨zz,h9⟩:∃ zz,zz=c.getD (a+2) 0:=⟨_,rfl⟩
 rw[<-h9] at k2 S h4;rw[h4] at r
 have e1:=fun W=>hex_any zz W S.1 S.2
 have k1:=hexS_rng S.1 S.2
 obtain⟨hz,T⟩:∃ hz,hz=hexS zz:=⟨_,rfl⟩
 simp only[<-T] at e1 k1
 have k3:(a:Int)+2<n:=by omega
 by_cases e6:hz<8
 have M:Hid (numI c a=some (digsB c 8 c.length (a+2) (capV false 0))):=by
  show _=_
  rw[r,numF,if_neg (by decide),if_neg (by decide),J,if_pos ((hex_dig zz (by decide)).1 (by rw[<-T];exact e6))]
  rfl
 clear r J h4 h9 T
 ·skip
  go_enter Tryz.func87,Tryz.ntmps87
  go_wp2_with (go_at_call 136;refine(e1 _).mono ?_;rintro e L ⟨rfl,e7⟩;obtain rfl:=e7.symm)
  go_loopw [8,11,12] (fun nv vv bv wr=>∃ (k:Nat) (v:Int) (d:Bool),2<=k/\a+k<=n+2/\0<=v/\v<=1000000000000000/\nv = .int .i64 k/\vv = .int .i64 v/\bv = .bool d/\Hid (wr=w/\(d=true->v=1000000000000000))/\Hid (numI c a=some (digsB c 8 c.length (a+k) (capV d v)))) (fun nv _ _ _=>n+3-(intOf nv).toNat)
  case atStart=>exact⟨2,0,false,by omega,by omega,by omega,by omega,by trivial,by trivial,by trivial,⟨rfl,fun h=>by cases h⟩,M.o⟩
  case round=>
   obtain⟨k,v,d,k8,k7,e4,N,rfl,rfl,rfl,HW,H⟩:=hrel;obtain⟨hw,h5⟩:=HW.o;subst hw;have X:=hid h5;clear HW h5 M
   by_cases Q:a+k<n
   ·have hy:=K.o (a+k) Q
    have A:=g.o.at (a+k);have s:byteI c (a+k)=c.getD (a+k) 0:=byteI_lt (by rw[<-HN.o];exact Q);have u:=of7 g.o (q:=a+k) (by rw[<-HN.o];exact Q)
    obtain⟨y,Z⟩:∃ y,y=c.getD (a+k) 0:=⟨_,rfl⟩
    rw[<-Z] at hy A s u
    have h3:(a:Int)+k<n:=by omega
    have U:=fun W=>hex_any y W A.1 A.2
    have E:=fun W=>alnum_any y W A.1 A.2
    have O:=hexS_rng A.1 A.2
    obtain⟨z,G⟩:∃ z,z=hexS y:=⟨_,rfl⟩
    rw[<-G] at O;simp only[<-G] at U
    by_cases hd:z<8
    ·have Y:digI y<8:=(hex_dig y (by decide)).1 (by rw[<-G];exact hd)
     have F:z=digI y:=by rw[G];exact hex_same (by omega)
     have f:=digs_step c 8 (by decide) (a+k) (capV d v) (by rw[s];exact Y);rw[s,<-F,capV_step e4 N X.o O.1 hd (by decide) (by decide)] at f
     have I:Hid (numI c a=some (digsB c 8 c.length (a+(k+1)) (if 1000000000000000<v * 8+z then capV true 1000000000000000 else capV false (v * 8+z)))):=by show _=_;rw[H.o,f];rfl
     clear f F Y u Z G s H
     by_cases C:1000000000000000<v * 8+z
     ·have P:Hid (numI c a=some (digsB c 8 c.length (a+(k+1)) (capV true 1000000000000000))):=by show _=_;rw[I.o,if_pos C]
      clear I K g t p l;go_wp2_with (go_at_call 136;refine(U _).mono ?_;rintro e L ⟨rfl,rfl⟩);go_roundw
      case rel=>exact⟨k+1,1000000000000000,true,by omega,by omega,by omega,by omega,by go_num,by trivial,by trivial,⟨by trivial,fun _=>rfl⟩,P⟩
      case measure=>simp[intOf];omega
     ·have e2:d=false:=by
       cases e3:d with
       | false=>rfl
       | true=>exact absurd (big_stays (X.o e3) O.1 (by decide)) C
      subst e2
      have P:Hid (numI c a=some (digsB c 8 c.length (a+(k+1)) (capV false (v * 8+z)))):=by show _=_;rw[I.o,if_neg C]
      clear I K g t p l;go_wp2_with (go_at_call 136;refine(U _).mono ?_;rintro e L ⟨rfl,rfl⟩);go_roundw
      case rel=>exact⟨k+1,v * 8+z,false,by omega,by omega,by omega,by omega,by go_num,by trivial,by trivial,⟨by trivial,fun h=>by cases h⟩,P⟩
      case measure=>simp[intOf];omega
    ·have f:=digs_stop c 8 (a+k) (capV d v) (by rw[s];exact fun h=>hd (by rw[G];exact(hex_dig y (by decide)).2 h))
     have D:Hid (numI c a=some (capV d v,a+k)):=by show _=_;rw[H.o,f]
     cases B:alnumB y with
     | true=>
       have HF:=t.o _ _ D.o (by rw[u];exact B);have j:Hid _:=HF;rw[B] at E;clear HF f D u Z G s H K g t p l B;go_wp2_with (first | (go_at_call 136;refine(U _).mono ?_;rintro e L ⟨rfl,rfl⟩) | (go_at_call 88;refine(E _).mono ?_;rintro e L ⟨rfl,rfl⟩))
       go_ret3
       exact j.o
     | false=>
       rw[B] at E u
       cases d with
       | true=>
         have j:Hid _:=p.o _ _ D.o u (by simp[capV]);clear f D u Z G s H K g t p l B;go_wp2_with (first | (go_at_call 136;refine(U _).mono ?_;rintro e L ⟨rfl,rfl⟩) | (go_at_call 88;refine(E _).mono ?_;rintro e L ⟨rfl,rfl⟩))
         go_ret3
         exact j.o
       | false=>
         have j:Hid _:=l.o v k D.o u N;clear f D u Z G s H K g t p l B;go_wp2_with (first | (go_at_call 136;refine(U _).mono ?_;rintro e L ⟨rfl,rfl⟩) | (go_at_call 88;refine(E _).mono ?_;rintro e L ⟨rfl,rfl⟩))
         go_ret3
         exact j.o
   ·have h3:¬ (a:Int)+k<n:=by omega
    have R:byteI c (a+k) = -1:=byteI_ge (by rw[<-HN.o];omega);have f:=digs_stop c 8 (a+k) (capV d v) (by rw[R];decide)
    have D:Hid (numI c a=some (capV d v,a+k)):=by show _=_;rw[H.o,f]
    have u:isOfB (byteI c (a+k)) 7=false:=of7_end (by rw[<-HN.o];omega)
    cases d with
    | true=>
      have j:Hid _:=p.o _ _ D.o u (by simp[capV]);clear f D u R H K g t p l;go_wp2_with fail
      go_ret3
      exact j.o
    | false=>
      have j:Hid _:=l.o v k D.o u N;clear f D u R H K g t p l;go_wp2_with fail
      go_ret3
      exact j.o
 have M:Hid (numI c a=some (digsB c 10 c.length (a+0) (capV false 0))):=by
  show _=_
  rw[r,numF,if_neg (by decide),if_neg (by decide),J,if_neg (fun h=>e6 (by rw[T];exact(hex_dig zz (by decide)).2 h))]
  rfl
 clear r J h4 h9 T
 rotate_left
 have k3:¬ (a:Int)+2<n:=by omega
 have M:Hid (numI c a=some (digsB c 10 c.length (a+0) (capV false 0))):=by
  show _=_
  rw[r,numF,if_neg (by decide),if_neg (by decide),J,byteI_ge (by rw[<-HN.o];omega),if_neg (by decide)]
  rfl
 clear r J
 rotate_left
 have x4:(m == 111)=false:=by simpa using h6
 by_cases e5:m=98
 subst e5
 have J:baseI 98=2:=by decide
 by_cases h2:a+2<n
 have k2:=K.o (a+2) h2;have S:=g.o.at (a+2);have h4:byteI c (a+2)=c.getD (a+2) 0:=byteI_lt (by rw[<-HN.o];exact h2)
 obtain⟨zz,h9⟩:∃ zz,zz=c.getD (a+2) 0:=⟨_,rfl⟩
 rw[<-h9] at k2 S h4;rw[h4] at r
 have e1:=fun W=>hex_any zz W S.1 S.2
 have k1:=hexS_rng S.1 S.2
 obtain⟨hz,T⟩:∃ hz,hz=hexS zz:=⟨_,rfl⟩
 simp only[<-T] at e1 k1
 have k3:(a:Int)+2<n:=by omega
 by_cases e6:hz<2
 have M:Hid (numI c a=some (digsB c 2 c.length (a+2) (capV false 0))):=by
  show _=_
  rw[r,numF,if_neg (by decide),if_neg (by decide),J,if_pos ((hex_dig zz (by decide)).1 (by rw[<-T];exact e6))]
  rfl
 clear r J h4 h9 T
 ·skip
  go_enter Tryz.func87,Tryz.ntmps87
  go_wp2_with (go_at_call 136;refine(e1 _).mono ?_;rintro e L ⟨rfl,e7⟩;obtain rfl:=e7.symm)
  go_loopw [8,11,12] (fun nv vv bv wr=>∃ (k:Nat) (v:Int) (d:Bool),2<=k/\a+k<=n+2/\0<=v/\v<=1000000000000000/\nv = .int .i64 k/\vv = .int .i64 v/\bv = .bool d/\Hid (wr=w/\(d=true->v=1000000000000000))/\Hid (numI c a=some (digsB c 2 c.length (a+k) (capV d v)))) (fun nv _ _ _=>n+3-(intOf nv).toNat)
  case atStart=>exact⟨2,0,false,by omega,by omega,by omega,by omega,by trivial,by trivial,by trivial,⟨rfl,fun h=>by cases h⟩,M.o⟩
  case round=>
   obtain⟨k,v,d,k8,k7,e4,N,rfl,rfl,rfl,HW,H⟩:=hrel;obtain⟨hw,h5⟩:=HW.o;subst hw;have X:=hid h5;clear HW h5 M
   by_cases Q:a+k<n
   ·have hy:=K.o (a+k) Q
    have A:=g.o.at (a+k);have s:byteI c (a+k)=c.getD (a+k) 0:=byteI_lt (by rw[<-HN.o];exact Q);have u:=of7 g.o (q:=a+k) (by rw[<-HN.o];exact Q)
    obtain⟨y,Z⟩:∃ y,y=c.getD (a+k) 0:=⟨_,rfl⟩
    rw[<-Z] at hy A s u
    have h3:(a:Int)+k<n:=by omega
    have U:=fun W=>hex_any y W A.1 A.2
    have E:=fun W=>alnum_any y W A.1 A.2
    have O:=hexS_rng A.1 A.2
    obtain⟨z,G⟩:∃ z,z=hexS y:=⟨_,rfl⟩
    rw[<-G] at O;simp only[<-G] at U
    by_cases hd:z<2
    ·have Y:digI y<2:=(hex_dig y (by decide)).1 (by rw[<-G];exact hd)
     have F:z=digI y:=by rw[G];exact hex_same (by omega)
     have f:=digs_step c 2 (by decide) (a+k) (capV d v) (by rw[s];exact Y);rw[s,<-F,capV_step e4 N X.o O.1 hd (by decide) (by decide)] at f
     have I:Hid (numI c a=some (digsB c 2 c.length (a+(k+1)) (if 1000000000000000<v * 2+z then capV true 1000000000000000 else capV false (v * 2+z)))):=by show _=_;rw[H.o,f];rfl
     clear f F Y u Z G s H
     by_cases C:1000000000000000<v * 2+z
     ·have P:Hid (numI c a=some (digsB c 2 c.length (a+(k+1)) (capV true 1000000000000000))):=by show _=_;rw[I.o,if_pos C]
      clear I K g t p l;go_wp2_with (go_at_call 136;refine(U _).mono ?_;rintro e L ⟨rfl,rfl⟩);go_roundw
      case rel=>exact⟨k+1,1000000000000000,true,by omega,by omega,by omega,by omega,by go_num,by trivial,by trivial,⟨by trivial,fun _=>rfl⟩,P⟩
      case measure=>simp[intOf];omega
     ·have e2:d=false:=by
       cases e3:d with
       | false=>rfl
       | true=>exact absurd (big_stays (X.o e3) O.1 (by decide)) C
      subst e2
      have P:Hid (numI c a=some (digsB c 2 c.length (a+(k+1)) (capV false (v * 2+z)))):=by show _=_;rw[I.o,if_neg C]
      clear I K g t p l;go_wp2_with (go_at_call 136;refine(U _).mono ?_;rintro e L ⟨rfl,rfl⟩);go_roundw
      case rel=>exact⟨k+1,v * 2+z,false,by omega,by omega,by omega,by omega,by go_num,by trivial,by trivial,⟨by trivial,fun h=>by cases h⟩,P⟩
      case measure=>simp[intOf];omega
    ·have f:=digs_stop c 2 (a+k) (capV d v) (by rw[s];exact fun h=>hd (by rw[G];exact(hex_dig y (by decide)).2 h))
     have D:Hid (numI c a=some (capV d v,a+k)):=by show _=_;rw[H.o,f]
     cases B:alnumB y with
     | true=>
       have HF:=t.o _ _ D.o (by rw[u];exact B);have j:Hid _:=HF;rw[B] at E;clear HF f D u Z G s H K g t p l B;go_wp2_with (first | (go_at_call 136;refine(U _).mono ?_;rintro e L ⟨rfl,rfl⟩) | (go_at_call 88;refine(E _).mono ?_;rintro e L ⟨rfl,rfl⟩))
       go_ret3
       exact j.o
     | false=>
       rw[B] at E u
       cases d with
       | true=>
         have j:Hid _:=p.o _ _ D.o u (by simp[capV]);clear f D u Z G s H K g t p l B;go_wp2_with (first | (go_at_call 136;refine(U _).mono ?_;rintro e L ⟨rfl,rfl⟩) | (go_at_call 88;refine(E _).mono ?_;rintro e L ⟨rfl,rfl⟩))
         go_ret3
         exact j.o
       | false=>
         have j:Hid _:=l.o v k D.o u N;clear f D u Z G s H K g t p l B;go_wp2_with (first | (go_at_call 136;refine(U _).mono ?_;rintro e L ⟨rfl,rfl⟩) | (go_at_call 88;refine(E _).mono ?_;rintro e L ⟨rfl,rfl⟩))
         go_ret3
         exact j.o
   ·have h3:¬ (a:Int)+k<n:=by omega
    have R:byteI c (a+k) = -1:=byteI_ge (by rw[<-HN.o];omega);have f:=digs_stop c 2 (a+k) (capV d v) (by rw[R];decide)
    have D:Hid (numI c a=some (capV d v,a+k)):=by show _=_;rw[H.o,f]
    have u:isOfB (byteI c (a+k)) 7=false:=of7_end (by rw[<-HN.o];omega)
    cases d with
    | true=>
      have j:Hid _:=p.o _ _ D.o u (by simp[capV]);clear f D u R H K g t p l;go_wp2_with fail
      go_ret3
      exact j.o
    | false=>
      have j:Hid _:=l.o v k D.o u N;clear f D u R H K g t p l;go_wp2_with fail
      go_ret3
      exact j.o
 have M:Hid (numI c a=some (digsB c 10 c.length (a+0) (capV false 0))):=by
  show _=_
  rw[r,numF,if_neg (by decide),if_neg (by decide),J,if_neg (fun h=>e6 (by rw[T];exact(hex_dig zz (by decide)).2 h))]
  rfl
 clear r J h4 h9 T
 rotate_left
 have k3:¬ (a:Int)+2<n:=by omega
 have M:Hid (numI c a=some (digsB c 10 c.length (a+0) (capV false 0))):=by
  show _=_
  rw[r,numF,if_neg (by decide),if_neg (by decide),J,byteI_ge (by rw[<-HN.o];omega),if_neg (by decide)]
  rfl
 clear r J
 rotate_left
 have x8:(m == 98)=false:=by simpa using e5
 have M:Hid (numI c a=some (digsB c 10 c.length (a+0) (capV false 0))):=by
  show _=_
  have J:baseI m=0:=by simp only[baseI,h8,h6,e5,if_false]
  have:=(digI_rng (byteI c (a+2))).1;rw[r,numF,if_neg (by decide),if_neg k4,J,if_neg (by omega)]
  rfl
 clear r h8 h6 e5 k4
 rotate_left
 have x5:¬ (a:Int)+1<n:=by omega
 have M:Hid (numI c a=some (digsB c 10 c.length (a+0) (capV false 0))):=by
  show _=_
  have:=(digI_rng (byteI c (a+2))).1;rw[r,byteI_ge (i:=a+1) (by rw[<-HN.o];omega),numF,if_neg (by decide),if_neg (by decide),show baseI (-1)=0 from by decide,if_neg (by omega)]
  rfl
 clear r e8
 rotate_left
 have w2:(x == 48)=false:=by simpa using k5
 have M:Hid (numI c a=some (digsB c 10 c.length (a+0) (capV false 0))):=by
  show _=_
  rw[r,numF,if_pos k5]
  rfl
 clear r e8 k5
 rotate_left
 all_goals first
  | (have _t:=e1
     go_enter Tryz.func87,Tryz.ntmps87
     go_wp2_with (go_at_call 136;refine(e1 _).mono ?_;rintro e L ⟨rfl,e7⟩;obtain rfl:=e7.symm)
     go_loopw [8,11,12] (fun nv vv bv wr=>∃ (k:Nat) (v:Int) (d:Bool),0<=k/\a+k<=n+2/\0<=v/\v<=1000000000000000/\nv = .int .i64 k/\vv = .int .i64 v/\bv = .bool d/\Hid (wr=w/\(d=true->v=1000000000000000))/\Hid (numI c a=some (digsB c 10 c.length (a+k) (capV d v)))) (fun nv _ _ _=>n+3-(intOf nv).toNat)
     case atStart=>exact⟨0,0,false,by omega,by omega,by omega,by omega,by trivial,by trivial,by trivial,⟨rfl,fun h=>by cases h⟩,M.o⟩
     case round=>
      obtain⟨k,v,d,k8,k7,e4,N,rfl,rfl,rfl,HW,H⟩:=hrel;obtain⟨hw,h5⟩:=HW.o;subst hw;have X:=hid h5;clear HW h5 M
      by_cases Q:a+k<n
      ·have hy:=K.o (a+k) Q
       have A:=g.o.at (a+k);have s:byteI c (a+k)=c.getD (a+k) 0:=byteI_lt (by rw[<-HN.o];exact Q);have u:=of7 g.o (q:=a+k) (by rw[<-HN.o];exact Q)
       obtain⟨y,Z⟩:∃ y,y=c.getD (a+k) 0:=⟨_,rfl⟩
       rw[<-Z] at hy A s u
       have h3:(a:Int)+k<n:=by omega
       have U:=fun W=>hex_any y W A.1 A.2
       have E:=fun W=>alnum_any y W A.1 A.2
       have O:=hexS_rng A.1 A.2
       obtain⟨z,G⟩:∃ z,z=hexS y:=⟨_,rfl⟩
       rw[<-G] at O;simp only[<-G] at U
       by_cases hd:z<10
       ·have Y:digI y<10:=(hex_dig y (by decide)).1 (by rw[<-G];exact hd)
        have F:z=digI y:=by rw[G];exact hex_same (by omega)
        have f:=digs_step c 10 (by decide) (a+k) (capV d v) (by rw[s];exact Y);rw[s,<-F,capV_step e4 N X.o O.1 hd (by decide) (by decide)] at f
        have I:Hid (numI c a=some (digsB c 10 c.length (a+(k+1)) (if 1000000000000000<v * 10+z then capV true 1000000000000000 else capV false (v * 10+z)))):=by show _=_;rw[H.o,f];rfl
        clear f F Y u Z G s H
        by_cases C:1000000000000000<v * 10+z
        ·have P:Hid (numI c a=some (digsB c 10 c.length (a+(k+1)) (capV true 1000000000000000))):=by show _=_;rw[I.o,if_pos C]
         clear I K g t p l;go_wp2_with (go_at_call 136;refine(U _).mono ?_;rintro e L ⟨rfl,rfl⟩);go_roundw
         case rel=>exact⟨k+1,1000000000000000,true,by omega,by omega,by omega,by omega,by go_num,by trivial,by trivial,⟨by trivial,fun _=>rfl⟩,P⟩
         case measure=>simp[intOf];omega
        ·have e2:d=false:=by
          cases e3:d with
          | false=>rfl
          | true=>exact absurd (big_stays (X.o e3) O.1 (by decide)) C
         subst e2
         have P:Hid (numI c a=some (digsB c 10 c.length (a+(k+1)) (capV false (v * 10+z)))):=by show _=_;rw[I.o,if_neg C]
         clear I K g t p l;go_wp2_with (go_at_call 136;refine(U _).mono ?_;rintro e L ⟨rfl,rfl⟩);go_roundw
         case rel=>exact⟨k+1,v * 10+z,false,by omega,by omega,by omega,by omega,by go_num,by trivial,by trivial,⟨by trivial,fun h=>by cases h⟩,P⟩
         case measure=>simp[intOf];omega
       ·have f:=digs_stop c 10 (a+k) (capV d v) (by rw[s];exact fun h=>hd (by rw[G];exact(hex_dig y (by decide)).2 h))
        have D:Hid (numI c a=some (capV d v,a+k)):=by show _=_;rw[H.o,f]
        cases B:alnumB y with
        | true=>
          have HF:=t.o _ _ D.o (by rw[u];exact B);have j:Hid _:=HF;rw[B] at E;clear HF f D u Z G s H K g t p l B;go_wp2_with (first | (go_at_call 136;refine(U _).mono ?_;rintro e L ⟨rfl,rfl⟩) | (go_at_call 88;refine(E _).mono ?_;rintro e L ⟨rfl,rfl⟩))
          go_ret3
          exact j.o
        | false=>
          rw[B] at E u
          cases d with
          | true=>
            have j:Hid _:=p.o _ _ D.o u (by simp[capV]);clear f D u Z G s H K g t p l B;go_wp2_with (first | (go_at_call 136;refine(U _).mono ?_;rintro e L ⟨rfl,rfl⟩) | (go_at_call 88;refine(E _).mono ?_;rintro e L ⟨rfl,rfl⟩))
            go_ret3
            exact j.o
          | false=>
            have j:Hid _:=l.o v k D.o u N;clear f D u Z G s H K g t p l B;go_wp2_with (first | (go_at_call 136;refine(U _).mono ?_;rintro e L ⟨rfl,rfl⟩) | (go_at_call 88;refine(E _).mono ?_;rintro e L ⟨rfl,rfl⟩))
            go_ret3
            exact j.o
      ·have h3:¬ (a:Int)+k<n:=by omega
       have R:byteI c (a+k) = -1:=byteI_ge (by rw[<-HN.o];omega);have f:=digs_stop c 10 (a+k) (capV d v) (by rw[R];decide)
       have D:Hid (numI c a=some (capV d v,a+k)):=by show _=_;rw[H.o,f]
       have u:isOfB (byteI c (a+k)) 7=false:=of7_end (by rw[<-HN.o];omega)
       cases d with
       | true=>
         have j:Hid _:=p.o _ _ D.o u (by simp[capV]);clear f D u R H K g t p l;go_wp2_with fail
         go_ret3
         exact j.o
       | false=>
         have j:Hid _:=l.o v k D.o u N;clear f D u R H K g t p l;go_wp2_with fail
         go_ret3
         exact j.o)
  | (go_enter Tryz.func87,Tryz.ntmps87
     go_wp2_with fail
     go_loopw [8,11,12] (fun nv vv bv wr=>∃ (k:Nat) (v:Int) (d:Bool),0<=k/\a+k<=n+2/\0<=v/\v<=1000000000000000/\nv = .int .i64 k/\vv = .int .i64 v/\bv = .bool d/\Hid (wr=w/\(d=true->v=1000000000000000))/\Hid (numI c a=some (digsB c 10 c.length (a+k) (capV d v)))) (fun nv _ _ _=>n+3-(intOf nv).toNat)
     case atStart=>exact⟨0,0,false,by omega,by omega,by omega,by omega,by trivial,by trivial,by trivial,⟨rfl,fun h=>by cases h⟩,M.o⟩
     case round=>
      obtain⟨k,v,d,k8,k7,e4,N,rfl,rfl,rfl,HW,H⟩:=hrel;obtain⟨hw,h5⟩:=HW.o;subst hw;have X:=hid h5;clear HW h5 M
      by_cases Q:a+k<n
      ·have hy:=K.o (a+k) Q
       have A:=g.o.at (a+k);have s:byteI c (a+k)=c.getD (a+k) 0:=byteI_lt (by rw[<-HN.o];exact Q);have u:=of7 g.o (q:=a+k) (by rw[<-HN.o];exact Q)
       obtain⟨y,Z⟩:∃ y,y=c.getD (a+k) 0:=⟨_,rfl⟩
       rw[<-Z] at hy A s u
       have h3:(a:Int)+k<n:=by omega
       have U:=fun W=>hex_any y W A.1 A.2
       have E:=fun W=>alnum_any y W A.1 A.2
       have O:=hexS_rng A.1 A.2
       obtain⟨z,G⟩:∃ z,z=hexS y:=⟨_,rfl⟩
       rw[<-G] at O;simp only[<-G] at U
       by_cases hd:z<10
       ·have Y:digI y<10:=(hex_dig y (by decide)).1 (by rw[<-G];exact hd)
        have F:z=digI y:=by rw[G];exact hex_same (by omega)
        have f:=digs_step c 10 (by decide) (a+k) (capV d v) (by rw[s];exact Y);rw[s,<-F,capV_step e4 N X.o O.1 hd (by decide) (by decide)] at f
        have I:Hid (numI c a=some (digsB c 10 c.length (a+(k+1)) (if 1000000000000000<v * 10+z then capV true 1000000000000000 else capV false (v * 10+z)))):=by show _=_;rw[H.o,f];rfl
        clear f F Y u Z G s H
        by_cases C:1000000000000000<v * 10+z
        ·have P:Hid (numI c a=some (digsB c 10 c.length (a+(k+1)) (capV true 1000000000000000))):=by show _=_;rw[I.o,if_pos C]
         clear I K g t p l;go_wp2_with (go_at_call 136;refine(U _).mono ?_;rintro e L ⟨rfl,rfl⟩);go_roundw
         case rel=>exact⟨k+1,1000000000000000,true,by omega,by omega,by omega,by omega,by go_num,by trivial,by trivial,⟨by trivial,fun _=>rfl⟩,P⟩
         case measure=>simp[intOf];omega
        ·have e2:d=false:=by
          cases e3:d with
          | false=>rfl
          | true=>exact absurd (big_stays (X.o e3) O.1 (by decide)) C
         subst e2
         have P:Hid (numI c a=some (digsB c 10 c.length (a+(k+1)) (capV false (v * 10+z)))):=by show _=_;rw[I.o,if_neg C]
         clear I K g t p l;go_wp2_with (go_at_call 136;refine(U _).mono ?_;rintro e L ⟨rfl,rfl⟩);go_roundw
         case rel=>exact⟨k+1,v * 10+z,false,by omega,by omega,by omega,by omega,by go_num,by trivial,by trivial,⟨by trivial,fun h=>by cases h⟩,P⟩
         case measure=>simp[intOf];omega
       ·have f:=digs_stop c 10 (a+k) (capV d v) (by rw[s];exact fun h=>hd (by rw[G];exact(hex_dig y (by decide)).2 h))
        have D:Hid (numI c a=some (capV d v,a+k)):=by show _=_;rw[H.o,f]
        cases B:alnumB y with
        | true=>
          have HF:=t.o _ _ D.o (by rw[u];exact B);have j:Hid _:=HF;rw[B] at E;clear HF f D u Z G s H K g t p l B;go_wp2_with (first | (go_at_call 136;refine(U _).mono ?_;rintro e L ⟨rfl,rfl⟩) | (go_at_call 88;refine(E _).mono ?_;rintro e L ⟨rfl,rfl⟩))
          go_ret3
          exact j.o
        | false=>
          rw[B] at E u
          cases d with
          | true=>
            have j:Hid _:=p.o _ _ D.o u (by simp[capV]);clear f D u Z G s H K g t p l B;go_wp2_with (first | (go_at_call 136;refine(U _).mono ?_;rintro e L ⟨rfl,rfl⟩) | (go_at_call 88;refine(E _).mono ?_;rintro e L ⟨rfl,rfl⟩))
            go_ret3
            exact j.o
          | false=>
            have j:Hid _:=l.o v k D.o u N;clear f D u Z G s H K g t p l B;go_wp2_with (first | (go_at_call 136;refine(U _).mono ?_;rintro e L ⟨rfl,rfl⟩) | (go_at_call 88;refine(E _).mono ?_;rintro e L ⟨rfl,rfl⟩))
            go_ret3
            exact j.o
      ·have h3:¬ (a:Int)+k<n:=by omega
       have R:byteI c (a+k) = -1:=byteI_ge (by rw[<-HN.o];omega);have f:=digs_stop c 10 (a+k) (capV d v) (by rw[R];decide)
       have D:Hid (numI c a=some (capV d v,a+k)):=by show _=_;rw[H.o,f]
       have u:isOfB (byteI c (a+k)) 7=false:=of7_end (by rw[<-HN.o];omega)
       cases d with
       | true=>
         have j:Hid _:=p.o _ _ D.o u (by simp[capV]);clear f D u R H K g t p l;go_wp2_with fail
         go_ret3
         exact j.o
       | false=>
         have j:Hid _:=l.o v k D.o u N;clear f D u R H K g t p l;go_wp2_with fail
         go_ret3
         exact j.o)
end Go.Proofs.YtlkhmmoimplokaaGreatDoor
