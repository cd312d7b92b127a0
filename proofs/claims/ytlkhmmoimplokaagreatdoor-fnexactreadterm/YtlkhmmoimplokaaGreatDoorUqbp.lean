/- Texts of LxC, LxD, LxE, LxF, Scan14, Tok1. Own work of the verifier. -/
import Derived.Test.YtlkhmmoimplokaaGreatDoorUqax
import Derived.Test.YtlkhmmoimplokaaGreatDoorUqbo
import Derived.Test.YtlkhmmoimplokaaGreatDoorUqbf
namespace Go.Proofs.YtlkhmmoimplokaaGreatDoor
set_option maxHeartbeats 8000000
set_option linter.unusedVariables false
set_option maxRecDepth 100000
section
open Go Go.RowKit
theorem tokenS_any (b f pos:Nat)(c:Bool)(d:List Int)(w:World)(g:Bytes d)(k:d.length<=10000)(e:d.length<=f)(i:pos<d.length)(j:∀ m,m<d.length->w.cell? ⟨b,m,none⟩=some (.int .u8 (d.getD m 0))) :
  Calls Tryz.prog 52 #[.slice (some ⟨b,0,none⟩) d.length f,.int .i64 pos,.bool c] w (TokSOut w pos (nextR d c pos)):=by
 have F:=g.at pos;obtain⟨q1,G,D,H,I,E,L⟩:=cls_at F.1 F.2
 have B:nextR d c pos=nextF (d.getD pos 0) c d pos:=by rw[nextR,byteI_lt i]
 rw[B]
 unfold nextF
 cases s:smallB (d.getD pos 0) with
 | true=>
   rw[if_pos (by rw[q1];exact s)]
   have J:digitB (d.getD pos 0)=false:=by simp only[smallB,digitB,decide_eq_true_eq,decide_eq_false_iff_not] at s ⊢;omega
   have ha:alnumB (d.getD pos 0)=true:=by simp only[smallB,alnumB,decide_eq_true_eq] at s ⊢;omega
   exact tokSmall_any b f pos c d w g k e i j J ha s
 | false=>
   rw[if_neg (by rw[q1,s];simp)]
   cases t:digitB (d.getD pos 0) with
   | true=>
     rw[if_neg (by rw[D,s,t];simp),if_pos (by rw[G];exact t)];exact tokNum_any b f pos c d w g k e i j t
   | false=>
     cases ha:alnumB (d.getD pos 0) with
     | true=>
       rw[if_pos (by rw[D,s,t,ha];rfl)];exact tokLarge_any b f pos c d w g k e i j t ha s
     | false=>
       rw[if_neg (by rw[D,ha];simp),if_neg (by rw[G,t];simp)]
       by_cases n:d.getD pos 0=46/\endsI (byteI d (pos+1))=true
       ·rw[if_pos n]
        exact tokEnd_any b f pos c d w g k e i j n.1 n.2
       ·rw[if_neg n]
        cases y:symbolB (d.getD pos 0) with
        | true=>
          rw[if_pos (by rw[H];exact y)]
          by_cases o:d.getD pos 0=46
          ·have r:¬ endsI (byteI d (pos+1))=true:=fun h=>n ⟨o,h⟩
           have u:pos+1<d.length:=by
            rcases Nat.lt_or_ge (pos+1) d.length with h | h
            ·exact h
            ·exact absurd (by rw[byteI_ge h];decide) r
           rw[byteI_lt u] at r;have C:=g.at (pos+1)
           have A:blankB (d.getD (pos+1) 0)=false:=by
            cases K:blankB (d.getD (pos+1) 0) with
            | false=>rfl
            | true=>exact absurd ((blank_ends C.1).1 K).1 r
           have z:d.getD (pos+1) 0≠37:=fun h=>r (by rw[h];decide)
           exact tokPoint_any b f pos c d w g k e i j o u A z
          ·exact tokSym_any b f pos c d w g k e i j t ha y o
        | false=>
          rw[if_neg (by rw[H,y];simp)]
          cases v:isOfB (d.getD pos 0) 32 with
          | true=>
            rw[if_pos rfl];refine tokOne_any b f pos c d w g k e i j ?_;rw[v] at I
            simpa [eq_comm (a:=true)] using I
          | false=>
            rw[if_neg (by simp)]
            by_cases q:d.getD pos 0=39
            ·rw[if_pos q];exact tokQuote_any b f pos c d w g k e i j q
            ·rw[if_neg q]
             by_cases p:d.getD pos 0=34
             ·rw[if_pos p];exact tokString_any b f pos c d w g k e i j p
             ·rw[if_neg p]
              by_cases l:d.getD pos 0=40
              ·cases c with
               | true=>rw[if_pos ⟨l,rfl⟩];exact tokCall_any b f pos true d w g k e i j l rfl
               | false=>
                 rw[if_neg (fun h=>by simp at h),if_pos (by rw[E,l];rfl)];exact tokParen_any b f pos false d w g k e i j l rfl
              ·rw[if_neg (fun h=>l h.1)]
               cases x:isOfB (d.getD pos 0) 64 with
               | true=>
                 rw[if_pos rfl];refine tokPunct_any b f pos c d w g k e i j ?_;rw[x] at E;simp only[Bool.or_eq_true,decide_eq_true_eq,eq_comm (a:=true)] at E
                 omega
               | false=>
                 rw[if_neg (by simp)];exact tokBad_any b f pos c d w g k i j t ha y v x q p
theorem runI_pos {k:Int}{xs:List Int}{a:Nat}(b:a<xs.length)(h:isOfB (byteI xs a) k=true):1<=runI k xs a:=by
 rw[byteI_lt b] at h
 unfold runI
 rw[List.drop_eq_getElem_cons b]
 have:xs[a]=xs.getD a 0:=by simp[List.getD,List.getElem?_eq_getElem b]
 unfold runLen
 rw[this,h]
 simp
theorem txt_ge {d:List Int}{q:Int} : ∀ (f i:Nat) (a b:List Int) (j:Nat),txtF d q f i a=some (b,j)->i<j
 | 0,i,a,b,j,h=>by cases h
 | f+1,i,a,b,j,h=>by
   unfold txtF at h
   split at h
   ·split at h
    ·have:=txt_ge f _ _ _ _ h;omega
    ·cases h;omega
   ·split at h
    ·split at h
     ·have:=txt_ge f _ _ _ _ h;omega
     ·split at h
      ·cases h
      ·rename_i v g c
       have e:=escI_rng c;have:=txt_ge f _ _ _ _ h;omega
    ·split at h
     ·have:=txt_ge f _ _ _ _ h;omega
     ·cases h
theorem digs_one {xs:List Int}{a:Int}{b:Nat}(c:a<=16)(h:digI (byteI xs b)<a):b+1<=(digsB xs a xs.length b 0).2:=by
 rw[digs_step xs a c b 0 h];exact digs_ge _ _ _ _ _
theorem next_len {xs:List Int}{e:Bool}{a l:Nat}{k v:Int}{s:List Int}(o:Bytes xs)(i:a<xs.length)(h:nextR xs e a = .ok (k,l,s,v)):1<=l:=by
 have m:=byteI_rng o a
 unfold nextR nextF at h
 split at h
 ·rename_i n
  have:=runI_pos i (isOf7 m.1 m.2 (.inl n))
  unfold runR at h
  split at h
  ·cases h
  ·cases h;omega
 split at h
 ·rename_i n
  have:=runI_pos i (isOf7 m.1 m.2 (.inr n))
  unfold runR at h
  split at h
  ·cases h
  ·cases h;omega
 split at h
 ·rename_i g
  have p:digI (byteI xs a)<10:=by
   rw[byteI_lt i] at g ⊢;have f:=o.at a;rw[(cls_at f.1 f.2).2.1] at g;simp only[digitB,decide_eq_true_eq] at g
   unfold digI
   rw[if_pos g];omega
  unfold numR at h
  split at h
  ·cases h
  ·rename_i x q b
   have u:a+1<=q:=by
    rw[numI,numF] at b
    split at b
    ·have c:=digs_one (xs:=xs) (by decide) p
     rw[Option.some.inj b] at c;exact c
    ·split at b
     ·have:=chrI_rng o b;omega
     ·split at b
      ·have c:=digs_ge xs (baseI (byteI xs (a+1))) xs.length (a+2) 0
       rw[Option.some.inj b] at c;simp only at c;omega
      ·have c:=digs_one (xs:=xs) (by decide) p
       rw[Option.some.inj b] at c;exact c
   split at h
   ·cases h
   ·split at h
    ·cases h
    ·cases h;omega
 split at h
 ·cases h;omega
 split at h
 ·rename_i t
  have:=runI_pos i t
  unfold runR at h
  split at h
  ·cases h
  ·cases h;omega
 split at h
 ·cases h;omega
 have d:∀ r,quoR xs r a = .ok (k,l,s,v)->1<=l:=fun r b=>by
  unfold quoR at b
  split at b
  ·cases b
  ·rename_i y j w
   have:=txt_ge _ _ _ _ _ w
   split at b
   ·cases b
   ·cases b;omega
 split at h
 ·exact d 1 h
 split at h
 ·exact d 4 h
 split at h
 ·cases h;omega
 split at h
 ·cases h;omega
 ·cases h
theorem lexF_more {e:List Int}(m:Bytes e):∀ (f b:Nat) (a:Int) (d:List Tok),e.length<=b+f->∀ g,lexF e (f+g) b a d=lexF e f b a d
 | 0,b,a,d,h,0=>rfl
 | 0,b,a,d,h,g+1=>by
   rw[Nat.zero_add]
   unfold lexF
   rw[if_pos (by omega)]
 | f+1,b,a,d,h,g=>by
   rw[show f+1+g=(f+g)+1 by omega]
   unfold lexF
   by_cases j:e.length<=b
   ·rw[if_pos j,if_pos j]
   ·rw[if_neg j,if_neg j]
    cases p:layI e b with
    | none=>rfl
    | some n=>
      simp only
      by_cases i:0<n
      ·rw[if_pos i,if_pos i];exact lexF_more m f (b+n) a d (by omega) g
      ·rw[if_neg i,if_neg i]
       cases o:nextR e (decide (a=b)) b with
       | error c=>rfl
       | ok r=>
         obtain⟨k,l,q,v⟩:=r;have:=next_len m (by omega) o;exact lexF_more m f (b+l) _ _ (by omega) g
theorem lexI_at {c:List Int}(e:Bytes c){b m:Nat}(f:1<=m)(g:b<c.length)(a:Int)(d:List Tok):lexF c (c.length-b) (b+m) a d=lexI c (b+m) a d:=by
 have h:=lexF_more e (c.length+1-(b+m)) (b+m) a d (by omega) ((c.length-b)-(c.length+1-(b+m)));rw[show c.length+1-(b+m)+(c.length-b-(c.length+1-(b+m)))=c.length-b by omega] at h;exact h
theorem lexI_end {d:List Int}{b:Nat}(h:d.length<=b)(a:Int)(c:List Tok):lexI d b a c = .ok c:=by
 unfold lexI
 rcases Nat.eq_zero_or_pos (d.length+1-b) with h0 | h0
 ·rw[h0];rfl
 ·rw[show d.length+1-b=(d.length-b)+1 by omega]
  unfold lexF
  rw[if_pos h]
theorem lexI_step {b:List Int}(g:Bytes b){pos:Nat}(h:pos<b.length)(a:Int)(d:List Tok):lexI b pos a d=match layI b pos with
  | none=>.error (2,pos)
  | some n=>if 0<n then lexI b (pos+n) a d else match nextR b (decide (a=pos)) pos with
    | .error c=>.error (c,pos)
    | .ok (kind,e,i,v)=>lexI b (pos+e) (if kind=1 then((pos+e:Nat):Int) else -1) (d ++ [((kind,(pos:Int),(e:Int),v),i)]):=by
 conv=>lhs;unfold lexI
 rw[show b.length+1-pos=(b.length-pos)+1 by omega]
 conv=>lhs;unfold lexF
 rw[if_neg (by omega)]
 cases m:layI b pos with
 | none=>rfl
 | some n=>
   simp only
   by_cases f:0<n
   ·rw[if_pos f,if_pos f];exact lexI_at g f h a d
   ·rw[if_neg f,if_neg f]
    cases j:nextR b (decide (a=pos)) pos with
    | error c=>rfl
    | ok r=>
      obtain⟨k,l,i,v⟩:=r;exact lexI_at g (next_len g h j) h _ _
def lexR (xs:List Int):LexR:=if 10000<xs.length then .error (3,10000) else lexI xs 0 (-1) []
def LexSOut (w:World)(r:LexR)(e:Ending)(w':World):Prop:=
 match r with
 | .ok ts=>∃ p n c,e = .returned (.tuple #[.slice p n c,.int .i64 0,.int .i64 0])/\OwnK w' w.heap.size p n c ts/\Below w.heap.size w w'
 | .error (c,at_)=>e = .returned (.tuple #[.slice none 0 0,.int .i64 c,.int .i64 at_])/\Below w.heap.size w w'
theorem lexSOut_of {w b:World}{e:Ending}{r a:LexR}(h:LexSOut w r e b)(c:a=r):LexSOut w a e b:=c▸h
theorem skipS_none {b:List Int}{a:Nat}(h:layI b a=none):skipS b a = -1:=by rw[skipS,h]
theorem skipS_some {b:List Int}{a n:Nat}(h:layI b a=some n):skipS b a=(n:Nat):=by rw[skipS,h]
theorem lay_le {b:List Int}{a n:Nat}(e:a<b.length)(h:layI b a=some n):a+n<=b.length:=by
 unfold layI at h
 split at h
 ·cases h;omega
 split at h
 ·cases h
  have:=runLen_le (fun c=>c != 10) (b.drop a);rw[List.length_drop] at this
  unfold lineI;omega
 split at h
 ·split at h
  ·cases h
  ·rename_i j d
   cases h
   have:=blk_rng _ _ _ d
   omega
 ·cases h;omega
theorem txt_le {b:List Int}{q:Int}(a:0<=q):∀ (f i:Nat) (c d:List Int) (j:Nat),txtF b q f i c=some (d,j)->j<=b.length
 | 0,i,c,d,j,h=>by cases h
 | f+1,i,c,d,j,h=>by
   unfold txtF at h
   split at h
   ·rename_i e
    have g:i<b.length:=by
     rcases Nat.lt_or_ge i b.length with h' | h'
     ·exact h'
     ·rw[byteI_ge h'] at e;omega
    split at h
    ·exact txt_le a f _ _ _ _ h
    ·cases h;omega
   ·split at h
    ·split at h
     ·exact txt_le a f _ _ _ _ h
     ·split at h
      ·cases h
      ·exact txt_le a f _ _ _ _ h
    ·split at h
     ·exact txt_le a f _ _ _ _ h
     ·cases h
theorem next_le {d:List Int}{f:Bool}{b l:Nat}{k v:Int}{m:List Int}(n:Bytes d)(p:b<d.length)(h:nextR d f b = .ok (k,l,m,v)):l<=2 * d.length+6:=by
 have c:∀ g i,runR d b g i = .ok (k,l,m,v)->l<=2 * d.length+6:=fun g i a=>by
  have:=runI_le i d b (by omega)
  unfold runR at a
  split at a
  ·cases a
  ·cases a;omega
 have e:∀ g,quoR d g b = .ok (k,l,m,v)->l<=2 * d.length+6:=fun g a=>by
  unfold quoR at a
  split at a
  ·cases a
  ·rename_i s j o
   have:=txt_le (by rw[byteI_lt p];exact(n.at b).1) _ _ _ _ _ o
   split at a
   ·cases a
   ·cases a;omega
 unfold nextR nextF at h
 split at h
 ·exact c _ _ h
 split at h
 ·exact c _ _ h
 split at h
 ·unfold numR at h
  split at h
  ·cases h
  ·rename_i r q a
   have:=numI_rng n a
   split at h
   ·cases h
   ·split at h
    ·cases h
    ·cases h;omega
 split at h
 ·cases h;omega
 split at h
 ·exact c _ _ h
 split at h
 ·cases h;omega
 split at h
 ·exact e _ h
 split at h
 ·exact e _ h
 split at h
 ·cases h;omega
 split at h
 ·cases h;omega
 ·cases h
theorem next_code {i:List Int}{f:Bool}{e:Nat}{c:Int}(h:nextR i f e = .error c):c=2∨c=3:=by
 have b:∀ g j,runR i e g j = .error c->c=2∨c=3:=fun g j a=>by
  unfold runR at a
  split at a
  ·cases a;exact .inr rfl
  ·cases a
 have d:∀ g,quoR i g e = .error c->c=2∨c=3:=fun g a=>by
  unfold quoR at a
  split at a
  ·cases a;exact .inl rfl
  ·split at a
   ·cases a;exact .inr rfl
   ·cases a
 unfold nextR nextF at h
 split at h
 ·exact b _ _ h
 split at h
 ·exact b _ _ h
 split at h
 ·unfold numR at h
  split at h
  ·cases h;exact .inl rfl
  ·split at h
   ·cases h;exact .inl rfl
   ·split at h
    ·cases h;exact .inr rfl
    ·cases h
 split at h
 ·cases h
 split at h
 ·exact b _ _ h
 split at h
 ·cases h
 split at h
 ·exact d _ h
 split at h
 ·exact d _ h
 split at h
 ·cases h
 split at h
 ·cases h
 ·cases h;exact .inl rfl
theorem lexS_any (b y:Nat)(f:List Int)(w:World)(hb:Bytes f)(hn:f.length<=9000000000)(K:f.length<=y)(hc:∀ m,m<f.length->w.cell? ⟨b,m,none⟩=some (.int .u8 (f.getD m 0))) :
  Calls Tryz.prog 25 #[.slice (some ⟨b,0,none⟩) f.length y] w (LexSOut w (lexR f)):=by
 obtain⟨n,en⟩:∃ n,n=f.length:=⟨_,rfl⟩
 by_cases u:10000<f.length
 ·have U:Hid (LexSOut w (lexR f) (.returned (.tuple #[.slice none 0 0,.int .i64 3,.int .i64 10000])) w):=lexSOut_of (r:=.error (3,10000)) ⟨rfl,Below.refl _ _⟩ (by rw[lexR,if_pos u])
  rw[<-en] at hn u ⊢
  have e7:(10000:Int)<n:=by omega
  clear hb hc K en
  go_enter Tryz.func25,Tryz.ntmps25
  go_wp2_with fail
  go_ret3
  exact U.o
 have X:Hid (lexR f=lexI f 0 (-1) []):=by show _=_;rw[lexR,if_neg u]
 have HC:Hid (∀ (W:World),Below w.heap.size w W->∀ m,m<f.length->W.cell? ⟨b,m,none⟩=some (.int .u8 (f.getD m 0))):=fun W hW m hm=>(hW.cell (World.block_lt_of_cell? _ _ (hc m hm))).trans (hc m hm)
 have G:Hid (∀ (W:World) (c:Nat),Below w.heap.size w W->c<n->Calls Tryz.prog 51 #[.slice (some ⟨b,0,none⟩) n y,.int .i64 c] W fun e w'=>e = .returned (.int .i64 (skipS f c))/\w'=W):=fun W c hW hp=>by
  have:=skipS_any b y c f W hb (by omega) (by omega) (HC.o W hW);rw[<-en] at this;exact this
 have H:Hid (∀ (W:World) (c:Nat) (t:Bool),Below w.heap.size w W->c<n->Calls Tryz.prog 52 #[.slice (some ⟨b,0,none⟩) n y,.int .i64 c,.bool t] W (TokSOut W c (nextR f t c))):=fun W c t hW hp=>by
  have:=tokenS_any b y c t f W hb (by omega) K (by omega) (HC.o W hW);rw[<-en] at this;exact this
 have x:Hid (Bytes f):=hb;have HN:Hid (n=f.length):=en
 have x3:n<=10000:=by omega
 have e7:¬ (10000:Int)<n:=by omega
 rw[<-en] at K ⊢;clear hb hc en hn u HC
 go_enter Tryz.func25,Tryz.ntmps25
 go_wp2_with fail
 go_loopw [5,6,7] (fun s pv av wr=>∃ (c E T:Nat) (a:Int) (p5:Option Addr) (C:List Tok),c<=60000/\E<=c/\-1<=a/\a<=60000/\s = .slice p5 E T/\pv = .int .i64 c/\av = .int .i64 a/\Hid (lexI f c a C=lexI f 0 (-1) [])/\Hid (OwnK wr w.heap.size p5 E T C)/\Hid (Below w.heap.size w wr)) (fun _ pv _ _=>70000-(intOf pv).toNat)
 case atStart=>exact⟨0,0,0,-1,none,[],by omega,by omega,by omega,by omega,by trivial,by trivial,by trivial,rfl,OwnK.nil _ _,Below.refl _ _⟩
 case round=>
  obtain⟨c,E,T,a,p5,C,k4,x4,k6,k7,rfl,rfl,rfl,N,V,j⟩:=hrel
  by_cases A:c<n
  ·have i:=G.o wr c j.o A
   have d:=lexI_step x.o (pos:=c) (by rw[<-HN.o];exact A) a C
   cases Y:layI f c with
   | none=>
     rw[skipS_none Y] at i;rw[Y] at d;have U:Hid (LexSOut w (lexR f) (.returned (.tuple #[.slice none 0 0,.int .i64 2,.int .i64 c])) wr):=lexSOut_of (r:=.error (2,c)) ⟨rfl,j.o⟩ (by rw[X.o,<-N.o];exact d);clear d Y G H x N V j X;go_wp2_with (go_at_call 51;refine i.mono ?_;rintro e w' ⟨rfl,rfl⟩)
     go_ret3
     exact U.o
   | some m=>
     rw[skipS_some Y] at i;rw[Y] at d;have Z:=lay_le (by rw[<-HN.o];exact A) Y
     have hm:c+m<=10000:=by have:=HN.o;omega
     simp only at d
     by_cases h0:0<m
     ·rw[if_pos h0] at d
      have e6:Hid (lexI f (c+m) a C=lexI f 0 (-1) []):=by show _=_;rw[<-N.o];exact d.symm
      have k5:(0:Int)<m:=by omega
      clear d Y Z G H x N X;go_wp2_with (go_at_call 51;refine i.mono ?_;rintro e w' ⟨rfl,rfl⟩);go_roundw
      case rel=>exact⟨c+m,E,T,a,_,_,by omega,by omega,by omega,by omega,by trivial,by go_num,by trivial,e6,V,j⟩
      case measure=>simp[intOf];omega
     ·obtain rfl:m=0:=by omega
      rw[if_neg h0] at d
      obtain⟨cl,h5⟩:∃ cl:Bool,cl=decide (a=c):=⟨_,rfl⟩
      rw[<-h5] at d
      have k9:(a == (c:Int))=cl:=by rw[h5];rfl
      have B:=H.o wr c cl j.o A;have F:Hid (Bytes f):=x;clear h5 Y Z G H x
      cases p:nextR f cl c with
      | error cd=>
        rw[p] at B d
        have U:Hid (∀ W,Below w.heap.size w W->LexSOut w (lexR f) (.returned (.tuple #[.slice none 0 0,.int .i64 cd,.int .i64 c])) W):=fun W hW=>lexSOut_of (r:=.error (cd,c)) ⟨rfl,hW⟩ (by rw[X.o,<-N.o];exact d)
        have e8:=next_code p
        have k8:(cd != 0)=true:=by simp;omega
        clear d p N V X e8;go_wp2_with (go_at_call 51;refine i.mono ?_;rintro e w' ⟨rfl,rfl⟩);refine B.mono ?_;rintro e D ⟨k,a',l,v,rfl,h6⟩;have e5:Hid _:=U.o _ ((Below.on j.o h6).alloc (Nat.le_trans j.o.size h6.size) (.cells #[.int .i64 k,.int .i64 a',.int .i64 l,.slice none 0 0,.int .i64 v] 86));clear U h6 B i;go_wp2_with fail
        go_ret3
        exact e5.o
      | ok r=>
        obtain⟨k,l,ys,v⟩:=r;have x1:=next_len F.o (by rw[<-HN.o];exact A) p;have k1:=next_le F.o (by rw[<-HN.o];exact A) p
        have x2:l<=20006:=by have:=HN.o;omega
        rw[p] at B d;simp only at d
        have HS:Hid (lexI f (c+l) (if k=1 then((c+l:Nat):Int) else -1) (C ++ [((k,(c:Int),(l:Int),v),ys)])=lexI f 0 (-1) []):=by show _=_;rw[<-N.o];exact d.symm
        clear d p N X k1 F;go_wp2_with (go_at_call 51;refine i.mono ?_;rintro e w' ⟨rfl,k2⟩;obtain rfl:=k2.symm);refine B.mono ?_;rintro e D ⟨Q,P,O,rfl,e4,h7⟩
        obtain⟨wB,eB⟩:∃ wB,wB=(D.alloc (.cells #[.int .i64 k,.int .i64 c,.int .i64 l,.slice Q P O,.int .i64 v] 86)).alloc (.cells #[.int .i64 k,.int .i64 c,.int .i64 l,.slice Q P O,.int .i64 v] 86):=⟨_,rfl⟩
        have I:Below D.heap.size D wB:=by rw[eB];exact((Below.refl _ _).alloc (Nat.le_refl _) _).alloc (by simp) _
        have G1:wB.heap[D.heap.size]?=some (.cells #[.int .i64 k,.int .i64 c,.int .i64 l,.slice Q P O,.int .i64 v] 86):=by rw[eB];exact(Below.heap_alloc _ _ _ (by simp)).trans (heap_alloc_new _ _)
        have G2:wB.heap[D.heap.size+1]?=some (.cells #[.int .i64 k,.int .i64 c,.int .i64 l,.slice Q P O,.int .i64 v] 86):=by
         have:=heap_alloc_new (D.alloc (.cells #[.int .i64 k,.int .i64 c,.int .i64 l,.slice Q P O,.int .i64 v] 86)) (.cells #[.int .i64 k,.int .i64 c,.int .i64 l,.slice Q P O,.int .i64 v] 86);rw[World.size_alloc] at this;rw[eB];exact this
        have h8:Hid _:=G1;have e1:Hid _:=news_rt (r:=((k,(c:Int),(l:Int),v),Q,P,O)) G2;have R:Hid (Below wr.heap.size wr wB):=Below.on h7 I;have e2:Hid (OwnT wB wr.heap.size Q P O ys):=e4.toT.below I
        have S:Hid (wr.heap.size<=D.heap.size/\D.heap.size<wB.heap.size):=⟨h7.size,(Array.getElem?_eq_some_iff.1 G1).1⟩
        have h9:Hid (∀ q,Value.ownBlock (.slice p5 E T)=some q->q<wr.heap.size):=fun q hq=>by
         obtain⟨_,rs,_,hr,_⟩:=V.o;exact(hr.lt q hq).2
        clear B i e4 h7 I G1 G2
        by_cases z:k=1
        ·have hs:=HS.o
         rw[if_pos z] at hs;have h4:Hid (lexI f (c+l) (((c+l:Nat):Int)) (C ++ [((k,(c:Int),(l:Int),v),ys)])=lexI f 0 (-1) []):=hs
         have e9:(k == 1)=true:=by simpa using z
         clear hs HS z;go_wp2_with (rw[<-eB];refine app_tok wr _ rfl _ _ rfl w.heap.size p5 E T C rfl V.o R.o j.o.size ⟨D.heap.size+1,0,none⟩ 1 rfl (k,(c:Int),(l:Int),v) Q P O ys e2.o e1.o (by omega) ?_;intro g7 n7 h w7 g J L M;obtain⟨⟨a0,a1,a2,a3,a4⟩,af⟩:=five_cells ((L.block D.heap.size S.o.2 (fun e=>by have:=h9.o _ e.symm;have:=S.o.1;omega)).trans h8.o);have h3:Hid (OwnK w7 w.heap.size (some ⟨g7,0,none⟩) n7 h (C ++ [((k,(c:Int),(l:Int),v),ys)])):=g;have h1:Hid (Below w.heap.size w w7):=(j.o.trans (R.o.mono j.o.size)).trans J;have h2:Hid (n7=E+1):=M;clear g J L M);have e3:=h2.o;go_roundw
         case rel=>exact⟨c+l,n7,h,((c+l:Nat):Int),_,_,by omega,by omega,by omega,by omega,by trivial,by go_num,by go_num,h4,h3,h1⟩
         case measure=>simp[intOf];omega
        ·have hs:=HS.o
         rw[if_neg z] at hs;have h4:Hid (lexI f (c+l) (-1) (C ++ [((k,(c:Int),(l:Int),v),ys)])=lexI f 0 (-1) []):=hs
         have e9:(k == 1)=false:=by simpa using z
         clear hs HS z;go_wp2_with (rw[<-eB];refine app_tok wr _ rfl _ _ rfl w.heap.size p5 E T C rfl V.o R.o j.o.size ⟨D.heap.size+1,0,none⟩ 1 rfl (k,(c:Int),(l:Int),v) Q P O ys e2.o e1.o (by omega) ?_;intro g7 n7 h w7 g J L M;obtain⟨⟨a0,a1,a2,a3,a4⟩,af⟩:=five_cells ((L.block D.heap.size S.o.2 (fun e=>by have:=h9.o _ e.symm;have:=S.o.1;omega)).trans h8.o);have h3:Hid (OwnK w7 w.heap.size (some ⟨g7,0,none⟩) n7 h (C ++ [((k,(c:Int),(l:Int),v),ys)])):=g;have h1:Hid (Below w.heap.size w w7):=(j.o.trans (R.o.mono j.o.size)).trans J;have h2:Hid (n7=E+1):=M;clear g J L M);have e3:=h2.o;go_roundw
         case rel=>exact⟨c+l,n7,h,-1,_,_,by omega,by omega,by omega,by omega,by trivial,by go_num,by trivial,h4,h3,h1⟩
         case measure=>simp[intOf];omega
  ·have k3:¬ (c:Int)<n:=by omega
   have U:Hid (LexSOut w (lexR f) (.returned (.tuple #[.slice p5 E T,.int .i64 0,.int .i64 0])) wr):=lexSOut_of (r:=.ok C) ⟨p5,E,T,rfl,V.o,j.o⟩ (by rw[X.o,<-N.o,lexI_end (by rw[<-HN.o];omega)]);clear G H x N V j X;go_wp2_with fail
   go_ret3
   exact U.o
theorem byteI_in {xs:List Int}{i:Nat}(h:byteI xs i≠-1):i<xs.length:=by
 rcases Nat.lt_or_ge i xs.length with h' | h'
 ·exact h'
 ·exact absurd (byteI_ge h') h
theorem dig_in {b:List Int}{i:Nat}{a:Int}(c:a<=16)(h:digI (byteI b i)<a):i<b.length:=byteI_in fun e=>by
 rw[e] at h
 have:digI (-1)=16:=by decide
 omega
theorem digs_fit (b:List Int)(a:Int)(c:a<=16):∀ (f i:Nat) (v:Int),i<=b.length->(digsB b a f i v).2<=b.length
 | 0,i,v,h=>h
 | f+1,i,v,h=>by
   unfold digsB
   split
   ·rename_i d
    exact digs_fit b a c f (i+1) _ (dig_in c d)
   ·exact h
theorem hexI_fit {xs:List Int}{a q:Nat}{v:Int}(h:hexI xs a=some (v,q)):q<=xs.length:=by
 unfold hexI at h
 simp only at h
 split at h
 ·cases h
 ·rename_i c
  have b:byteI xs (digsB xs 16 xs.length a 0).2=92:=Classical.byContradiction fun e=>c (.inr (.inr e))
  have:=byteI_in (xs:=xs) (i:=(digsB xs 16 xs.length a 0).2) (by rw[b];decide)
  cases h
  omega
theorem escI_fit {c:List Int}{a q:Nat}{v:Int}(h:escI c a=some (v,q)):q<=c.length:=by
 unfold escI at h
 have b:byteI c (a+1)≠-1->a+2<=c.length:=fun h=>byteI_in h
 generalize byteI c (a+1)=x at h b
 unfold escF at h
 repeat' (split at h)
 all_goals first | (exact hexI_fit h) | (cases h;exact b (by omega)) | cases h
theorem chrI_fit {b:List Int}{a q:Nat}{v:Int}(h:chrI b a=some (v,q)):q<=b.length:=by
 unfold chrI at h
 have c:byteI b a≠-1->a+1<=b.length:=fun h=>byteI_in h
 have d:byteI b (a+1)≠-1->a+2<=b.length:=fun h=>byteI_in h
 generalize byteI b (a+1)=y at h d
 generalize byteI b a=x at h c
 unfold chrF at h
 split at h
 ·cases h;exact d (by omega)
 split at h
 ·exact escI_fit h
 split at h
 ·cases h
 ·rename_i e
  cases h
  exact c (by omega)
theorem numI_fit {c:List Int}{a q:Nat}{v:Int}(k:a<c.length)(h:numI c a=some (v,q)):q<=c.length:=by
 have d:∀ f:Int,f<=16->∀ b:Nat,b<=c.length->some (digsB c f c.length b 0)=some (v,q)->q<=c.length:=fun f i b ha e=>by
  have g:=digs_fit c f i c.length b 0 ha;simp only[Option.some.injEq] at e;rw[e] at g;exact g
 unfold numI numF at h
 split at h
 ·exact d 10 (by decide) a (by omega) h
 split at h
 ·exact chrI_fit h
 split at h
 ·rename_i j
  have:=dig_in (baseI_rng _).2 j;exact d _ (baseI_rng _).2 (a+2) (by omega) h
 ·exact d 10 (by decide) a (by omega) h
theorem next_fit {d:List Int}{f:Bool}{a l:Nat}{k v:Int}{m:List Int}(o:Bytes d)(n:a<d.length)(h:nextR d f a = .ok (k,l,m,v)):a+l<=d.length:=by
 have c:∀ g i,runR d a g i = .ok (k,l,m,v)->a+l<=d.length:=fun g i b=>by
  have:=runI_le i d a (by omega)
  unfold runR at b
  split at b
  ·cases b
  ·cases b;omega
 have e:∀ g,quoR d g a = .ok (k,l,m,v)->a+l<=d.length:=fun g b=>by
  unfold quoR at b
  split at b
  ·cases b
  ·rename_i s j p
   have:=txt_le (by rw[byteI_lt n];exact(o.at a).1) _ _ _ _ _ p
   split at b
   ·cases b
   ·cases b;omega
 unfold nextR nextF at h
 split at h
 ·exact c _ _ h
 split at h
 ·exact c _ _ h
 split at h
 ·unfold numR at h
  split at h
  ·cases h
  ·rename_i r q b
   have:=numI_fit n b
   split at h
   ·cases h
   ·split at h
    ·cases h
    ·cases h;omega
 split at h
 ·cases h;omega
 split at h
 ·exact c _ _ h
 split at h
 ·cases h;omega
 split at h
 ·exact e _ h
 split at h
 ·exact e _ h
 split at h
 ·cases h;omega
 split at h
 ·cases h;omega
 ·cases h
theorem lay_end (a:List Int)(p:Nat)(h:a.length<=p):layI a p=some 0:=by
 unfold layI
 rw[byteI_ge h]
 simp
theorem lay_lex {b:List Int}(i:Bytes b)(a:Int)(c:List Tok):∀ (f p:Nat),p<=b.length->b.length<p+f->match layA b p with
  | .error q=>lexI b p a c = .error (2,q)/\p<=q/\q<=b.length
  | .ok q=>lexI b p a c=lexI b q a c/\p<=q/\q<=b.length/\layI b q=some 0
 | 0,p,hp,hf=>by omega
 | f+1,p,hp,hf=>by
   rw[layA_step hp]
   rcases Nat.lt_or_ge p b.length with h | h
   ·cases g:layI b p with
    | none=>
      simp only;rw[lexI_step i h,g];exact⟨rfl,Nat.le_refl _,hp⟩
    | some k=>
      simp only
      by_cases j:0<k
      ·rw[if_pos j]
       have m:=layI_rng hp g;have d:=lay_lex i a c f (p+k) m (by omega)
       have e:lexI b p a c=lexI b (p+k) a c:=by rw[lexI_step i h,g];simp only;rw[if_pos j]
       rw[e]
       cases l:layA b (p+k) with
       | error q=>rw[l] at d;exact⟨d.1,by have:=d.2.1;omega,d.2.2⟩
       | ok q=>rw[l] at d;exact⟨d.1,by have:=d.2.1;omega,d.2.2⟩
      ·rw[if_neg j]
       exact⟨rfl,Nat.le_refl _,hp,by rw[g,show k=0 by omega]⟩
   ·rw[lay_end b p h]
    exact⟨rfl,Nat.le_refl _,hp,lay_end b p h⟩
theorem lex_at {b:List Int}(d:Bytes b)(a:Int)(c:List Tok)(p:Nat)(e:p<=b.length):match layA b p with
  | .error q=>lexI b p a c = .error (2,q)/\p<=q/\q<=b.length
  | .ok q=>lexI b p a c=lexI b q a c/\p<=q/\q<=b.length/\layI b q=some 0:=lay_lex d a c (b.length+1) p e (by omega)
end
section
open Go Go.RowKit Go.Shelf
attribute [local go_sem] Oper.semAt_some
structure RK (S TB:Nat)(W W':World):Prop where
 size:W.heap.size<=W'.heap.size
 block:∀ k,k<=S->k≠TB->W'.heap[k]?=W.heap[k]?
structure Geo (S b TB:Nat):Prop where
 src:b<TB
 tab:3<TB
 max:2<TB
 box:TB<S
structure SSt (W:World)(S b n c:Nat)(xs:List Int)(m:Int)(pos:Nat)(a:Int):Prop where
 env:Env W S b n c pos xs
 max:W.cell? ⟨2,0,none⟩=some (.int .i64 m)
 last:∃ (ka la ll:Int) (v5 v6:Value),W.cell? ⟨S,2,none⟩=some (.int .i64 ka)/\W.cell? ⟨S,3,none⟩=some (.int .i64 la)/\W.cell? ⟨S,4,none⟩=some (.int .i64 ll)/\W.cell? ⟨S,5,none⟩=some v5/\W.cell? ⟨S,6,none⟩=some v6/\
  (0<=la/\la<=100000)/\(0<=ll/\ll<=100000)/\a=if ka=1 then la+ll else -1
theorem SSt.moved {W e:World}{S b n c:Nat}{f:List Int}{m:Int}{d q:Nat}{a:Int}(h:SSt W S b n c f m d a)(M:Moved W e S q):SSt e S b n c f m q a:=by
 obtain⟨p,r,s,t,u,g,i,j,k,l,o⟩:=h.last;exact⟨h.env.moved M,max_kept h.env M h.max,p,r,s,t,u,(M.other 2 (by decide)).trans g,(M.other 3 (by decide)).trans i,(M.other 4 (by decide)).trans j,(M.other 5 (by decide)).trans k,(M.other 6 (by decide)).trans l,o⟩
theorem SSt.below {W e:World}{S b n c:Nat}{xs:List Int}{m:Int}{d:Nat}{a:Int}(h:SSt W S b n c xs m d a)(f:Below W.heap.size W e):SSt e S b n c xs m d a:=h.moved (Moved.of_below f h.env.inH h.env.at1)
theorem SSt.kept {W f:World}{S b n c o:Nat}{p:List Int}{m:Int}{e:Nat}{a:Int}(h:SSt W S b n c p m e a)(g:Geo S b o)(k:RK S o W f):SSt f S b n c p m e a:=by
 have d:∀ j,f.cell? ⟨S,j,none⟩=W.cell? ⟨S,j,none⟩:=fun j=>World.cell?_of_block (a:=⟨S,j,none⟩) (k.block S (Nat.le_refl _) (by have:=g.box;omega))
 obtain⟨x,y,z,A,B,q,r,s,t,u,v⟩:=h.last;refine⟨⟨h.env.bytes,h.env.len,h.env.cap,h.env.small,(d 0).trans h.env.src,(d 1).trans h.env.at1,fun j=>?_,Nat.lt_of_lt_of_le h.env.inH k.size,fun i l=>?_,fun i l=>?_⟩,?_,x,y,z,A,B,(d 2).trans q,(d 3).trans r,(d 4).trans s,(d 5).trans t,(d 6).trans u,v⟩
 ·rw[<-h.env.fz j]
  simp only[World.frozen?,k.block S (Nat.le_refl _) (by have:=g.box;omega)]
 ·rw[World.cell?_of_block (w:=W) (a:=⟨b,i,none⟩) (k.block b (by have:=g.src;have:=g.box;omega) (by have:=g.src;omega))]
  exact h.env.row i l
 ·rw[World.cell?_of_block (w:=W) (a:=⟨3,i,none⟩) (k.block 3 (by have:=g.tab;have:=g.box;omega) (by have:=g.tab;omega))]
  exact h.env.tab i l
 ·rw[World.cell?_of_block (w:=W) (a:=⟨2,0,none⟩) (k.block 2 (by have:=g.max;have:=g.box;omega) (by have:=g.max;omega))]
  exact h.max
theorem call_is {c d e a:Int}{b:Nat}(ha:a=if c=1 then d+e else -1):callI c d e b=decide (a=b):=by
 unfold callI
 rw[ha]
 by_cases h:c=1
 ·simp[h]
 ·rw[if_neg h]
  simp only[h,false_and,decide_false]
  symm
  simp only[decide_eq_false_iff_not]
  omega
theorem grown_last (w:World)(g:Nat)(a b c d e:Value):w.grownBy (w.setCells g 2 [a,b,c,d,e]) (some g):=
 ((((grown_setCell w ⟨g,2,none⟩ a).trans (grown_setCell _ ⟨g,3,none⟩ b)).trans (grown_setCell _ ⟨g,4,none⟩ c)).trans (grown_setCell _ ⟨g,5,none⟩ d)).trans (grown_setCell _ ⟨g,6,none⟩ e)
theorem SSt.set {W:World}{S b n c:Nat}{y:List Int}{m:Int}{q:Nat}{a:Int}(h:SSt W S b n c y m q a)(o d f v:Int)(p:Option Addr)(k r:Nat)(E:0<=d/\d<=100000)(l:0<=f/\f<=100000) :
  SSt (W.setCells S 2 [.int .i64 o,.int .i64 d,.int .i64 f,.slice p k r,.int .i64 v]) S b n c y m q (if o=1 then d+f else -1):=by
 obtain⟨J,K,L,M,N,z,A,B,C,D,I⟩:=h.last;have G:=grown_last W S (.int .i64 o) (.int .i64 d) (.int .i64 f) (.slice p k r) (.int .i64 v)
 have w:∀ j,j < [Value.int .i64 o,.int .i64 d,.int .i64 f,.slice p k r,.int .i64 v].length->(W.cell? ⟨S,2+j,none⟩).isSome=true:=fun j F=>by
  have H:j<5:=F
  rcases(by omega:j=0∨j=1∨j=2∨j=3∨j=4) with rfl | rfl | rfl | rfl | rfl
  ·rw[z];rfl
  ·rw[A];rfl
  ·rw[B];rfl
  ·rw[C];rfl
  ·rw[D];rfl
 have g:=World.cell?_setCells_in S [.int .i64 o,.int .i64 d,.int .i64 f,.slice p k r,.int .i64 v] 2 W w
 have x:S≠3:=fun e=>by have:=h.env.tab 0 (by decide);have l:=h.env.src;rw[e] at l;rw[l] at this;cases this
 have u:S≠2:=fun e=>by have:=h.max;have l:=h.env.src;rw[e] at l;rw[l] at this;cases this
 refine⟨⟨h.env.bytes,h.env.len,h.env.cap,h.env.small,?_,?_,fun j=>?_,Nat.lt_of_lt_of_le h.env.inH G.size,fun i t=>?_,fun i t=>?_⟩,?_,o,d,f,_,_,g 0 (by simp),g 1 (by simp),g 2 (by simp),g 3 (by simp),g 4 (by simp),E,l,rfl⟩
 ·rw[World.cell?_setCells_out S _ 2 W ⟨S,0,none⟩ (fun _ _=>.inl (by simp))];exact h.env.src
 ·rw[World.cell?_setCells_out S _ 2 W ⟨S,1,none⟩ (fun _ _=>.inl (by simp))];exact h.env.at1
 ·rw[World.frozen?_setCells];exact h.env.fz j
 ·have s:b≠S:=fun e=>by have:=h.env.row 0 (by omega);rw[e,h.env.src] at this;cases this
  rw[World.cell?_setCells_out S _ 2 W ⟨b,i,none⟩ (fun e _=>absurd e s)];exact h.env.row i t
 ·rw[World.cell?_setCells_out S _ 2 W ⟨3,i,none⟩ (fun e _=>absurd e.symm x)];exact h.env.tab i t
 ·rw[World.cell?_setCells_out S _ 2 W ⟨2,0,none⟩ (fun e _=>absurd e.symm u)];exact h.max
theorem OwnS.grownS {W c:World}{B S k d:Nat}{p:Option Addr}{i:List Int}(h:OwnS W B p k d i)(n:S<B)(G:W.grownBy c (some S)):OwnS c B p k d i:=by
 obtain⟨rfl,f⟩:=h;refine⟨rfl,f.1,?_⟩
 rcases f.2 with j | ⟨g,a,b,m,l,e,r⟩
 ·exact .inl j
 ·exact .inr ⟨g,a,b,m,l,(G.block g (Array.getElem?_eq_some_iff.1 e).1 (by simp;omega)).trans e,r⟩
def TksOut (J:List Tok->World->Prop)(r:LexR)(e:Ending)(W':World):Prop:=
 match r with
 | .ok ts=>(∃ v,e = .returned v)/\J ts W'
 | .error (cd,q)=>Faults cd q e/\∃ ts,J ts W'
theorem tksOut_of {J:List Tok->World->Prop}{r b:LexR}{e:Ending}{a:World}(h:TksOut J r e a)(c:b=r):TksOut J b e a:=c▸h
theorem tokens_in (S b n c TB l nn:Nat)(j:List Int)(m:Int)(g:Geo S b TB)(J:List Tok->World->Prop)(hJ:∀ s W M,J s W->W.grownBy M (some S)->J s M)
  (hY:∀ s W0 W (y:Int) (d f:Nat) p k cp H v,J s W0->s.length<=10000->W0.grownBy W (some S)->S<W0.heap.size->OwnS W W0.heap.size p k cp H->
    YieldAt Fence.wide (nn-1) Tryz.prog l #[tokV y d f p k cp v] W fun e M=>e = .returned (.bool true)/\J (s ++ [((y,(d:Int),(f:Int),v),H)]) M/\RK S TB W M)
  (W:World) (N:SSt W S b n c j m 0 (-1)) (h0:J [] W) :
  CallsIn Fence.wide nn Tryz.prog 101 #[.pointer (some ⟨S,0,none⟩),.func (.yield l) #[] #[]] W (TksOut J (lexI j 0 (-1) [])):=by
 have HL:=skipLayout_any S b n c 0 j m W N.env (Nat.zero_le _) N.max;have x:=lex_at N.env.bytes (-1) [] 0 (Nat.zero_le _)
 obtain⟨R,eR⟩:∃ R,R=lexI j 0 (-1) []:=⟨_,rfl⟩
 rw[<-eR] at x ⊢;clear eR
 cases hA:layA j 0 with
 | error q=>
   rw[hA] at HL x;have V:Hid (R = .error (2,q)):=x.1;clear x;refine callsIn_of_wp Tryz.func101 rfl trivial ?_ rfl;simp only[Tryz.ntmps101,List.size_toArray,List.length_cons,List.length_nil,Nat.reduceAdd,Nat.reduceSub,Array.replicate_succ,Array.replicate_zero,List.push_toArray,List.append_toArray,List.nil_append,List.cons_append]
   gi_wp2_with fail
   refine⟨trivial,fun h=>(by cases h),(callsIn_wide.2 HL).mono ?_⟩;rintro e w1 ⟨F,G⟩
   cases F
   refine⟨rfl,tksOut_of ?_ V.o⟩;exact⟨rfl,[],hJ _ _ _ h0 G⟩
 | ok q=>
   rw[hA] at HL x;have V:Hid (R=lexI j q (-1) []/\0<=q/\q<=j.length/\layI j q=some 0):=x;have h9:Hid (SSt W S b n c j m 0 (-1)):=N;have Y:Hid (J [] W):=h0;have z:Hid (∀ s W M,J s W->W.grownBy M (some S)->J s M):=hJ;have x1:Hid _:=hY;have HG:Hid (Geo S b TB):=g;have x4:n<=10000:=N.env.small;have HN:Hid (n=j.length):=N.env.len;have I:Hid (Bytes j):=N.env.bytes;clear N h0 hJ hY g x hA;refine callsIn_of_wp Tryz.func101 rfl trivial ?_ rfl;simp only[Tryz.ntmps101,List.size_toArray,List.length_cons,List.length_nil,Nat.reduceAdd,Nat.reduceSub,Array.replicate_succ,Array.replicate_zero,List.push_toArray,List.append_toArray,List.nil_append,List.cons_append]
   gi_wp2_with fail
   refine⟨trivial,fun h=>(by cases h),(callsIn_wide.2 HL).mono ?_⟩;rintro e w1 ⟨rfl,M1⟩;have k6:Hid (SSt w1 S b n c j m q (-1)):=h9.o.moved M1;have k1:Hid (J [] w1):=z.o _ _ _ Y.o M1.grown;clear M1 HL h9 Y
   gi_wp2_with fail
   gi_loopw [] (fun wr=>∃ (d:Nat) (a:Int) (s:List Tok),d<=10000/\Hid (d<=j.length/\s.length<=d/\layI j d=some 0/\R=lexI j d a s/\SSt wr S b n c j m d a/\J s wr)) (fun wr=>j.length-placeOf wr S)
   case atStart=>exact⟨q,-1,[],by have:=V.o.2.2.1;have:=HN.o;omega,⟨V.o.2.2.1,Nat.zero_le _,V.o.2.2.2,V.o.1,k6.o,k1.o⟩⟩
   case round=>
    obtain⟨d,a,s,x3,B⟩:=hrel;have e8:=B.o.2.2.2.2.1.env.src;have e2:=B.o.2.2.2.2.1.env.at1
    by_cases x2:d<n
    ·have L:d<j.length:=by rw[<-HN.o];exact x2
     obtain⟨ka,la,ll,v5,v6,h2,h3,h4,h5,h6,e5,e6,ha⟩:=B.o.2.2.2.2.1.last;have T:Hid (SSt wr.drew S b n c j m d a):=B.o.2.2.2.2.1.below (Below.refl _ _).drew;have A:=nextS_any S b n c d ka la ll j wr.drew T.o.env L h2 h3 h4 e5 e6;rw[call_is ha] at A;have i:=lexI_step I.o L a s;rw[B.o.2.2.1] at i;simp only[Nat.lt_irrefl,if_false] at i;have h7:Hid (J s wr.drew):=z.o _ _ _ B.o.2.2.2.2.2 (grown_of_below (Below.refl _ _).drew _);clear h2 h3 h4 h5 h6 e5 e6 ha
     cases X:nextR j (decide (a=d)) d with
     | error code=>
       rw[X] at A i;have E:Hid (R = .error (code,d)):=B.o.2.2.2.1.trans i;clear i X
       gi_wp2_with fail
       refine wpIn_wide.2 ?_
       go_region
       gi_wp2_with fail
       refine⟨trivial,fun h=>(by cases h),(callsIn_wide.2 A).mono ?_⟩;rintro e w2 ⟨F,G⟩
       cases F
       refine⟨rfl,tksOut_of ?_ E.o⟩;exact⟨rfl,s,z.o _ _ _ h7.o G⟩
     | ok r=>
       obtain⟨y,f,H,P⟩:=r;rw[X] at A i
       have D:Hid (1<=f/\d+f<=j.length):=⟨next_len I.o L X,next_fit I.o L X⟩
       have E:Hid (R=lexI j (d+f) (if y=1 then((d+f:Nat):Int) else -1) (s ++ [((y,(d:Int),(f:Int),P),H)])):=B.o.2.2.2.1.trans i;clear i X
       gi_wp2_with fail
       refine wpIn_wide.2 ?_
       go_region
       gi_wp2_with fail
       refine⟨trivial,fun h=>(by cases h),(callsIn_wide.2 A).mono ?_⟩;rintro e w2 ⟨p2,m2,c2,rfl,e7,M2⟩;have w:Hid (SSt w2 S b n c j m (d+f) a):=T.o.moved M2;have k4:Hid (OwnS w2 wr.drew.heap.size p2 m2 c2 H):=e7;have e9:Hid (wr.drew.grownBy w2 (some S)):=M2.grown;obtain⟨ka,la,ll,v5,v6,d2,d3,d4,d5,d6,_,_,_⟩:=w.o.last;have z2:=w.o.env.fz 2;have z3:=w.o.env.fz 3;have z4:=w.o.env.fz 4;have z5:=w.o.env.fz 5;have z6:=w.o.env.fz 6;have U:S<wr.heap.size:=T.o.env.inH;have k7:Hid _:=w.o.set y d f P p2 m2 c2 (by omega) (by have:=D.o;have:=HN.o;omega);have k9:=x1.o s wr.drew (w2.setCells S 2 [.int .i64 y,.int .i64 d,.int .i64 f,.slice p2 m2 c2,.int .i64 P]) y d f p2 m2 c2 H P h7.o (by have:=B.o.2.1;omega) (e9.o.trans (grown_last _ _ _ _ _ _ _)) U (k4.o.grownS U (grown_last _ _ _ _ _ _ _))
       obtain⟨fn,tmps,assign,body,hy,e1⟩:=k9;have h8:Hid _:=e1;simp only[World.setCells,Nat.reduceAdd] at hy;clear e7 M2 A e8 e2 e1 U
       gi_wp2_with fail
       refine⟨fun h=>(by cases h),RoundIn.mono h8.o ?_⟩;rintro e w4 ⟨rfl,e3,e4⟩;have Z:Hid (J (s ++ [((y,(d:Int),(f:Int),P),H)]) w4):=e3;have Q:Hid _:=k7.o.kept HG.o e4;have C:=skipLayout_any S b n c (d+f) j m w4 Q.o.env D.o.2 Q.o.max;have t:=lex_at I.o (if y=1 then((d+f:Nat):Int) else -1) (s ++ [((y,(d:Int),(f:Int),P),H)]) (d+f) D.o.2;rw[<-E.o] at t;clear e3 e4 hy d2 d3 d4 d5 d6 z2 z3 z4 z5 z6 h8
       cases K:layA j (d+f) with
       | error O=>
         rw[K] at C t;have u:Hid (R = .error (2,O)):=t.1;clear t K
         gi_wp2_with fail
         refine⟨trivial,fun h=>(by cases h),(callsIn_wide.2 C).mono ?_⟩;rintro e w5 ⟨F,G⟩
         cases F
         refine⟨rfl,tksOut_of ?_ u.o⟩;exact⟨rfl,_,z.o _ _ _ Z.o G⟩
       | ok O=>
         rw[K] at C t;have u:Hid (R=lexI j O (if y=1 then((d+f:Nat):Int) else -1) (s ++ [((y,(d:Int),(f:Int),P),H)])/\d+f<=O/\O<=j.length/\layI j O=some 0):=t;clear t K
         gi_wp2_with fail
         refine⟨trivial,fun h=>(by cases h),(callsIn_wide.2 C).mono ?_⟩;rintro e w5 ⟨rfl,M5⟩;have k8:Hid _:=Q.o.moved M5;have k2:Hid _:=z.o _ _ _ Z.o M5.grown;have k5:Hid (placeOf w5 S=O):=placeOf_at M5.at1;clear M5 C
         gi_wp2_with fail
         go_roundw
         case rel=>
          refine⟨O,if y=1 then(d:Int)+(f:Int) else -1,s ++ [((y,(d:Int),(f:Int),P),H)],by have:=u.o.2.2.1;have:=HN.o;omega,⟨u.o.2.2.1,?_,u.o.2.2.2,?_,k8.o,k2.o⟩⟩
          ·have h1:=B.o.2.1
           have h2:=D.o.1;have h3:=u.o.2.1;simp only[List.length_append,List.length_singleton];omega
          ·have:=u.o.1
           rwa[Int.natCast_add] at this
         case measure=>
          have h1:=k5.o;have h2:=placeOf_at (S:=S) B.o.2.2.2.2.1.env.at1;have h3:=u.o.2.1;have h4:=D.o.1
          show j.length-placeOf w5 S<j.length-placeOf wr S
          rw[h1,h2]
          omega
    ·have E:Hid (R = .ok s):=by show _=_;rw[B.o.2.2.2.1];exact lexI_end (by rw[<-HN.o];omega) a s
     have k3:Hid (J s wr.drew):=z.o _ _ _ B.o.2.2.2.2.2 (grown_of_below (Below.refl _ _).drew _)
     gi_wp2_with fail
     refine wpIn_wide.2 ?_
     go_region
     gi_wp2_with fail
     go_end0
     refine tksOut_of ?_ E.o;exact⟨⟨_,rfl⟩,k3.o⟩
end
end Go.Proofs.YtlkhmmoimplokaaGreatDoor
