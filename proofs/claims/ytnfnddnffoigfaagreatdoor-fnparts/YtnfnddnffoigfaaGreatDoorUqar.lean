/- Texts of Scan12, Scan13, Lx6, Lx7, Lx8, Lx9, LxA, LxB, LxC, LxD, Scan14, LxE, LxF, Tok1, RegR, RgP, LexJ, LexH, LexR, LexI, FpS. Own work of the verifier. -/
import Derived.Test.YtnfnddnffoigfaaGreatDoorIndexL
import Derived.Test.YtnfnddnffoigfaaGreatDoorUqaq
import Derived.Test.YtnfnddnffoigfaaGreatDoorUqak
namespace Go.Proofs.YtnfnddnffoigfaaGreatDoor
set_option maxHeartbeats 4000000
set_option linter.unusedVariables false
set_option maxRecDepth 100000
section
open Go Go.RowKit Go.Shelf
theorem u8_is {x:Int}(b:0<=x)(c:x<256)(k:Nat)(d:k<256):((UInt8.ofNat k:UInt8) == UInt8.ofNat x.toNat)=decide (x=k):=by
 rw[Bool.eq_iff_iff,beq_iff_eq,decide_eq_true_iff]
 constructor
 ·intro a
  have:=congrArg UInt8.toNat a
  simp at this
  omega
 ·intro a;rw[a];simp
theorem index_blk {a:List Int}(g:Bytes a):∀ (f i:Nat),i+f=a.length->Lib.index (Lib.bytesOf (a.drop i)) (Lib.bytesOf [42,47])=match blkI a i with
  | none=>-1
  | some j=>((j-i:Nat):Int)
 | 0,i,h=>by
   rw[blk_end a i (by omega),List.drop_eq_nil_of_le (by omega)];rfl
 | f+1,i,h=>by
   have e:i<a.length:=by omega
   have p:=index_blk g f (i+1) (by omega);have k:=g.at i
   have m:a[i]=a.getD i 0:=by simp[List.getD,List.getElem?_eq_getElem e]
   rw[List.drop_eq_getElem_cons e,m,blk_step a i e,byteI_lt e]
   show(if (Lib.bytesOf [42,47]).isPrefixOf (UInt8.ofNat (a.getD i 0).toNat :: Lib.bytesOf (a.drop (i+1))) then(0:Int) else if Lib.index (Lib.bytesOf (a.drop (i+1))) _ == -1 then -1 else Lib.index (Lib.bytesOf (a.drop (i+1))) _+1)=_
   have c:(Lib.bytesOf [42,47]).isPrefixOf (UInt8.ofNat (a.getD i 0).toNat :: Lib.bytesOf (a.drop (i+1)))=decide (a.getD i 0=42/\byteI a (i+1)=47):=by
    show(((UInt8.ofNat 42:UInt8) == UInt8.ofNat (a.getD i 0).toNat) && List.isPrefixOf [UInt8.ofNat 47] (Lib.bytesOf (a.drop (i+1))))=_
    rw[u8_is k.1 k.2 42 (by decide)]
    rcases Nat.lt_or_ge (i+1) a.length with h1 | h1
    ·have l:=g.at (i+1)
     have n:a[i+1]=a.getD (i+1) 0:=by simp[List.getD,List.getElem?_eq_getElem h1]
     rw[List.drop_eq_getElem_cons h1,n,byteI_lt h1]
     show(_ && (((UInt8.ofNat 47:UInt8) == UInt8.ofNat (a.getD (i+1) 0).toNat) && true))=_
     rw[u8_is l.1 l.2 47 (by decide),Bool.and_true,Bool.eq_iff_iff]
     simp
    ·rw[List.drop_eq_nil_of_le h1,byteI_ge h1]
     show(_ && false)=_
     simp
   rw[c,p]
   by_cases d:a.getD i 0=42/\byteI a (i+1)=47
   ·rw[if_pos (by simpa using d),if_pos d];simp
   ·rw[if_neg (by simpa using d),if_neg d]
    cases b:blkI a (i+1) with
    | none=>simp
    | some j=>
      have:=blk_rng _ _ _ b
      have o:(((j-(i+1):Nat):Int) == -1)=false:=by simp
      simp only[o,Bool.false_eq_true,if_false]
      omega
def BlkOut (w:World)(S pos:Nat)(r:Option Nat)(e:Ending)(w':World):Prop:=
 match r with
 | none=>Faults 2 pos e/\w.grownBy w' (some S)
 | some j=>e = .returned (.tuple #[])/\Moved w w' S (j+2)
theorem skipBlock_any (S b n c a:Nat)(l:List Int)(m:Int)(w:World)(E:Env w S b n c a l)(hp:a+2<=l.length)(Q:w.cell? ⟨5,0,none⟩=some (.int .i64 m)) :
  Calls Tryz.prog 327 #[.pointer (some ⟨S,0,none⟩)] w (BlkOut w S a (blkI l (a+2))):=by
 have h0:=E.src;have h1:=E.at1;have hf:=E.fz 1;have J:=E.inH;have h7:=E.small;have y:=E.len;have h3:=E.cap
 have h6:a+2<=n:=by omega
 obtain⟨W,I⟩:∃ W,W=w.alloc (.cells #[.int .u8 42,.int .u8 47] 5 (2,3)):=⟨_,rfl⟩
 have h:Below w.heap.size w W:=by rw[I];exact(Below.refl _ _).alloc (Nat.le_refl _) _
 have kc:=Lib.run_convert_bytes_const (P:=Tryz.prog) w 22 5 #[.int .u8 42,.int .u8 47] 2 2 Tryz.underlying22 Tryz.underlying5;rw[show((#[Value.int .u8 42,Value.int .u8 47]:Array Value).size,(#[Value.int .u8 42,Value.int .u8 47]:Array Value).size+1)=(2,3) from rfl,<-I] at kc
 have O:W.heap[w.heap.size]?=some (.cells #[.int .u8 42,.int .u8 47] 5 (2,3)):=by rw[I];exact heap_alloc_new _ _
 have F:∀ i,i<2->W.cell? ((⟨w.heap.size,0,none⟩:Addr).add i)=some (.int .u8 (([42,47]:List Int).getD i 0)):=fun i K=>by
  have:i=0∨i=1:=by omega
  rcases this with rfl | rfl
  ·show World.cell? _ ⟨w.heap.size,0,none⟩=_;unfold World.cell?;rw[O];rfl
  ·show World.cell? _ ⟨w.heap.size,1,none⟩=_;unfold World.cell?;rw[O];rfl
 have D:W.cell? ⟨Tryz.indexL_ren.g 1,0,none⟩=some (.int .i64 m):=(h.cell (p:=⟨5,0,none⟩) (World.block_lt_of_cell? _ _ Q)).trans Q
 have u:∀ H:Addr,(∀ i,i<n-(a+2)->W.cell? (H.add i)=some (.int .u8 ((l.drop (a+2)).getD i 0)))->Calls Tryz.prog 369 #[.slice (some H) (n-(a+2)) (c-(a+2)),.slice (some ⟨w.heap.size,0,none⟩) 2 2] W fun e L=>e = .returned (.int .i64 (Lib.index (Lib.bytesOf (l.drop (a+2))) (Lib.bytesOf [42,47])))/\∃ q,L=W.drewN q:=fun H R=>
  Any.bytes_Index_at Tryz.indexL H ⟨w.heap.size,0,none⟩ (n-(a+2)) (c-(a+2)) 2 2 (l.drop (a+2)) [42,47] m W (by simp;omega) rfl (fun x hx=>E.bytes x (List.mem_of_mem_drop hx)) (by decide) R F (by omega) (by omega) (by decide) D
 have z:Hid (Bytes l):=E.bytes;have r:Hid (n=l.length):=y;have B:Hid (Below w.heap.size w W):=h
 have s:Hid (∀ q,(W.drewN q).cell? ⟨S,1,none⟩=some (.int .i64 a)):=fun q=>(h.cell (p:=⟨S,1,none⟩) J).trans h1
 have M:Hid (∀ q,(W.drewN q).frozen? ⟨S,1,none⟩=false):=fun q=>(h.frozen (p:=⟨S,1,none⟩) J).trans hf
 have C:Hid (∀ q,S<(W.drewN q).heap.size):=fun q=>Nat.lt_of_lt_of_le J h.size
 have N:Hid (∀ q k:Nat,Hid (Moved w ((W.drewN q).setCell ⟨S,1,none⟩ (.int .i64 (k:Nat))) S k)):=fun q k=>Moved.onto (below_drewN h q) (Moved.set a k (s.o q)) (Below.refl _ _) J
 have G:∀ i,i<n-(a+2)->W.cell? ⟨b,a+2+i,none⟩=some (.int .u8 ((l.drop (a+2)).getD i 0)):=fun i K=>by
  have Y:=E.row (a+2+i) (by omega);rw[h.cell (p:=⟨b,a+2+i,none⟩) (World.block_lt_of_cell? _ _ Y),Y]
  simp[List.getD,List.getElem?_drop]
 have h4:(0:Int)<=(a:Int)+2:=by omega
 have h5:(a:Int)+2<=(n:Int):=by omega
 have h8:((a:Int)+2).toNat=a+2:=by omega
 clear y h E F D Q hp I O
 by_cases T:c=a+2
 ·have U:n=a+2:=by omega
  subst T;subst U;have t:=u ⟨b,0,none⟩ (fun i K=>by omega);clear u;have f:blkI l (a+2)=none:=blk_end l (a+2) (by have:=r.o;omega);rw[index_blk z.o 0 (a+2) (by have:=r.o;omega),f,Nat.sub_self] at t;rw[f];clear f
  go_enter Tryz.func327,Tryz.ntmps327
  go_wp2_with (first | (go_at_call 369;refine t.mono ?_;rintro e L ⟨rfl,q,rfl⟩) | (go_at_call 335;refine(fault_any S a 2 _ (s.o _) (C.o _)).mono ?_;rintro e w1 ⟨rfl,A⟩));refine⟨rfl,?_⟩;exact⟨rfl,grown_of_below (Below.on B.o ((below_drewN (Below.refl _ _) _).trans A)) _⟩
 ·skip
  have t:=u ⟨b,a+2,none⟩ (fun i K=>by rw[show(⟨b,a+2,none⟩:Addr).add i=⟨b,a+2+i,none⟩ by unfold Addr.add;split <;> simp_all];exact G i K);clear u
  cases f:blkI l (a+2) with
  | none=>
    rw[index_blk z.o (n-(a+2)) (a+2) (by have:=r.o;omega),f] at t;clear f
    go_enter Tryz.func327,Tryz.ntmps327
    go_wp2_with (first | (go_at_call 369;refine t.mono ?_;rintro e L ⟨rfl,q,rfl⟩) | (go_at_call 335;refine(fault_any S a 2 _ (s.o _) (C.o _)).mono ?_;rintro e w1 ⟨rfl,A⟩));refine⟨rfl,?_⟩;exact⟨rfl,grown_of_below (Below.on B.o ((below_drewN (Below.refl _ _) _).trans A)) _⟩
  | some j=>
    have V:=blk_rng _ _ _ f;rw[index_blk z.o (n-(a+2)) (a+2) (by have:=r.o;omega),f] at t;simp only at t
    obtain⟨d,X⟩:∃ d,d=j-(a+2):=⟨_,rfl⟩
    rw[<-X] at t
    have hd:d<=10000:=by have:=r.o;omega
    have HJ:Hid (j+2=a+2+d+2):=by show _=_;omega
    have h2:¬ ((d:Int)<0):=by omega
    clear f V X
    go_enter Tryz.func327,Tryz.ntmps327
    go_wp2_with (first | (go_at_call 369;refine t.mono ?_;rintro e L ⟨rfl,q,rfl⟩;have e1:=s.o q;have e2:=M.o q));refine bodyPost_end (v:=.tuple #[]) (by simp[results,Tryz.results327,go_sem]) rfl ⟨rfl,?_⟩;have Z:=(N.o q (j+2)).o;rw[HJ.o] at Z ⊢
    simpa using Z
theorem runLen_ge_one {p:Int->Bool}{a:List Int}(h:a≠[])(b:p (a.getD 0 0)=true):1<=runLen p a:=by
 cases a with
 | nil=>exact absurd rfl h
 | cons y r=>
   have c:p y=true:=by simpa using b
   show 1<=(if p y=true then runLen p r+1 else 0)
   rw[if_pos c];omega
theorem line_pos {a:List Int}{p:Nat}(h:byteI a p=37):1<=lineI a p:=by
 have b:p<a.length:=by
  rcases Nat.lt_or_ge p a.length with h' | h'
  ·exact h'
  ·rw[byteI_ge h'] at h;omega
 rw[byteI_lt b] at h;refine runLen_ge_one (fun e=>?_) ?_
 ·have:=List.drop_eq_nil_iff.1 e;omega
 ·have:(a.drop p).getD 0 0=37:=by simpa [List.getD,List.getElem?_drop] using h
  rw[this];rfl
theorem line_le (a:List Int)(p:Nat)(b:p<=a.length):p+lineI a p<=a.length:=by
 have:=runLen_le (fun c=>c != 10) (a.drop p)
 unfold lineI
 simp at this
 omega
def layF (xs:List Int):Nat->Nat->Except Nat Nat
 | 0,pos=>.ok pos
 | f+1,pos=>match layI xs pos with
   | none=>.error pos
   | some k=>if 0<k then layF xs f (pos+k) else .ok pos
def layA (xs:List Int)(pos:Nat):Except Nat Nat:=layF xs (xs.length+1-pos) pos
theorem layI_rng {xs:List Int}{p k:Nat}(e:p<=xs.length)(h:layI xs p=some k):p+k<=xs.length:=by
 unfold layI at h
 have a:byteI xs p≠-1->p<xs.length:=fun b=>by
  rcases Nat.lt_or_ge p xs.length with h' | h'
  ·exact h'
  ·exact absurd (byteI_ge h') b
 split at h
 ·rename_i c
  cases h
  exact a c.2.1
 ·split at h
  ·cases h
   exact line_le xs p e
  ·split at h
   ·split at h
    ·cases h
    ·rename_i j d
     cases h
     have:=blk_rng _ _ _ d
     omega
   ·cases h;omega
theorem layF_more {xs:List Int} : ∀ (f p:Nat),p<=xs.length->xs.length+1<=p+f->∀ g,layF xs (f+g) p=layF xs f p
 | 0,p,hp,hf,g=>by omega
 | f+1,p,hp,hf,g=>by
   rw[show f+1+g=(f+g)+1 by omega]
   show(match layI xs p with | none=>_ | some k=>if 0<k then layF xs (f+g) (p+k) else _)=(match layI xs p with | none=>_ | some k=>if 0<k then layF xs f (p+k) else _)
   cases b:layI xs p with
   | none=>rfl
   | some k=>
     simp only
     by_cases a:0<k
     ·rw[if_pos a,if_pos a]
      exact layF_more f (p+k) (layI_rng hp b) (by omega) g
     ·rw[if_neg a,if_neg a]
theorem layA_step {xs:List Int}{p:Nat}(c:p<=xs.length):layA xs p=match layI xs p with
  | none=>.error p
  | some k=>if 0<k then layA xs (p+k) else .ok p:=by
 unfold layA
 rw[show xs.length+1-p=(xs.length-p)+1 by omega]
 show(match layI xs p with | none=>_ | some k=>if 0<k then layF xs (xs.length-p) (p+k) else _)=_
 cases b:layI xs p with
 | none=>rfl
 | some k=>
   simp only
   by_cases a:0<k
   ·rw[if_pos a,if_pos a]
    have d:=layI_rng c b;have:=layF_more (xs:=xs) (xs.length+1-(p+k)) (p+k) d (by omega) (k-1);rw[<-this]
    congr 1
    omega
   ·rw[if_neg a,if_neg a]
def LayOut (w:World)(S:Nat)(r:Except Nat Nat)(e:Ending)(w':World):Prop:=
 match r with
 | .error q=>Faults 2 q e/\w.grownBy w' (some S)
 | .ok q=>e = .returned (.tuple #[])/\Moved w w' S q
theorem layOut_of {w b:World}{S:Nat}{e:Ending}{r a:Except Nat Nat}(h:LayOut w S r e b)(c:a=r):LayOut w S a e b:=c▸h
def placeOf (w:World)(S:Nat):Nat:=match w.cell? ⟨S,1,none⟩ with
 | some (.int _ i)=>i.toNat
 | _=>0
theorem placeOf_at {w:World}{S p:Nat}(h:w.cell? ⟨S,1,none⟩=some (.int .i64 p)):placeOf w S=p:=by unfold placeOf;rw[h];simp
theorem max_kept {w f:World}{S b n c a q:Nat}{i:List Int}{m:Int}(E:Env w S b n c a i)(M:Moved w f S q)(h:w.cell? ⟨5,0,none⟩=some (.int .i64 m)):f.cell? ⟨5,0,none⟩=some (.int .i64 m):=by
 have g:5≠S:=fun e=>by have d:=E.src;rw[<-e,h] at d;cases d
 rw[World.cell?_of_block (w:=w) (M.grown.block _ (World.block_lt_of_cell? _ _ h) (by simpa using g))];exact h
theorem skipLayout_any (S b n c s:Nat)(d:List Int)(m:Int)(w:World)(E:Env w S b n c s d)(hp:s<=d.length)(hM:w.cell? ⟨5,0,none⟩=some (.int .i64 m)) :
  Calls Tryz.prog 298 #[.pointer (some ⟨S,0,none⟩)] w (LayOut w S (layA d s)):=by
 have HE:Hid (Env w S b n c s d):=E;have h8:Hid (w.cell? ⟨5,0,none⟩=some (.int .i64 m)):=hM;have HP:Hid (s<=d.length):=hp;have e8:=E.small;have K:Hid (n=d.length):=E.len;have h6:Hid (Moved w w S s):=Moved.of_below (Below.refl _ _) E.inH E.at1;clear E hM hp
 go_enter Tryz.func298,Tryz.ntmps298
 go_wp2
 go_loopw [] (fun wr=>∃ p:Nat,p<=n/\Hid (Moved w wr S p)/\Hid (layA d s=layA d p)) (fun wr=>20000-placeOf wr S)
 case atStart=>exact⟨s,by rw[K.o];exact HP.o,h6,rfl⟩
 case round=>
  obtain⟨p,e4,N,I⟩:=hrel;have f:Hid (Env wr S b n c p d):=HE.o.moved N.o;have h7:=max_kept HE.o N.o h8.o;have R:Hid (placeOf wr S=p):=placeOf_at N.o.at1
  have C:p<=d.length:=by rw[<-K.o];exact e4
  have e7:p<=10000:=by omega
  have hr:=byteI_rng f.o.bytes p;have e5:=byteI_rng f.o.bytes (p+1);have Q:=isOf16 hr.1 hr.2;have i:=layA_step C;have h1:=f.o.at1;have hf:=f.o.fz 1;have G:Hid (p<d.length->_):=skipLine_any S b n c p d wr f.o
  have F:Hid (p+2<=d.length->_):=fun h=>skipBlock_any S b n c p d m wr f.o h h7
  have a:layI d p=if endsI (byteI d p)=true/\byteI d p≠-1/\byteI d p≠37 then some 1
    else if byteI d p=37 then some (lineI d p)
    else if byteI d p=47/\byteI d (p+1)=42 then(match blkI d (p+2) with | none=>none | some j=>some (j+2-p))
    else some 0:=rfl
  have z:byteI d p≠-1->p<d.length:=fun h9=>by
   rcases Nat.lt_or_ge p d.length with h' | h'
   ·exact h'
   ·exact absurd (byteI_ge h') h9
  have t:byteI d (p+1)≠-1->p+2<=d.length:=fun h9=>by
   rcases Nat.lt_or_ge (p+1) d.length with h' | h'
   ·exact h'
   ·exact absurd (byteI_ge h') h9
  have A:Hid (byteI d p=37->1<=lineI d p):=line_pos;have D:Hid (p+lineI d p<=d.length):=line_le d p C
  obtain⟨x,ex⟩:∃ x,x=byteI d p:=⟨_,rfl⟩
  obtain⟨y,ey⟩:∃ y,y=byteI d (p+1):=⟨_,rfl⟩
  rw[<-ex] at a z hr Q A;rw[<-ey] at a t e5;have U:Hid (byteI d p=x):=ex.symm;have X:Hid (byteI d (p+1)=y):=ey.symm;have l:Hid (isOfB x 16=_):=Q;have g:True:=trivial;have u:True:=trivial;clear ex ey Q
  by_cases t0:x=32∨x=9∨x=10∨x=13
  ·have M:endsI x=true:=by unfold endsI;simp only[decide_eq_true_iff];omega
   rw[if_pos ⟨M,by omega,by omega⟩] at a;rw[a] at i
   have J:Hid (layA d s=layA d (p+1)):=by show _=_;rw[I.o,i];rfl
   have h5:p+1<=n:=by rw[K.o];exact z (by omega)
   have l:Hid (isOfB x 16=true):=by show _=_;rw[l.o];simpa using t0
   have W:Hid (∀ q:Nat,Hid (Moved wr (wr.setCell ⟨S,1,none⟩ (.int .i64 (q:Nat))) S q)):=fun q=>Moved.set p q h1
   clear M a i I z t G F A D t0 X C;go_wp2_with (first | (go_at_call 324;have P:=g;refine(byteAt_any S b n c d p _ (f.o).bytes (f.o).len (by have:=(f.o).small;omega) (by omega) (f.o).src (f.o).row).mono ?_;rintro e H ⟨rfl,rfl⟩;rw[U.o];clear g) | (go_at_call 325;refine(isOf_any _ _ _ (by omega) (by omega) f.o.tab).mono ?_;rintro e H ⟨rfl,rfl⟩;rw[l.o]));go_roundw
   case rel=>exact⟨p+1,h5,N.o.trans (by have:=(W.o (p+1)).o;simpa using this),J⟩
   case measure=>
    have:=placeOf_at (W.o (p+1)).o.at1
    have e9:((p+1:Nat):Int)=(p:Int)+1:=by simp
    rw[e9] at this;rw[this,R.o];omega
  have l:Hid (isOfB x 16=false):=by show _=_;rw[l.o];simpa using t0
  have h4:¬ (endsI x=true/\x≠-1/\x≠37):=fun ⟨h,h2,h3⟩=>by unfold endsI at h;simp only[decide_eq_true_iff] at h;omega
  rw[if_neg h4] at a;clear h4 t0
  by_cases O:x=37
  ·rw[if_pos O] at a
   have e2:=A.o O;have Z:=D.o;have HL:=G.o (z (by omega))
   obtain⟨k,ek⟩:∃ k,k=lineI d p:=⟨_,rfl⟩
   rw[<-ek] at a e2 Z HL;rw[a] at i
   have J:Hid (layA d s=layA d (p+k)):=by show _=_;rw[I.o,i];simp only;rw[if_pos (by omega)]
   have L:Hid (p+k<=n):=by rw[K.o];exact Z
   subst O;clear a i I z t G F A D X C ek;go_wp2_with (first | (go_at_call 324;have P:=g;refine(byteAt_any S b n c d p _ (f.o).bytes (f.o).len (by have:=(f.o).small;omega) (by omega) (f.o).src (f.o).row).mono ?_;rintro e H ⟨rfl,rfl⟩;rw[U.o];clear g) | (go_at_call 325;refine(isOf_any _ _ _ (by omega) (by omega) f.o.tab).mono ?_;rintro e H ⟨rfl,rfl⟩;rw[l.o]) | (go_at_call 326;refine HL.mono ?_;rintro e w1 ⟨rfl,Y⟩));go_roundw
   case rel=>exact⟨p+k,L.o,N.o.trans Y,J⟩
   case measure=>
    have e3:=L.o;rw[placeOf_at Y.at1,R.o];omega
  rw[if_neg O] at a
  have s1:(x == 37)=false:=by simpa using O
  by_cases T:x=47
  ·by_cases V:y=42
   ·rw[if_pos ⟨T,V⟩] at a
    have h2:=t (by omega);have HB:=F.o h2
    cases B:blkI d (p+2) with
    | none=>
      rw[B] at a HB;rw[a] at i
      have J:Hid (layA d s = .error p):=by show _=_;rw[I.o,i]
      subst T;subst V;clear a i I z t G F A D C B O s1;go_wp2_with (first | (go_at_call 324;have P:=g;refine(byteAt_any S b n c d p _ (f.o).bytes (f.o).len (by have:=(f.o).small;omega) (by omega) (f.o).src (f.o).row).mono ?_;rintro e H ⟨rfl,rfl⟩;rw[U.o];clear g) | (go_at_call 324;have P:=u;refine(byteAt_any S b n c d (p+1) _ (f.o).bytes (f.o).len (by have:=(f.o).small;omega) (by omega) (f.o).src (f.o).row).mono ?_;rintro e H ⟨rfl,rfl⟩;rw[X.o];clear u) | (go_at_call 325;refine(isOf_any _ _ _ (by omega) (by omega) f.o.tab).mono ?_;rintro e H ⟨rfl,rfl⟩;rw[l.o]) | (go_at_call 327;refine HB.mono ?_;rintro e w1 ⟨rfl,e1⟩));refine⟨rfl,?_⟩;exact layOut_of (r:=.error p) ⟨rfl,N.o.grown.trans e1⟩ J.o
    | some j=>
      have e6:=blk_rng _ _ _ B;rw[B] at a HB;simp only at a;rw[a] at i
      have J:Hid (layA d s=layA d (j+2)):=by show _=_;rw[I.o,i];simp only;rw[if_pos (by omega),show p+(j+2-p)=j+2 by omega]
      have L:Hid (j+2<=n/\p<j+2):=by rw[K.o];exact⟨by omega,by omega⟩
      subst T;subst V;clear a i I z t G F A D C B O s1 e6;go_wp2_with (first | (go_at_call 324;have P:=g;refine(byteAt_any S b n c d p _ (f.o).bytes (f.o).len (by have:=(f.o).small;omega) (by omega) (f.o).src (f.o).row).mono ?_;rintro e H ⟨rfl,rfl⟩;rw[U.o];clear g) | (go_at_call 324;have P:=u;refine(byteAt_any S b n c d (p+1) _ (f.o).bytes (f.o).len (by have:=(f.o).small;omega) (by omega) (f.o).src (f.o).row).mono ?_;rintro e H ⟨rfl,rfl⟩;rw[X.o];clear u) | (go_at_call 325;refine(isOf_any _ _ _ (by omega) (by omega) f.o.tab).mono ?_;rintro e H ⟨rfl,rfl⟩;rw[l.o]) | (go_at_call 327;refine HB.mono ?_;rintro e w1 ⟨rfl,Y⟩));go_roundw
      case rel=>exact⟨j+2,L.o.1,N.o.trans Y,J⟩
      case measure=>
       have e3:=L.o;rw[placeOf_at Y.at1,R.o];omega
   ·rw[if_neg (fun h=>V h.2)] at a
    rw[a] at i
    have J:Hid (layA d s = .ok p):=by show _=_;rw[I.o,i];rfl
    have s3:(y == 42)=false:=by simpa using V
    subst T;clear a i I z t G F A D C O s1 V;go_wp2_with (first | (go_at_call 324;have P:=g;refine(byteAt_any S b n c d p _ (f.o).bytes (f.o).len (by have:=(f.o).small;omega) (by omega) (f.o).src (f.o).row).mono ?_;rintro e H ⟨rfl,rfl⟩;rw[U.o];clear g) | (go_at_call 324;have P:=u;refine(byteAt_any S b n c d (p+1) _ (f.o).bytes (f.o).len (by have:=(f.o).small;omega) (by omega) (f.o).src (f.o).row).mono ?_;rintro e H ⟨rfl,rfl⟩;rw[X.o];clear u) | (go_at_call 325;refine(isOf_any _ _ _ (by omega) (by omega) f.o.tab).mono ?_;rintro e H ⟨rfl,rfl⟩;rw[l.o]));refine bodyPost_end (v:=.tuple #[]) (by simp[results,Tryz.results298,go_sem]) rfl (layOut_of (r:=.ok p) ⟨rfl,N.o⟩ J.o)
  ·rw[if_neg (fun h=>T h.1)] at a
   rw[a] at i
   have J:Hid (layA d s = .ok p):=by show _=_;rw[I.o,i];rfl
   have s2:(x == 47)=false:=by simpa using T
   clear a i I z t G F A D C O T;go_wp2_with (first | (go_at_call 324;have P:=g;refine(byteAt_any S b n c d p _ (f.o).bytes (f.o).len (by have:=(f.o).small;omega) (by omega) (f.o).src (f.o).row).mono ?_;rintro e H ⟨rfl,rfl⟩;rw[U.o];clear g) | (go_at_call 325;refine(isOf_any _ _ _ (by omega) (by omega) f.o.tab).mono ?_;rintro e H ⟨rfl,rfl⟩;rw[l.o]));refine bodyPost_end (v:=.tuple #[]) (by simp[results,Tryz.results298,go_sem]) rfl (layOut_of (r:=.ok p) ⟨rfl,N.o⟩ J.o)
end
section
open Go Go.RowKit
theorem cls_all:(List.range 256).all (fun c=>(isOfB c 1 == smallB c) && (isOfB c 4 == digitB c) && (isOfB c 2 == (alnumB c && !smallB c && !digitB c)) && (isOfB c 8 == symbolB c) && (isOfB c 32 == (decide ((c:Int)=33) || decide ((c:Int)=59))) &&
  (isOfB c 64 == (decide ((c:Int)=40) || decide ((c:Int)=41) || decide ((c:Int)=91) || decide ((c:Int)=93) || decide ((c:Int)=123) || decide ((c:Int)=125) || decide ((c:Int)=44) || decide ((c:Int)=124))) && (isOfB c 7 == alnumB c))=true:=by decide +kernel
theorem cls_at {c:Int}(j:0<=c)(a:c<256):isOfB c 1=smallB c/\isOfB c 4=digitB c/\isOfB c 2=(alnumB c && !smallB c && !digitB c)/\isOfB c 8=symbolB c/\isOfB c 32=(decide (c=33) || decide (c=59))/\
  isOfB c 64=(decide (c=40) || decide (c=41) || decide (c=91) || decide (c=93) || decide (c=123) || decide (c=125) || decide (c=44) || decide (c=124))/\isOfB c 7=alnumB c:=by
 have h:=List.all_eq_true.1 cls_all c.toNat (by simp;omega);rw[show((c.toNat:Nat):Int)=c by omega] at h;simp only[Bool.and_eq_true,beq_iff_eq] at h;obtain⟨⟨⟨⟨⟨⟨a,b⟩,d⟩,e⟩,f⟩,g⟩,i⟩:=h;exact⟨a,b,d,e,f,g,i⟩
theorem five_cells {w:World}{g:Nat}{u0 u1 u2 u3 u4:Value}(h:w.heap[g]?=some (.cells #[u0,u1,u2,u3,u4] 251)):(w.cell? ⟨g,0,none⟩=some u0/\w.cell? ⟨g,1,none⟩=some u1/\w.cell? ⟨g,2,none⟩=some u2/\w.cell? ⟨g,3,none⟩=some u3/\w.cell? ⟨g,4,none⟩=some u4)/\∀ i,w.frozen? ⟨g,i,none⟩=false:=
 ⟨⟨by unfold World.cell?;rw[h];rfl,by unfold World.cell?;rw[h];rfl,by unfold World.cell?;rw[h];rfl,by unfold World.cell?;rw[h];rfl,by unfold World.cell?;rw[h];rfl⟩,fun i=>frozen_of_row _ _ _ _ _ h⟩
theorem runI_pos {k:Int}{xs:List Int}{a:Nat}(b:a<xs.length)(h:isOfB (byteI xs a) k=true):1<=runI k xs a:=by
 rw[byteI_lt b] at h
 unfold runI
 rw[List.drop_eq_getElem_cons b]
 have:xs[a]=xs.getD a 0:=by simp[List.getD,List.getElem?_eq_getElem b]
 unfold runLen
 rw[this,h]
 simp
theorem txt_ge {d:List Int}{q:Int} : ∀ (f i:Nat) (a b:List Int) (j:Nat),txtF d q f i a=some (b,j)->i<j
 | 0,i,a,b,j,h=>by cases h
 | f+1,i,a,b,j,h=>by
   unfold txtF at h
   split at h
   ·split at h
    ·have:=txt_ge f _ _ _ _ h;omega
    ·cases h;omega
   ·split at h
    ·split at h
     ·have:=txt_ge f _ _ _ _ h;omega
     ·split at h
      ·cases h
      ·rename_i v g c
       have e:=escI_rng c;have:=txt_ge f _ _ _ _ h;omega
    ·split at h
     ·have:=txt_ge f _ _ _ _ h;omega
     ·cases h
theorem digs_one {xs:List Int}{a:Int}{b:Nat}(c:a<=16)(h:digI (byteI xs b)<a):b+1<=(digsB xs a xs.length b 0).2:=by
 rw[digs_step xs a c b 0 h];exact digs_ge _ _ _ _ _
theorem next_len {xs:List Int}{e:Bool}{a l:Nat}{k v:Int}{s:List Int}(o:Bytes xs)(i:a<xs.length)(h:nextR xs e a = .ok (k,l,s,v)):1<=l:=by
 have m:=byteI_rng o a
 unfold nextR nextF at h
 split at h
 ·rename_i n
  have:=runI_pos i (isOf7 m.1 m.2 (.inl n))
  unfold runR at h
  split at h
  ·cases h
  ·cases h;omega
 split at h
 ·rename_i n
  have:=runI_pos i (isOf7 m.1 m.2 (.inr n))
  unfold runR at h
  split at h
  ·cases h
  ·cases h;omega
 split at h
 ·rename_i g
  have p:digI (byteI xs a)<10:=by
   rw[byteI_lt i] at g ⊢;have f:=o.at a;rw[(cls_at f.1 f.2).2.1] at g;simp only[digitB,decide_eq_true_eq] at g
   unfold digI
   rw[if_pos g];omega
  unfold numR at h
  split at h
  ·cases h
  ·rename_i x q b
   have u:a+1<=q:=by
    rw[numI,numF] at b
    split at b
    ·have c:=digs_one (xs:=xs) (by decide) p
     rw[Option.some.inj b] at c;exact c
    ·split at b
     ·have:=chrI_rng o b;omega
     ·split at b
      ·have c:=digs_ge xs (baseI (byteI xs (a+1))) xs.length (a+2) 0
       rw[Option.some.inj b] at c;simp only at c;omega
      ·have c:=digs_one (xs:=xs) (by decide) p
       rw[Option.some.inj b] at c;exact c
   split at h
   ·cases h
   ·split at h
    ·cases h
    ·cases h;omega
 split at h
 ·cases h;omega
 split at h
 ·rename_i t
  have:=runI_pos i t
  unfold runR at h
  split at h
  ·cases h
  ·cases h;omega
 split at h
 ·cases h;omega
 have d:∀ r,quoR xs r a = .ok (k,l,s,v)->1<=l:=fun r b=>by
  unfold quoR at b
  split at b
  ·cases b
  ·rename_i y j w
   have:=txt_ge _ _ _ _ _ w
   split at b
   ·cases b
   ·cases b;omega
 split at h
 ·exact d 1 h
 split at h
 ·exact d 4 h
 split at h
 ·cases h;omega
 split at h
 ·cases h;omega
 ·cases h
theorem lexF_more {e:List Int}(m:Bytes e):∀ (f b:Nat) (a:Int) (d:List Tok),e.length<=b+f->∀ g,lexF e (f+g) b a d=lexF e f b a d
 | 0,b,a,d,h,0=>rfl
 | 0,b,a,d,h,g+1=>by
   rw[Nat.zero_add]
   unfold lexF
   rw[if_pos (by omega)]
 | f+1,b,a,d,h,g=>by
   rw[show f+1+g=(f+g)+1 by omega]
   unfold lexF
   by_cases j:e.length<=b
   ·rw[if_pos j,if_pos j]
   ·rw[if_neg j,if_neg j]
    cases p:layI e b with
    | none=>rfl
    | some n=>
      simp only
      by_cases i:0<n
      ·rw[if_pos i,if_pos i];exact lexF_more m f (b+n) a d (by omega) g
      ·rw[if_neg i,if_neg i]
       cases o:nextR e (decide (a=b)) b with
       | error c=>rfl
       | ok r=>
         obtain⟨k,l,q,v⟩:=r;have:=next_len m (by omega) o;exact lexF_more m f (b+l) _ _ (by omega) g
theorem lexI_at {c:List Int}(e:Bytes c){b m:Nat}(f:1<=m)(g:b<c.length)(a:Int)(d:List Tok):lexF c (c.length-b) (b+m) a d=lexI c (b+m) a d:=by
 have h:=lexF_more e (c.length+1-(b+m)) (b+m) a d (by omega) ((c.length-b)-(c.length+1-(b+m)));rw[show c.length+1-(b+m)+(c.length-b-(c.length+1-(b+m)))=c.length-b by omega] at h;exact h
theorem lexI_end {d:List Int}{b:Nat}(h:d.length<=b)(a:Int)(c:List Tok):lexI d b a c = .ok c:=by
 unfold lexI
 rcases Nat.eq_zero_or_pos (d.length+1-b) with h0 | h0
 ·rw[h0];rfl
 ·rw[show d.length+1-b=(d.length-b)+1 by omega]
  unfold lexF
  rw[if_pos h]
theorem lexI_step {d:List Int}(h:Bytes d){b:Nat}(i:b<d.length)(a:Int)(e:List Tok):lexI d b a e=match layI d b with
  | none=>.error (2,b)
  | some n=>if 0<n then lexI d (b+n) a e else match nextR d (decide (a=b)) b with
    | .error c=>.error (c,b)
    | .ok (kind,f,j,v)=>lexI d (b+f) (if kind=1 then((b+f:Nat):Int) else -1) (e ++ [((kind,(b:Int),(f:Int),v),j)]):=by
 conv=>lhs;unfold lexI
 rw[show d.length+1-b=(d.length-b)+1 by omega]
 conv=>lhs;unfold lexF
 rw[if_neg (by omega)]
 cases o:layI d b with
 | none=>rfl
 | some n=>
   simp only
   by_cases g:0<n
   ·rw[if_pos g,if_pos g];exact lexI_at h g i a e
   ·rw[if_neg g,if_neg g]
    cases m:nextR d (decide (a=b)) b with
    | error c=>rfl
    | ok r=>
      obtain⟨k,l,j,v⟩:=r;exact lexI_at h (next_len h i m) i _ _
def LexSOut (w:World)(r:LexR)(e:Ending)(w':World):Prop:=
 match r with
 | .ok ts=>∃ p n c,e = .returned (.tuple #[.slice p n c,.int .i64 0,.int .i64 0])/\OwnK w' w.heap.size p n c ts/\Below w.heap.size w w'
 | .error (c,at_)=>e = .returned (.tuple #[.slice none 0 0,.int .i64 c,.int .i64 at_])/\Below w.heap.size w w'
theorem lay_end (a:List Int)(p:Nat)(h:a.length<=p):layI a p=some 0:=by
 unfold layI
 rw[byteI_ge h]
 simp
theorem lay_lex {b:List Int}(i:Bytes b)(a:Int)(c:List Tok):∀ (f p:Nat),p<=b.length->b.length<p+f->match layA b p with
  | .error q=>lexI b p a c = .error (2,q)/\p<=q/\q<=b.length
  | .ok q=>lexI b p a c=lexI b q a c/\p<=q/\q<=b.length/\layI b q=some 0
 | 0,p,hp,hf=>by omega
 | f+1,p,hp,hf=>by
   rw[layA_step hp]
   rcases Nat.lt_or_ge p b.length with h | h
   ·cases g:layI b p with
    | none=>
      simp only;rw[lexI_step i h,g];exact⟨rfl,Nat.le_refl _,hp⟩
    | some k=>
      simp only
      by_cases j:0<k
      ·rw[if_pos j]
       have m:=layI_rng hp g;have d:=lay_lex i a c f (p+k) m (by omega)
       have e:lexI b p a c=lexI b (p+k) a c:=by rw[lexI_step i h,g];simp only;rw[if_pos j]
       rw[e]
       cases l:layA b (p+k) with
       | error q=>rw[l] at d;exact⟨d.1,by have:=d.2.1;omega,d.2.2⟩
       | ok q=>rw[l] at d;exact⟨d.1,by have:=d.2.1;omega,d.2.2⟩
      ·rw[if_neg j]
       exact⟨rfl,Nat.le_refl _,hp,by rw[g,show k=0 by omega]⟩
   ·rw[lay_end b p h]
    exact⟨rfl,Nat.le_refl _,hp,lay_end b p h⟩
theorem lex_at {b:List Int}(d:Bytes b)(a:Int)(c:List Tok)(p:Nat)(e:p<=b.length):match layA b p with
  | .error q=>lexI b p a c = .error (2,q)/\p<=q/\q<=b.length
  | .ok q=>lexI b p a c=lexI b q a c/\p<=q/\q<=b.length/\layI b q=some 0:=lay_lex d a c (b.length+1) p e (by omega)
theorem txt_le {b:List Int}{q:Int}(a:0<=q):∀ (f i:Nat) (c d:List Int) (j:Nat),txtF b q f i c=some (d,j)->j<=b.length
 | 0,i,c,d,j,h=>by cases h
 | f+1,i,c,d,j,h=>by
   unfold txtF at h
   split at h
   ·rename_i e
    have g:i<b.length:=by
     rcases Nat.lt_or_ge i b.length with h' | h'
     ·exact h'
     ·rw[byteI_ge h'] at e;omega
    split at h
    ·exact txt_le a f _ _ _ _ h
    ·cases h;omega
   ·split at h
    ·split at h
     ·exact txt_le a f _ _ _ _ h
     ·split at h
      ·cases h
      ·exact txt_le a f _ _ _ _ h
    ·split at h
     ·exact txt_le a f _ _ _ _ h
     ·cases h
theorem byteI_in {xs:List Int}{i:Nat}(h:byteI xs i≠-1):i<xs.length:=by
 rcases Nat.lt_or_ge i xs.length with h' | h'
 ·exact h'
 ·exact absurd (byteI_ge h') h
theorem dig_in {b:List Int}{i:Nat}{a:Int}(c:a<=16)(h:digI (byteI b i)<a):i<b.length:=byteI_in fun e=>by
 rw[e] at h
 have:digI (-1)=16:=by decide
 omega
theorem digs_fit (b:List Int)(a:Int)(c:a<=16):∀ (f i:Nat) (v:Int),i<=b.length->(digsB b a f i v).2<=b.length
 | 0,i,v,h=>h
 | f+1,i,v,h=>by
   unfold digsB
   split
   ·rename_i d
    exact digs_fit b a c f (i+1) _ (dig_in c d)
   ·exact h
theorem hexI_fit {xs:List Int}{a q:Nat}{v:Int}(h:hexI xs a=some (v,q)):q<=xs.length:=by
 unfold hexI at h
 simp only at h
 split at h
 ·cases h
 ·rename_i c
  have b:byteI xs (digsB xs 16 xs.length a 0).2=92:=Classical.byContradiction fun e=>c (.inr (.inr e))
  have:=byteI_in (xs:=xs) (i:=(digsB xs 16 xs.length a 0).2) (by rw[b];decide)
  cases h
  omega
theorem escI_fit {c:List Int}{a q:Nat}{v:Int}(h:escI c a=some (v,q)):q<=c.length:=by
 unfold escI at h
 have b:byteI c (a+1)≠-1->a+2<=c.length:=fun h=>byteI_in h
 generalize byteI c (a+1)=x at h b
 unfold escF at h
 repeat' (split at h)
 all_goals first | (exact hexI_fit h) | (cases h;exact b (by omega)) | cases h
theorem chrI_fit {b:List Int}{a q:Nat}{v:Int}(h:chrI b a=some (v,q)):q<=b.length:=by
 unfold chrI at h
 have c:byteI b a≠-1->a+1<=b.length:=fun h=>byteI_in h
 have d:byteI b (a+1)≠-1->a+2<=b.length:=fun h=>byteI_in h
 generalize byteI b (a+1)=y at h d
 generalize byteI b a=x at h c
 unfold chrF at h
 split at h
 ·cases h;exact d (by omega)
 split at h
 ·exact escI_fit h
 split at h
 ·cases h
 ·rename_i e
  cases h
  exact c (by omega)
theorem numI_fit {c:List Int}{a q:Nat}{v:Int}(k:a<c.length)(h:numI c a=some (v,q)):q<=c.length:=by
 have d:∀ f:Int,f<=16->∀ b:Nat,b<=c.length->some (digsB c f c.length b 0)=some (v,q)->q<=c.length:=fun f i b ha e=>by
  have g:=digs_fit c f i c.length b 0 ha;simp only[Option.some.injEq] at e;rw[e] at g;exact g
 unfold numI numF at h
 split at h
 ·exact d 10 (by decide) a (by omega) h
 split at h
 ·exact chrI_fit h
 split at h
 ·rename_i j
  have:=dig_in (baseI_rng _).2 j;exact d _ (baseI_rng _).2 (a+2) (by omega) h
 ·exact d 10 (by decide) a (by omega) h
theorem next_fit {d:List Int}{f:Bool}{a l:Nat}{k v:Int}{m:List Int}(o:Bytes d)(n:a<d.length)(h:nextR d f a = .ok (k,l,m,v)):a+l<=d.length:=by
 have c:∀ g i,runR d a g i = .ok (k,l,m,v)->a+l<=d.length:=fun g i b=>by
  have:=runI_le i d a (by omega)
  unfold runR at b
  split at b
  ·cases b
  ·cases b;omega
 have e:∀ g,quoR d g a = .ok (k,l,m,v)->a+l<=d.length:=fun g b=>by
  unfold quoR at b
  split at b
  ·cases b
  ·rename_i s j p
   have:=txt_le (by rw[byteI_lt n];exact(o.at a).1) _ _ _ _ _ p
   split at b
   ·cases b
   ·cases b;omega
 unfold nextR nextF at h
 split at h
 ·exact c _ _ h
 split at h
 ·exact c _ _ h
 split at h
 ·unfold numR at h
  split at h
  ·cases h
  ·rename_i r q b
   have:=numI_fit n b
   split at h
   ·cases h
   ·split at h
    ·cases h
    ·cases h;omega
 split at h
 ·cases h;omega
 split at h
 ·exact c _ _ h
 split at h
 ·cases h;omega
 split at h
 ·exact e _ h
 split at h
 ·exact e _ h
 split at h
 ·cases h;omega
 split at h
 ·cases h;omega
 ·cases h
end
section
open Go Go.RowKit Go.Shelf
attribute [local go_sem] Oper.semAt_some
structure RK (S TB:Nat)(W W':World):Prop where
 size:W.heap.size<=W'.heap.size
 block:∀ k,k<=S->k≠TB->W'.heap[k]?=W.heap[k]?
structure Geo (S b TB:Nat):Prop where
 src:b<TB
 tab:7<TB
 max:5<TB
 box:TB<S
structure SSt (W:World)(S b n c:Nat)(xs:List Int)(m:Int)(pos:Nat)(a:Int):Prop where
 env:Env W S b n c pos xs
 max:W.cell? ⟨5,0,none⟩=some (.int .i64 m)
 last:∃ (ka la ll:Int) (v5 v6:Value),W.cell? ⟨S,2,none⟩=some (.int .i64 ka)/\W.cell? ⟨S,3,none⟩=some (.int .i64 la)/\W.cell? ⟨S,4,none⟩=some (.int .i64 ll)/\W.cell? ⟨S,5,none⟩=some v5/\W.cell? ⟨S,6,none⟩=some v6/\
  (0<=la/\la<=100000)/\(0<=ll/\ll<=100000)/\a=if ka=1 then la+ll else -1
theorem SSt.moved {W e:World}{S b n c:Nat}{f:List Int}{m:Int}{d q:Nat}{a:Int}(h:SSt W S b n c f m d a)(M:Moved W e S q):SSt e S b n c f m q a:=by
 obtain⟨p,r,s,t,u,g,i,j,k,l,o⟩:=h.last;exact⟨h.env.moved M,max_kept h.env M h.max,p,r,s,t,u,(M.other 2 (by decide)).trans g,(M.other 3 (by decide)).trans i,(M.other 4 (by decide)).trans j,(M.other 5 (by decide)).trans k,(M.other 6 (by decide)).trans l,o⟩
theorem SSt.below {W e:World}{S b n c:Nat}{f:List Int}{m:Int}{d:Nat}{a:Int}(h:SSt W S b n c f m d a)(g:Below W.heap.size W e):SSt e S b n c f m d a:=h.moved (Moved.of_below g h.env.inH h.env.at1)
theorem SSt.kept {W f:World}{S b n c o:Nat}{p:List Int}{m:Int}{e:Nat}{a:Int}(h:SSt W S b n c p m e a)(g:Geo S b o)(k:RK S o W f):SSt f S b n c p m e a:=by
 have d:∀ j,f.cell? ⟨S,j,none⟩=W.cell? ⟨S,j,none⟩:=fun j=>World.cell?_of_block (a:=⟨S,j,none⟩) (k.block S (Nat.le_refl _) (by have:=g.box;omega))
 obtain⟨x,y,z,A,B,q,r,s,t,u,v⟩:=h.last;refine⟨⟨h.env.bytes,h.env.len,h.env.cap,h.env.small,(d 0).trans h.env.src,(d 1).trans h.env.at1,fun j=>?_,Nat.lt_of_lt_of_le h.env.inH k.size,fun i l=>?_,fun i l=>?_⟩,?_,x,y,z,A,B,(d 2).trans q,(d 3).trans r,(d 4).trans s,(d 5).trans t,(d 6).trans u,v⟩
 ·rw[<-h.env.fz j]
  simp only[World.frozen?,k.block S (Nat.le_refl _) (by have:=g.box;omega)]
 ·rw[World.cell?_of_block (w:=W) (a:=⟨b,i,none⟩) (k.block b (by have:=g.src;have:=g.box;omega) (by have:=g.src;omega))]
  exact h.env.row i l
 ·rw[World.cell?_of_block (w:=W) (a:=⟨7,i,none⟩) (k.block 7 (by have:=g.tab;have:=g.box;omega) (by have:=g.tab;omega))]
  exact h.env.tab i l
 ·rw[World.cell?_of_block (w:=W) (a:=⟨5,0,none⟩) (k.block 5 (by have:=g.max;have:=g.box;omega) (by have:=g.max;omega))]
  exact h.max
theorem call_is {c d e a:Int}{b:Nat}(ha:a=if c=1 then d+e else -1):callI c d e b=decide (a=b):=by
 unfold callI
 rw[ha]
 by_cases h:c=1
 ·simp[h]
 ·rw[if_neg h]
  simp only[h,false_and,decide_false]
  symm
  simp only[decide_eq_false_iff_not]
  omega
theorem grown_last (w:World)(g:Nat)(a b c d e:Value):w.grownBy (w.setCells g 2 [a,b,c,d,e]) (some g):=
 ((((grown_setCell w ⟨g,2,none⟩ a).trans (grown_setCell _ ⟨g,3,none⟩ b)).trans (grown_setCell _ ⟨g,4,none⟩ c)).trans (grown_setCell _ ⟨g,5,none⟩ d)).trans (grown_setCell _ ⟨g,6,none⟩ e)
theorem SSt.set {W:World}{S b n c:Nat}{y:List Int}{m:Int}{q:Nat}{a:Int}(h:SSt W S b n c y m q a)(o d f v:Int)(p:Option Addr)(k r:Nat)(E:0<=d/\d<=100000)(l:0<=f/\f<=100000) :
  SSt (W.setCells S 2 [.int .i64 o,.int .i64 d,.int .i64 f,.slice p k r,.int .i64 v]) S b n c y m q (if o=1 then d+f else -1):=by
 obtain⟨J,K,L,M,N,z,A,B,C,D,I⟩:=h.last;have G:=grown_last W S (.int .i64 o) (.int .i64 d) (.int .i64 f) (.slice p k r) (.int .i64 v)
 have w:∀ j,j < [Value.int .i64 o,.int .i64 d,.int .i64 f,.slice p k r,.int .i64 v].length->(W.cell? ⟨S,2+j,none⟩).isSome=true:=fun j F=>by
  have H:j<5:=F
  rcases(by omega:j=0∨j=1∨j=2∨j=3∨j=4) with rfl | rfl | rfl | rfl | rfl
  ·rw[z];rfl
  ·rw[A];rfl
  ·rw[B];rfl
  ·rw[C];rfl
  ·rw[D];rfl
 have g:=World.cell?_setCells_in S [.int .i64 o,.int .i64 d,.int .i64 f,.slice p k r,.int .i64 v] 2 W w
 have x:S≠7:=fun e=>by have:=h.env.tab 0 (by decide);have l:=h.env.src;rw[e] at l;rw[l] at this;cases this
 have u:S≠5:=fun e=>by have:=h.max;have l:=h.env.src;rw[e] at l;rw[l] at this;cases this
 refine⟨⟨h.env.bytes,h.env.len,h.env.cap,h.env.small,?_,?_,fun j=>?_,Nat.lt_of_lt_of_le h.env.inH G.size,fun i t=>?_,fun i t=>?_⟩,?_,o,d,f,_,_,g 0 (by simp),g 1 (by simp),g 2 (by simp),g 3 (by simp),g 4 (by simp),E,l,rfl⟩
 ·rw[World.cell?_setCells_out S _ 2 W ⟨S,0,none⟩ (fun _ _=>.inl (by simp))];exact h.env.src
 ·rw[World.cell?_setCells_out S _ 2 W ⟨S,1,none⟩ (fun _ _=>.inl (by simp))];exact h.env.at1
 ·rw[World.frozen?_setCells];exact h.env.fz j
 ·have s:b≠S:=fun e=>by have:=h.env.row 0 (by omega);rw[e,h.env.src] at this;cases this
  rw[World.cell?_setCells_out S _ 2 W ⟨b,i,none⟩ (fun e _=>absurd e s)];exact h.env.row i t
 ·rw[World.cell?_setCells_out S _ 2 W ⟨7,i,none⟩ (fun e _=>absurd e.symm x)];exact h.env.tab i t
 ·rw[World.cell?_setCells_out S _ 2 W ⟨5,0,none⟩ (fun e _=>absurd e.symm u)];exact h.max
theorem OwnS.grownS {W c:World}{B S k d:Nat}{p:Option Addr}{i:List Int}(h:OwnS W B p k d i)(n:S<B)(G:W.grownBy c (some S)):OwnS c B p k d i:=by
 obtain⟨rfl,f⟩:=h;refine⟨rfl,f.1,?_⟩
 rcases f.2 with j | ⟨g,a,b,m,l,e,r⟩
 ·exact .inl j
 ·exact .inr ⟨g,a,b,m,l,(G.block g (Array.getElem?_eq_some_iff.1 e).1 (by simp;omega)).trans e,r⟩
def TksOut (J:List Tok->World->Prop)(r:LexR)(e:Ending)(W':World):Prop:=
 match r with
 | .ok ts=>(∃ v,e = .returned v)/\J ts W'
 | .error (cd,q)=>Faults cd q e/\∃ ts,J ts W'
theorem tksOut_of {J:List Tok->World->Prop}{r b:LexR}{e:Ending}{a:World}(h:TksOut J r e a)(c:b=r):TksOut J b e a:=c▸h
theorem tokens_in (S b n c TB l nn:Nat)(j:List Int)(m:Int)(g:Geo S b TB)(J:List Tok->World->Prop)(hJ:∀ s W M,J s W->W.grownBy M (some S)->J s M)
  (hY:∀ s W0 W (y:Int) (d f:Nat) p k cp H v,J s W0->s.length<=10000->W0.grownBy W (some S)->S<W0.heap.size->OwnS W W0.heap.size p k cp H->
    YieldAt Fence.wide (nn-1) Tryz.prog l #[tokV y d f p k cp v] W fun e M=>e = .returned (.bool true)/\J (s ++ [((y,(d:Int),(f:Int),v),H)]) M/\RK S TB W M)
  (W:World) (N:SSt W S b n c j m 0 (-1)) (h0:J [] W) :
  CallsIn Fence.wide nn Tryz.prog 263 #[.pointer (some ⟨S,0,none⟩),.func (.yield l) #[] #[]] W (TksOut J (lexI j 0 (-1) [])):=by
 have HL:=skipLayout_any S b n c 0 j m W N.env (Nat.zero_le _) N.max;have x:=lex_at N.env.bytes (-1) [] 0 (Nat.zero_le _)
 obtain⟨R,eR⟩:∃ R,R=lexI j 0 (-1) []:=⟨_,rfl⟩
 rw[<-eR] at x ⊢;clear eR
 cases hA:layA j 0 with
 | error q=>
   rw[hA] at HL x;have V:Hid (R = .error (2,q)):=x.1;clear x;refine callsIn_of_wp Tryz.func263 rfl trivial ?_ rfl;simp only[Tryz.ntmps263,List.size_toArray,List.length_cons,List.length_nil,Nat.reduceAdd,Nat.reduceSub,Array.replicate_succ,Array.replicate_zero,List.push_toArray,List.append_toArray,List.nil_append,List.cons_append]
   gi_wp2_with fail
   refine⟨trivial,fun h=>(by cases h),(callsIn_wide.2 HL).mono ?_⟩;rintro e w1 ⟨F,G⟩
   cases F
   refine⟨rfl,tksOut_of ?_ V.o⟩;exact⟨rfl,[],hJ _ _ _ h0 G⟩
 | ok q=>
   rw[hA] at HL x;have V:Hid (R=lexI j q (-1) []/\0<=q/\q<=j.length/\layI j q=some 0):=x;have h9:Hid (SSt W S b n c j m 0 (-1)):=N;have Y:Hid (J [] W):=h0;have z:Hid (∀ s W M,J s W->W.grownBy M (some S)->J s M):=hJ;have x1:Hid _:=hY;have HG:Hid (Geo S b TB):=g;have x4:n<=10000:=N.env.small;have HN:Hid (n=j.length):=N.env.len;have I:Hid (Bytes j):=N.env.bytes;clear N h0 hJ hY g x hA;refine callsIn_of_wp Tryz.func263 rfl trivial ?_ rfl;simp only[Tryz.ntmps263,List.size_toArray,List.length_cons,List.length_nil,Nat.reduceAdd,Nat.reduceSub,Array.replicate_succ,Array.replicate_zero,List.push_toArray,List.append_toArray,List.nil_append,List.cons_append]
   gi_wp2_with fail
   refine⟨trivial,fun h=>(by cases h),(callsIn_wide.2 HL).mono ?_⟩;rintro e w1 ⟨rfl,M1⟩;have k6:Hid (SSt w1 S b n c j m q (-1)):=h9.o.moved M1;have k1:Hid (J [] w1):=z.o _ _ _ Y.o M1.grown;clear M1 HL h9 Y
   gi_wp2_with fail
   gi_loopw [] (fun wr=>∃ (d:Nat) (a:Int) (s:List Tok),d<=10000/\Hid (d<=j.length/\s.length<=d/\layI j d=some 0/\R=lexI j d a s/\SSt wr S b n c j m d a/\J s wr)) (fun wr=>j.length-placeOf wr S)
   case atStart=>exact⟨q,-1,[],by have:=V.o.2.2.1;have:=HN.o;omega,⟨V.o.2.2.1,Nat.zero_le _,V.o.2.2.2,V.o.1,k6.o,k1.o⟩⟩
   case round=>
    obtain⟨d,a,s,x3,B⟩:=hrel;have e8:=B.o.2.2.2.2.1.env.src;have e2:=B.o.2.2.2.2.1.env.at1
    by_cases x2:d<n
    ·have L:d<j.length:=by rw[<-HN.o];exact x2
     obtain⟨ka,la,ll,v5,v6,h2,h3,h4,h5,h6,e5,e6,ha⟩:=B.o.2.2.2.2.1.last;have T:Hid (SSt wr.drew S b n c j m d a):=B.o.2.2.2.2.1.below (Below.refl _ _).drew;have A:=nextS_any S b n c d ka la ll j wr.drew T.o.env L h2 h3 h4 e5 e6;rw[call_is ha] at A;have i:=lexI_step I.o L a s;rw[B.o.2.2.1] at i;simp only[Nat.lt_irrefl,if_false] at i;have h7:Hid (J s wr.drew):=z.o _ _ _ B.o.2.2.2.2.2 (grown_of_below (Below.refl _ _).drew _);clear h2 h3 h4 h5 h6 e5 e6 ha
     cases X:nextR j (decide (a=d)) d with
     | error code=>
       rw[X] at A i;have E:Hid (R = .error (code,d)):=B.o.2.2.2.1.trans i;clear i X
       gi_wp2_with fail
       refine wpIn_wide.2 ?_
       go_region
       gi_wp2_with fail
       refine⟨trivial,fun h=>(by cases h),(callsIn_wide.2 A).mono ?_⟩;rintro e w2 ⟨F,G⟩
       cases F
       refine⟨rfl,tksOut_of ?_ E.o⟩;exact⟨rfl,s,z.o _ _ _ h7.o G⟩
     | ok r=>
       obtain⟨y,f,H,P⟩:=r;rw[X] at A i
       have D:Hid (1<=f/\d+f<=j.length):=⟨next_len I.o L X,next_fit I.o L X⟩
       have E:Hid (R=lexI j (d+f) (if y=1 then((d+f:Nat):Int) else -1) (s ++ [((y,(d:Int),(f:Int),P),H)])):=B.o.2.2.2.1.trans i;clear i X
       gi_wp2_with fail
       refine wpIn_wide.2 ?_
       go_region
       gi_wp2_with fail
       refine⟨trivial,fun h=>(by cases h),(callsIn_wide.2 A).mono ?_⟩;rintro e w2 ⟨p2,m2,c2,rfl,e7,M2⟩;have w:Hid (SSt w2 S b n c j m (d+f) a):=T.o.moved M2;have k4:Hid (OwnS w2 wr.drew.heap.size p2 m2 c2 H):=e7;have e9:Hid (wr.drew.grownBy w2 (some S)):=M2.grown;obtain⟨ka,la,ll,v5,v6,d2,d3,d4,d5,d6,_,_,_⟩:=w.o.last;have z2:=w.o.env.fz 2;have z3:=w.o.env.fz 3;have z4:=w.o.env.fz 4;have z5:=w.o.env.fz 5;have z6:=w.o.env.fz 6;have U:S<wr.heap.size:=T.o.env.inH;have k7:Hid _:=w.o.set y d f P p2 m2 c2 (by omega) (by have:=D.o;have:=HN.o;omega);have k9:=x1.o s wr.drew (w2.setCells S 2 [.int .i64 y,.int .i64 d,.int .i64 f,.slice p2 m2 c2,.int .i64 P]) y d f p2 m2 c2 H P h7.o (by have:=B.o.2.1;omega) (e9.o.trans (grown_last _ _ _ _ _ _ _)) U (k4.o.grownS U (grown_last _ _ _ _ _ _ _))
       obtain⟨fn,tmps,assign,body,hy,e1⟩:=k9;have h8:Hid _:=e1;simp only[World.setCells,Nat.reduceAdd] at hy;clear e7 M2 A e8 e2 e1 U
       gi_wp2_with fail
       refine⟨fun h=>(by cases h),RoundIn.mono h8.o ?_⟩;rintro e w4 ⟨rfl,e3,e4⟩;have Z:Hid (J (s ++ [((y,(d:Int),(f:Int),P),H)]) w4):=e3;have Q:Hid _:=k7.o.kept HG.o e4;have C:=skipLayout_any S b n c (d+f) j m w4 Q.o.env D.o.2 Q.o.max;have t:=lex_at I.o (if y=1 then((d+f:Nat):Int) else -1) (s ++ [((y,(d:Int),(f:Int),P),H)]) (d+f) D.o.2;rw[<-E.o] at t;clear e3 e4 hy d2 d3 d4 d5 d6 z2 z3 z4 z5 z6 h8
       cases K:layA j (d+f) with
       | error O=>
         rw[K] at C t;have u:Hid (R = .error (2,O)):=t.1;clear t K
         gi_wp2_with fail
         refine⟨trivial,fun h=>(by cases h),(callsIn_wide.2 C).mono ?_⟩;rintro e w5 ⟨F,G⟩
         cases F
         refine⟨rfl,tksOut_of ?_ u.o⟩;exact⟨rfl,_,z.o _ _ _ Z.o G⟩
       | ok O=>
         rw[K] at C t;have u:Hid (R=lexI j O (if y=1 then((d+f:Nat):Int) else -1) (s ++ [((y,(d:Int),(f:Int),P),H)])/\d+f<=O/\O<=j.length/\layI j O=some 0):=t;clear t K
         gi_wp2_with fail
         refine⟨trivial,fun h=>(by cases h),(callsIn_wide.2 C).mono ?_⟩;rintro e w5 ⟨rfl,M5⟩;have k8:Hid _:=Q.o.moved M5;have k2:Hid _:=z.o _ _ _ Z.o M5.grown;have k5:Hid (placeOf w5 S=O):=placeOf_at M5.at1;clear M5 C
         gi_wp2_with fail
         go_roundw
         case rel=>
          refine⟨O,if y=1 then(d:Int)+(f:Int) else -1,s ++ [((y,(d:Int),(f:Int),P),H)],by have:=u.o.2.2.1;have:=HN.o;omega,⟨u.o.2.2.1,?_,u.o.2.2.2,?_,k8.o,k2.o⟩⟩
          ·have h1:=B.o.2.1
           have h2:=D.o.1;have h3:=u.o.2.1;simp only[List.length_append,List.length_singleton];omega
          ·have:=u.o.1
           rwa[Int.natCast_add] at this
         case measure=>
          have h1:=k5.o;have h2:=placeOf_at (S:=S) B.o.2.2.2.2.1.env.at1;have h3:=u.o.2.1;have h4:=D.o.1
          show j.length-placeOf w5 S<j.length-placeOf wr S
          rw[h1,h2]
          omega
    ·have E:Hid (R = .ok s):=by show _=_;rw[B.o.2.2.2.1];exact lexI_end (by rw[<-HN.o];omega) a s
     have k3:Hid (J s wr.drew):=z.o _ _ _ B.o.2.2.2.2.2 (grown_of_below (Below.refl _ _).drew _)
     gi_wp2_with fail
     refine wpIn_wide.2 ?_
     go_region
     gi_wp2_with fail
     go_end0
     refine tksOut_of ?_ E.o;exact⟨⟨_,rfl⟩,k3.o⟩
end
section
open Go Go.RowKit
theorem OwnT.grownS {W c:World}{B S k j:Nat}{l:Option Addr}{t:List Int}(h:OwnT W B l k j t)(p:S<B)(G:W.grownBy c (some S)):OwnT c B l k j t:=by
 refine⟨h.1,fun n=>?_⟩;obtain⟨g,e,m,o,d⟩:=h.2 n;refine⟨g,e,m,Nat.lt_of_lt_of_le o G.size,fun i f=>?_⟩;have b:c.heap[g]?=W.heap[g]?:=G.block g (World.block_lt_of_cell? _ _ (d i f).1) (by simp;omega);exact⟨(World.cell?_of_block (a:=⟨g,i,none⟩) b).trans (d i f).1,by rw[<-(d i f).2];simp only[World.frozen?,b]⟩
theorem OwnK.grownS {W c:World}{B S k d:Nat}{p:Option Addr}{m:List Tok}(h:OwnK W B p k d m)(q:S<B)(G:W.grownBy c (some S)):OwnK c B p k d m:=by
 obtain⟨rfl,u,s,l,e,ha⟩:=h;refine⟨rfl,u,s,⟨l.1,?_⟩,fun i j=>⟨(e i j).1,(e i j).2.grownS q G⟩,ha⟩
 rcases l.2 with n | ⟨g,a,b,t,o,f,r⟩
 ·exact .inl n
 ·exact .inr ⟨g,a,b,t,o,(G.block g (Array.getElem?_eq_some_iff.1 f).1 (by simp;omega)).trans f,r⟩
end
section
open Go Go.RowKit Go.Shelf
structure JL (w:World)(T:Nat)(ready:Obj)(ts:List Tok)(W:World):Prop where
 low:Below T w W
 top:T+6<=W.heap.size
 box:∃ p n c,W.cell? ⟨T,0,none⟩=some (.slice p n c)/\OwnK W (T+6) p n c ts
 fz:W.frozen? ⟨T,0,none⟩=false
 code:W.cell? ⟨T+1,0,none⟩=some (.int .i64 0)/\W.frozen? ⟨T+1,0,none⟩=false
 place:W.cell? ⟨T+2,0,none⟩=some (.int .i64 0)/\W.frozen? ⟨T+2,0,none⟩=false
 mark:W.heap[T+4]?=some (.deferred (some []))
 record:W.heap[T+5]?=some ready
theorem frozen_of_block {W a:World}{b o:Nat}(h:a.heap[b]?=W.heap[b]?):a.frozen? ⟨b,o,none⟩=W.frozen? ⟨b,o,none⟩:=by simp only[World.frozen?,h]
theorem JL.grown {w W f:World}{T:Nat}{b:Obj}{j:List Tok}(h:JL w T b j W)(G:W.grownBy f (some (T+3))):JL w T b j f:=by
 have l:=h.top
 have d:∀ k,k<T+6->k≠T+3->f.heap[k]?=W.heap[k]?:=fun k g i=>G.block k (by omega) (by simp;omega)
 obtain⟨p,n,c,g,i⟩:=h.box
 refine⟨h.low.grown G (by omega) (fun k e=>by cases e;omega),Nat.le_trans l G.size,⟨p,n,c,(World.cell?_of_block (a:=⟨T,0,none⟩) (d T (by omega) (by omega))).trans g,i.grownS (by omega) G⟩,(frozen_of_block (d T (by omega) (by omega))).trans h.fz,
  ⟨(World.cell?_of_block (a:=⟨T+1,0,none⟩) (d (T+1) (by omega) (by omega))).trans h.code.1,(frozen_of_block (d (T+1) (by omega) (by omega))).trans h.code.2⟩,
  ⟨(World.cell?_of_block (a:=⟨T+2,0,none⟩) (d (T+2) (by omega) (by omega))).trans h.place.1,(frozen_of_block (d (T+2) (by omega) (by omega))).trans h.place.2⟩,
  (d (T+4) (by omega) (by omega)).trans h.mark,(d (T+5) (by omega) (by omega)).trans h.record⟩
theorem hybrid_own {b:World}{T k c:Nat}{e a:Obj}{p:Option Addr}{d:List Tok}(h:OwnK b (T+6) p k c d):OwnK ((b.putObj (T+3) e).putObj (T+5) a) (T+6) p k c d:=
 (h.grownS (S:=T+3) (by omega) (grownBy_putObj' _ _ _)).grownS (S:=T+5) (by omega) (grownBy_putObj' _ _ _)
theorem lay6 (w:World)(a b c d e f:Obj)(W:World)(h:W=(((((w.alloc a).alloc b).alloc c).alloc d).alloc e).alloc f) :
  Below w.heap.size w W/\W.heap.size=w.heap.size+6/\W.heap[w.heap.size]?=some a/\W.heap[w.heap.size+1]?=some b/\W.heap[w.heap.size+2]?=some c/\W.heap[w.heap.size+3]?=some d/\W.heap[w.heap.size+4]?=some e/\W.heap[w.heap.size+5]?=some f:=by
 subst h
 have g:∀ (V:World) (o:Obj),Below w.heap.size w V->Below w.heap.size w (V.alloc o):=fun V o h=>h.alloc h.size o
 refine⟨g _ _ (g _ _ (g _ _ (g _ _ (g _ _ (g _ _ (Below.refl _ _)))))),by simp,?_,?_,?_,?_,?_,?_⟩
 ·show((((((w.heap.push a).push b).push c).push d).push e).push f)[w.heap.size]?=some a
  simp only[Array.getElem?_push,Array.size_push]
  repeat' split
  all_goals first | rfl | omega | (exact absurd trivial ‹¬True›)
 ·show((((((w.heap.push a).push b).push c).push d).push e).push f)[w.heap.size+1]?=some b
  simp only[Array.getElem?_push,Array.size_push]
  repeat' split
  all_goals first | rfl | omega | (exact absurd trivial ‹¬True›)
 ·show((((((w.heap.push a).push b).push c).push d).push e).push f)[w.heap.size+2]?=some c
  simp only[Array.getElem?_push,Array.size_push]
  repeat' split
  all_goals first | rfl | omega | (exact absurd trivial ‹¬True›)
 ·show((((((w.heap.push a).push b).push c).push d).push e).push f)[w.heap.size+3]?=some d
  simp only[Array.getElem?_push,Array.size_push]
  repeat' split
  all_goals first | rfl | omega | (exact absurd trivial ‹¬True›)
 ·show((((((w.heap.push a).push b).push c).push d).push e).push f)[w.heap.size+4]?=some e
  simp only[Array.getElem?_push,Array.size_push]
  repeat' split
  all_goals first | rfl | omega | (exact absurd trivial ‹¬True›)
 ·show((((((w.heap.push a).push b).push c).push d).push e).push f)[w.heap.size+5]?=some f
  simp only[Array.getElem?_push,Array.size_push]
  repeat' split
  all_goals first | rfl | omega | (exact absurd trivial ‹¬True›)
theorem round_before {d W V:World}{T:Nat}{f a:Obj}(G:d.grownBy W (some (T+3)))(m:T+6<=d.heap.size)(i:W.heap[T+3]?=some f)(c:W.grownBy V (some (T+5)))(g:V.heap[T+5]?=some a) :
  Below d.heap.size ((d.putObj (T+3) f).putObj (T+5) a) V:=by
 have l:=G.size;refine⟨c.os.trans G.os,c.tape.trans G.tape,c.output.trans G.output,?_,fun k j=>?_⟩
 ·have h:=Nat.le_trans G.size c.size
  simpa using h
 ·by_cases b:k=T+5
  ·subst b
   rw[World.putObj_heap_same (by simp;omega)];exact g
  ·rw[World.putObj_heap_other b,c.block k (by omega) (by simp;omega)]
   by_cases e:k=T+3
   ·subst e
    rw[World.putObj_heap_same (by omega)];exact i
   ·rw[World.putObj_heap_other e]
    exact G.block k j (by simp;omega)
theorem round_after {w W V d:World}{T g n l:Nat}{b f:Obj}{M u:List Tok}(e:JL w T b M W)(r:W.grownBy V (some (T+5)))(H:V.heap[T+5]?=some f)(c:Below (T+6) V d)(t:OwnK d (T+6) (some ⟨g,0,none⟩) n l u) :
  (d.setCell ⟨T,0,none⟩ (.slice (some ⟨g,0,none⟩) n l)).heap[T+5]?=some f/\JL w T b u ((d.setCell ⟨T,0,none⟩ (.slice (some ⟨g,0,none⟩) n l)).putObj (T+5) b)/\RK (T+3) T W ((d.setCell ⟨T,0,none⟩ (.slice (some ⟨g,0,none⟩) n l)).putObj (T+5) b):=by
 have O:=e.top;have L:=Nat.le_trans r.size c.size
 obtain⟨X,p⟩:∃ X,X=d.setCell ⟨T,0,none⟩ (.slice (some ⟨g,0,none⟩) n l):=⟨_,rfl⟩
 have o:d.grownBy X (some T):=by rw[p];exact grown_setCell d ⟨T,0,none⟩ _
 have I:X.heap.size=d.heap.size:=by rw[p];simp
 have z:∀ k,k<T+6->k≠T+5->d.heap[k]?=W.heap[k]?:=fun k m q=>(c.block k m).trans (r.block k (by omega) (by simp;omega))
 have D:∀ k,k<T+6->k≠T->X.heap[k]?=d.heap[k]?:=fun k m q=>o.block k (by omega) (by simp;omega)
 have E:d.cell? ⟨T,0,none⟩=W.cell? ⟨T,0,none⟩:=World.cell?_of_block (a:=⟨T,0,none⟩) (z T (by omega) (by omega));obtain⟨Q,P,N,B,_⟩:=e.box
 have F:X.cell? ⟨T,0,none⟩=some (.slice (some ⟨g,0,none⟩) n l):=by rw[p];exact World.cell?_setCell_same' _ _ _ (by rw[E,B];rfl)
 have G:X.frozen? ⟨T,0,none⟩=false:=by rw[p,World.frozen?_setCell,frozen_of_block (z T (by omega) (by omega))];exact e.fz
 rw[<-p]
 obtain⟨Y,i⟩:∃ Y,Y=X.putObj (T+5) b:=⟨_,rfl⟩
 rw[<-i]
 have A:∀ k,k≠T+5->Y.heap[k]?=X.heap[k]?:=fun k h=>by rw[i];exact World.putObj_heap_other h
 have J:Y.heap.size=X.heap.size:=by rw[i];simp
 have j:∀ k,k<T+6->k≠T->k≠T+5->Y.heap[k]?=W.heap[k]?:=fun k m q C=>(A k C).trans ((D k m q).trans (z k m C))
 refine⟨(D (T+5) (by omega) (by omega)).trans ((c.block (T+5) (by omega)).trans H),?_,⟨by omega,fun k m q=>j k (by omega) q (by omega)⟩⟩
 have x:Y.os=W.os:=by rw[i];exact o.os.trans (c.os.trans r.os)
 have y:Y.tape=W.tape:=by rw[i];exact o.tape.trans (c.tape.trans r.tape)
 have v:Y.output=W.output:=by rw[i];exact o.output.trans (c.output.trans r.output)
 have s:=e.low
 refine⟨⟨x.trans s.os,y.trans s.tape,v.trans s.output,by have:=s.size;omega,fun k K=>(j k (by omega) (by omega) (by omega)).trans (s.block k K)⟩,by omega,⟨_,_,_,(World.cell?_of_block (a:=⟨T,0,none⟩) (A T (by omega))).trans F,?_⟩,(frozen_of_block (A T (by omega))).trans G,
  ⟨(World.cell?_of_block (a:=⟨T+1,0,none⟩) (j (T+1) (by omega) (by omega) (by omega))).trans e.code.1,(frozen_of_block (j (T+1) (by omega) (by omega) (by omega))).trans e.code.2⟩,
  ⟨(World.cell?_of_block (a:=⟨T+2,0,none⟩) (j (T+2) (by omega) (by omega) (by omega))).trans e.place.1,(frozen_of_block (j (T+2) (by omega) (by omega) (by omega))).trans e.place.2⟩,
  (j (T+4) (by omega) (by omega) (by omega)).trans e.mark,by rw[i];exact World.putObj_heap_same (by omega)⟩
 rw[i];exact(t.grownS (S:=T) (by omega) o).grownS (S:=T+5) (by omega) (grownBy_putObj' _ _ _)
theorem alloc_grown (w:World)(o:Obj)(a:Option Nat):w.grownBy (w.alloc o) a:=grown_of_below ((Below.refl _ _).alloc (Nat.le_refl _) _) _
theorem round_world (W:World)(T:Nat)(b d a:Obj)(g:T+6<=W.heap.size):W.grownBy (((W.alloc b).putObj (T+5) a).alloc d) (some (T+5))/\(((W.alloc b).putObj (T+5) a).alloc d).heap[T+5]?=some a/\
  (((W.alloc b).putObj (T+5) a).alloc d).heap[W.heap.size]?=some b/\(((W.alloc b).putObj (T+5) a).alloc d).heap[W.heap.size+1]?=some d:=by
 have e:((W.alloc b).putObj (T+5) a).heap.size=W.heap.size+1:=by simp
 have c:∀ k,k<W.heap.size+1->(((W.alloc b).putObj (T+5) a).alloc d).heap[k]?=((W.alloc b).putObj (T+5) a).heap[k]?:=fun k f=>Below.heap_alloc _ _ _ (by omega)
 refine⟨((alloc_grown W b _).trans (grownBy_putObj' _ _ _)).trans (alloc_grown _ d _),?_,?_,?_⟩
 ·rw[c _ (by omega)];exact World.putObj_heap_same (by simp;omega)
 ·rw[c _ (by omega),World.putObj_heap_other (by omega)];exact heap_alloc_new W b
 ·have:=heap_alloc_new ((W.alloc b).putObj (T+5) a) d
  rw[e] at this;exact this
attribute [local go_sem] Oper.semAt_some
theorem stored3 {T i c:Nat}{p:Option Addr}{j:List Tok}{done:Obj}{b V Z:World}(s:V.cell? ⟨T,0,none⟩=some (.slice p i c))(t:V.cell? ⟨T+1,0,none⟩=some (.int .i64 0))(u:V.cell? ⟨T+1+1,0,none⟩=some (.int .i64 0))
  (g:OwnK b (T+6) p i c j) (d:V=b.putObj (T+5) done) (r:Z=((V.setCell ⟨T,0,none⟩ (.slice p i c)).setCell ⟨T+1,0,none⟩ (.int .i64 0)).setCell ⟨T+1+1,0,none⟩ (.int .i64 0)) :
  Z.cell? ⟨T,0,none⟩=some (.slice p i c)/\Z.cell? ⟨T+1,0,none⟩=some (.int .i64 0)/\Z.cell? ⟨T+1+1,0,none⟩=some (.int .i64 0)/\
   (∀ k,k≠T->k≠T+1->k≠T+1+1->k≠T+5->Z.heap[k]?=b.heap[k]?)/\OwnK Z (T+6) p i c j/\Z.os=b.os/\Z.tape=b.tape/\Z.output=b.output/\Z.heap.size=b.heap.size:=by
 have a:∀ (W:World) (B f o:Nat) (v:Value),B≠f->(W.setCell ⟨B,0,none⟩ v).cell? ⟨f,o,none⟩=W.cell? ⟨f,o,none⟩:=fun W B f o v h=>World.cell?_setCell_far W ⟨B,0,none⟩ ⟨f,o,none⟩ v h
 subst r;refine⟨?_,?_,?_,fun k l m n q=>?_,?_,?_,?_,?_,?_⟩
 ·rw[a _ _ _ _ _ (by omega),a _ _ _ _ _ (by omega)]
  exact World.cell?_setCell_same' _ _ _ (by rw[s];rfl)
 ·rw[a _ _ _ _ _ (by omega)]
  exact World.cell?_setCell_same' _ _ _ (by rw[a _ _ _ _ _ (by omega),t];rfl)
 ·exact World.cell?_setCell_same' _ _ _ (by rw[a _ _ _ _ _ (by omega),a _ _ _ _ _ (by omega),u];rfl)
 ·rw[heap_setCell_other _ ⟨T+1+1,0,none⟩ k _ (fun e=>n (by simpa using e)),heap_setCell_other _ ⟨T+1,0,none⟩ k _ (fun e=>m (by simpa using e)),heap_setCell_other _ ⟨T,0,none⟩ k _ (fun e=>l (by simpa using e)),d]
  exact World.putObj_heap_other q
 ·rw[d]
  exact(((g.grownS (S:=T+5) (by omega) (grownBy_putObj' _ _ _)).grownS (S:=T) (by omega) (grown_setCell _ ⟨T,0,none⟩ _)).grownS (S:=T+1) (by omega) (grown_setCell _ ⟨T+1,0,none⟩ _)).grownS (S:=T+1+1) (by omega) (grown_setCell _ ⟨T+1+1,0,none⟩ _)
 ·rw[d];exact(grown_setCell _ ⟨T+1+1,0,none⟩ _).os.trans ((grown_setCell _ ⟨T+1,0,none⟩ _).os.trans (grown_setCell _ ⟨T,0,none⟩ _).os)
 ·rw[d];exact(grown_setCell _ ⟨T+1+1,0,none⟩ _).tape.trans ((grown_setCell _ ⟨T+1,0,none⟩ _).tape.trans (grown_setCell _ ⟨T,0,none⟩ _).tape)
 ·rw[d];exact(grown_setCell _ ⟨T+1+1,0,none⟩ _).output.trans ((grown_setCell _ ⟨T+1,0,none⟩ _).output.trans (grown_setCell _ ⟨T,0,none⟩ _).output)
 ·rw[d];simp
theorem lexImpl_any (b A n:Nat)(xs:List Int)(m:Int)(w:World)(hb:Bytes xs)(hn:n=xs.length)(hl:n<=10000)(k9:n<=A)(hc:∀ i,i<xs.length->w.cell? ⟨b,i,none⟩=some (.int .u8 (xs.getD i 0)))(w6:b<w.heap.size)(hT:Tab w)
  (hM:w.cell? ⟨5,0,none⟩=some (.int .i64 m)) (hE:w.cell? ⟨3,0,none⟩=some (.iface 260 (.agg #[.pointer (some ⟨11,113,none⟩)]))) :
  Calls Tryz.prog 193 #[.slice (some ⟨b,0,none⟩) n A] w (LexSOut w (lexI xs 0 (-1) [])):=by
 have c1:∀ (fn:Fn) (first A:Array Value) (w:World),(Instr.makeFunc fn first A).run Tryz.prog w = .ok (.func fn first A) w:=fun _ _ _ _=>rfl
 have b9:¬ (10000:Int)<(n:Int):=by omega
 obtain⟨R,eR⟩:∃ R,R=lexI xs 0 (-1) []:=⟨_,rfl⟩
 have x5:Hid (R=lexI xs 0 (-1) []):=eR;rw[<-eR];clear eR;refine(callsIn_wide (n:=6)).1 ?_;refine callsIn_of_wp_marks Tryz.func193 rfl trivial ?_ rfl;simp only[Tryz.ntmps193,List.size_toArray,List.length_cons,List.length_nil,Nat.reduceAdd,Nat.reduceSub,Array.replicate_succ,Array.replicate_zero,List.push_toArray,List.append_toArray,List.nil_append,List.cons_append]
 gi_wp2_with fail
 obtain⟨T,B⟩:∃ T,T=w.heap.size:=⟨_,rfl⟩
 refine wpIn_range_pan (gf:=263) (first:=#[.pointer (some ⟨w.heap.size+1+1+1,0,none⟩)]) rfl (enters_of Tryz.func263 (by kernel_rfl) rfl) ?_;rintro l D s K done W1 hD hL k8 c3 c4 c5 F
 have eD:D=T+4:=by rw[hD,B];simp
 have eL:l=T+5:=by rw[hL,B];simp
 clear hD hL;subst eD;subst eL;obtain⟨x,x2,k0,k1,k2,U,k4,k5⟩:=lay6 w _ _ _ _ _ _ W1 k8;rw[<-B] at x2 k0 k1 k2 U k4 k5
 have h8:Hid (JL w T s [] W1):=by
  refine⟨by rw[B];exact x,by omega,⟨none,0,0,cell_of_row _ _ 0 _ _ _ k0,OwnK.nil _ _⟩,frozen_of_row _ _ _ _ _ k0,⟨cell_of_row _ _ 0 _ _ _ k1,frozen_of_row _ _ _ _ _ k1⟩,⟨cell_of_row _ _ 0 _ _ _ k2,frozen_of_row _ _ _ _ _ k2⟩,k4,k5⟩
 have HG:Geo (T+3) b T:=⟨by rw[B];exact w6,by rw[B];exact World.block_lt_of_cell? _ _ (hT 0 (by decide)),by rw[B];exact World.block_lt_of_cell? _ _ hM,by omega⟩
 have HS:SSt W1 (T+3) b n A xs m 0 (-1):=by
  refine⟨⟨hb,hn,k9,hl,by rw[hn];exact cell_of_row _ _ 0 _ _ _ U,cell_of_row _ _ 1 _ _ _ U,fun j=>frozen_of_row _ _ _ _ _ U,by omega,fun i hi=>cell_later x (hc i hi),hT.below x⟩,cell_later x hM,0,0,0,_,_,cell_of_row _ _ 2 _ _ _ U,cell_of_row _ _ 3 _ _ _ U,cell_of_row _ _ 4 _ _ _ U,cell_of_row _ _ 5 _ _ _ U,cell_of_row _ _ 6 _ _ _ U,by decide,by decide,by decide⟩
 rw[<-B]
 show CallsIn _ _ _ _ #[.pointer (some ⟨T+3,0,none⟩),.func (.yield (T+5)) #[] #[]] W1 _
 have I:Hid _:=F;have x9:Hid (Below w.heap.size w W1):=x;clear F k0 k1 k2 U k4 k5 x k8;refine(tokens_in (T+3) b n A T (T+5) 5 xs m HG (JL w T s) (fun ts W Q h G=>h.grown G) ?round W1 HS h8.o).mono ?post
 case round=>
  intro ts W0 W X u t p k L ys v f h7 G w5 ho
  have hg:=f.grown G;refine I.o _ W _ rfl hg.record ?_;rw[<-B];obtain⟨p0,n0,c0,h6,y⟩:=f.box;have z:=f.top;have P:=hg.top
  obtain⟨oS,x1⟩:∃ oS,W.heap[T+3]?=some oS:=⟨_,Array.getElem?_eq_getElem (by omega)⟩
  have cT:W.cell? ⟨T,0,none⟩=some (.slice p0 n0 c0):=(World.cell?_of_block (a:=⟨T,0,none⟩) (G.block T (by omega) (by simp))).trans h6
  have c2:n0<=10000:=by rw[y.1];exact h7
  obtain⟨GV,g5,gA,gB⟩:=round_world W T (.cells #[.int .i64 X,.int .i64 u,.int .i64 t,.slice p k L,.int .i64 v] 251) (.cells #[.int .i64 X,.int .i64 u,.int .i64 t,.slice p k L,.int .i64 v] 251) K P
  obtain⟨J,h1⟩:∃ J,J=(W.alloc (.cells #[.int .i64 X,.int .i64 u,.int .i64 t,.slice p k L,.int .i64 v] 251)).putObj (T+5) K:=⟨_,rfl⟩
  have e6:J.heap.size=W.heap.size+1:=by rw[h1];simp
  rw[<-h1] at GV g5 gA gB
  have M:∀ j,j<W.heap.size+1->(J.alloc (.cells #[.int .i64 X,.int .i64 u,.int .i64 t,.slice p k L,.int .i64 v] 251)).heap[j]?=J.heap[j]?:=fun j f=>Below.heap_alloc _ _ _ (by omega)
  obtain⟨⟨a0,a1,a2,a3,a4⟩,af⟩:=five_cells ((M _ (by omega)).symm.trans gA);have e5:(J.alloc (.cells #[.int .i64 X,.int .i64 u,.int .i64 t,.slice p k L,.int .i64 v] 251)).heap[T]?=W.heap[T]?:=GV.block T (by omega) (by simp);have b0:J.cell? ⟨T,0,none⟩=some (.slice p0 n0 c0):=(World.cell?_of_block (a:=⟨T,0,none⟩) ((M T (by omega)).symm.trans e5)).trans cT
  obtain⟨X0,h2⟩:∃ X0,X0=(W0.putObj (T+3) oS).putObj (T+5) K:=⟨_,rfl⟩
  have h3:X0.heap.size=W0.heap.size:=by rw[h2];simp
  have x3:Hid (Below X0.heap.size X0 (J.alloc (.cells #[.int .i64 X,.int .i64 u,.int .i64 t,.slice p k L,.int .i64 v] 251))):=by rw[h3,h2];exact round_before G z x1 GV g5
  have e8:Hid (JL w T s ts W):=hg
  have w2:Hid (OwnK X0 (T+6) p0 n0 c0 ts):=by rw[h2];exact hybrid_own y
  have w3:Hid (T+6<=X0.heap.size):=by rw[h3];exact z
  have w1:Hid (OwnT (J.alloc (.cells #[.int .i64 X,.int .i64 u,.int .i64 t,.slice p k L,.int .i64 v] 251)) X0.heap.size p k L ys):=by rw[h3];exact ho.toT.grownS (S:=T+5) (by omega) GV
  have e9:Hid _:=news_rt (r:=((X,(u:Int),(t:Int),v),p,k,L)) gB;rw[<-e6] at e9;have x8:Hid _:=GV;have x7:Hid _:=g5;have k7:Hid _:=e5;have x4:Hid (W.cell? ⟨T,0,none⟩=some (.slice p0 n0 c0)):=cT;have b8:Hid (J.heap.size=W.heap.size+1):=e6;have k6:Hid ((W.alloc (.cells #[.int .i64 X,.int .i64 u,.int .i64 t,.slice p k L,.int .i64 v] 251)).heap[T+5]?=some s):=(Below.heap_alloc _ _ _ (by omega)).trans hg.record;have e7:Hid _:=h1;have h9:Hid (T=w.heap.size):=B;clear f hg y h6 ho GV g5 gA gB G I x9 HS h8 HG M e5 cT e6 h3 h2 h1 x1 z P B w5 h7 x2
  gi_wp2_with fail
  refine⟨k6.o,?_⟩;rw[<-e7.o];clear e7 k6;refine wpIn_block ?_;refine wpIn_region_round (by simp[noDefer]) ?_;go_wp2_with (refine app_tok X0 _ rfl _ _ rfl (T+6) p0 n0 c0 ts rfl w2.o x3.o w3.o ⟨J.heap.size,0,none⟩ 1 rfl (X,(u:Int),(t:Int),v) p k L ys w1.o e9.o (by omega) ?_;intro g7 n7 b7 w7 O h4 w9 b2;have x6:Hid _:=round_after e8.o x8.o x7.o h4 O;have c7:w7.cell? ⟨T,0,none⟩=some (.slice p0 n0 c0):=(World.cell?_of_block (a:=⟨T,0,none⟩) ((h4.block T (by omega)).trans k7.o)).trans x4.o;have f7:w7.frozen? ⟨T,0,none⟩=false:=(frozen_of_block ((h4.block T (by omega)).trans k7.o)).trans e8.o.fz;clear O h4 w9 b2);exact x6.o
 case post=>
  rintro e Q N;rw[<-x5.o] at N
  cases R with
  | ok ts=>
    obtain⟨⟨v,rfl⟩,f⟩:=N;obtain⟨p,nn,c,h5,y⟩:=f.box;refine⟨f.record,?_⟩
    have E:∀ k,k≠T+5->(Q.putObj (T+5) done).heap[k]?=Q.heap[k]?:=fun k h=>World.putObj_heap_other h
    obtain⟨V,eV⟩:∃ V,V=Q.putObj (T+5) done:=⟨_,rfl⟩
    rw[<-eV] at E ⊢;have v0:V.cell? ⟨T,0,none⟩=some (.slice p nn c):=(World.cell?_of_block (a:=⟨T,0,none⟩) (E T (by omega))).trans h5;have v1:V.cell? ⟨T+1,0,none⟩=some (.int .i64 0):=(World.cell?_of_block (a:=⟨T+1,0,none⟩) (E (T+1) (by omega))).trans f.code.1;have v2:V.cell? ⟨T+1+1,0,none⟩=some (.int .i64 0):=(World.cell?_of_block (a:=⟨T+2,0,none⟩) (E (T+2) (by omega))).trans f.place.1;have f0:V.frozen? ⟨T,0,none⟩=false:=(frozen_of_block (E T (by omega))).trans f.fz;have f1:V.frozen? ⟨T+1,0,none⟩=false:=(frozen_of_block (E (T+1) (by omega))).trans f.code.2;have f2:V.frozen? ⟨T+1+1,0,none⟩=false:=(frozen_of_block (E (T+2) (by omega))).trans f.place.2;have HJ:Hid (JL w T s ts Q):=f;have HV:Hid (V=Q.putObj (T+5) done):=eV;have HO:Hid (OwnK Q (T+6) p nn c ts):=y
    have h9:Hid (T=w.heap.size):=B;clear E eV f h5 y I h8 HS HG hT hM hE hc B
    gi_wp2_with fail
    obtain⟨Z,eZ⟩:∃ Z,Z=((V.setCell ⟨T,0,none⟩ (.slice p nn c)).setCell ⟨T+1,0,none⟩ (.int .i64 0)).setCell ⟨T+1+1,0,none⟩ (.int .i64 0):=⟨_,rfl⟩
    rw[<-eZ];obtain⟨z0,z1,z2,GZ,OZ,b5,b6,b4,c6⟩:=stored3 v0 v1 v2 HO.o HV.o eZ;have b1:Z.heap[T+4]?=some (.deferred (some [])):=(GZ (T+4) (by omega) (by omega) (by omega) (by omega)).trans HJ.o.mark;have d:=HJ.o.low;have z:=HJ.o.top
    obtain⟨Y,C⟩:∃ Y,Y=Z.putObj (T+4) (.deferred none):=⟨_,rfl⟩
    have H:∀ k,k≠T+4->Y.heap[k]?=Z.heap[k]?:=fun k h=>by rw[C];exact World.putObj_heap_other h
    have y0:Y.cell? ⟨T,0,none⟩=some (.slice p nn c):=(World.cell?_of_block (a:=⟨T,0,none⟩) (H T (by omega))).trans z0;have y1:Y.cell? ⟨T+1,0,none⟩=some (.int .i64 0):=(World.cell?_of_block (a:=⟨T+1,0,none⟩) (H (T+1) (by omega))).trans z1;have y2:Y.cell? ⟨T+1+1,0,none⟩=some (.int .i64 0):=(World.cell?_of_block (a:=⟨T+1+1,0,none⟩) (H (T+1+1) (by omega))).trans z2
    have oY:OwnK Y (T+6) p nn c ts:=by rw[C];exact OZ.grownS (S:=T+4) (by omega) (grownBy_putObj' _ _ _)
    have bY:Below w.heap.size w Y:=by
     have e1:Y.os=Z.os:=by rw[C];rfl
     have e2:Y.tape=Z.tape:=by rw[C];rfl
     have e3:Y.output=Z.output:=by rw[C];rfl
     have e4:Y.heap.size=Z.heap.size:=by rw[C];simp
     rw[<-h9.o];exact⟨e1.trans (b5.trans d.os),e2.trans (b6.trans d.tape),e3.trans (b4.trans d.output),by have:=d.size;omega,fun k E=>(H k (by omega)).trans ((GZ k (by omega) (by omega) (by omega) (by omega)).trans (d.block k E))⟩
    have b3:OwnK Y w.heap.size p nn c ts:=oY.mono (by have:=h9.o;omega);refine⟨by simp,.inl ⟨_,_,rfl,run_takeDeferred b1,?_⟩⟩;rw[<-C];refine⟨by simp,.inr ⟨fun _=>by decide,_,_,261,#[.pointer (some ⟨T,0,none⟩),.pointer (some ⟨T+1,0,none⟩),.pointer (some ⟨T+1+1,0,none⟩)],rfl,by simp[invoke,go_sem],fun g _=>trivial,(lexD_idle _ (.pointer (some ⟨T,0,none⟩)) (.pointer (some ⟨T+1,0,none⟩)) (.pointer (some ⟨T+1+1,0,none⟩)) _).mono ?_⟩⟩;rintro e u' w' ⟨rfl,rfl,rfl⟩;refine⟨.tuple #[.slice p nn c,.int .i64 0,.int .i64 0],by simp[results,Tryz.results193,go_sem,y0,y1,y2],p,nn,c,rfl,b3,bY⟩
  | error r=>
    obtain⟨cd,q⟩:=r;obtain⟨w8,ts,f⟩:=N
    cases w8
    have d:=f.low;have z:=f.top;obtain⟨p,nn,c,h5,_⟩:=f.box
    obtain⟨Y,C⟩:∃ Y,Y=Q.putObj (T+4) (.deferred none):=⟨_,rfl⟩
    have H:∀ k,k≠T+4->Y.heap[k]?=Q.heap[k]?:=fun k h=>by rw[C];exact World.putObj_heap_other h
    have e4:Y.heap.size=Q.heap.size:=by rw[C];simp
    have y0:Y.cell? ⟨T,0,none⟩=some (.slice p nn c):=(World.cell?_of_block (a:=⟨T,0,none⟩) (H T (by omega))).trans h5;have y1:Y.cell? ⟨T+1,0,none⟩=some (.int .i64 0):=(World.cell?_of_block (a:=⟨T+1,0,none⟩) (H (T+1) (by omega))).trans f.code.1;have y2:Y.cell? ⟨T+1+1,0,none⟩=some (.int .i64 0):=(World.cell?_of_block (a:=⟨T+1+1,0,none⟩) (H (T+1+1) (by omega))).trans f.place.1;have f0:Y.frozen? ⟨T,0,none⟩=false:=(frozen_of_block (H T (by omega))).trans f.fz;have f1:Y.frozen? ⟨T+1,0,none⟩=false:=(frozen_of_block (H (T+1) (by omega))).trans f.code.2;have f2:Y.frozen? ⟨T+1+1,0,none⟩=false:=(frozen_of_block (H (T+1+1) (by omega))).trans f.place.2
    have bY:Below T w Y:=⟨by rw[C];exact d.os,by rw[C];exact d.tape,by rw[C];exact d.output,by have:=d.size;omega,fun k E=>(H k (by omega)).trans (d.block k E)⟩
    have w4:Y.cell? ⟨3,0,none⟩=some (.iface 260 (.agg #[.pointer (some ⟨11,113,none⟩)])):=(bY.cell (by rw[B];exact World.block_lt_of_cell? _ _ hE)).trans hE;refine⟨by simp,.inl ⟨_,_,rfl,run_takeDeferred f.mark,?_⟩⟩;rw[<-C];refine⟨by simp,.inr ⟨fun _=>by decide,_,_,261,#[.pointer (some ⟨T,0,none⟩),.pointer (some ⟨T+1,0,none⟩),.pointer (some ⟨T+1+1,0,none⟩)],rfl,by simp[invoke,go_sem],fun g _=>trivial,(lexD_panicking _ T (T+1) (T+1+1) _ _ _ cd q Y w4 y0 y1 y2 f0 f1 f2 rfl rfl).mono ?_⟩⟩;rintro e u' w' ⟨rfl,rfl,hs⟩;refine⟨.tuple #[.slice none 0 0,.int .i64 cd,.int .i64 q],by simp[results,Tryz.results193,go_sem,hs.toks,hs.code,hs.at_],rfl,?_⟩;rw[<-B];exact⟨hs.os.trans bY.os,hs.tape.trans bY.tape,hs.output.trans bY.output,Nat.le_trans bY.size hs.size,fun k E=>(hs.block k (by omega) (by omega) (by omega) (by omega)).trans (bY.block k E)⟩
end
section
open Go Go.RowKit
set_option linter.unusedSimpArgs false
def dsN (u:Nat):List Int:=(Lib.decDigits u).map fun x=>(x.toNat:Int)
theorem decW_pos {n:Int}(a:0<=n)(b:n<=1000000000000000):decW n=dsN n.toNat:=by
 have h:=dig_nat 19 n.toNat (by omega);rw[show(n.toNat:Int)=n by omega] at h;exact h
theorem decW_neg {n:Int}(a:n<0)(b : -1000000000000000<=n):decW n=45 :: dsN n.natAbs:=by
 have h:=dig_neg 19 n.natAbs (by omega) (by omega);rw[show -(n.natAbs:Int)=n by omega] at h;exact h
theorem dsN_small {u:Nat}(h:u<10):dsN u = [48+(u:Int)]:=by
 unfold dsN
 rw[Lib.decDigits_one h]
 simp
 omega
theorem dsN_big {u:Nat}(h:¬ u<10):dsN u=dsN (u / 10) ++ [48+((u % 10:Nat):Int)]:=by
 unfold dsN
 conv=>lhs;rw[Lib.decDigits,dif_neg h]
 simp
 omega
def Digs (L:List Int):Prop:=∀ x ∈ L,48<=x/\x<=57
theorem dsN_digs:∀ u:Nat,Digs (dsN u):=by
 intro u
 induction u using Nat.strongRecOn with
 | _ u a=>
   by_cases h:u<10
   ·rw[dsN_small h];intro x hx;simp at hx;omega
   ·rw[dsN_big h]
    intro x hx
    rcases List.mem_append.1 hx with hx | hx
    ·exact a (u / 10) (by omega) x hx
    ·simp at hx;omega
theorem dsN_ne:∀ u:Nat,dsN u≠[]:=by
 intro u
 by_cases h:u<10
 ·rw[dsN_small h];simp
 ·rw[dsN_big h];simp
theorem dsN_head:∀ u:Nat,0<u->(dsN u).head?≠some 48:=by
 intro u
 induction u using Nat.strongRecOn with
 | _ u b=>
   intro c
   by_cases h:u<10
   ·rw[dsN_small h];simp;omega
   ·have a:=b (u / 10) (by omega) (by omega)
    rw[dsN_big h];obtain⟨d,r,e⟩:=List.exists_cons_of_ne_nil (dsN_ne (u / 10));rw[e] at a ⊢
    simpa using a
theorem dsN_len:∀ (k u:Nat),u<10 ^ (k+1)->(dsN u).length<=k+1
 | 0,u,h=>by rw[dsN_small (by simpa using h)];simp
 | k+1,u,h=>by
   by_cases a:u<10
   ·rw[dsN_small a];simp
   ·rw[dsN_big a]
    have:=dsN_len k (u / 10) (by rw[Nat.pow_succ] at h;exact Nat.div_lt_of_lt_mul (by rw[Nat.mul_comm];exact h))
    simp;omega
def dvL:Int->List Int->Int
 | v,[]=>v
 | v,d :: r=>dvL (v * 10+(d-48)) r
theorem dvL_snoc:∀ (L:List Int) (v d:Int),dvL v (L ++ [d])=dvL v L * 10+(d-48)
 | [],v,d=>rfl
 | x :: r,v,d=>by simp only[List.cons_append,dvL];exact dvL_snoc r _ d
theorem dvL_ge:∀ (L:List Int) (v:Int),0<=v->Digs L->v<=dvL v L
 | [],v,_,_=>Int.le_refl _
 | d :: r,v,h,hd=>by
   have b:=hd d (by simp);have:=dvL_ge r (v * 10+(d-48)) (by omega) (fun x a=>hd x (by simp[a]));simp only[dvL]
   omega
theorem dvL_dsN:∀ u:Nat,dvL 0 (dsN u)=(u:Int):=by
 intro u
 induction u using Nat.strongRecOn with
 | _ u a=>
   by_cases h:u<10
   ·rw[dsN_small h];simp[dvL];omega
   ·rw[dsN_big h,dvL_snoc,a (u / 10) (by omega)];omega
theorem drop_getI {a:List Int}{i:Nat}{d:Int}{r:List Int}(h:a.drop i=d :: r):byteI a i=d/\a.drop (i+1)=r/\i<a.length:=by
 have b:i<a.length:=by
  have:=congrArg List.length h
  simp at this;omega
 rw[List.drop_eq_getElem_cons b] at h;obtain⟨c,e⟩:=List.cons.inj h;refine⟨?_,e,b⟩;rw[byteI_lt b,List.getD,List.getElem?_eq_getElem b];exact c
theorem digI_of {d:Int}(a:48<=d)(b:d<=57):digI d=d-48:=by unfold digI;rw[if_pos ⟨a,b⟩]
theorem digs_run (a:List Int):∀ (L:List Int) (i f:Nat) (v:Int),a.drop i=L->Digs L->L.length<=f->0<=v->dvL v L<=1000000000000000->digsB a 10 f i v=(dvL v L,i+L.length)
 | [],i,f,v,h,_,_,_,_=>by
   have c:a.length<=i:=by simpa using h
   cases f with
   | zero=>rfl
   | succ f=>unfold digsB;rw[byteI_ge c,if_neg (by decide)];rfl
 | d :: r,i,0,v,_,_,hf,_,_=>by simp at hf
 | d :: r,i,f+1,v,h,hd,hf,h0,hm=>by
   obtain⟨g,j,c⟩:=drop_getI h;have b:=hd d (by simp)
   have e:Digs r:=fun x l=>hd x (by simp[l])
   have k:=dvL_ge r (v * 10+(d-48)) (by omega) e;simp only[dvL] at hm ⊢
   unfold digsB
   rw[g,digI_of b.1 b.2,if_pos (by omega),Int.min_eq_left (by omega),digs_run a r (i+1) f _ j e (by simp at hf;omega) (by omega) hm]
   simp;omega
theorem cls_dig:(List.range 10).all (fun k=>!isOfB ((k:Int)+48) 1 && (!isOfB ((k:Int)+48) 2 && (isOfB ((k:Int)+48) 4 && (!isOfB ((k:Int)+48) 8 && !endsI ((k:Int)+48)))))=true:=by decide +kernel
theorem cls_of {d:Int}(a:48<=d)(b:d<=57):isOfB d 1=false/\isOfB d 2=false/\isOfB d 4=true/\isOfB d 8=false/\endsI d=false:=by
 have h:=List.all_eq_true.1 cls_dig (d-48).toNat (by simp;omega);rw[show(((d-48).toNat:Nat):Int)+48=d by omega] at h
 simpa using h
theorem numR_ds (b:List Int)(p u:Nat)(h:b.drop p=dsN u)(s:u<=1000000000000000):numR b p = .ok (3,(dsN u).length,[],(u:Int)):=by
 obtain⟨d,r,e⟩:=List.exists_cons_of_ne_nil (dsN_ne u);have j:=drop_getI (h.trans e)
 have i:b.length=p+(dsN u).length:=by
  have:=congrArg List.length h;rw[List.length_drop] at this;have:=j.2.2
  omega
 have a:=digs_run b (dsN u) p b.length 0 h (dsN_digs u) (by omega) (by omega) (by rw[dvL_dsN];omega);rw[dvL_dsN] at a
 have f:numI b p=some ((u:Int),p+(dsN u).length):=by
  unfold numI numF
  by_cases c:byteI b p=48
  ·have g:u=0:=by
    apply Classical.byContradiction
    intro o
    exact dsN_head u (by omega) (by rw[e];simp;exact j.1.symm.trans c)
   subst g
   have n:(dsN 0).length=1:=by rw[dsN_small (by decide)];rfl
   have k:byteI b (p+1) = -1:=byteI_ge (by omega);have l:byteI b (p+2) = -1:=byteI_ge (by omega);have q:=baseI_rng (-1)
   have m:digI (-1)=16:=by decide
   rw[if_neg (by omega),k,l,if_neg (by decide),if_neg (by omega),a]
  ·rw[if_pos c,a]
 unfold numR
 rw[f];simp only;rw[byteI_ge (by omega),if_neg (by decide +kernel),if_neg (by omega)]
 simp
theorem next_ds (c:List Int)(p u:Nat)(a:Bool)(h:c.drop p=dsN u)(i:u<=1000000000000000):nextR c a p = .ok (3,(dsN u).length,[],(u:Int)):=by
 obtain⟨d,r,e⟩:=List.exists_cons_of_ne_nil (dsN_ne u);have g:=drop_getI (h.trans e);have f:=dsN_digs u d (by rw[e];simp);have b:=cls_of f.1 f.2
 unfold nextR nextF
 rw[g.1,if_neg (by rw[b.1];decide),if_neg (by rw[b.2.1];decide),if_pos b.2.2.1];exact numR_ds c p u h i
theorem lay_ds (a:List Int)(p u:Nat)(h:a.drop p=dsN u):layI a p=some 0/\p<a.length:=by
 obtain⟨d,r,e⟩:=List.exists_cons_of_ne_nil (dsN_ne u);have c:=drop_getI (h.trans e);have b:=dsN_digs u d (by rw[e];simp);have f:=cls_of b.1 b.2;refine⟨?_,c.2.2⟩
 unfold layI
 rw[c.1,if_neg (by rw[f.2.2.2.2];simp),if_neg (by omega),if_neg (by omega)]
def numToks (n:Int):List Tok:=if n<0 then [((1,0,1,0),[45]),((3,1,((dsN n.natAbs).length:Int),(n.natAbs:Int)),[])] else [((3,0,((dsN n.toNat).length:Int),n),[])]
theorem lex_num {n:Int}(w : -1000000000000000<=n)(x:n<=1000000000000000):lexI (decW n) 0 (-1) [] = .ok (numToks n):=by
 by_cases k:n<0
 ·rw[numToks,if_pos k,decW_neg k w]
  obtain⟨u,i⟩:∃ u,u=n.natAbs:=⟨_,rfl⟩
  rw[<-i]
  have l:u<=1000000000000000:=by omega
  obtain⟨a,b⟩:∃ a,a=45 :: dsN u:=⟨_,rfl⟩
  rw[<-b]
  have f:a.drop 1=dsN u:=by rw[b];rfl
  have s:a.length=(dsN u).length+1:=by rw[b];rfl
  obtain⟨o,j⟩:=lay_ds a 1 u f
  have p:byteI a 0=45:=by rw[byteI_lt (by omega),b];rfl
  obtain⟨d,r,e⟩:=List.exists_cons_of_ne_nil (dsN_ne u);have q:=dsN_digs u d (by rw[e];simp);have y:=cls_of q.1 q.2
  have A:layI a 0=some 0:=by
   unfold layI
   rw[p,if_neg (by decide),if_neg (by decide),if_neg (fun h=>by have:=h.1;omega)]
  have z:runI 8 a 0=1:=by
   unfold runI
   rw[List.drop_zero,b,e];simp only[runLen];rw[if_pos (by decide +kernel),if_neg (by rw[y.2.2.2.1];decide)]
  have B:nextR a (decide ((-1:Int)=((0:Nat):Int))) 0 = .ok (1,1,[45],0):=by
   unfold nextR nextF
   rw[p,if_neg (by decide +kernel),if_neg (by decide +kernel),if_neg (by decide +kernel),if_neg (fun h=>absurd h.1 (by decide)),if_pos (by decide +kernel)]
   unfold runR
   rw[z,if_neg (by decide),List.drop_zero,b];rfl
  have g:1<=(dsN u).length:=by rw[e];simp
  unfold lexI
  rw[show a.length+1-0=(a.length-1)+1+1 by omega]
  unfold lexF
  rw[if_neg (by omega),A];simp only[Nat.lt_irrefl,if_false];rw[B];simp only[Nat.zero_add,List.nil_append]
  unfold lexF
  rw[if_neg (by omega),o];simp only[Nat.lt_irrefl,if_false];rw[next_ds a 1 u _ f l];simp only;rw[show a.length-1=(a.length-2)+1 by omega]
  unfold lexF
  rw[if_pos (by omega)]
  rfl
 ·rw[numToks,if_neg k,decW_pos (by omega) x]
  obtain⟨u,i⟩:∃ u,u=n.toNat:=⟨_,rfl⟩
  have v:n=(u:Int):=by omega
  rw[<-i,v]
  have l:u<=1000000000000000:=by omega
  obtain⟨a,b⟩:∃ a,a=dsN u:=⟨_,rfl⟩
  have c:a.drop 0=dsN u:=by rw[b];rfl
  obtain⟨o,j⟩:=lay_ds a 0 u c;rw[<-b]
  have g:a.length=(dsN u).length:=by rw[b]
  unfold lexI
  rw[show a.length+1-0=a.length+1 by omega]
  unfold lexF
  rw[if_neg (by omega),o];simp only[Nat.lt_irrefl,if_false];rw[next_ds a 0 u _ c l];simp only[Nat.zero_add,List.nil_append]
  obtain⟨m,t⟩:∃ m,a.length=m+1:=⟨a.length-1,by omega⟩
  rw[<-g,t]
  unfold lexF
  rw[if_pos (by omega)]
  rfl
end
end Go.Proofs.YtnfnddnffoigfaaGreatDoor
