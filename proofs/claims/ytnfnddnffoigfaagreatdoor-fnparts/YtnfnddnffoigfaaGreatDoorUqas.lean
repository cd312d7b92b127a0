/- Texts of Dt6, Dt8, Dt9, Dt10, Dt11, Dt12, Dt13, Dt14, OrL1, FxA, FxB. Own work of the verifier. -/
import Derived.Test.YtnfnddnffoigfaaGreatDoorUqam
import Derived.Test.YtnfnddnffoigfaaGreatDoorUqak
import Derived.Test.YtnfnddnffoigfaaGreatDoorUqaq
namespace Go.Proofs.YtnfnddnffoigfaaGreatDoor
set_option maxHeartbeats 4000000
set_option linter.unusedVariables false
set_option maxRecDepth 100000
section
open Go Go.RowKit
theorem str_made (w:World)(L:List (List UInt8))(t:TypeId)(i:Nat)(h:i<L.length):(w.alloc (.cells (L.map strV).toArray t)).cell? ⟨w.heap.size,i,none⟩=some (.string (strOfNums (numsU (L.getD i [])))):=by
 rw[cell_lit w (L.map strV) t i (by rw[List.length_map];exact h)];simp only[List.getElem_map,List.getD,List.getElem?_eq_getElem h,strOf_numsU];rfl
theorem OwnC.keepR {w t:World}{B R:Nat}{p:Option Addr}{n c:Nat}{l:List Cel}(h:OwnC w B p n c l)(j:Keep R (R+1) w t)(C:R<B):OwnC t B p n c l:=by
 obtain⟨rfl,z,v,s,a,ha⟩:=h;refine⟨rfl,z,v,⟨s.1,?_⟩,fun i b=>⟨(a i b).1,(a i b).2.1,(a i b).2.2.other j.size (fun g x e=>?_)⟩,ha⟩
 ·rcases s.2 with u | ⟨g,d,f,y,o,q,r⟩
  ·exact .inl u
  ·exact .inr ⟨g,d,f,y,o,(j.block g (Array.getElem?_eq_some_iff.1 q).1 (.inr (by omega))).trans q,r⟩
 ·obtain⟨A,m,o,k,_⟩:=(a i b).2.2.2 x
  rw[e] at m
  cases m
  exact j.block g k (.inr (by omega))
theorem one_made (s:List Int)(p:Byte s)(w:World){m B n c:Nat}{q:Option Addr}{a:List Cel}(j:OwnC w B q n c a)(i:Sml m a)(o:m<=600) :
  Calls Tryz.prog 108 #[.string (strOfNums s),.slice (some ⟨w.heap.size,0,none⟩) 1 1] (w.alloc (.cells #[.slice q n c] 23)) fun e f=>∃ q m g,e = .returned (.slice q m g)/\OwnC f w.heap.size q m g ((3,1,s) :: a)/\Below w.heap.size w f:=by
 have h:Below w.heap.size w (w.alloc (.cells #[.slice q n c] 23)):=(Below.refl _ _).alloc (Nat.le_refl _) _;have r:=l2comp_any s p w.heap.size 1 1 [a] (w.alloc (.cells #[.slice q n c] 23)) rfl (by decide) (rows_one (q:=q) (c:=c) (by rw[<-j.1];exact cell_of_row _ _ 0 _ _ _ (heap_alloc_new w _)) (j.cin.below h) i.pos (i.few o).2);refine r.mono ?_;rintro e f ⟨u,t,k,l,d,b⟩;refine⟨u,t,k,l,?_,Below.on h b⟩;have:=d.mono (B':=w.heap.size) (by simp)
 simpa using this
theorem term_two (R c i m0:Nat)(p:Option Addr)(a:List Int)(D:Int)(f g:Nat->List Cel×Nat)(w:World)(h:RdIn w R p c a i)(hD : -10<=D/\D<=10)(hc:0<D)(hF:TermK R c p a (D-1) f)(hG:TermK R c p a (D-2) g)(e5:m0<=600)(hf:∀ i,Sml m0 (f i).1)(hg:∀ i,Sml m0 (g i).1)(h0:¬ rdN a i=a.length)(K:¬ (rdI a i).toNat<50)(L:¬ (rdI a i).toNat<90)(j:(rdI a i).toNat<180) :
  Calls Tryz.prog 34 #[.pointer (some ⟨R,0,none⟩),.int .i64 D] w (TermOut w R p c a (nodeT a f g i)):=by
 have HH:=hid h;have HF:=hid hF;have HG:=hid hG;have u:=hid hf;have b5:=hid hg;have h3:=hid e5;have hr:=rdI_rng h.bytes i;have e4:=rdN_le h.le;have w8:=h.small;have M:R<w.heap.size:=h.lt;have x8:=rdI_rng h.bytes (rdN a i)
 have I:Hid (nodeT a f g i=((3,2,numsU (binU.getD ((rdI a (rdN a i)).toNat % 17) [])) :: ((f (rdN a (rdN a i))).1 ++ (f (f (rdN a (rdN a i))).2).1),(f (f (rdN a (rdN a i))).2).2)):=by
  show _=_
  unfold nodeT
  simp only;rw[if_neg (by intro hh;rcases hh with hh | hh;exact h0 hh;exact K hh),if_neg L,if_pos j]
 obtain⟨n,en⟩:∃ n,n=a.length:=⟨_,rfl⟩
 rw[<-en] at e4 w8 h0;have k6:=hid en
 obtain⟨q,ei⟩:∃ q,q=rdN a i:=⟨_,rfl⟩
 rw[<-ei] at e4 x8 h0;rw[<-ei] at I;have k5:=hid ei;have hd:decide (D<=0)=false:=decide_eq_false (by omega)
 obtain⟨V,er⟩:∃ V,V=nodeT a f g i:=⟨_,rfl⟩
 rw[<-er];have Y:=hid er;clear h en ei hF hG hf hg e5 er
 go_enter Tryz.func34,Tryz.ntmps34
 go_wp2_with fail;refine(next_any R c i p a w HH.o).mono ?_;rintro e w2 ⟨rfl,e3,x9,h7⟩;have k7:=hid e3
 have h5:Hid (RdIn w2 R p c a q):=by rw[k5.o];exact h7
 obtain⟨x,ex⟩:∃ x:Nat,rdI a i=x:=⟨(rdI a i).toNat,by omega⟩
 have e8:(rdI a i).toNat=x:=by rw[ex];exact Int.toNat_natCast x
 rw[e8] at K L j;rw[ex] at hr ⊢;have b3:decide ((x:Int)<50)=false:=decide_eq_false (by omega);clear e3 x9 h7 ex e8;go_wp2_with fail;refine(left_any R c q p a w2 h5.o).mono ?_;rintro e b ⟨rfl,P⟩;have x7:=hid (h5.o.grow P);have H:=hid (k7.o.trans (Keep.of_below P));rw[<-k6.o]
 obtain⟨lf,el⟩:∃ lf,lf=n-q:=⟨_,rfl⟩
 rw[<-el]
 have b6:lf<=500:=by omega
 have b8:((lf:Int) == 0)=false:=by simp;omega
 clear P el;have b4:decide ((x:Int)<90)=false:=decide_eq_false (by omega);have w9:decide ((x:Int)<180)=true:=decide_eq_true (by omega)
 obtain⟨y,ey⟩:∃ y:Nat,rdI a q=y:=⟨(rdI a q).toNat,by omega⟩
 have hy:y<256:=by omega
 obtain⟨z,ez⟩:∃ z,z=y % 17:=⟨_,rfl⟩
 have hz:z<17:=by omega
 have b9:(0:Int)<=(z:Int):=by omega
 have c1:(z:Int)<17:=by omega
 have c2:(z:Int).toNat=z:=Int.toNat_natCast z
 have b2:IntKind.i64.wrap (D-1)=D-1:=by rw[IntKind.wrap_i64];omega
 have b7:(y:Int).tmod 17=(z:Int):=by rw[ez,Int.tmod_eq_emod_of_nonneg (by omega)];rfl
 obtain⟨t,es⟩:∃ s,s=numsU (binU.getD z []):=⟨_,rfl⟩
 have k1:Hid (Byte t):=by rw[es];exact byte_numsU _
 obtain⟨r,J⟩:∃ r,r=rdN a q:=⟨_,rfl⟩
 have HV:Hid (V=((3,2,t) :: ((f r).1 ++ (f (f r).2).1),(f (f r).2).2)):=by
  show _=_
  rw[Y.o,I.o,ey,Int.toNat_natCast,<-ez,<-es,<-J]
 obtain⟨X,eB⟩:∃ X,X=b.alloc (.cells (binU.map strV).toArray 9):=⟨_,rfl⟩
 obtain⟨B,eA⟩:∃ B,B=X.alloc (.cells (unaU.map strV).toArray 9):=⟨_,rfl⟩
 have w7:X.heap.size=b.heap.size+1:=by rw[eB];simp
 have e2:Below b.heap.size b X:=by rw[eB];exact(Below.refl _ _).alloc (Nat.le_refl _) _
 have l:Below X.heap.size X B:=by rw[eA];exact(Below.refl _ _).alloc (Nat.le_refl _) _
 have O:Below b.heap.size b B:=Below.on e2 l
 have m:B.cell? ⟨b.heap.size,z,none⟩=some (.string (strOfNums t)):=by
  have h1:=str_made b binU 9 z hz;rw[<-eB,<-es] at h1;exact(l.cell (p:=⟨b.heap.size,z,none⟩) (by show b.heap.size<_;omega)).trans h1
 have x1:=hid (H.o.trans (Keep.of_below O))
 have x6:Hid (∀ k,RdIn (B.drewN k) R p c a q):=fun k=>(x7.o.grow O).grow (below_drewN (Below.refl _ _) k)
 have h2:Hid (∀ k,Keep R (R+1) w (B.drewN k)):=fun k=>x1.o.trans (Keep.of_below (below_drewN (Below.refl _ _) k))
 have d:Hid (R<b.heap.size):=Nat.lt_of_lt_of_le M (Nat.le_trans H.o.size (by omega))
 have k4:Hid (∀ k,(B.drewN k).cell? ⟨b.heap.size,z,none⟩=some (.string (strOfNums t))):=fun k=>m
 have HN:Hid (∀ W,RdIn W R p c a q->Calls Tryz.prog 33 #[.pointer (some ⟨R,0,none⟩)] W fun e w'=>e = .returned (.int .i64 (y:Int))/\Keep R (R+1) W w'/\w'.heap.size=W.heap.size/\RdIn w' R p c a r):=fun W hW=>by
  have:=next_any R c q p a W hW;rw[ey,<-J] at this;exact this
 have C:True:=trivial;rw[eB] at eA
 have h6:B=(b.alloc (Obj.cells #[.string ⟨#[45]⟩,.string ⟨#[43]⟩,.string ⟨#[61]⟩,.string ⟨#[44]⟩,.string ⟨#[58,45]⟩,.string ⟨#[59]⟩,.string ⟨#[45,62]⟩,.string ⟨#[105,115]⟩,.string ⟨#[94]⟩,.string ⟨#[42,42]⟩,.string ⟨#[42]⟩,.string ⟨#[64,64]⟩,.string ⟨#[109,111,100]⟩,.string ⟨#[102]⟩,.string ⟨#[45,45,62]⟩,.string ⟨#[114]⟩,.string ⟨#[113]⟩] 9)).alloc (Obj.cells #[.string ⟨#[45]⟩,.string ⟨#[92,43]⟩,.string ⟨#[58,45]⟩,.string ⟨#[43]⟩,.string ⟨#[123,125]⟩,.string ⟨#[100,121,110,97,109,105,99]⟩,.string ⟨#[103]⟩,.string ⟨#[92]⟩,.string ⟨#[112]⟩,.string ⟨#[64,64]⟩,.string ⟨#[91,93]⟩,.string ⟨#[33]⟩] 9):=by rw[eA];rfl
 have b1:R<b.heap.size:=Nat.lt_of_lt_of_le M H.o.size;clear K O e2 l I Y ey ez es J eB eA L j;clear w7;go_wp2_with fail;rw[<-h6];clear h6
 go_region_held3 (fun W=>W.cell? ⟨b.heap.size,z,none⟩=some (.string (strOfNums t))) (first | exact A | exact m | go_keep)
  (first
    | (have _t:=C;go_at_call 33;refine Calls.mono (HN.o _ (x6.o 1)) ?_;rintro e w3 ⟨rfl,S,w1,h8⟩;have Z:Hid (Keep R (R+1) w w3):=(h2.o 1).trans S;have x3:=hid h8;have A:w3.cell? ⟨b.heap.size,z,none⟩=some (.string (strOfNums t)):=S.cell (k4.o 1) (.inr d.o);have k2:=hid A;clear S w1 h8 C;have E:True:=trivial)
    | (have _t:=E;go_at_call 34;refine Calls.mono (HF.o r w3 x3.o) ?_;rintro e w4 ⟨q4,n4,c4,rfl,e6,T,h9⟩;have k8:=hid (Z.o.trans T);have x4:=hid h9;have h4:=hid e6;have A:w4.cell? ⟨b.heap.size,z,none⟩=some (.string (strOfNums t)):=T.cell k2.o (.inr d.o);have k3:=hid A;clear T e6 h9 E;have F:True:=trivial)
    | (have _t:=F;go_at_call 34;refine Calls.mono (HF.o (f r).2 w4 x4.o) ?_;rintro e w5 ⟨q5,n5,c5,rfl,U,v,e1⟩;have k9:=hid (k8.o.trans v);have x5:=hid e1;have HL:=l2pair_any t k1.o q4 q5 n4 n5 c4 c5 (f r).1 (f (f r).2).1 w5 h4.o.1 U.1 (h4.o.keepR v (Nat.le_trans (by have:=M;have:=Z.o.size;omega) (Nat.le_refl _))).cin U.cin (u.o _).pos (u.o _).pos ((u.o _).few h3.o).2 ((u.o _).few h3.o).2;have x2:Hid _:=HL;have A:w5.cell? ⟨b.heap.size,z,none⟩=some (.string (strOfNums t)):=v.cell k3.o (.inr d.o);clear v U e1 F HL;have G:True:=trivial)
    | (have _t:=G;go_at_call 107;refine Calls.mono x2.o ?_;rintro e w6 ⟨q6,n6,c6,rfl,e7,N⟩;have e9:Hid _:=TermOut.of k9.o x5.o e7 N;have A:w6.cell? ⟨b.heap.size,z,none⟩=some (.string (strOfNums t)):=(N.cell (World.block_lt_of_cell? _ _ A)).trans A;clear e7 N G))
 rename_i Q;clear Q
 clear A;go_wp2_with fail;go_ret;rw[HV.o];exact e9.o
theorem term_one (R c i m0:Nat)(p:Option Addr)(a:List Int)(D:Int)(f g:Nat->List Cel×Nat)(w:World)(h:RdIn w R p c a i)(hD : -10<=D/\D<=10)(hc:0<D)(hF:TermK R c p a (D-1) f)(hG:TermK R c p a (D-2) g)(h8:m0<=600)(hf:∀ i,Sml m0 (f i).1)(hg:∀ i,Sml m0 (g i).1)(h0:¬ rdN a i=a.length)(H:¬ (rdI a i).toNat<50)(d:¬ (rdI a i).toNat<180)(j:(rdI a i).toNat<230) :
  Calls Tryz.prog 34 #[.pointer (some ⟨R,0,none⟩),.int .i64 D] w (TermOut w R p c a (nodeT a f g i)):=by
 have HH:=hid h;have HF:=hid hF;have HG:=hid hG;have x2:=hid hf;have w8:=hid hg;have k5:=hid h8;have hr:=rdI_rng h.bytes i;have h7:=rdN_le h.le;have x6:=h.small;have h4:R<w.heap.size:=h.lt;have x3:=rdI_rng h.bytes (rdN a i)
 have F:Hid (nodeT a f g i=((3,1,numsU (unaU.getD ((rdI a (rdN a i)).toNat % 12) [])) :: (f (rdN a (rdN a i))).1,(f (rdN a (rdN a i))).2)):=by
  show _=_
  unfold nodeT
  simp only;rw[if_neg (by intro hh;rcases hh with hh | hh;exact h0 hh;exact H hh),if_neg (by omega),if_neg d,if_pos j]
 obtain⟨n,en⟩:∃ n,n=a.length:=⟨_,rfl⟩
 rw[<-en] at h7 x6 h0;have e9:=hid en
 obtain⟨m,ei⟩:∃ m,m=rdN a i:=⟨_,rfl⟩
 rw[<-ei] at h7 x3 h0;rw[<-ei] at F;have e8:=hid ei;have hd:decide (D<=0)=false:=decide_eq_false (by omega)
 obtain⟨P,er⟩:∃ P,P=nodeT a f g i:=⟨_,rfl⟩
 rw[<-er];have T:=hid er;clear h en ei hF hG hf hg h8 er
 go_enter Tryz.func34,Tryz.ntmps34
 go_wp2_with fail;refine(next_any R c i p a w HH.o).mono ?_;rintro e w2 ⟨rfl,h6,x4,Z⟩;have k1:=hid h6
 have V:Hid (RdIn w2 R p c a m):=by rw[e8.o];exact Z
 obtain⟨x,ex⟩:∃ x:Nat,rdI a i=x:=⟨(rdI a i).toNat,by omega⟩
 have e3:(rdI a i).toNat=x:=by rw[ex];exact Int.toNat_natCast x
 rw[e3] at H d j;rw[ex] at hr ⊢;have w5:decide ((x:Int)<50)=false:=decide_eq_false (by omega);clear h6 x4 Z ex e3;go_wp2_with fail;refine(left_any R c m p a w2 V.o).mono ?_;rintro e b ⟨rfl,K⟩;have x1:=hid (V.o.grow K);have E:=hid (k1.o.trans (Keep.of_below K));rw[<-e9.o]
 obtain⟨lf,el⟩:∃ lf,lf=n-m:=⟨_,rfl⟩
 rw[<-el]
 have w9:lf<=500:=by omega
 have b2:((lf:Int) == 0)=false:=by simp;omega
 clear K el;have w7:decide ((x:Int)<90)=false:=decide_eq_false (by omega);have x7:decide ((x:Int)<180)=false:=decide_eq_false (by omega);have x8:decide ((x:Int)<230)=true:=decide_eq_true (by omega)
 obtain⟨y,ey⟩:∃ y:Nat,rdI a m=y:=⟨(rdI a m).toNat,by omega⟩
 have hy:y<256:=by omega
 obtain⟨z,ez⟩:∃ z,z=y % 12:=⟨_,rfl⟩
 have hz:z<12:=by omega
 have b3:(0:Int)<=(z:Int):=by omega
 have b4:(z:Int)<12:=by omega
 have b5:(z:Int).toNat=z:=Int.toNat_natCast z
 have w1:IntKind.i64.wrap (D-1)=D-1:=by rw[IntKind.wrap_i64];omega
 have b1:(y:Int).tmod 12=(z:Int):=by rw[ez,Int.tmod_eq_emod_of_nonneg (by omega)];rfl
 obtain⟨q,es⟩:∃ s,s=numsU (unaU.getD z []):=⟨_,rfl⟩
 have e5:Hid (Byte q):=by rw[es];exact byte_numsU _
 obtain⟨O,G⟩:∃ O,O=rdN a m:=⟨_,rfl⟩
 have HV:Hid (P=((3,1,q) :: (f O).1,(f O).2)):=by
  show _=_
  rw[T.o,F.o,ey,Int.toNat_natCast,<-ez,<-es,<-G]
 obtain⟨C,eB⟩:∃ C,C=b.alloc (.cells (binU.map strV).toArray 9):=⟨_,rfl⟩
 obtain⟨r,X⟩:∃ r,r=C.alloc (.cells (unaU.map strV).toArray 9):=⟨_,rfl⟩
 have e2:C.heap.size=b.heap.size+1:=by rw[eB];simp
 have h5:Below b.heap.size b C:=by rw[eB];exact(Below.refl _ _).alloc (Nat.le_refl _) _
 have u:Below C.heap.size C r:=by rw[X];exact(Below.refl _ _).alloc (Nat.le_refl _) _
 have J:Below b.heap.size b r:=Below.on h5 u
 have l:r.cell? ⟨b.heap.size+1,z,none⟩=some (.string (strOfNums q)):=by
  have h1:=str_made C unaU 9 z hz;rw[<-X,<-es,e2] at h1;exact h1
 have k4:=hid (E.o.trans (Keep.of_below J))
 have k9:Hid (∀ k,RdIn (r.drewN k) R p c a m):=fun k=>(x1.o.grow J).grow (below_drewN (Below.refl _ _) k)
 have U:Hid (∀ k,Keep R (R+1) w (r.drewN k)):=fun k=>k4.o.trans (Keep.of_below (below_drewN (Below.refl _ _) k))
 have t:Hid (R<b.heap.size+1):=Nat.lt_of_lt_of_le h4 (Nat.le_trans E.o.size (by omega))
 have e7:Hid (∀ k,(r.drewN k).cell? ⟨b.heap.size+1,z,none⟩=some (.string (strOfNums q))):=fun k=>l
 have HN:Hid (∀ W,RdIn W R p c a m->Calls Tryz.prog 33 #[.pointer (some ⟨R,0,none⟩)] W fun e w'=>e = .returned (.int .i64 (y:Int))/\Keep R (R+1) W w'/\w'.heap.size=W.heap.size/\RdIn w' R p c a O):=fun W hW=>by
  have:=next_any R c m p a W hW;rw[ey,<-G] at this;exact this
 have v:True:=trivial;rw[eB] at X
 have Y:r=(b.alloc (Obj.cells #[.string ⟨#[45]⟩,.string ⟨#[43]⟩,.string ⟨#[61]⟩,.string ⟨#[44]⟩,.string ⟨#[58,45]⟩,.string ⟨#[59]⟩,.string ⟨#[45,62]⟩,.string ⟨#[105,115]⟩,.string ⟨#[94]⟩,.string ⟨#[42,42]⟩,.string ⟨#[42]⟩,.string ⟨#[64,64]⟩,.string ⟨#[109,111,100]⟩,.string ⟨#[102]⟩,.string ⟨#[45,45,62]⟩,.string ⟨#[114]⟩,.string ⟨#[113]⟩] 9)).alloc (Obj.cells #[.string ⟨#[45]⟩,.string ⟨#[92,43]⟩,.string ⟨#[58,45]⟩,.string ⟨#[43]⟩,.string ⟨#[123,125]⟩,.string ⟨#[100,121,110,97,109,105,99]⟩,.string ⟨#[103]⟩,.string ⟨#[92]⟩,.string ⟨#[112]⟩,.string ⟨#[64,64]⟩,.string ⟨#[91,93]⟩,.string ⟨#[33]⟩] 9):=by rw[X];rfl
 have x9:R<b.heap.size:=Nat.lt_of_lt_of_le h4 E.o.size;clear H J h5 u F T ey ez es G eB X d j;clear e2;go_wp2_with fail;rw[<-Y];clear Y
 go_region_held3 (fun W=>W.cell? ⟨b.heap.size+1,z,none⟩=some (.string (strOfNums q))) (first | exact Q | exact l | go_keep)
  (first
    | (have _t:=v;go_at_call 33;refine Calls.mono (HN.o _ (k9.o 1)) ?_;rintro e w3 ⟨rfl,M,x5,h2⟩;have k2:Hid (Keep R (R+1) w w3):=(U.o 1).trans M;have k7:=hid h2;have Q:w3.cell? ⟨b.heap.size+1,z,none⟩=some (.string (strOfNums q)):=M.cell (e7.o 1) (.inr t.o);have e6:=hid Q;clear M x5 h2 v;have A:True:=trivial)
    | (have _t:=A;go_at_call 34;refine Calls.mono (HF.o O w3 k7.o) ?_;rintro e w4 ⟨q4,n4,c4,rfl,h9,N,h3⟩;have k3:=hid (k2.o.trans N);have k8:=hid h3;have k6:=hid h9;have Q:w4.cell? ⟨b.heap.size+1,z,none⟩=some (.string (strOfNums q)):=N.cell e6.o (.inr t.o);have S:=hid Q;clear N h9 h3 A;have B:True:=trivial)
    | (have _t:=B;go_at_call 108;refine Calls.mono (one_made q e5.o w4 k6.o (x2.o O) k5.o) ?_;rintro e w6 ⟨q6,n6,c6,rfl,e1,I⟩;have e4:Hid _:=TermOut.of k3.o k8.o e1 I;have Q:w6.cell? ⟨b.heap.size+1,z,none⟩=some (.string (strOfNums q)):=(I.cell (World.block_lt_of_cell? _ _ S.o)).trans S.o;clear e1 I B))
 rename_i L;clear L
 clear Q;go_wp2_with fail;go_ret;rw[HV.o];exact e4.o
theorem l4term_any (R c:Nat)(p:Option Addr)(a:List Int):∀ (d:Nat) (D:Int),d<=4->D.toNat=d->-10<=D->TermK R c p a D (drawT a d):=by
 have l:∀ (D:Int),D<=0->-10<=D->TermK R c p a D (drawT a 0):=fun D e q i w h=>term_low R c i p a D w h ⟨q,by omega⟩ e
 have j:∀ (D:Int) (m:Nat) (f g:Nat->List Cel×Nat),0<D->D<=10->m<=600->(∀ i,Sml m (f i).1)->(∀ i,Sml m (g i).1)->TermK R c p a (D-1) f->TermK R c p a (D-2) g->TermK R c p a D (nodeT a f g):=by
  intro D m f g o e u s t hF r i w h
  by_cases k:rdN a i=a.length
  ·have:=term_end R c i p a D w h ⟨by omega,e⟩ o k
   rwa[show leafT a (rdI a i).toNat (rdN a i)=nodeT a f g i by unfold nodeT;simp only;rw[if_pos (.inl k)]] at this
  by_cases n:(rdI a i).toNat<50
  ·have:=term_few R c i p a D w h ⟨by omega,e⟩ o k n
   rwa[show leafT a (rdI a i).toNat (rdN a i)=nodeT a f g i by unfold nodeT;simp only;rw[if_pos (.inr n)]] at this
  by_cases x:(rdI a i).toNat<90
  ·exact term_list R c i m p a D f g w h ⟨by omega,e⟩ o hF r u s t k n x
  by_cases y:(rdI a i).toNat<180
  ·exact term_two R c i m p a D f g w h ⟨by omega,e⟩ o hF r u s t k n x y
  by_cases z:(rdI a i).toNat<230
  ·exact term_one R c i m p a D f g w h ⟨by omega,e⟩ o hF r u s t k n y z
  ·exact term_many R c i m p a D f g w h ⟨by omega,e⟩ o hF r u s t k n z
 have b:∀ d,d<=3->∀ i,Sml 600 (drawT a d i).1:=fun d A i=>by
  have h:=drawT_sml a d i;have:4 ^ d<=4 ^ 3:=Nat.pow_le_pow_right (by decide) A;exact⟨h.pos,by have:=h.len;omega,h.txt⟩
 intro d
 induction d using Nat.strongRecOn with | _ d v=>
 match d,v with
 | 0,_=>exact fun D _ e q=>l D (by omega) q
 | 1,_=>exact fun D _ e q=>j D 600 _ _ (by omega) (by omega) (Nat.le_refl _) (b 0 (by omega)) (b 0 (by omega)) (l _ (by omega) (by omega)) (l _ (by omega) (by omega))
 | d+2,v=>
   intro D A e q
   exact j D 600 _ _ (by omega) (by omega) (Nat.le_refl _) (b (d+1) (by omega)) (b d (by omega)) (v (d+1) (by omega) (D-1) (by omega) (by omega) (by omega)) (v d (by omega) (D-2) (by omega) (by omega) (by omega))
theorem flat_setK:∀ (a:List RC) (i:Nat) (b:Int),i<a.length->(flat a).set (i * 3) (.int .i64 b)=flat (a.set i (b,(a.getD i RC.zero).2))
 | [],i,b,h=>by simp at h
 | x :: a,0,b,_=>by simp[flat_cons]
 | x :: a,i+1,b,h=>by
   have:=flat_setK a i b (by simpa using h);rw[flat_cons,show(i+1) * 3=(i * 3)+1+1+1 by omega];simp only[List.set_cons_succ,this]
   rfl
theorem flat_setT:∀ (a:List RC) (i:Nat) (p:Option Addr) (n c:Nat),i<a.length->(flat a).set (i * 3+2) (.slice p n c)=flat (a.set i ((a.getD i RC.zero).1,(a.getD i RC.zero).2.1,p,n,c))
 | [],i,p,n,c,h=>by simp at h
 | x :: a,0,p,n,c,_=>by simp[flat_cons]
 | x :: a,i+1,p,n,c,h=>by
   have:=flat_setT a i p n c (by simpa using h);rw[flat_cons,show(i+1) * 3+2=(i * 3+2)+1+1+1 by omega];simp only[List.set_cons_succ,this]
   rfl
theorem flat_takeD:∀ (a:List RC) (m:Nat),(flat a).take (m * 3)=flat (a.take m)
 | [],m=>by simp[flat]
 | r :: a,0=>by simp[flat]
 | r :: a,m+1=>by rw[List.take_succ_cons,flat_cons,flat_cons,<-flat_takeD a m,Nat.succ_mul];rfl
theorem OwnC.setK {w:World}{B g n c j:Nat}{k:List Cel}(h:OwnC w B (some ⟨g,0,none⟩) n c k)(t:j<k.length)(b:Int) :
  OwnC (w.setCell ⟨g,j * 3,none⟩ (.int .i64 b)) B (some ⟨g,0,none⟩) n c (k.set j (b,(k.getD j Cel.none).2)):=by
 obtain⟨v,m,u,y,s,ha⟩:=h;have p:=(y.stored (j * 3) (.int .i64 b)).1;rw[flat_setK m j b (by omega)] at p
 have d:∀ i,((m.set j (b,(m.getD j RC.zero).2)).getD i RC.zero).2.2=(m.getD i RC.zero).2.2:=fun i=>by
  rw[rs_set_at _ _ _ _ (by omega)]
  by_cases e:i=j
  ·rw[if_pos e,e]
  ·rw[if_neg e]
 refine⟨by simpa using v,_,by simpa using u,p,fun i l=>?_,⟨fun i l=>?_,fun i z l f o=>?_⟩⟩
 ·have f:i<k.length:=by simpa using l
  rw[cs_set_at _ _ _ _ t,rs_set_at _ _ _ _ (by omega)];obtain⟨A,q1,C⟩:=s i f;have q:=C.setCell (a:=⟨g,j * 3,none⟩) (fun x r=>ha.1 i (by omega) x r) (.int .i64 b)
  by_cases e:i=j
  ·rw[if_pos e,if_pos e]
   subst e;exact⟨rfl,q1,q⟩
  ·rw[if_neg e,if_neg e]
   exact⟨A,q1,q⟩
 ·rw[d];exact ha.1 i (by simpa using l)
 ·rw[d,d];exact ha.2 i z (by simpa using l) (by simpa using f) o
theorem OwnC.setT {w:World}{B g n c j M tn tc:Nat}{tp:Option Addr}{s:List Int}{o:List Cel}(h:OwnC w B (some ⟨g,0,none⟩) n c o)(I:j<o.length)(N:B<=M)(Q:g<M)(v:∀ d:List RC,d.length=o.length->w.ownsRow B 27 3 (.slice (some ⟨g,0,none⟩) n c) n (flat d)->∀ i,i<d.length->0<(d.getD i RC.zero).2.2.2.1->∀ a,(d.getD i RC.zero).2.2.1=some a->a.block<M)(D:OwnT w M tp tn tc s) :
  OwnC (w.setCell ⟨g,j * 3+2,none⟩ (.slice tp tn tc)) B (some ⟨g,0,none⟩) n c (o.set j ((o.getD j Cel.none).1,(o.getD j Cel.none).2.1,s)):=by
 obtain⟨P,d,J,K,H,ha⟩:=h;have z:=v d J K;have G:=(K.stored (j * 3+2) (.slice tp tn tc)).1;rw[flat_setT d j tp tn tc (by omega)] at G
 have r:∀ i,i<d.length->0<(d.getD i RC.zero).2.2.2.1->0<tn->(d.getD i RC.zero).2.2.1≠tp:=fun i p b f e=>by
  obtain⟨k,x,O,_⟩:=D.2 f;have:=z i p b ⟨k,0,none⟩ (by rw[e,x]);simp only at this
  omega
 have m:0<tn->tp≠some ⟨g,0,none⟩:=fun f e=>by
  obtain⟨k,x,O,_⟩:=D.2 f
  rw[e] at x;cases x;omega
 refine⟨by simpa using P,_,by simpa using J,G,fun i p=>?_,⟨fun i p b=>?_,fun i y p l A b f=>?_⟩⟩
 ·have l:i<o.length:=by simpa using p
  rw[cs_set_at _ _ _ _ I,rs_set_at _ _ _ _ (by omega)]
  by_cases e:i=j
  ·rw[if_pos e,if_pos e]
   obtain⟨E,q1,L⟩:=H j I;exact⟨E,q1,(D.mono N).setCell (a:=⟨g,j * 3+2,none⟩) (fun C q=>m C q) _⟩
  ·rw[if_neg e,if_neg e]
   obtain⟨E,q1,L⟩:=H i l;exact⟨E,q1,L.setCell (a:=⟨g,j * 3+2,none⟩) (fun C q=>ha.1 i (by omega) C q) _⟩
 ·have l:i<d.length:=by simpa using p
  rw[rs_set_at _ _ _ _ (by omega)] at b ⊢
  by_cases e:i=j
  ·rw[if_pos e] at b ⊢;exact m b
  ·rw[if_neg e] at b ⊢;exact ha.1 i l b
 ·have t:i<d.length:=by simpa using p
  have u:y<d.length:=by simpa using l
  rw[rs_set_at _ _ _ _ (by omega)] at b ⊢;rw[rs_set_at _ _ _ _ (by omega)] at f ⊢
  by_cases e:i=j
  ·rw[if_pos e] at b ⊢
   rw[if_neg (by omega)] at f ⊢
   exact fun q=>r y u f b q.symm
  ·rw[if_neg e] at b ⊢
   by_cases F:y=j
   ·rw[if_pos F] at f ⊢
    exact r i t b f
   ·rw[if_neg F] at f ⊢
    exact ha.2 i y t u A b f
theorem OwnC.cut {w:World}{B g n c m:Nat}{e:List Cel}(h:OwnC w B (some ⟨g,0,none⟩) n c e)(D:m<=n):OwnC w B (some ⟨g,0,none⟩) m c (e.take m):=by
 obtain⟨G,k,C,E,A,ha⟩:=h
 have f:∀ i,i<m->(k.take m).getD i RC.zero=k.getD i RC.zero:=fun i b=>by rw[List.getD,List.getD,List.getElem?_take_of_lt b]
 have z:∀ i,i<m->(e.take m).getD i Cel.none=e.getD i Cel.none:=fun i b=>by rw[List.getD,List.getD,List.getElem?_take_of_lt b]
 have d:(k.take m).length=m:=by rw[List.length_take];omega
 refine⟨by rw[List.length_take];omega,k.take m,by rw[List.length_take,List.length_take,C],⟨by rw[flat_len,d],?_⟩,fun i b=>?_,fun i b=>?_,fun i t b a=>?_⟩
 ·rcases E.2 with ⟨j,_⟩ | ⟨F,u,l,j,y,q,r,o,p,s⟩
  ·simp at j
  ·simp only[Value.slice.injEq,Option.some.injEq,Addr.mk.injEq,and_true,true_and] at j
   obtain⟨rfl,rfl⟩:=j;refine .inr ⟨g,c,l,rfl,y,q,Nat.le_trans D r,o,p,?_⟩;rw[<-flat_takeD,<-s,List.take_take]
   congr 1
   omega
 ·have a:i<m:=by rw[List.length_take] at b;omega
  rw[f i a,z i a];exact A i (by omega)
 ·have a:i<m:=by rw[d] at b;exact b
  rw[f i a];exact ha.1 i (by omega)
 ·have v:i<m:=by rw[d] at b;exact b
  have x:t<m:=by rw[d] at a;exact a
  rw[f i v,f t x];exact ha.2 i t (by omega) (by omega)
theorem OwnC.cells {w:World}{B g n c j:Nat}{cs:List Cel}(h:OwnC w B (some ⟨g,0,none⟩) n c cs)(p:j<cs.length):w.cell? ⟨g,j * 3,none⟩=some (.int .i64 (cs.getD j Cel.none).1)/\w.cell? ⟨g,j * 3+1,none⟩=some (.int .i64 (cs.getD j Cel.none).2.1)/\(∃ q k d,w.cell? ⟨g,j * 3+2,none⟩=some (.slice q k d))/\∀ o,w.frozen? ⟨g,o,none⟩=false:=by
 obtain⟨hn,rs,s,a,m,ha⟩:=h;obtain⟨i,l,r⟩:=m j p;obtain⟨b,e,f⟩:=flat_at rs j (by omega);refine⟨by rw[a.cellAt _ (by omega),b,i],by rw[a.cellAt _ (by omega),e,l],⟨_,_,_,by rw[a.cellAt _ (by omega),f]⟩,fun o=>a.frozenAt o⟩
theorem OwnC.cap {w:World}{B n c:Nat}{p:Option Addr}{b:List Cel}(h:OwnC w B p n c b):b.length<=c/\c<=9223372036854775807:=by
 obtain⟨m,o,l,i,_⟩:=h
 rcases i.2 with ⟨a,j⟩ | ⟨g,d,e,a,_,_,k,f,_⟩
 ·simp only[Value.slice.injEq] at a
  omega
 ·simp only[Value.slice.injEq] at a
  unfold maxLen at f
  omega
theorem OwnC.at0 {w:World}{B n c:Nat}{p:Option Addr}{a:List Cel}(h:OwnC w B p n c a)(j:0<a.length):∃ g,p=some ⟨g,0,none⟩/\B<=g/\g<w.heap.size:=by
 obtain⟨l,m,k,i,_⟩:=h;obtain⟨g,d,b,e,f⟩:=i.form (by omega);simp only[Value.slice.injEq] at b;exact⟨g,b.1,e,f⟩
theorem OwnC.low {w:World}{B n c:Nat}{p:Option Addr}{t:List Cel}(h:OwnC w B p n c t):∀ d:List RC,d.length=t.length->w.ownsRow B 27 3 (.slice p n c) n (flat d)->∀ i,i<d.length->0<(d.getD i RC.zero).2.2.2.1->∀ a,(d.getD i RC.zero).2.2.1=some a->a.block<w.heap.size:=by
 obtain⟨P,f,I,o,E,_⟩:=h
 intro d O J i G N a D
 have e:flat d=flat f:=by
  rcases J.2 with ⟨r,K⟩ | ⟨g,y,z,r,_,F,_,_,_,q⟩
  ·have A:d = []:=List.length_eq_zero_iff.1 (by omega)
   have C:f = []:=List.length_eq_zero_iff.1 (by omega);rw[A,C]
  ·rcases o.2 with ⟨b,K⟩ | ⟨M,s,u,b,_,j,_,_,_,l⟩
   ·rw[r] at b;simp at b
   ·rw[r] at b
    simp only[Value.slice.injEq,Option.some.injEq,Addr.mk.injEq,and_true,true_and] at b;obtain⟨rfl,rfl⟩:=b;rw[F] at j
    cases j
    rw[<-q,<-l]
 obtain⟨_,_,m⟩:=flat_at d i G;obtain⟨_,_,x⟩:=flat_at f i (by omega);rw[e,x] at m;simp only[Option.some.injEq,Value.slice.injEq] at m;obtain⟨Q,q1,L⟩:=E i (by omega);obtain⟨k,v,_,H,_⟩:=L.2 (by omega);rw[m.1,D] at v
 cases v
 exact H
structure Kb (B R:Nat)(w w':World):Prop where
 os:w'.os=w.os
 tape:w'.tape=w.tape
 output:w'.output=w.output
 size:w.heap.size<=w'.heap.size
 block:∀ k,k<B->k≠R->w'.heap[k]?=w.heap[k]?
theorem Kb.of_keep {B R:Nat}{w a:World}(h:Keep R (R+1) w a)(b:B<=w.heap.size):Kb B R w a:=⟨h.os,h.tape,h.output,h.size,fun k c d=>h.block k (by omega) (by omega)⟩
theorem Kb.of_below {B R:Nat}{w w':World}(h:Below B w w'):Kb B R w w':=⟨h.os,h.tape,h.output,h.size,fun k a _=>h.block k a⟩
theorem Kb.trans {B R:Nat}{a b c:World}(h:Kb B R a b)(k:Kb B R b c):Kb B R a c:=⟨k.os.trans h.os,k.tape.trans h.tape,k.output.trans h.output,Nat.le_trans h.size k.size,fun j d e=>(k.block j d e).trans (h.block j d e)⟩
theorem Keep.on_kb {B R:Nat}{a w b:World}(h:Keep R (R+1) a w)(k:Kb B R w b)(e:a.heap.size<=B):Keep R (R+1) a b:=⟨k.os.trans h.os,k.tape.trans h.tape,k.output.trans h.output,Nat.le_trans h.size k.size,fun j c d=>(k.block j (by omega) (by omega)).trans (h.block j c d)⟩
def NumC (cs:List Cel):Prop:=∀ c ∈ cs,-1000000000000000<=c.2.1/\c.2.1<=1000000000000000
theorem NumC.app {a b:List Cel}(ha:NumC a)(d:NumC b):NumC (a ++ b):=fun c e=>by
 rcases List.mem_append.1 e with h | h
 ·exact ha c h
 ·exact d c h
theorem NumC.cons {c:Cel}{b:List Cel}(ha : -1000000000000000<=c.2.1/\c.2.1<=1000000000000000)(a:NumC b):NumC (c :: b):=fun d e=>by
 rcases List.mem_cons.1 e with rfl | h
 ·exact ha
 ·exact a d h
theorem NumC.nil:NumC []:=fun c h=>by cases h
theorem NumC.flatten {a:List (List Cel)}(h:∀ j,j<a.length->NumC (a.getD j [])):NumC a.flatten:=fun c f=>by
 obtain⟨g,d,e⟩:=List.mem_flatten.1 f;obtain⟨j,b,rfl⟩:=List.mem_iff_getElem.1 d;have:=h j b;rw[List.getD,List.getElem?_eq_getElem b] at this;exact this c e
theorem NumC.ls {a:List (List Cel)}{b:List Cel}(h:∀ j,j<a.length->NumC (a.getD j []))(i:NumC b):NumC (lsL a b):=by
 refine NumC.app (fun c g=>?_) i;obtain⟨k,e,f⟩:=List.mem_flatMap.1 g
 rcases List.mem_cons.1 f with rfl | h3
 ·simp[dot]
 ·obtain⟨j,d,rfl⟩:=List.mem_iff_getElem.1 e
  have:=h j d;rw[List.getD,List.getElem?_eq_getElem d] at this;exact this c h3
theorem leafT_num (a:List Int)(k i:Nat):NumC (leafT a k i).1:=by
 unfold leafT
 repeat' split
 all_goals refine NumC.cons ?_ NumC.nil
 ·exact intD_rng _
 ·simp only;omega
 ·simp only;omega
theorem nodeT_num (d:List Int)(f g:Nat->List Cel×Nat)(a:∀ i,NumC (f i).1)(c:∀ i,NumC (g i).1)(i:Nat):NumC (nodeT d f g i).1:=by
 unfold nodeT
 simp only
 split
 ·exact leafT_num _ _ _
 split
 ·have h:∀ n i j,j<(iterT f n i).1.length->NumC ((iterT f n i).1.getD j []):=fun n i j b=>iterT_at f a n i j (by rwa[iterT_len] at b)
  split
  ·exact NumC.ls (h _ _) (c _)
  ·exact NumC.ls (h _ _) (NumC.cons (by simp[nilC]) NumC.nil)
 split
 ·exact NumC.cons (by simp) ((a _).app (a _))
 split
 ·exact NumC.cons (by simp) (a _)
 ·exact NumC.cons (by simp only;omega) (NumC.flatten (fun j b=>iterT_at f a _ _ j (by rwa[iterT_len] at b)))
theorem drawT_num (a:List Int):∀ (d i:Nat),NumC (drawT a d i).1
 | 0,i=>leafT_num _ _ _
 | 1,i=>nodeT_num _ _ _ (drawT_num a 0) (drawT_num a 0) i
 | d+2,i=>nodeT_num _ _ _ (drawT_num a (d+1)) (drawT_num a d) i
def SpoilOut (w:World)(B R:Nat)(p:Option Addr)(c:Nat)(xs:List Int)(res:List Cel×Nat)(e:Ending)(w':World):Prop:=
 ∃ q n cap,e = .returned (.slice q n cap)/\OwnC w' B q n cap res.1/\Kb B R w w'/\RdIn w' R p c xs res.2
theorem OwnC.low2 {w o:World}{B n c:Nat}{p:Option Addr}{l:List Cel}(h:OwnC w B p n c l)(t:Below w.heap.size w o):∀ b:List RC,b.length=l.length->o.ownsRow B 27 3 (.slice p n c) n (flat b)->∀ i,i<b.length->0<(b.getD i RC.zero).2.2.2.1->∀ a,(b.getD i RC.zero).2.2.1=some a->a.block<w.heap.size:=by
 intro b v m
 refine h.low b v ⟨m.1,?_⟩
 rcases m.2 with q | ⟨g,d,e,k,s,u,r⟩
 ·exact .inl q
 ·refine .inr ⟨g,d,e,k,s,?_,r⟩
  simp only[Value.slice.injEq] at k;obtain⟨z,y,x,j,_⟩:=h;have f:=(j.lt g (by rw[k.1];rfl)).2;exact(t.block g f).symm.trans u
theorem one_newsF (w:World)(y:Int):∀ j u,([y].map (Value.int .u8))[j]?=some u->(w.alloc (.cells #[.int .u8 y] 5)).cell? ((⟨w.heap.size,0,none⟩:Addr).add j)=some u:=fun j u a=>by
 match j,a with
 | 0,a=>simp at a;rw[<-a];simp[Addr.add,World.cell?_alloc_new]
 | j+1,a=>simp at a
theorem l4fill_any (m:Nat)(A:m<=1000)(w:World):Calls Tryz.prog 109 #[.int .u8 116,.int .i64 m] w fun e u=>∃ p n c,e = .returned (.slice p n c)/\OwnS u w.heap.size p n c (List.replicate m 116)/\Below w.heap.size w u:=by
 go_enter Tryz.func109,Tryz.ntmps109
 go_wp2_with fail
 go_loopw [5,6] (fun s i wr=>∃ (j n c:Nat) (p:Option Addr),j<=m/\n=j/\i = .int .i64 j/\s = .slice p n c/\Hid (OwnS wr w.heap.size p n c (List.replicate j 116))/\Hid (Below w.heap.size w wr)) (fun _ i _=>m-(intOf i).toNat)
 case atStart=>exact⟨0,0,0,none,Nat.zero_le _,rfl,rfl,rfl,OwnS.nil _ _,Below.refl _ _⟩
 case round=>
  obtain⟨j,n,c,p,z,rfl,rfl,rfl,r,h⟩:=hrel;have q:w.heap.size<=wr.heap.size:=h.o.size
  by_cases y:n<m
  ·go_wp2_with (at_builtin;refine app_bytes _ rfl _ _ rfl w.heap.size p n c _ [116] 1 rfl rfl (r.o.alloc _) ⟨wr.heap.size,0,none⟩ 1 rfl (one_newsF wr 116) (by omega) (by omega) (by simp;omega) ?_;intro x t b v a d f)
   have l:Hid (OwnS v w.heap.size (some ⟨x,0,none⟩) t b (List.replicate (n+1) 116)):=by rw[List.replicate_succ'];exact a
   have k:Hid (Below w.heap.size w v):=(h.o.alloc q _).trans d;have g:t=n+1:=f.o;clear a d f;subst g;go_roundw
   case rel=>exact⟨n+1,n+1,b,_,by omega,rfl,by go_num,rfl,l,k⟩
   case measure=>simp[intOf];omega
  ·obtain rfl:n=m:=by omega
   go_wp2_with fail;go_ret;exact⟨_,_,_,rfl,r.o,h.o⟩
theorem spoil_0 (R c i:Nat)(p:Option Addr)(b:List Int)(B g n cp:Nat)(d:List Cel)(w:World)(h:RdIn w R p c b i)(s:R<B)(r:B<=w.heap.size)(N:OwnC w B (some ⟨g,0,none⟩) n cp d)(h0:0<d.length)(hl:d.length<=600)(M:NumC d)(hk:(rdI b i).toNat % 9=0) :
  Calls Tryz.prog 35 #[.slice (some ⟨g,0,none⟩) n cp,.pointer (some ⟨R,0,none⟩)] w (SpoilOut w B R p c b (spoilF b d i)):=by
 have HH:=hid h;have HO:=hid N;have hn:n=d.length:=N.1;have e2:=N.cap
 have I:B<=g/\g<w.heap.size:=by obtain⟨g',e,h1,h2⟩:=N.at0 h0;cases e;exact⟨h1,h2⟩
 have hr:=rdI_rng h.bytes i;have O:=rdI_rng h.bytes (rdN b i);have t:=rdI_rng h.bytes (rdN b (rdN b i))
 obtain⟨v,er⟩:∃ v,v=spoilF b d i:=⟨_,rfl⟩
 rw[<-er];have U:=hid er
 obtain⟨l,Q⟩:∃ l,l=rdN b i:=⟨_,rfl⟩
 obtain⟨j,k⟩:∃ j,j=rdN b l:=⟨_,rfl⟩
 rw[<-Q] at O t;rw[<-k] at t
 obtain⟨x,ex⟩:∃ x:Nat,rdI b i=x:=⟨(rdI b i).toNat,by omega⟩
 obtain⟨u,eu⟩:∃ u:Nat,rdI b l=u:=⟨(rdI b l).toNat,by omega⟩
 obtain⟨y,ey⟩:∃ y:Nat,rdI b j=y:=⟨(rdI b j).toNat,by omega⟩
 have k3:(x:Int).tmod 9=0:=by rw[Int.tmod_eq_emod_of_nonneg (by omega)];rw[ex] at hk;omega
 have hx:x<256:=by omega
 have hu:u<256:=by omega
 have hy:y<256:=by omega
 obtain⟨a,P⟩:∃ a,a=u % d.length:=⟨_,rfl⟩
 have H:a<d.length:=by rw[P];exact Nat.mod_lt _ h0
 have e6:a<n:=by omega
 have e9:((n:Int) == 0)=false:=by rw[beq_eq_false_iff_ne];omega
 have e7:(u:Int).tmod (n:Int)=(a:Int):=by rw[P,hn,Int.tmod_eq_emod_of_nonneg (by omega)];rfl
 have h7:n<=600:=by omega
 obtain⟨z,ez⟩:∃ z,z=y % 6:=⟨_,rfl⟩
 have hz:z<6:=by omega
 have e8:(y:Int).tmod 6=(z:Int):=by rw[ez,Int.tmod_eq_emod_of_nonneg (by omega)];rfl
 have HV:Hid (v=(d.set a ((z:Int)-1,(d.getD a Cel.none).2.1,(d.getD a Cel.none).2.2),rdN b j)):=by
  show _=_
  rw[U.o]
  unfold spoilF
  simp only;rw[<-Q,<-k,eu,ey,Int.toNat_natCast,Int.toNat_natCast,<-P,<-ez,hk]
  first | rfl | (rw[if_pos rfl])
 have X:Hid (∀ W,RdIn W R p c b i->Calls Tryz.prog 33 #[.pointer (some ⟨R,0,none⟩)] W fun e f=>e = .returned (.int .i64 (x:Int))/\Keep R (R+1) W f/\f.heap.size=W.heap.size/\RdIn f R p c b l):=fun W G=>by
  have:=next_any R c i p b W G;rw[ex,<-Q] at this;exact this
 have Y:Hid (∀ W,RdIn W R p c b l->Calls Tryz.prog 33 #[.pointer (some ⟨R,0,none⟩)] W fun e f=>e = .returned (.int .i64 (u:Int))/\Keep R (R+1) W f/\f.heap.size=W.heap.size/\RdIn f R p c b j):=fun W G=>by
  have:=next_any R c l p b W G;rw[eu,<-k] at this;exact this
 have Z:Hid (∀ W,RdIn W R p c b j->Calls Tryz.prog 33 #[.pointer (some ⟨R,0,none⟩)] W fun e f=>e = .returned (.int .i64 (y:Int))/\Keep R (R+1) W f/\f.heap.size=W.heap.size/\RdIn f R p c b (rdN b j)):=fun W G=>by
  have:=next_any R c j p b W G;rw[ey] at this;exact this
 have A:=hid H;have e3:=hid hn;clear h N er Q k ex eu ey P hn hk M h0 hl hr O t H ez
 go_enter Tryz.func35,Tryz.ntmps35
 go_wp2_with fail;refine(X.o w HH.o).mono ?_;rintro e w2 ⟨rfl,J,h8,D⟩;have h3:=hid D;have V:=hid J;clear J h8 D;go_wp2_with fail;refine(Y.o w2 h3.o).mono ?_;rintro e w3 ⟨rfl,K,h9,E⟩;have h4:=hid E;have m:=hid (V.o.trans K);have e4:=hid (HO.o.keepR m.o s);have h6:B<=w3.heap.size:=Nat.le_trans r m.o.size;clear K h9 E;go_wp2_with fail;refine(Z.o w3 h4.o).mono ?_;rintro e w4 ⟨rfl,L,e1,F⟩;have h5:=hid F;have q:=hid (m.o.trans L);have C:=hid (HO.o.keepR q.o s);have e5:B<=w4.heap.size:=Nat.le_trans r q.o.size
 clear L e1 F;obtain⟨k0,k1,⟨tq,tk,td,k2⟩,S⟩:=C.o.cells A.o;have k4:=S (a * 3);have k5:=S (a * 3+1);have k6:=S (a * 3+2);clear S
 have T:Hid (SpoilOut w B R p c b ((d.set a ((z:Int)-1,(d.getD a Cel.none).2.1,(d.getD a Cel.none).2.2),rdN b j)) (.returned (.slice (some ⟨g,0,none⟩) n cp)) (w4.setCell ⟨g,a * 3,none⟩ (.int .i64 ((z:Int)-1)))):=⟨_,_,_,rfl,C.o.setK A.o _,(Kb.of_keep q.o r).trans (Kb.of_below (Below.setCell (Below.refl _ _) I.1 _)),h5.o.below (Below.setCell (Below.refl _ _) I.1 _) s⟩
 clear h6;go_wp2_with fail;go_ret;rw[HV.o];exact T.o
theorem spoil_1 (R c i:Nat)(p:Option Addr)(b:List Int)(B g n Z:Nat)(d:List Cel)(w:World)(h:RdIn w R p c b i)(F:R<B)(C:B<=w.heap.size)(K:OwnC w B (some ⟨g,0,none⟩) n Z d)(h0:0<d.length)(hl:d.length<=600)(m:NumC d)(hk:(rdI b i).toNat % 9=1) :
  Calls Tryz.prog 35 #[.slice (some ⟨g,0,none⟩) n Z,.pointer (some ⟨R,0,none⟩)] w (SpoilOut w B R p c b (spoilF b d i)):=by
 have HH:=hid h;have HO:=hid K;have hn:n=d.length:=K.1;have h7:=K.cap
 have H:B<=g/\g<w.heap.size:=by obtain⟨g',e,h1,h2⟩:=K.at0 h0;cases e;exact⟨h1,h2⟩
 have hr:=rdI_rng h.bytes i;have L:=rdI_rng h.bytes (rdN b i);have s:=rdI_rng h.bytes (rdN b (rdN b i))
 obtain⟨t,er⟩:∃ t,t=spoilF b d i:=⟨_,rfl⟩
 rw[<-er];have S:=hid er
 obtain⟨q,N⟩:∃ q,q=rdN b i:=⟨_,rfl⟩
 obtain⟨j,k⟩:∃ j,j=rdN b q:=⟨_,rfl⟩
 rw[<-N] at L s;rw[<-k] at s
 obtain⟨x,ex⟩:∃ x:Nat,rdI b i=x:=⟨(rdI b i).toNat,by omega⟩
 obtain⟨u,eu⟩:∃ u:Nat,rdI b q=u:=⟨(rdI b q).toNat,by omega⟩
 obtain⟨y,ey⟩:∃ y:Nat,rdI b j=y:=⟨(rdI b j).toNat,by omega⟩
 have e4:(x:Int).tmod 9=1:=by rw[Int.tmod_eq_emod_of_nonneg (by omega)];rw[ex] at hk;omega
 have hx:x<256:=by omega
 have hu:u<256:=by omega
 have hy:y<256:=by omega
 obtain⟨a,M⟩:∃ a,a=u % d.length:=⟨_,rfl⟩
 have l:a<d.length:=by rw[M];exact Nat.mod_lt _ h0
 have e1:a<n:=by omega
 have e3:((n:Int) == 0)=false:=by rw[beq_eq_false_iff_ne];omega
 have e2:(u:Int).tmod (n:Int)=(a:Int):=by rw[M,hn,Int.tmod_eq_emod_of_nonneg (by omega)];rfl
 have h4:n<=600:=by omega
 obtain⟨v,O⟩:∃ v,v=(d.getD a Cel.none).2.1:=⟨_,rfl⟩
 have hv : -1000000000000000<=v/\v<=1000000000000000:=by
  rw[O,List.getD,List.getElem?_eq_getElem l];exact m _ (List.getElem_mem l)
 have HV:Hid (t=(d.set a ((d.getD a Cel.none).1,v+1,(d.getD a Cel.none).2.2),j)):=by
  show _=_
  rw[S.o]
  unfold spoilF
  simp only;rw[<-N,<-k,eu,ey,Int.toNat_natCast,Int.toNat_natCast,<-M,<-O,hk]
  first | rfl | (rw[if_neg (by decide),if_pos rfl])
 have U:Hid (∀ W,RdIn W R p c b i->Calls Tryz.prog 33 #[.pointer (some ⟨R,0,none⟩)] W fun e f=>e = .returned (.int .i64 (x:Int))/\Keep R (R+1) W f/\f.heap.size=W.heap.size/\RdIn f R p c b q):=fun W G=>by
  have:=next_any R c i p b W G;rw[ex,<-N] at this;exact this
 have V:Hid (∀ W,RdIn W R p c b q->Calls Tryz.prog 33 #[.pointer (some ⟨R,0,none⟩)] W fun e f=>e = .returned (.int .i64 (u:Int))/\Keep R (R+1) W f/\f.heap.size=W.heap.size/\RdIn f R p c b j):=fun W G=>by
  have:=next_any R c q p b W G;rw[eu,<-k] at this;exact this
 have h8:Hid (∀ W,RdIn W R p c b j->Calls Tryz.prog 33 #[.pointer (some ⟨R,0,none⟩)] W fun e f=>e = .returned (.int .i64 (y:Int))/\Keep R (R+1) W f/\f.heap.size=W.heap.size/\RdIn f R p c b (rdN b j)):=fun W G=>by
  have:=next_any R c j p b W G;rw[ey] at this;exact this
 have z:=hid l;have h9:=hid hn;clear h K er N k ex eu ey M hn hk m h0 hl hr L s l
 go_enter Tryz.func35,Tryz.ntmps35
 go_wp2_with fail;refine(U.o w HH.o).mono ?_;rintro e w2 ⟨rfl,I,h5,D⟩;have X:=hid D;have T:=hid I;clear I h5 D;go_wp2_with fail;refine(V.o w2 X.o).mono ?_;rintro e w3 ⟨rfl,J,h6,E⟩;have Y:=hid E;have r:=hid (T.o.trans J);have A:=hid (HO.o.keepR r.o F);have h3:B<=w3.heap.size:=Nat.le_trans C r.o.size;clear J h6 E;obtain⟨k0,k1,⟨tq,tk,td,k2⟩,P⟩:=A.o.cells z.o;have e5:=P (a * 3);have e6:=P (a * 3+1);have e7:=P (a * 3+2);clear P;rw[<-O] at k1;clear O
 have Q:Hid (SpoilOut w B R p c b ((d.set a ((d.getD a Cel.none).1,v+1,(d.getD a Cel.none).2.2),j)) (.returned (.slice (some ⟨g,0,none⟩) n Z)) (w3.setCell ⟨g,a * 3+1,none⟩ (.int .i64 (v+1)))):=⟨_,_,_,rfl,A.o.setN z.o _,(Kb.of_keep r.o C).trans (Kb.of_below (Below.setCell (Below.refl _ _) H.1 _)),Y.o.below (Below.setCell (Below.refl _ _) H.1 _) F⟩
 clear h3;go_wp2_with fail;go_ret;rw[HV.o];exact Q.o
theorem spoil_2 (R c i:Nat)(p:Option Addr)(b:List Int)(B g n X:Nat)(d:List Cel)(w:World)(h:RdIn w R p c b i)(C:R<B)(v:B<=w.heap.size)(J:OwnC w B (some ⟨g,0,none⟩) n X d)(h0:0<d.length)(hl:d.length<=600)(I:NumC d)(hk:(rdI b i).toNat % 9=2) :
  Calls Tryz.prog 35 #[.slice (some ⟨g,0,none⟩) n X,.pointer (some ⟨R,0,none⟩)] w (SpoilOut w B R p c b (spoilF b d i)):=by
 have HH:=hid h;have HO:=hid J;have hn:n=d.length:=J.1;have h7:=J.cap
 have F:B<=g/\g<w.heap.size:=by obtain⟨g',e,h1,h2⟩:=J.at0 h0;cases e;exact⟨h1,h2⟩
 have hr:=rdI_rng h.bytes i;have K:=rdI_rng h.bytes (rdN b i);have q:=rdI_rng h.bytes (rdN b (rdN b i))
 obtain⟨r,Y⟩:∃ r,r=spoilF b d i:=⟨_,rfl⟩
 rw[<-Y];have P:=hid Y
 obtain⟨l,M⟩:∃ l,l=rdN b i:=⟨_,rfl⟩
 obtain⟨j,k⟩:∃ j,j=rdN b l:=⟨_,rfl⟩
 rw[<-M] at K q;rw[<-k] at q
 obtain⟨x,ex⟩:∃ x:Nat,rdI b i=x:=⟨(rdI b i).toNat,by omega⟩
 obtain⟨u,Z⟩:∃ u:Nat,rdI b l=u:=⟨(rdI b l).toNat,by omega⟩
 obtain⟨y,ey⟩:∃ y:Nat,rdI b j=y:=⟨(rdI b j).toNat,by omega⟩
 have e4:(x:Int).tmod 9=2:=by rw[Int.tmod_eq_emod_of_nonneg (by omega)];rw[ex] at hk;omega
 have hx:x<256:=by omega
 have hu:u<256:=by omega
 have hy:y<256:=by omega
 obtain⟨a,L⟩:∃ a,a=u % d.length:=⟨_,rfl⟩
 have E:a<d.length:=by rw[L];exact Nat.mod_lt _ h0
 have e1:a<n:=by omega
 have e3:((n:Int) == 0)=false:=by rw[beq_eq_false_iff_ne];omega
 have e2:(u:Int).tmod (n:Int)=(a:Int):=by rw[L,hn,Int.tmod_eq_emod_of_nonneg (by omega)];rfl
 have h4:n<=600:=by omega
 have HV:Hid (r=(d.set a ((d.getD a Cel.none).1,-1,(d.getD a Cel.none).2.2),j)):=by
  show _=_
  rw[P.o]
  unfold spoilF
  simp only;rw[<-M,<-k,Z,ey,Int.toNat_natCast,Int.toNat_natCast,<-L,hk]
  first | rfl | (rw[if_neg (by decide),if_neg (by decide),if_pos rfl])
 have S:Hid (∀ W,RdIn W R p c b i->Calls Tryz.prog 33 #[.pointer (some ⟨R,0,none⟩)] W fun e f=>e = .returned (.int .i64 (x:Int))/\Keep R (R+1) W f/\f.heap.size=W.heap.size/\RdIn f R p c b l):=fun W D=>by
  have:=next_any R c i p b W D;rw[ex,<-M] at this;exact this
 have T:Hid (∀ W,RdIn W R p c b l->Calls Tryz.prog 33 #[.pointer (some ⟨R,0,none⟩)] W fun e f=>e = .returned (.int .i64 (u:Int))/\Keep R (R+1) W f/\f.heap.size=W.heap.size/\RdIn f R p c b j):=fun W D=>by
  have:=next_any R c l p b W D;rw[Z,<-k] at this;exact this
 have h8:Hid (∀ W,RdIn W R p c b j->Calls Tryz.prog 33 #[.pointer (some ⟨R,0,none⟩)] W fun e f=>e = .returned (.int .i64 (y:Int))/\Keep R (R+1) W f/\f.heap.size=W.heap.size/\RdIn f R p c b (rdN b j)):=fun W D=>by
  have:=next_any R c j p b W D;rw[ey] at this;exact this
 have s:=hid E;have h9:=hid hn;clear h J Y M k ex Z ey L hn hk I h0 hl hr K q E
 go_enter Tryz.func35,Tryz.ntmps35
 go_wp2_with fail;refine(S.o w HH.o).mono ?_;rintro e w2 ⟨rfl,G,h5,z⟩;have U:=hid z;have Q:=hid G;clear G h5 z;go_wp2_with fail;refine(T.o w2 U.o).mono ?_;rintro e w3 ⟨rfl,H,h6,A⟩;have V:=hid A;have m:=hid (Q.o.trans H);have t:=hid (HO.o.keepR m.o C);have h3:B<=w3.heap.size:=Nat.le_trans v m.o.size;clear H h6 A;obtain⟨k0,k1,⟨tq,tk,td,k2⟩,N⟩:=t.o.cells s.o;have e5:=N (a * 3);have e6:=N (a * 3+1);have e7:=N (a * 3+2);clear N
 have O:Hid (SpoilOut w B R p c b ((d.set a ((d.getD a Cel.none).1,-1,(d.getD a Cel.none).2.2),j)) (.returned (.slice (some ⟨g,0,none⟩) n X)) (w3.setCell ⟨g,a * 3+1,none⟩ (.int .i64 (-1)))):=⟨_,_,_,rfl,t.o.setN s.o _,(Kb.of_keep m.o v).trans (Kb.of_below (Below.setCell (Below.refl _ _) F.1 _)),V.o.below (Below.setCell (Below.refl _ _) F.1 _) C⟩
 clear h3;go_wp2_with fail;go_ret;rw[HV.o];exact O.o
theorem spoil_6 (R c i:Nat)(p:Option Addr)(b:List Int)(B g n cp:Nat)(d:List Cel)(w:World)(h:RdIn w R p c b i)(s:R<B)(r:B<=w.heap.size)(N:OwnC w B (some ⟨g,0,none⟩) n cp d)(h0:0<d.length)(hl:d.length<=600)(M:NumC d)(hk:(rdI b i).toNat % 9=6) :
  Calls Tryz.prog 35 #[.slice (some ⟨g,0,none⟩) n cp,.pointer (some ⟨R,0,none⟩)] w (SpoilOut w B R p c b (spoilF b d i)):=by
 have HH:=hid h;have HO:=hid N;have hn:n=d.length:=N.1;have e2:=N.cap
 have I:B<=g/\g<w.heap.size:=by obtain⟨g',e,h1,h2⟩:=N.at0 h0;cases e;exact⟨h1,h2⟩
 have hr:=rdI_rng h.bytes i;have O:=rdI_rng h.bytes (rdN b i);have t:=rdI_rng h.bytes (rdN b (rdN b i))
 obtain⟨v,er⟩:∃ v,v=spoilF b d i:=⟨_,rfl⟩
 rw[<-er];have U:=hid er
 obtain⟨l,Q⟩:∃ l,l=rdN b i:=⟨_,rfl⟩
 obtain⟨j,k⟩:∃ j,j=rdN b l:=⟨_,rfl⟩
 rw[<-Q] at O t;rw[<-k] at t
 obtain⟨x,ex⟩:∃ x:Nat,rdI b i=x:=⟨(rdI b i).toNat,by omega⟩
 obtain⟨u,eu⟩:∃ u:Nat,rdI b l=u:=⟨(rdI b l).toNat,by omega⟩
 obtain⟨y,ey⟩:∃ y:Nat,rdI b j=y:=⟨(rdI b j).toNat,by omega⟩
 have k3:(x:Int).tmod 9=6:=by rw[Int.tmod_eq_emod_of_nonneg (by omega)];rw[ex] at hk;omega
 have hx:x<256:=by omega
 have hu:u<256:=by omega
 have hy:y<256:=by omega
 obtain⟨a,P⟩:∃ a,a=u % d.length:=⟨_,rfl⟩
 have H:a<d.length:=by rw[P];exact Nat.mod_lt _ h0
 have e6:a<n:=by omega
 have e9:((n:Int) == 0)=false:=by rw[beq_eq_false_iff_ne];omega
 have e7:(u:Int).tmod (n:Int)=(a:Int):=by rw[P,hn,Int.tmod_eq_emod_of_nonneg (by omega)];rfl
 have h7:n<=600:=by omega
 obtain⟨z,ez⟩:∃ z,z=y % 2:=⟨_,rfl⟩
 have hz:z<2:=by omega
 have e8:(y:Int).tmod 2=(z:Int):=by rw[ez,Int.tmod_eq_emod_of_nonneg (by omega)];rfl
 have HV:Hid (v=(d.set a ((d.getD a Cel.none).1,1000000000000000+(z:Int),(d.getD a Cel.none).2.2),rdN b j)):=by
  show _=_
  rw[U.o]
  unfold spoilF
  simp only;rw[<-Q,<-k,eu,ey,Int.toNat_natCast,Int.toNat_natCast,<-P,<-ez,hk]
  first | rfl | (rw[if_neg (by decide),if_neg (by decide),if_neg (by decide),if_neg (by decide),if_neg (by decide),if_neg (by decide),if_pos rfl])
 have X:Hid (∀ W,RdIn W R p c b i->Calls Tryz.prog 33 #[.pointer (some ⟨R,0,none⟩)] W fun e f=>e = .returned (.int .i64 (x:Int))/\Keep R (R+1) W f/\f.heap.size=W.heap.size/\RdIn f R p c b l):=fun W G=>by
  have:=next_any R c i p b W G;rw[ex,<-Q] at this;exact this
 have Y:Hid (∀ W,RdIn W R p c b l->Calls Tryz.prog 33 #[.pointer (some ⟨R,0,none⟩)] W fun e f=>e = .returned (.int .i64 (u:Int))/\Keep R (R+1) W f/\f.heap.size=W.heap.size/\RdIn f R p c b j):=fun W G=>by
  have:=next_any R c l p b W G;rw[eu,<-k] at this;exact this
 have Z:Hid (∀ W,RdIn W R p c b j->Calls Tryz.prog 33 #[.pointer (some ⟨R,0,none⟩)] W fun e f=>e = .returned (.int .i64 (y:Int))/\Keep R (R+1) W f/\f.heap.size=W.heap.size/\RdIn f R p c b (rdN b j)):=fun W G=>by
  have:=next_any R c j p b W G;rw[ey] at this;exact this
 have A:=hid H;have e3:=hid hn;clear h N er Q k ex eu ey P hn hk M h0 hl hr O t H ez
 go_enter Tryz.func35,Tryz.ntmps35
 go_wp2_with fail;refine(X.o w HH.o).mono ?_;rintro e w2 ⟨rfl,J,h8,D⟩;have h3:=hid D;have V:=hid J;clear J h8 D;go_wp2_with fail;refine(Y.o w2 h3.o).mono ?_;rintro e w3 ⟨rfl,K,h9,E⟩;have h4:=hid E;have m:=hid (V.o.trans K);have e4:=hid (HO.o.keepR m.o s);have h6:B<=w3.heap.size:=Nat.le_trans r m.o.size;clear K h9 E;go_wp2_with fail;refine(Z.o w3 h4.o).mono ?_;rintro e w4 ⟨rfl,L,e1,F⟩;have h5:=hid F;have q:=hid (m.o.trans L);have C:=hid (HO.o.keepR q.o s);have e5:B<=w4.heap.size:=Nat.le_trans r q.o.size
 clear L e1 F;obtain⟨k0,k1,⟨tq,tk,td,k2⟩,S⟩:=C.o.cells A.o;have k4:=S (a * 3);have k5:=S (a * 3+1);have k6:=S (a * 3+2);clear S
 have T:Hid (SpoilOut w B R p c b ((d.set a ((d.getD a Cel.none).1,1000000000000000+(z:Int),(d.getD a Cel.none).2.2),rdN b j)) (.returned (.slice (some ⟨g,0,none⟩) n cp)) (w4.setCell ⟨g,a * 3+1,none⟩ (.int .i64 (1000000000000000+(z:Int))))):=⟨_,_,_,rfl,C.o.setN A.o _,(Kb.of_keep q.o r).trans (Kb.of_below (Below.setCell (Below.refl _ _) I.1 _)),h5.o.below (Below.setCell (Below.refl _ _) I.1 _) s⟩
 clear h6;go_wp2_with fail;go_ret;rw[HV.o];exact T.o
theorem spoil_3 (R c i:Nat)(p:Option Addr)(b:List Int)(B g n K:Nat)(d:List Cel)(w:World)(h:RdIn w R p c b i)(h3:R<B)(v:B<=w.heap.size)(I:OwnC w B (some ⟨g,0,none⟩) n K d)(h0:0<d.length)(hl:d.length<=600)(H:NumC d)(hk:(rdI b i).toNat % 9=3) :
  Calls Tryz.prog 35 #[.slice (some ⟨g,0,none⟩) n K,.pointer (some ⟨R,0,none⟩)] w (SpoilOut w B R p c b (spoilF b d i)):=by
 have HH:=hid h;have HO:=hid I;have hn:n=d.length:=I.1;have E:=I.cap
 have e5:B<=g/\g<w.heap.size:=by obtain⟨g',e,h1,h2⟩:=I.at0 h0;cases e;exact⟨h1,h2⟩
 have hr:=rdI_rng h.bytes i;have J:=rdI_rng h.bytes (rdN b i);have q:=rdI_rng h.bytes (rdN b (rdN b i))
 obtain⟨s,Y⟩:∃ s,s=spoilF b d i:=⟨_,rfl⟩
 rw[<-Y];have O:=hid Y
 obtain⟨l,M⟩:∃ l,l=rdN b i:=⟨_,rfl⟩
 obtain⟨j,k⟩:∃ j,j=rdN b l:=⟨_,rfl⟩
 rw[<-M] at J q;rw[<-k] at q
 obtain⟨x,ex⟩:∃ x:Nat,rdI b i=x:=⟨(rdI b i).toNat,by omega⟩
 obtain⟨u,Z⟩:∃ u:Nat,rdI b l=u:=⟨(rdI b l).toNat,by omega⟩
 obtain⟨y,ey⟩:∃ y:Nat,rdI b j=y:=⟨(rdI b j).toNat,by omega⟩
 have e8:(x:Int).tmod 9=3:=by rw[Int.tmod_eq_emod_of_nonneg (by omega)];rw[ex] at hk;omega
 have hx:x<256:=by omega
 have hu:u<256:=by omega
 have hy:y<256:=by omega
 obtain⟨a,L⟩:∃ a,a=u % d.length:=⟨_,rfl⟩
 have D:a<d.length:=by rw[L];exact Nat.mod_lt _ h0
 have e3:a<n:=by omega
 have e7:((n:Int) == 0)=false:=by rw[beq_eq_false_iff_ne];omega
 have e6:(u:Int).tmod (n:Int)=(a:Int):=by rw[L,hn,Int.tmod_eq_emod_of_nonneg (by omega)];rfl
 have h5:n<=600:=by omega
 obtain⟨r,t⟩:∃ r,r=d.length-1:=⟨_,rfl⟩
 have h8:(n:Int)-1=(r:Int):=by omega
 have h4:r<=n:=by omega
 have HV:Hid (s=(d.take r,j)):=by
  show _=_
  rw[O.o]
  unfold spoilF
  simp only;rw[<-M,<-k,Z,ey,Int.toNat_natCast,Int.toNat_natCast,<-L,<-t,hk]
  first | rfl | (rw[if_neg (by decide),if_neg (by decide),if_neg (by decide),if_pos rfl])
 have Q:Hid (∀ W,RdIn W R p c b i->Calls Tryz.prog 33 #[.pointer (some ⟨R,0,none⟩)] W fun e f=>e = .returned (.int .i64 (x:Int))/\Keep R (R+1) W f/\f.heap.size=W.heap.size/\RdIn f R p c b l):=fun W C=>by
  have:=next_any R c i p b W C;rw[ex,<-M] at this;exact this
 have S:Hid (∀ W,RdIn W R p c b l->Calls Tryz.prog 33 #[.pointer (some ⟨R,0,none⟩)] W fun e f=>e = .returned (.int .i64 (u:Int))/\Keep R (R+1) W f/\f.heap.size=W.heap.size/\RdIn f R p c b j):=fun W C=>by
  have:=next_any R c l p b W C;rw[Z,<-k] at this;exact this
 have e1:Hid (∀ W,RdIn W R p c b j->Calls Tryz.prog 33 #[.pointer (some ⟨R,0,none⟩)] W fun e f=>e = .returned (.int .i64 (y:Int))/\Keep R (R+1) W f/\f.heap.size=W.heap.size/\RdIn f R p c b (rdN b j)):=fun W C=>by
  have:=next_any R c j p b W C;rw[ey] at this;exact this
 have h9:=hid D;have T:=hid hn;clear h I Y M k ex Z ey L hn hk H h0 hl hr J q D t
 go_enter Tryz.func35,Tryz.ntmps35
 go_wp2_with fail;refine(Q.o w HH.o).mono ?_;rintro e w2 ⟨rfl,F,h6,z⟩;have V:=hid z;have P:=hid F;clear F h6 z;go_wp2_with fail;refine(S.o w2 V.o).mono ?_;rintro e w3 ⟨rfl,G,h7,A⟩;have X:=hid A;have m:=hid (P.o.trans G);have U:=hid (HO.o.keepR m.o h3);have e2:B<=w3.heap.size:=Nat.le_trans v m.o.size;clear G h7 A
 have N:Hid (SpoilOut w B R p c b (d.take r,j) (.returned (.slice (some ⟨g,0,none⟩) r K)) w3):=⟨_,_,_,rfl,U.o.cut h4,Kb.of_keep m.o v,X.o⟩
 have e4:n<=K:=by rw[T.o];exact E.1
 go_wp2_with fail;go_ret;rw[HV.o];exact N.o
theorem spoil_4 (R c i:Nat)(p:Option Addr)(b:List Int)(B g n cp:Nat)(f:List Cel)(w:World)(h:RdIn w R p c b i)(H:R<B)(E:B<=w.heap.size)(P:OwnC w B (some ⟨g,0,none⟩) n cp f)(h0:0<f.length)(hl:f.length<=600)(O:NumC f)(hk:(rdI b i).toNat % 9=4) :
  Calls Tryz.prog 35 #[.slice (some ⟨g,0,none⟩) n cp,.pointer (some ⟨R,0,none⟩)] w (SpoilOut w B R p c b (spoilF b f i)):=by
 have HH:=hid h;have HO:=hid P;have hn:n=f.length:=P.1;have e2:=P.cap
 have e7:B<=g/\g<w.heap.size:=by obtain⟨g',e,h1,h2⟩:=P.at0 h0;cases e;exact⟨h1,h2⟩
 have hr:=rdI_rng h.bytes i;have Q:=rdI_rng h.bytes (rdN b i);have v:=rdI_rng h.bytes (rdN b (rdN b i))
 obtain⟨z,er⟩:∃ z,z=spoilF b f i:=⟨_,rfl⟩
 rw[<-er];have X:=hid er
 obtain⟨q,T⟩:∃ q,q=rdN b i:=⟨_,rfl⟩
 obtain⟨l,m⟩:∃ l,l=rdN b q:=⟨_,rfl⟩
 rw[<-T] at Q v;rw[<-m] at v
 obtain⟨x,ex⟩:∃ x:Nat,rdI b i=x:=⟨(rdI b i).toNat,by omega⟩
 obtain⟨u,eu⟩:∃ u:Nat,rdI b q=u:=⟨(rdI b q).toNat,by omega⟩
 obtain⟨y,ey⟩:∃ y:Nat,rdI b l=y:=⟨(rdI b l).toNat,by omega⟩
 have k2:(x:Int).tmod 9=4:=by rw[Int.tmod_eq_emod_of_nonneg (by omega)];rw[ex] at hk;omega
 have hx:x<256:=by omega
 have hu:u<256:=by omega
 have hy:y<256:=by omega
 obtain⟨a,S⟩:∃ a,a=u % f.length:=⟨_,rfl⟩
 have J:a<f.length:=by rw[S];exact Nat.mod_lt _ h0
 have e6:a<n:=by omega
 have e9:((n:Int) == 0)=false:=by rw[beq_eq_false_iff_ne];omega
 have e8:(u:Int).tmod (n:Int)=(a:Int):=by rw[S,hn,Int.tmod_eq_emod_of_nonneg (by omega)];rfl
 have h8:n<=600:=by omega
 have HV:Hid (z=(f ++ [(2,0,[])],l)):=by
  show _=_
  rw[X.o]
  unfold spoilF
  simp only;rw[<-T,<-m,eu,ey,Int.toNat_natCast,Int.toNat_natCast,<-S,hk]
  first | rfl | (rw[if_neg (by decide),if_neg (by decide),if_neg (by decide),if_neg (by decide),if_pos rfl])
 have Z:Hid (∀ W,RdIn W R p c b i->Calls Tryz.prog 33 #[.pointer (some ⟨R,0,none⟩)] W fun e k=>e = .returned (.int .i64 (x:Int))/\Keep R (R+1) W k/\k.heap.size=W.heap.size/\RdIn k R p c b q):=fun W I=>by
  have:=next_any R c i p b W I;rw[ex,<-T] at this;exact this
 have h3:Hid (∀ W,RdIn W R p c b q->Calls Tryz.prog 33 #[.pointer (some ⟨R,0,none⟩)] W fun e k=>e = .returned (.int .i64 (u:Int))/\Keep R (R+1) W k/\k.heap.size=W.heap.size/\RdIn k R p c b l):=fun W I=>by
  have:=next_any R c q p b W I;rw[eu,<-m] at this;exact this
 have e4:Hid (∀ W,RdIn W R p c b l->Calls Tryz.prog 33 #[.pointer (some ⟨R,0,none⟩)] W fun e k=>e = .returned (.int .i64 (y:Int))/\Keep R (R+1) W k/\k.heap.size=W.heap.size/\RdIn k R p c b (rdN b l)):=fun W I=>by
  have:=next_any R c l p b W I;rw[ey] at this;exact this
 have e3:=hid J;have e5:=hid hn;clear h P er T m ex eu ey S hn hk O h0 hl hr Q v J
 go_enter Tryz.func35,Tryz.ntmps35
 go_wp2_with fail;refine(Z.o w HH.o).mono ?_;rintro e w2 ⟨rfl,M,h9,F⟩;have h6:=hid F;have Y:=hid M;clear M h9 F;go_wp2_with fail;refine(h3.o w2 h6.o).mono ?_;rintro e d ⟨rfl,N,e1,G⟩;have h7:=hid G;have r:=hid (Y.o.trans N);have h4:=hid (HO.o.keepR r.o H);have D:B<=d.heap.size:=Nat.le_trans E r.o.size;clear N e1 G;have L:Below d.heap.size d (d.alloc (Obj.cells #[Value.int IntKind.i64 2,Value.int IntKind.i64 0,Value.slice none 0 0] 27)):=(Below.refl _ _).alloc (Nat.le_refl _) _;have A:Hid _:=L;have V:Hid (Box3 (d.alloc (Obj.cells #[Value.int IntKind.i64 2,Value.int IntKind.i64 0,Value.slice none 0 0] 27)) d.heap.size (.int .i64 2) (.int .i64 0) (.slice none 0 0)):=Box3.of_block (t:=27) (heap_alloc_new d _)
 have h5:Hid (OwnT (d.alloc (Obj.cells #[Value.int IntKind.i64 2,Value.int IntKind.i64 0,Value.slice none 0 0] 27)) d.heap.size none 0 0 []):=⟨rfl,fun h=>absurd h (by decide)⟩
 clear L;go_wp2_with (at_builtin;refine app_cell d _ rfl _ _ rfl B (some ⟨g,0,none⟩) n cp _ rfl h4.o A.o D ⟨d.heap.size,0,none⟩ 1 rfl 2 0 none 0 0 [] h5.o (news_rc V.o) (by omega) ?_;intro g4 n4 C w4 j K k1);have s:Below B d w4:=(A.o.mono D).trans K
 have U:Hid (SpoilOut w B R p c b (f ++ [(2,0,[])],l) (.returned (.slice (some ⟨g4,0,none⟩) n4 C)) w4):=⟨_,_,_,rfl,j,(Kb.of_keep r.o E).trans (Kb.of_below s),h7.o.below s H⟩
 clear j K s;go_wp2_with fail;go_ret;rw[HV.o];exact U.o
theorem spoil_5 (R c i:Nat)(p:Option Addr)(b:List Int)(B g n cp:Nat)(d:List Cel)(w:World)(h:RdIn w R p c b i)(v:R<B)(t:B<=w.heap.size)(V:OwnC w B (some ⟨g,0,none⟩) n cp d)(h0:0<d.length)(hl:d.length<=600)(U:NumC d)(hk:(rdI b i).toNat % 9=5) :
  Calls Tryz.prog 35 #[.slice (some ⟨g,0,none⟩) n cp,.pointer (some ⟨R,0,none⟩)] w (SpoilOut w B R p c b (spoilF b d i)):=by
 have HH:=hid h;have HO:=hid V;have hn:n=d.length:=V.1;have k3:=V.cap
 have P:B<=g/\g<w.heap.size:=by obtain⟨g',e,h1,h2⟩:=V.at0 h0;cases e;exact⟨h1,h2⟩
 have hr:=rdI_rng h.bytes i;have X:=rdI_rng h.bytes (rdN b i);have D:=rdI_rng h.bytes (rdN b (rdN b i))
 obtain⟨F,er⟩:∃ F,F=spoilF b d i:=⟨_,rfl⟩
 rw[<-er];have h4:=hid er
 obtain⟨r,ei⟩:∃ r,r=rdN b i:=⟨_,rfl⟩
 obtain⟨j,l⟩:∃ j,j=rdN b r:=⟨_,rfl⟩
 rw[<-ei] at X D;rw[<-l] at D
 obtain⟨x,ex⟩:∃ x:Nat,rdI b i=x:=⟨(rdI b i).toNat,by omega⟩
 obtain⟨u,eu⟩:∃ u:Nat,rdI b r=u:=⟨(rdI b r).toNat,by omega⟩
 obtain⟨y,ey⟩:∃ y:Nat,rdI b j=y:=⟨(rdI b j).toNat,by omega⟩
 have x2:(x:Int).tmod 9=5:=by rw[Int.tmod_eq_emod_of_nonneg (by omega)];rw[ex] at hk;omega
 have hx:x<256:=by omega
 have hu:u<256:=by omega
 have hy:y<256:=by omega
 obtain⟨a,Z⟩:∃ a,a=u % d.length:=⟨_,rfl⟩
 have O:a<d.length:=by rw[Z];exact Nat.mod_lt _ h0
 have k7:a<n:=by omega
 have x1:((n:Int) == 0)=false:=by rw[beq_eq_false_iff_ne];omega
 have k8:(u:Int).tmod (n:Int)=(a:Int):=by rw[Z,hn,Int.tmod_eq_emod_of_nonneg (by omega)];rfl
 have e5:n<=600:=by omega
 obtain⟨z,ez⟩:∃ z,z=y % 2:=⟨_,rfl⟩
 have hz:z<2:=by omega
 have k9:(y:Int).tmod 2=(z:Int):=by rw[ez,Int.tmod_eq_emod_of_nonneg (by omega)];rfl
 obtain⟨E,I⟩:∃ E,E=100+z:=⟨_,rfl⟩
 have e9:(100:Int)+(z:Int)=(E:Int):=by omega
 have e4:E<=1000:=by omega
 have HV:Hid (F=(d.set a ((d.getD a Cel.none).1,(d.getD a Cel.none).2.1,List.replicate E 116),rdN b j)):=by
  show _=_
  rw[h4.o]
  unfold spoilF
  simp only;rw[<-ei,<-l,eu,ey,Int.toNat_natCast,Int.toNat_natCast,<-Z,<-ez,<-I,hk]
  first | rfl | (rw[if_neg (by decide),if_neg (by decide),if_neg (by decide),if_neg (by decide),if_neg (by decide),if_pos rfl])
 have h6:Hid (∀ W,RdIn W R p c b i->Calls Tryz.prog 33 #[.pointer (some ⟨R,0,none⟩)] W fun e f=>e = .returned (.int .i64 (x:Int))/\Keep R (R+1) W f/\f.heap.size=W.heap.size/\RdIn f R p c b r):=fun W N=>by
  have:=next_any R c i p b W N;rw[ex,<-ei] at this;exact this
 have h7:Hid (∀ W,RdIn W R p c b r->Calls Tryz.prog 33 #[.pointer (some ⟨R,0,none⟩)] W fun e f=>e = .returned (.int .i64 (u:Int))/\Keep R (R+1) W f/\f.heap.size=W.heap.size/\RdIn f R p c b j):=fun W N=>by
  have:=next_any R c r p b W N;rw[eu,<-l] at this;exact this
 have h8:Hid (∀ W,RdIn W R p c b j->Calls Tryz.prog 33 #[.pointer (some ⟨R,0,none⟩)] W fun e f=>e = .returned (.int .i64 (y:Int))/\Keep R (R+1) W f/\f.heap.size=W.heap.size/\RdIn f R p c b (rdN b j)):=fun W N=>by
  have:=next_any R c j p b W N;rw[ey] at this;exact this
 have G:=hid O;have k4:=hid hn;clear h V er ei l ex eu ey Z hn hk U h0 hl hr X D O ez I
 go_enter Tryz.func35,Tryz.ntmps35
 go_wp2_with fail;refine(h6.o w HH.o).mono ?_;rintro e w2 ⟨rfl,Q,e6,K⟩;have h9:=hid K;have h5:=hid Q;clear Q e6 K;go_wp2_with fail;refine(h7.o w2 h9.o).mono ?_;rintro e w3 ⟨rfl,S,e7,L⟩;have e1:=hid L;have s:=hid (h5.o.trans S);have k5:=hid (HO.o.keepR s.o v);have k6:B<=w3.heap.size:=Nat.le_trans t s.o.size;clear S e7 L;go_wp2_with fail;refine(h8.o w3 e1.o).mono ?_;rintro e w4 ⟨rfl,T,e8,M⟩;have e2:=hid M;have k:=hid (s.o.trans T);have H:=hid (HO.o.keepR k.o v);have J:B<=w4.heap.size:=Nat.le_trans t k.o.size
 clear T e8 M;go_wp2_with fail;refine(l4fill_any E e4 w4).mono ?_;rintro e w5 ⟨p5,n5,c5,rfl,Y,m⟩;have e3:g<w4.heap.size:=Nat.lt_of_lt_of_le P.2 k.o.size;have C:=H.o.below m;obtain⟨k0,k1,⟨tq,tk,td,k2⟩,kf⟩:=C.cells G.o;have x3:=kf (a * 3+2);have q:=C.setT G.o J e3 (H.o.low2 m) Y.toT;have A:Below B w4 (w5.setCell ⟨g,a * 3+2,none⟩ (.slice p5 n5 c5)):=Below.setCell (m.mono J) P.1 _
 have h3:Hid (SpoilOut w B R p c b (d.set a ((d.getD a Cel.none).1,(d.getD a Cel.none).2.1,List.replicate E 116),rdN b j) (.returned (.slice (some ⟨g,0,none⟩) n cp)) (w5.setCell ⟨g,a * 3+2,none⟩ (.slice p5 n5 c5))):=⟨_,_,_,rfl,q,(Kb.of_keep k.o t).trans (Kb.of_below A),e2.o.below A v⟩
 clear Y m C q A kf;go_wp2_with fail;go_ret;rw[HV.o];exact h3.o
theorem spoil_8 (R c i:Nat)(p:Option Addr)(b:List Int)(B g n cp:Nat)(d:List Cel)(w:World)(h:RdIn w R p c b i)(C:R<B)(A:B<=w.heap.size)(S:OwnC w B (some ⟨g,0,none⟩) n cp d)(h0:0<d.length)(hl:d.length<=600)(Q:NumC d)(hk:(rdI b i).toNat % 9=8) :
  Calls Tryz.prog 35 #[.slice (some ⟨g,0,none⟩) n cp,.pointer (some ⟨R,0,none⟩)] w (SpoilOut w B R p c b (spoilF b d i)):=by
 have HH:=hid h;have HO:=hid S;have hn:n=d.length:=S.1;have e8:=S.cap
 have r:B<=g/\g<w.heap.size:=by obtain⟨g',e,h1,h2⟩:=S.at0 h0;cases e;exact⟨h1,h2⟩
 have hr:=rdI_rng h.bytes i;have T:=rdI_rng h.bytes (rdN b i);have E:=rdI_rng h.bytes (rdN b (rdN b i))
 obtain⟨F,er⟩:∃ F,F=spoilF b d i:=⟨_,rfl⟩
 rw[<-er];have h3:=hid er
 obtain⟨t,X⟩:∃ t,t=rdN b i:=⟨_,rfl⟩
 obtain⟨l,q⟩:∃ l,l=rdN b t:=⟨_,rfl⟩
 rw[<-X] at T E;rw[<-q] at E
 obtain⟨x,ex⟩:∃ x:Nat,rdI b i=x:=⟨(rdI b i).toNat,by omega⟩
 obtain⟨u,eu⟩:∃ u:Nat,rdI b t=u:=⟨(rdI b t).toNat,by omega⟩
 obtain⟨y,ey⟩:∃ y:Nat,rdI b l=y:=⟨(rdI b l).toNat,by omega⟩
 have k9:(x:Int).tmod 9=8:=by rw[Int.tmod_eq_emod_of_nonneg (by omega)];rw[ex] at hk;omega
 have hx:x<256:=by omega
 have hu:u<256:=by omega
 have hy:y<256:=by omega
 obtain⟨a,V⟩:∃ a,a=u % d.length:=⟨_,rfl⟩
 have L:a<d.length:=by rw[V];exact Nat.mod_lt _ h0
 have k5:a<n:=by omega
 have k8:((n:Int) == 0)=false:=by rw[beq_eq_false_iff_ne];omega
 have k6:(u:Int).tmod (n:Int)=(a:Int):=by rw[V,hn,Int.tmod_eq_emod_of_nonneg (by omega)];rfl
 have e3:n<=600:=by omega
 obtain⟨z,ez⟩:∃ z,z=y % 2:=⟨_,rfl⟩
 have hz:z<2:=by omega
 have k7:(y:Int).tmod 2=(z:Int):=by rw[ez,Int.tmod_eq_emod_of_nonneg (by omega)];rfl
 have HV:Hid (F=(d.set a (0,1000000+(z:Int),[]),rdN b l)):=by
  show _=_
  rw[h3.o]
  unfold spoilF
  simp only;rw[<-X,<-q,eu,ey,Int.toNat_natCast,Int.toNat_natCast,<-V,<-ez,hk]
  first | rfl | (rw[if_neg (by decide),if_neg (by decide),if_neg (by decide),if_neg (by decide),if_neg (by decide),if_neg (by decide),if_neg (by decide),if_neg (by decide)])
 have h5:Hid (∀ W,RdIn W R p c b i->Calls Tryz.prog 33 #[.pointer (some ⟨R,0,none⟩)] W fun e k=>e = .returned (.int .i64 (x:Int))/\Keep R (R+1) W k/\k.heap.size=W.heap.size/\RdIn k R p c b t):=fun W K=>by
  have:=next_any R c i p b W K;rw[ex,<-X] at this;exact this
 have h6:Hid (∀ W,RdIn W R p c b t->Calls Tryz.prog 33 #[.pointer (some ⟨R,0,none⟩)] W fun e k=>e = .returned (.int .i64 (u:Int))/\Keep R (R+1) W k/\k.heap.size=W.heap.size/\RdIn k R p c b l):=fun W K=>by
  have:=next_any R c t p b W K;rw[eu,<-q] at this;exact this
 have h7:Hid (∀ W,RdIn W R p c b l->Calls Tryz.prog 33 #[.pointer (some ⟨R,0,none⟩)] W fun e k=>e = .returned (.int .i64 (y:Int))/\Keep R (R+1) W k/\k.heap.size=W.heap.size/\RdIn k R p c b (rdN b l)):=fun W K=>by
  have:=next_any R c l p b W K;rw[ey] at this;exact this
 have f:=hid L;have e9:=hid hn;clear h S er X q ex eu ey V hn hk Q h0 hl hr T E L ez
 go_enter Tryz.func35,Tryz.ntmps35
 go_wp2_with fail;refine(h5.o w HH.o).mono ?_;rintro e w2 ⟨rfl,N,e5,H⟩;have h8:=hid H;have h4:=hid N;clear N e5 H;go_wp2_with fail;refine(h6.o w2 h8.o).mono ?_;rintro e w3 ⟨rfl,O,e6,I⟩;have h9:=hid I;have v:=hid (h4.o.trans O);have k3:=hid (HO.o.keepR v.o C);have k4:B<=w3.heap.size:=Nat.le_trans A v.o.size;clear O e6 I;go_wp2_with fail;refine(h7.o w3 h9.o).mono ?_;rintro e U ⟨rfl,P,e7,J⟩;have e1:=hid J;have m:=hid (v.o.trans P);have G:=hid (HO.o.keepR m.o C);have e2:B<=U.heap.size:=Nat.le_trans A m.o.size
 clear P e7 J;obtain⟨k0,k1,⟨tq,tk,td,k2⟩,Y⟩:=G.o.cells f.o;have x1:=Y (a * 3);have x2:=Y (a * 3+1);have x3:=Y (a * 3+2);clear Y;have o1:=G.o.setK f.o 0;have o2:=o1.setN (j:=a) (by rw[List.length_set];exact f.o) (1000000+(z:Int));have o3:=o2.setT (j:=a) (M:=U.heap.size) (tp:=none) (tn:=0) (tc:=0) (s:=[]) (by rw[List.length_set,List.length_set];exact f.o) e2 (Nat.lt_of_lt_of_le r.2 m.o.size) (by have:=o2.low;simpa using this) ⟨rfl,fun h=>absurd h (by decide)⟩
 have el:((d.set a (0,(d.getD a Cel.none).2)).set a (((d.set a (0,(d.getD a Cel.none).2)).getD a Cel.none).1,1000000+(z:Int),((d.set a (0,(d.getD a Cel.none).2)).getD a Cel.none).2.2))=d.set a (0,1000000+(z:Int),(d.getD a Cel.none).2.2):=by
  rw[List.set_set,cs_set_at _ _ _ _ f.o,if_pos rfl]
 have e4:(d.set a (0,1000000+(z:Int),(d.getD a Cel.none).2.2)).set a (((d.set a (0,1000000+(z:Int),(d.getD a Cel.none).2.2)).getD a Cel.none).1,((d.set a (0,1000000+(z:Int),(d.getD a Cel.none).2.2)).getD a Cel.none).2.1,[])=d.set a (0,1000000+(z:Int),[]):=by
  rw[List.set_set,cs_set_at _ _ _ _ f.o,if_pos rfl]
 rw[el,e4] at o3;have D:Below B U (((U.setCell ⟨g,a * 3,none⟩ (.int .i64 0)).setCell ⟨g,a * 3+1,none⟩ (.int .i64 (1000000+(z:Int)))).setCell ⟨g,a * 3+2,none⟩ (.slice none 0 0)):=Below.setCell (Below.setCell (Below.setCell (Below.refl _ _) r.1 _) r.1 _) r.1 _
 have Z:Hid (SpoilOut w B R p c b (d.set a (0,1000000+(z:Int),[]),rdN b l) (.returned (.slice (some ⟨g,0,none⟩) n cp)) (((U.setCell ⟨g,a * 3,none⟩ (.int .i64 0)).setCell ⟨g,a * 3+1,none⟩ (.int .i64 (1000000+(z:Int)))).setCell ⟨g,a * 3+2,none⟩ (.slice none 0 0))):=⟨_,_,_,rfl,o3,(Kb.of_keep m.o A).trans (Kb.of_below D),e1.o.below D C⟩
 clear o1 o2 o3 el e4 D;go_wp2_with fail;go_ret;rw[HV.o];exact Z.o
theorem conv_byte (w:World)(x:Int):(convert 22 22 (.slice (some ⟨w.heap.size,0,none⟩) 1 1)).run Tryz.prog (w.alloc (.cells #[.int .u8 x] 5)) = .ok (.slice (some ⟨w.heap.size,0,none⟩) 1 1) (w.alloc (.cells #[.int .u8 x] 5 (1,2))):=
 Lib.run_convert_bytes_const (P:=Tryz.prog) w 22 5 #[.int .u8 x] 1 1 Tryz.underlying22 Tryz.underlying5
theorem byte_text (w:World)(x:Int):OwnT (w.alloc (.cells #[.int .u8 x] 5 (1,2))) w.heap.size (some ⟨w.heap.size,0,none⟩) 1 1 [x]:=⟨rfl,fun _=>⟨w.heap.size,rfl,Nat.le_refl _,by simp,fun i b=>by
 have a:i=0:=by omega
 subst a;refine⟨cell_of_row _ _ 0 _ _ _ (heap_alloc_new _ _),?_⟩;simp only[World.frozen?,heap_alloc_new]
 simp⟩⟩
theorem own_two {w:World}{B g d p:Nat}{k n m o:Int}{f:Option Addr}{s:List Int}(u:w.heap[g]?=some (.cells #[.int .i64 k,.int .i64 n,.slice f d p,.int .i64 m,.int .i64 o,.slice none 0 0] 27))(t:B<=g)(x:OwnT w B f d p s)(l:0<d->∀ a,f=some a->a.block≠g):OwnC w B (some ⟨g,0,none⟩) 2 2 [(k,n,s),(m,o,[])]:=by
 refine⟨rfl,[(k,n,f,d,p),(m,o,none,0,0)],rfl,⟨rfl,.inr ⟨g,2,_,rfl,t,u,Nat.le_refl _,by decide,rfl,rfl⟩⟩,fun i b=>?_,?_⟩
 ·rcases(by simp at b;omega:i=0∨i=1) with rfl | rfl
  ·exact⟨rfl,rfl,x⟩
  ·exact⟨rfl,rfl,rfl,fun h=>absurd (show 0<0 from h) (Nat.lt_irrefl 0)⟩
 ·refine⟨fun i b h=>?_,fun i j b v c q r=>?_⟩
  ·rcases(by simp at b;omega:i=0∨i=1) with rfl | rfl
   ·exact fun e=>l h _ e rfl
   ·exact absurd (show 0<0 from h) (Nat.lt_irrefl 0)
  ·rcases(by simp at b;omega:i=0∨i=1) with rfl | rfl
   ·rcases(by simp at v;omega:j=0∨j=1) with rfl | rfl
    ·exact absurd rfl c
    ·exact absurd (show 0<0 from r) (Nat.lt_irrefl 0)
   ·exact absurd (show 0<0 from q) (Nat.lt_irrefl 0)
theorem l2atomW_any (s:List Int)(u:Byte s)(w:World):Calls Tryz.prog 105 #[.string (strOfNums s)] w fun e j=>∃ p,e = .returned (.slice p 1 1)/\OwnC j w.heap.size p 1 1 [(2,0,s)]/\Below w.heap.size w j:=by
 obtain⟨d,b,h,c,f⟩:=conv_bytes w s u 9 Tryz.underlying9
 obtain⟨l,i⟩:∃ l,l=s.length:=⟨_,rfl⟩
 rw[<-i] at h f;have g:Below d.heap.size d (d.alloc (Obj.cells #[Value.int IntKind.i64 2,Value.int IntKind.i64 0,Value.slice (some ⟨w.heap.size,0,none⟩) l b] 27)):=(Below.refl _ _).alloc (Nat.le_refl _) _
 have m:Hid (OwnC (d.alloc (Obj.cells #[Value.int IntKind.i64 2,Value.int IntKind.i64 0,Value.slice (some ⟨w.heap.size,0,none⟩) l b] 27)) w.heap.size (some ⟨d.heap.size,0,none⟩) 1 1 [(2,0,s)]):=own_oneN (heap_alloc_new d _) c.size (f.below g) (fun r a q=>by
  obtain⟨v,n,_,t,_⟩:=f.2 r
  cases n
  cases q
  exact Nat.ne_of_lt t)
 have k:=hid (Below.on c g);clear c f g i
 go_enter Tryz.func105,Tryz.ntmps105
 go_wp2_with fail;go_ret;exact⟨_,rfl,m.o,k.o⟩
theorem spoil_7 (R c i:Nat)(p:Option Addr)(b:List Int)(B g n cp:Nat)(Q:List Cel)(w:World)(h:RdIn w R p c b i)(e6:R<B)(e5:B<=w.heap.size)(ho:OwnC w B (some ⟨g,0,none⟩) n cp Q)(h0:0<Q.length)(hl:Q.length<=600)(w8:NumC Q)(hk:(rdI b i).toNat % 9=7) :
  Calls Tryz.prog 35 #[.slice (some ⟨g,0,none⟩) n cp,.pointer (some ⟨R,0,none⟩)] w (SpoilOut w B R p c b (spoilF b Q i)):=by
 have HH:=hid h;have HO:=hid ho;have hn:n=Q.length:=ho.1;have a5:=ho.cap
 have d7:B<=g/\g<w.heap.size:=by obtain⟨g',e,h1,h2⟩:=ho.at0 h0;cases e;exact⟨h1,h2⟩
 have hr:=rdI_rng h.bytes i;have w9:=rdI_rng h.bytes (rdN b i);have e8:=rdI_rng h.bytes (rdN b (rdN b i))
 obtain⟨e9,er⟩:∃ e9,e9=spoilF b Q i:=⟨_,rfl⟩
 rw[<-er];have b1:=hid er
 obtain⟨Z,ei⟩:∃ Z,Z=rdN b i:=⟨_,rfl⟩
 obtain⟨O,S⟩:∃ O,O=rdN b Z:=⟨_,rfl⟩
 rw[<-ei] at w9 e8;rw[<-S] at e8
 obtain⟨x,ex⟩:∃ x:Nat,rdI b i=x:=⟨(rdI b i).toNat,by omega⟩
 obtain⟨u,eu⟩:∃ u:Nat,rdI b Z=u:=⟨(rdI b Z).toNat,by omega⟩
 obtain⟨y,ey⟩:∃ y:Nat,rdI b O=y:=⟨(rdI b O).toNat,by omega⟩
 have f7:(x:Int).tmod 9=7:=by rw[Int.tmod_eq_emod_of_nonneg (by omega)];rw[ex] at hk;omega
 have hx:x<256:=by omega
 have hu:u<256:=by omega
 have hy:y<256:=by omega
 obtain⟨a,V⟩:∃ a,a=u % Q.length:=⟨_,rfl⟩
 have k9:a<Q.length:=by rw[V];exact Nat.mod_lt _ h0
 have d6:a<n:=by omega
 have f6:((n:Int) == 0)=false:=by rw[beq_eq_false_iff_ne];omega
 have f3:(u:Int).tmod (n:Int)=(a:Int):=by rw[V,hn,Int.tmod_eq_emod_of_nonneg (by omega)];rfl
 have c8:n<=600:=by omega
 obtain⟨z,ez⟩:∃ z,z=y % 3:=⟨_,rfl⟩
 have hz:z<3:=by omega
 have f5:(y:Int).tmod 3=(z:Int):=by rw[ez,Int.tmod_eq_emod_of_nonneg (by omega)];rfl
 obtain⟨N,eN⟩:∃ N,N=1999+z:=⟨_,rfl⟩
 have a4:(1999:Int)+(z:Int)=(N:Int):=by omega
 have hN:1999<=N/\N<=2001:=by omega
 obtain⟨H,e1⟩:∃ H,H=(N-1) / 2:=⟨_,rfl⟩
 have d8:H<=1000:=by omega
 have Y:(N:Int)-1=((N-1:Nat):Int):=by omega
 have a9:((N:Int)-1).tdiv 2=(H:Int):=by rw[Y,e1];rfl
 have b2:=hid e1
 obtain⟨z2,e3⟩:∃ z,z=N % 2:=⟨_,rfl⟩
 have f8:z2<2:=by omega
 have a7:(N:Int).tmod 2=(z2:Int):=by rw[e3,Int.tmod_eq_emod_of_nonneg (by omega)];rfl
 have c6:=hid e3
 have HV:Hid (e9=(bigF N,rdN b O)):=by
  show _=_
  rw[b1.o]
  unfold spoilF
  simp only;rw[<-ei,<-S,eu,ey,Int.toNat_natCast,Int.toNat_natCast,<-V,<-ez,<-eN,hk]
  first | rfl | (rw[if_neg (by decide),if_neg (by decide),if_neg (by decide),if_neg (by decide),if_neg (by decide),if_neg (by decide),if_neg (by decide),if_pos rfl])
 have b5:Hid (∀ W,RdIn W R p c b i->Calls Tryz.prog 33 #[.pointer (some ⟨R,0,none⟩)] W fun e M=>e = .returned (.int .i64 (x:Int))/\Keep R (R+1) W M/\M.heap.size=W.heap.size/\RdIn M R p c b Z):=fun W hW=>by
  have:=next_any R c i p b W hW;rw[ex,<-ei] at this;exact this
 have b6:Hid (∀ W,RdIn W R p c b Z->Calls Tryz.prog 33 #[.pointer (some ⟨R,0,none⟩)] W fun e M=>e = .returned (.int .i64 (u:Int))/\Keep R (R+1) W M/\M.heap.size=W.heap.size/\RdIn M R p c b O):=fun W hW=>by
  have:=next_any R c Z p b W hW;rw[eu,<-S] at this;exact this
 have b7:Hid (∀ W,RdIn W R p c b O->Calls Tryz.prog 33 #[.pointer (some ⟨R,0,none⟩)] W fun e M=>e = .returned (.int .i64 (y:Int))/\Keep R (R+1) W M/\M.heap.size=W.heap.size/\RdIn M R p c b (rdN b O)):=fun W hW=>by
  have:=next_any R c O p b W hW;rw[ey] at this;exact this
 have d1:=hid k9;have d2:=hid hn;clear h ho er ei S ex eu ey V hn hk w8 h0 hl hr w9 e8 k9 ez eN e1 Y e3
 go_enter Tryz.func35,Tryz.ntmps35
 go_wp2_with fail;refine(b5.o w HH.o).mono ?_;rintro e w2 ⟨rfl,x5,a1,k6⟩;have c1:=hid k6;have b3:=hid x5;clear x5 a1 k6;go_wp2_with fail;refine(b6.o w2 c1.o).mono ?_;rintro e w3 ⟨rfl,x6,a2,k7⟩;have c3:=hid k7;have h5:=hid (b3.o.trans x6);have d3:=hid (HO.o.keepR h5.o e6);have d5:B<=w3.heap.size:=Nat.le_trans e5 h5.o.size;clear x6 a2 k7;go_wp2_with fail;refine(b7.o w3 c3.o).mono ?_;rintro e l ⟨rfl,x7,a3,k8⟩;have c4:=hid k8;have h6:=hid (h5.o.trans x7);have d4:=hid (HO.o.keepR h6.o e6);have E:B<=l.heap.size:=Nat.le_trans e5 h6.o.size
 clear x7 a3 k8;have x4:=conv_byte
 have k1:Hid (bigF N=(bigL H ++ (if z2=0 then [(3,1,[102])] else [])) ++ [nilC]):=by rw[b2.o,c6.o];rfl
 go_wp2_with fail
 go_loopw [7,9] (fun s jv wr=>∃ (j m cr:Nat) (r:Option Addr),j<=H/\m<=2 * H/\Hid (m=2 * j)/\jv = .int .i64 j/\s = .slice r m cr/\Hid (OwnC wr l.heap.size r m cr (bigL j))/\Hid (Below l.heap.size l wr)) (fun _ jv _=>H-(intOf jv).toNat)
 case atStart=>exact⟨0,0,0,none,Nat.zero_le _,Nat.zero_le _,rfl,rfl,rfl,OwnC.nil _ _,Below.refl _ _⟩
 case round=>
  obtain⟨j,m,cr,r,hj,f4,b4,rfl,rfl,h9,HB⟩:=hrel;have e4:l.heap.size<=wr.heap.size:=HB.o.size
  by_cases f1:j<H
  ·obtain⟨jm,e2⟩:∃ jm,jm=j % 7:=⟨_,rfl⟩
   have d9:(j:Int).tmod 7=(jm:Int):=by rw[e2,Int.tmod_eq_emod_of_nonneg (by omega)];rfl
   have a6:jm<7:=by omega
   obtain⟨q,d⟩:∃ q,q=wr.alloc (.cells #[.int .u8 46] 5 (1,2)):=⟨_,rfl⟩
   have G:Below wr.heap.size wr q:=by rw[d];exact(Below.refl _ _).alloc (Nat.le_refl _) _
   have L:q.heap.size=wr.heap.size+1:=by rw[d];simp
   have A:=byte_text wr 46;rw[<-d] at A
   obtain⟨wc,k⟩:∃ wc,wc=q.alloc (Obj.cells #[Value.int IntKind.i64 3,Value.int IntKind.i64 2,Value.slice (some ⟨wr.heap.size,0,none⟩) 1 1,Value.int IntKind.i64 0,Value.int IntKind.i64 (jm:Int),Value.slice none 0 0] 27):=⟨_,rfl⟩
   have t:Below q.heap.size q wc:=by rw[k];exact(Below.refl _ _).alloc (Nat.le_refl _) _
   have f:=heap_alloc_new q (Obj.cells #[Value.int IntKind.i64 3,Value.int IntKind.i64 2,Value.slice (some ⟨wr.heap.size,0,none⟩) 1 1,Value.int IntKind.i64 0,Value.int IntKind.i64 (jm:Int),Value.slice none 0 0] 27);rw[<-k,L] at f;have b9:Hid (OwnC wc wr.heap.size (some ⟨wr.heap.size+1,0,none⟩) 2 2 [dot,(0,(jm:Int),[])]):=own_two f (by omega) (A.below t) (fun _ a V=>by cases V;simp);have D:=hid (Below.on G t)
   have c5:Hid (bigL (j+1)=bigL j ++ [dot,(0,(jm:Int),[])]):=by rw[e2];exact bigL_succ j
   rw[d] at k;clear G t f A d L e2;have X:=x4 wr 46;go_wp2_with (at_builtin;rw[<-k];refine app_cells wr wc rfl _ _ rfl l.heap.size r m cr _ rfl h9.o D.o e4 (some ⟨wr.heap.size+1,0,none⟩) 2 2 _ rfl b9.o (by decide) (by omega) ?_;intro g4 n4 U w5 J x1 x8)
   have h7:Hid (OwnC w5 l.heap.size (some ⟨g4,0,none⟩) n4 U (bigL (j+1))):=by rw[c5.o];exact J
   have P:Hid (Below l.heap.size l w5):=(Below.on HB.o D.o).trans x1
   have k2:Hid (n4=2 * (j+1)):=by show _=_;have:=x8.o;have:=b4.o;omega
   have x9:n4<=2 * H:=by have:=k2.o;omega
   clear J x1 x8;go_roundw
   case rel=>exact⟨j+1,n4,U,_,by omega,x9,k2,by go_num,rfl,h7,P⟩
   case measure=>simp[intOf];omega
  ·obtain rfl:j=H:=by omega
   have f2:m<=2000:=by omega
   have T:Hid (∀ (W W':World) (r2:Option Addr) (m2 c2:Nat),Below l.heap.size l W->OwnC W' B r2 m2 c2 (bigF N)->Below B W W'->SpoilOut w B R p c b (bigF N,rdN b O) (.returned (.slice r2 m2 c2)) W'):=fun W W' r2 m2 c2 h1 h2 h3=>by
    have x3:Below B l W':=(h1.mono E).trans h3;exact⟨_,_,_,rfl,h2,(Kb.of_keep h6.o e5).trans (Kb.of_below x3),c4.o.below x3 e6⟩
   rcases(by omega:z2=0∨z2=1) with h2 | h2
   ·have c7:((z2:Int) == 0)=true:=by rw[h2];rfl
    have h4:Hid (bigF N=(bigL j ++ [(3,1,[102])]) ++ [nilC]):=by show _=_;rw[k1.o,if_pos h2]
    clear h2
    obtain⟨q,d⟩:∃ q,q=wr.alloc (.cells #[.int .u8 102] 5 (1,2)):=⟨_,rfl⟩
    have G:Below wr.heap.size wr q:=by rw[d];exact(Below.refl _ _).alloc (Nat.le_refl _) _
    have L:q.heap.size=wr.heap.size+1:=by rw[d];simp
    have A:=byte_text wr 102;rw[<-d] at A
    obtain⟨wc,k⟩:∃ wc,wc=q.alloc (Obj.cells #[Value.int IntKind.i64 3,Value.int IntKind.i64 1,Value.slice (some ⟨wr.heap.size,0,none⟩) 1 1] 27):=⟨_,rfl⟩
    have t:Below q.heap.size q wc:=by rw[k];exact(Below.refl _ _).alloc (Nat.le_refl _) _
    have f:=heap_alloc_new q (Obj.cells #[Value.int IntKind.i64 3,Value.int IntKind.i64 1,Value.slice (some ⟨wr.heap.size,0,none⟩) 1 1] 27);rw[<-k,L] at f;have b8:Hid (OwnC wc wr.heap.size (some ⟨wr.heap.size+1,0,none⟩) 1 1 [(3,1,[102])]):=own_oneN f (by omega) (A.below t) (fun _ a V=>by cases V;simp);have D:=hid (Below.on G t);rw[d] at k;clear G t f A d L;have X:=x4 wr 102;go_wp2_with (at_builtin;rw[<-k];refine app_cells wr wc rfl _ _ rfl l.heap.size r m cr _ rfl h9.o D.o e4 (some ⟨wr.heap.size+1,0,none⟩) 1 1 _ rfl b8.o (by decide) (by omega) ?_;intro g5 n5 k3 w5 K x2 w1);have h7:=hid K;have P:Hid (Below l.heap.size l w5):=(Below.on HB.o D.o).trans x2
    have a8:n5<=2001:=by have:=w1.o;omega
    have k5:l.heap.size<=w5.heap.size:=P.o.size;clear K x2 w1 X k;rw[nilStr];refine(l2atomW_any [91,93] (fun x hx=>by simp at hx;omega) w5).mono ?_;rintro e w6 ⟨p6,rfl,I,F⟩;have h8:=hid I;have C:=hid F;clear I F;go_wp2_with (at_builtin;refine app_cells w5 w6 rfl _ _ rfl l.heap.size (some ⟨g5,0,none⟩) n5 k3 _ rfl h7.o C.o k5 p6 1 1 _ rfl h8.o (by decide) (by omega) ?_;intro g7 n7 k4 w7 v e7 c9);go_ret;rw[HV.o];exact T.o w6 w7 _ _ _ (Below.on P.o C.o) (by rw[h4.o];exact v.mono E) (e7.mono E)
   ·have c7:((z2:Int) == 0)=false:=by rw[h2];rfl
    have h4:Hid (bigF N=bigL j ++ [nilC]):=by show _=_;rw[k1.o,if_neg (by omega),List.append_nil]
    clear h2;go_wp2_with fail;rw[nilStr];refine(l2atomW_any [91,93] (fun x hx=>by simp at hx;omega) wr).mono ?_;rintro e w6 ⟨p6,rfl,I,F⟩;have h8:=hid I;have C:=hid F;clear I F;go_wp2_with (at_builtin;refine app_cells wr w6 rfl _ _ rfl l.heap.size r m cr _ rfl h9.o C.o e4 p6 1 1 _ rfl h8.o (by decide) (by omega) ?_;intro g7 n7 k4 w7 v e7 c9);go_ret;rw[HV.o];exact T.o w6 w7 _ _ _ (Below.on HB.o C.o) (by rw[h4.o];exact v.mono E) (e7.mono E)
theorem l4spoil_any (R c i:Nat)(p:Option Addr)(b:List Int)(B g n j:Nat)(f:List Cel)(w:World)(h:RdIn w R p c b i)(e:R<B)(d:B<=w.heap.size)(m:OwnC w B (some ⟨g,0,none⟩) n j f)(k:0<f.length)(l:f.length<=600)(a:NumC f) :
  Calls Tryz.prog 35 #[.slice (some ⟨g,0,none⟩) n j,.pointer (some ⟨R,0,none⟩)] w (SpoilOut w B R p c b (spoilF b f i)):=by
 rcases(by omega:(rdI b i).toNat % 9=0∨(rdI b i).toNat % 9=1∨(rdI b i).toNat % 9=2∨(rdI b i).toNat % 9=3∨(rdI b i).toNat % 9=4∨(rdI b i).toNat % 9=5∨(rdI b i).toNat % 9=6∨(rdI b i).toNat % 9=7∨(rdI b i).toNat % 9=8) with hk | hk | hk | hk | hk | hk | hk | hk | hk
 ·exact spoil_0 R c i p b B g n j f w h e d m k l a hk
 ·exact spoil_1 R c i p b B g n j f w h e d m k l a hk
 ·exact spoil_2 R c i p b B g n j f w h e d m k l a hk
 ·exact spoil_3 R c i p b B g n j f w h e d m k l a hk
 ·exact spoil_4 R c i p b B g n j f w h e d m k l a hk
 ·exact spoil_5 R c i p b B g n j f w h e d m k l a hk
 ·exact spoil_6 R c i p b B g n j f w h e d m k l a hk
 ·exact spoil_7 R c i p b B g n j f w h e d m k l a hk
 ·exact spoil_8 R c i p b B g n j f w h e d m k l a hk
theorem l4any_any (R c i:Nat)(p:Option Addr)(a:List Int)(w:World)(h:RdIn w R p c a i) :
  Calls Tryz.prog 15 #[.pointer (some ⟨R,0,none⟩)] w (TermOut w R p c a (anyF a i)):=by
 have P:=hid h;have hr:=rdI_rng h.bytes i;have J:R<w.heap.size:=h.lt
 obtain⟨l,F⟩:∃ l,l=anyF a i:=⟨_,rfl⟩
 rw[<-F]
 obtain⟨b,E⟩:∃ b,b=rdN a i:=⟨_,rfl⟩
 obtain⟨x,G⟩:∃ x:Nat,rdI a i=x:=⟨(rdI a i).toNat,by omega⟩
 have hx:x<256:=by omega
 obtain⟨z,H⟩:∃ z,z=x % 16:=⟨_,rfl⟩
 have hz:z<16:=by omega
 have Z:(x:Int).tmod 16=(z:Int):=by rw[H,Int.tmod_eq_emod_of_nonneg (by omega)];rfl
 have O:Hid (l=if z=0 then spoilF a (drawT a 4 b).1 (drawT a 4 b).2 else drawT a 4 b):=by
  show _=_
  rw[F]
  unfold anyF
  simp only;rw[<-E,G,Int.toNat_natCast,<-H]
 have A:Hid (∀ W,RdIn W R p c a i->Calls Tryz.prog 33 #[.pointer (some ⟨R,0,none⟩)] W fun e N=>e = .returned (.int .i64 (x:Int))/\Keep R (R+1) W N/\N.heap.size=W.heap.size/\RdIn N R p c a b):=fun W X=>by
  have:=next_any R c i p a W X;rw[G,<-E] at this;exact this
 clear h F E G H hr
 go_enter Tryz.func15,Tryz.ntmps15
 go_wp2_with fail;refine(A.o w P.o).mono ?_;rintro e w2 ⟨rfl,s,M,q⟩;have B:=hid q;have m:=hid s;clear s M q;go_wp2_with fail;refine(l4term_any R c p a 4 4 (by decide) rfl (by decide) b w2 B.o).mono ?_;rintro e w3 ⟨q3,n3,Q,rfl,k,t,j⟩;obtain⟨U,V,I⟩:=drawT_mid a b;obtain⟨T,rfl,K,L⟩:=k.at0 I;have C:=hid j;have f:=hid (m.o.trans t);have n:=hid (k.mono m.o.size);have g:=l4spoil_any R c (drawT a 4 b).2 p a w.heap.size T n3 Q (drawT a 4 b).1 w3 j J f.o.size n.o I (by omega) (drawT_num a 4 b);clear k t j U V I K L
 by_cases d:z=0
 ·have Y:((z:Int) == 0)=true:=by rw[d];rfl
  have D:=hid (O.o.trans (if_pos d));clear d;go_wp2_with fail;refine g.mono ?_;rintro e w4 ⟨q4,n4,S,rfl,v,u,r⟩
  have y:Hid (TermOut w R p c a (spoilF a (drawT a 4 b).1 (drawT a 4 b).2) (.returned (.slice q4 n4 S)) w4):=⟨_,_,_,rfl,v,f.o.on_kb u (Nat.le_refl _),r⟩
  clear v u r g;go_wp2_with fail;go_ret;rw[D.o];exact y.o
 ·have Y:((z:Int) == 0)=false:=by rw[beq_eq_false_iff_ne];omega
  have D:=hid (O.o.trans (if_neg d));clear d g;go_wp2_with fail;go_ret;rw[D.o];exact⟨_,_,_,rfl,n.o,f.o,C.o⟩
structure Bd (cs:List Cel):Prop where
 len:cs.length<=2001
 txt:tl cs<=20000
 byte:ByteC cs
theorem any_bd (b:List Int)(i:Nat):Bd (anyF b i).1:=by
 obtain⟨a,c⟩:=anyF_mid b i;exact⟨a.len,by have:=a.txt;omega,c⟩
theorem below_onK {w a W:World}{R:Nat}(h:Below R w a)(k:Keep R (R+1) a W)(b:R<=a.heap.size):Below R w W:=h.trans (k.below (Nat.le_refl _) b)
theorem LS.lt {w:World}{B m c:Nat}{q:Option Addr}{a:List (List Cel)}(h:LS w B q m c a):∀ g,Value.ownBlock (.slice q m c)=some g->g<w.heap.size:=fun g d=>by
 obtain⟨_,rs,_,_,b,_⟩:=h;exact(b.lt g d).2
end
section
open Go Go.RowKit
set_option linter.unusedSimpArgs false
structure BdO (cs:List Cel):Prop where
 len:cs.length<=2001
 txt:tl cs<=30000
 byte:ByteC cs
theorem Bd.o {a:List Cel}(h:Bd a):BdO a:=⟨h.len,by have:=h.txt;omega,h.byte⟩
def dvF (ys:List Int):List Cel:=(anyF ys 0).1
theorem drawV_any (p:Option Addr)(c:Nat)(b:List Int)(w:World)(u:Bytes b)(y:b.length<=1048576)(v:b.length<=c)(B:BIn w p b):Calls Tryz.prog 4 #[.slice p b.length c] w fun e D=>∃ q m j,e = .returned (.slice q m j)/\OwnC D w.heap.size q m j (dvF (b.take 500))/\Below w.heap.size w D:=by
 have a:=l4open_any p c b w u y v B
 obtain⟨k,t⟩:∃ k,k=b.take 500:=⟨_,rfl⟩
 rw[<-t] at a ⊢
 obtain⟨C,g⟩:∃ C,C=b.length:=⟨_,rfl⟩
 rw[<-g] at a ⊢
 obtain⟨R,r⟩:∃ R,R=w.heap.size:=⟨_,rfl⟩
 have f:=hid r;rw[<-r] at a;clear t g r u y v B
 go_enter Tryz.func4,Tryz.ntmps4
 go_wp2_with fail;refine a.mono ?_;rintro e E ⟨rfl,i,s,h⟩;have n:=hid i;have d:=l4any_any R c 0 p k E h
 have A:R+1<=E.heap.size:=by omega
 clear i s h a;go_wp2_with fail;refine d.mono ?_;rintro e F ⟨q,m,j,rfl,z,x,G⟩
 have l:Hid (OwnC F w.heap.size q m j (dvF k)/\Below w.heap.size w F):=⟨z.mono (by have:=f.o;omega),by rw[<-f.o];exact below_onK n.o x (by omega)⟩
 clear z x G d;go_wp2_with fail;go_ret;exact⟨_,_,_,rfl,l.o⟩
end
section
open Go Go.RowKit
theorem TermOut.on {w W f:World}{R:Nat}{p:Option Addr}{c:Nat}{i:List Int}{a:List Cel×Nat}{e:Ending}(g:Keep R (R+1) w W)(h:TermOut W R p c i a e f):TermOut w R p c i a e f:=by
 obtain⟨q,n,b,j,k,d,l⟩:=h;exact⟨q,n,b,j,k.mono g.size,g.trans d,l⟩
end
end Go.Proofs.YtnfnddnffoigfaaGreatDoor
