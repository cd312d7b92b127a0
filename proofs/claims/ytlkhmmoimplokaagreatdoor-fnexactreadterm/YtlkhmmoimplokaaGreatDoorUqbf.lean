/- Texts of MdS, Scan12, Scan13, VnM. Own work of the verifier. -/
import Derived.Test.YtlkhmmoimplokaaGreatDoorUqbe
import Derived.Test.YtlkhmmoimplokaaGreatDoorIndexL
import Derived.Test.YtlkhmmoimplokaaGreatDoorUqbb
namespace Go.Proofs.YtlkhmmoimplokaaGreatDoor
set_option maxHeartbeats 4000000
set_option linter.unusedVariables false
set_option linter.unusedSimpArgs false
set_option maxRecDepth 100000
section
open Go Go.RowKit Go.Maps
theorem run_app_name (H w:World)(B:Nat)(p:Option Addr)(n c:Nat)(d:List (List Int))(V:OwnV H B p n c d)(J:Below H.heap.size H w)(hB:B<=H.heap.size)(q:Option Addr)(m v:Nat)(Y:List Int)(l:OwnT w H.heap.size q m v Y)(e8:n+1<=1000000) :
  ∃ g A w',(Builtin.append_ #[26,26] 26 #[.slice p n c,.slice (some ⟨w.heap.size,0,none⟩) 1 1]).run Tryz.prog (w.alloc (.cells #[.slice q m v] 23)) = .ok (.slice (some ⟨g,0,none⟩) (n+1) A) w'/\OwnV w' B (some ⟨g,0,none⟩) (n+1) A (d ++ [Y])/\(w.alloc (.cells #[.slice q m v] 23)).grownBy w' (Value.ownBlock (.slice p n c)):=by
 obtain⟨i0,s,e5,e6,e7⟩:=info_parts infoBytesS;obtain⟨hn,_,M,hl,hr,ht,S,h3⟩:=V;have h4:Below w.heap.size w (w.alloc (.cells #[.slice q m v] 23)):=(Below.refl _ _).alloc (Nat.le_refl _) _;have T:=Below.on J h4;obtain⟨g,A,w',W,L,h,h5,e9⟩:=run_append_lies (P:=Tryz.prog) (w.alloc (.cells #[.slice q m v] 23)) 26 26 B 23 i0 (.slice none 0 0) 1 24 Tryz.underlying26 s e5 e6 e7 rfl (by decide) (.slice p n c) n _ (row_below hr T) ⟨w.heap.size,0,none⟩ 1 1 [.slice q m v] rfl (cell_one_new _ _ _) (fun u hu=>by simp at hu;rw[hu];rfl) (by decide) (by unfold maxLen;omega) (by omega) (Nat.le_trans hB T.size) _ rfl
 have F:∀ k,Value.ownBlock (.slice p n c)=some k->B<=k/\k<H.heap.size:=fun k hk=>hr.lt k hk
 have K:=l.1;have k1:=J.size
 have x:∀ k,k<w.heap.size->(∀ j,Value.ownBlock (.slice p n c)=some j->k≠j)->w'.heap[k]?=w.heap[k]?:=fun k hk e4=>
  (h.block k (by simp;omega) (fun e=>e4 k e.symm rfl)).trans (Below.heap_alloc _ _ _ hk)
 have G:w.heap.size<=w'.heap.size:=by have:=h.size;simp at this;omega
 have U:Value.ownBlock (.slice p n c)=some g∨w.heap.size<=g:=by
  rcases h5 with h' | h'
  ·exact .inl h'
  ·right;rw[h'];simp
 have r:∀ i,i<d.length->0<(d.getD i []).length->∃ b,(M.getD i (none,0)).1=some ⟨b,0,none⟩/\B<=b/\b<H.heap.size:=fun i s a=>by
  obtain⟨b,e,y,Z,_⟩:=(ht i s).2 a;exact⟨b,e,y,Z⟩
 have h7:∀ i,i<d.length->0<(d.getD i []).length->(M.getD i (none,0)).1≠some ⟨g,0,none⟩:=fun i s a e=>by
  obtain⟨b,N,y,Z⟩:=r i s a;rw[N] at e;have I:b=g:=congrArg Addr.block (Option.some.inj e);subst I
  rcases U with h' | h'
  ·cases p with
   | none=>cases h'
   | some pa=>
     have:=S i s a;rw[N] at this
     rcases hr.2 with ⟨z,_⟩ | ⟨g9,Q,R,X,_⟩
     ·simp at z
     ·simp only[Value.slice.injEq] at X
      rw[X.1] at h' this;have hh:g9=b:=Option.some.inj h';subst hh;exact this rfl
  ·omega
 refine⟨g,A,w',W,⟨by simp[hn],fun e=>by simp at e,M ++ [(q,v)],by simp[hl],?_,fun i s=>?_,fun i s a=>?_,fun i j s E h8 a y=>?_⟩,h⟩
 ·have e:((List.range (d ++ [Y]).length).map fun i=>(.slice ((M ++ [(q,v)]).getD i (none,0)).1 ((d ++ [Y]).getD i []).length ((M ++ [(q,v)]).getD i (none,0)).2:Value))=((List.range d.length).map fun i=>(.slice (M.getD i (none,0)).1 (d.getD i []).length (M.getD i (none,0)).2:Value)) ++ [.slice q m v]:=by
   rw[List.length_append,List.length_singleton,List.range_succ,List.map_append]
   congr 1
   ·apply List.map_congr_left
    intro i s
    have t:i<d.length:=by simpa using s
    rw[rs_app _ _ _ _ (by omega),rs_app _ _ _ _ (by omega),if_neg (by omega),if_neg (by omega)]
   ·simp only[List.map_cons,List.map_nil]
    rw[rs_app _ _ _ _ (by omega),rs_app _ _ _ _ (by omega),if_pos (by omega),if_pos rfl,K]
  rw[e];exact L
 ·have t:i<=d.length:=by simp at s;omega
  rw[rs_app _ _ _ _ (by omega),rs_app _ _ _ _ t]
  by_cases e:i=d.length
  ·rw[if_pos (by omega),if_pos e]
   have D:OwnT w B q m v Y:=l.mono hB;rw[K] at D
   refine D.other G fun b a I=>x b ?_ fun j E=>?_
   ·obtain⟨O,o,_,f,_⟩:=l.2 (by rw[K];exact a)
    rw[I] at o;cases o;exact f
   ·obtain⟨O,o,C,_,_⟩:=l.2 (by rw[K];exact a)
    rw[I] at o;cases o
    have:=(F j E).2;omega
  ·rw[if_neg (by omega),if_neg e]
   refine((ht i (by omega)).below J).other G fun b a I=>?_
   obtain⟨O,o,C,f⟩:=r i (by omega) a
   rw[I] at o;cases o
   refine x b (by omega) fun j E h6=>?_
   subst h6;have:=S i (by omega) a;rw[I] at this
   rcases hr.2 with ⟨z,_⟩ | ⟨g9,Q,R,X,_⟩
   ·simp only[Value.slice.injEq] at z
    rw[z.1] at E;cases E
   ·simp only[Value.slice.injEq] at X
    rw[X.1] at E this;have hh:g9=b:=Option.some.inj E;subst hh;exact this rfl
 ·have t:i<=d.length:=by simp at s;omega
  rw[rs_app _ _ _ _ t] at a;rw[rs_app _ _ _ _ (by omega)]
  by_cases e:i=d.length
  ·rw[if_pos (by omega)]
   rw[if_pos e] at a;obtain⟨O,o,C,f,_⟩:=l.2 (by rw[K];exact a);simp only;rw[o]
   intro z
   cases z
   rcases U with h' | h'
   ·have:=(F _ h').2;omega
   ·omega
  ·rw[if_neg (by omega)]
   rw[if_neg e] at a;exact h7 i (by omega) a
 ·have t:i<=d.length:=by simp at s;omega
  have e1:j<=d.length:=by simp at E;omega
  rw[rs_app _ _ _ _ t] at a;rw[rs_app _ _ _ _ e1] at y;rw[rs_app _ _ _ _ (by omega),rs_app _ _ _ _ (by omega)]
  by_cases e:i=d.length
  ·rw[if_pos e] at a
   rw[if_pos (by omega),if_neg (by omega)];rw[if_neg (by omega)] at y;obtain⟨O,o,C,f,_⟩:=l.2 (by rw[K];exact a);obtain⟨b2,N,_,Z⟩:=r j (by omega) y;simp only;rw[o,N]
   intro z;cases z;omega
  ·rw[if_neg e] at a
   rw[if_neg (by omega)]
   by_cases e3:j=d.length
   ·rw[if_pos e3] at y
    rw[if_pos (by omega)];obtain⟨O,o,C,f,_⟩:=l.2 (by rw[K];exact y);obtain⟨b2,N,_,Z⟩:=r i (by omega) a;simp only;rw[o,N]
    intro z;cases z;omega
   ·rw[if_neg e3] at y
    rw[if_neg (by omega)];exact h3 i j (by omega) (by omega) h8 a y
theorem exec_appN {a:Act}{o:Oper}{s x:Operand}{w w':World}{v u r:Value}(b:o.op = .call { callee:=.builtin .append,args:=#[s,x],argTypes:=#[26,26] })(e:o.type=26)(d:a.eval s=v)(f:a.eval x=u)
  (c:(Builtin.append_ #[26,26] 26 #[v,u]).run Tryz.prog w = .ok r w'):(execOp a.eval o).run Tryz.prog w = .ok (.value r) w':=by
 unfold execOp
 simp only[b,e,resolve,invoke,builtin,Sem.run_bind,Sem.run_pure,Result.andThen_ok,List.map_toArray,List.map_cons,List.map_nil,d,f,c]
end
section
open Go Go.RowKit Go.Shelf
theorem u8_is {x:Int}(b:0<=x)(c:x<256)(k:Nat)(d:k<256):((UInt8.ofNat k:UInt8) == UInt8.ofNat x.toNat)=decide (x=k):=by
 rw[Bool.eq_iff_iff,beq_iff_eq,decide_eq_true_iff]
 constructor
 ·intro a
  have:=congrArg UInt8.toNat a
  simp at this
  omega
 ·intro a;rw[a];simp
theorem index_blk {a:List Int}(g:Bytes a):∀ (f i:Nat),i+f=a.length->Lib.index (Lib.bytesOf (a.drop i)) (Lib.bytesOf [42,47])=match blkI a i with
  | none=>-1
  | some j=>((j-i:Nat):Int)
 | 0,i,h=>by
   rw[blk_end a i (by omega),List.drop_eq_nil_of_le (by omega)];rfl
 | f+1,i,h=>by
   have e:i<a.length:=by omega
   have p:=index_blk g f (i+1) (by omega);have k:=g.at i
   have m:a[i]=a.getD i 0:=by simp[List.getD,List.getElem?_eq_getElem e]
   rw[List.drop_eq_getElem_cons e,m,blk_step a i e,byteI_lt e]
   show(if (Lib.bytesOf [42,47]).isPrefixOf (UInt8.ofNat (a.getD i 0).toNat :: Lib.bytesOf (a.drop (i+1))) then(0:Int) else if Lib.index (Lib.bytesOf (a.drop (i+1))) _ == -1 then -1 else Lib.index (Lib.bytesOf (a.drop (i+1))) _+1)=_
   have c:(Lib.bytesOf [42,47]).isPrefixOf (UInt8.ofNat (a.getD i 0).toNat :: Lib.bytesOf (a.drop (i+1)))=decide (a.getD i 0=42/\byteI a (i+1)=47):=by
    show(((UInt8.ofNat 42:UInt8) == UInt8.ofNat (a.getD i 0).toNat) && List.isPrefixOf [UInt8.ofNat 47] (Lib.bytesOf (a.drop (i+1))))=_
    rw[u8_is k.1 k.2 42 (by decide)]
    rcases Nat.lt_or_ge (i+1) a.length with h1 | h1
    ·have l:=g.at (i+1)
     have n:a[i+1]=a.getD (i+1) 0:=by simp[List.getD,List.getElem?_eq_getElem h1]
     rw[List.drop_eq_getElem_cons h1,n,byteI_lt h1]
     show(_ && (((UInt8.ofNat 47:UInt8) == UInt8.ofNat (a.getD (i+1) 0).toNat) && true))=_
     rw[u8_is l.1 l.2 47 (by decide),Bool.and_true,Bool.eq_iff_iff]
     simp
    ·rw[List.drop_eq_nil_of_le h1,byteI_ge h1]
     show(_ && false)=_
     simp
   rw[c,p]
   by_cases d:a.getD i 0=42/\byteI a (i+1)=47
   ·rw[if_pos (by simpa using d),if_pos d];simp
   ·rw[if_neg (by simpa using d),if_neg d]
    cases b:blkI a (i+1) with
    | none=>simp
    | some j=>
      have:=blk_rng _ _ _ b
      have o:(((j-(i+1):Nat):Int) == -1)=false:=by simp
      simp only[o,Bool.false_eq_true,if_false]
      omega
def BlkOut (w:World)(S pos:Nat)(r:Option Nat)(e:Ending)(w':World):Prop:=
 match r with
 | none=>Faults 2 pos e/\w.grownBy w' (some S)
 | some j=>e = .returned (.tuple #[])/\Moved w w' S (j+2)
theorem skipBlock_any (S b n c a:Nat)(l:List Int)(m:Int)(w:World)(E:Env w S b n c a l)(hp:a+2<=l.length)(Q:w.cell? ⟨2,0,none⟩=some (.int .i64 m)) :
  Calls Tryz.prog 185 #[.pointer (some ⟨S,0,none⟩)] w (BlkOut w S a (blkI l (a+2))):=by
 have h0:=E.src;have h1:=E.at1;have hf:=E.fz 1;have J:=E.inH;have h7:=E.small;have y:=E.len;have h3:=E.cap
 have h6:a+2<=n:=by omega
 obtain⟨W,I⟩:∃ W,W=w.alloc (.cells #[.int .u8 42,.int .u8 47] 5 (2,3)):=⟨_,rfl⟩
 have h:Below w.heap.size w W:=by rw[I];exact(Below.refl _ _).alloc (Nat.le_refl _) _
 have kc:=Lib.run_convert_bytes_const (P:=Tryz.prog) w 23 5 #[.int .u8 42,.int .u8 47] 2 2 Tryz.underlying23 Tryz.underlying5;rw[show((#[Value.int .u8 42,Value.int .u8 47]:Array Value).size,(#[Value.int .u8 42,Value.int .u8 47]:Array Value).size+1)=(2,3) from rfl,<-I] at kc
 have O:W.heap[w.heap.size]?=some (.cells #[.int .u8 42,.int .u8 47] 5 (2,3)):=by rw[I];exact heap_alloc_new _ _
 have F:∀ i,i<2->W.cell? ((⟨w.heap.size,0,none⟩:Addr).add i)=some (.int .u8 (([42,47]:List Int).getD i 0)):=fun i K=>by
  have:i=0∨i=1:=by omega
  rcases this with rfl | rfl
  ·show World.cell? _ ⟨w.heap.size,0,none⟩=_;unfold World.cell?;rw[O];rfl
  ·show World.cell? _ ⟨w.heap.size,1,none⟩=_;unfold World.cell?;rw[O];rfl
 have D:W.cell? ⟨Tryz.indexL_ren.g 1,0,none⟩=some (.int .i64 m):=(h.cell (p:=⟨2,0,none⟩) (World.block_lt_of_cell? _ _ Q)).trans Q
 have u:∀ H:Addr,(∀ i,i<n-(a+2)->W.cell? (H.add i)=some (.int .u8 ((l.drop (a+2)).getD i 0)))->Calls Tryz.prog 204 #[.slice (some H) (n-(a+2)) (c-(a+2)),.slice (some ⟨w.heap.size,0,none⟩) 2 2] W fun e L=>e = .returned (.int .i64 (Lib.index (Lib.bytesOf (l.drop (a+2))) (Lib.bytesOf [42,47])))/\∃ q,L=W.drewN q:=fun H R=>
  Any.bytes_Index_at Tryz.indexL H ⟨w.heap.size,0,none⟩ (n-(a+2)) (c-(a+2)) 2 2 (l.drop (a+2)) [42,47] m W (by simp;omega) rfl (fun x hx=>E.bytes x (List.mem_of_mem_drop hx)) (by decide) R F (by omega) (by omega) (by decide) D
 have z:Hid (Bytes l):=E.bytes;have r:Hid (n=l.length):=y;have B:Hid (Below w.heap.size w W):=h
 have s:Hid (∀ q,(W.drewN q).cell? ⟨S,1,none⟩=some (.int .i64 a)):=fun q=>(h.cell (p:=⟨S,1,none⟩) J).trans h1
 have M:Hid (∀ q,(W.drewN q).frozen? ⟨S,1,none⟩=false):=fun q=>(h.frozen (p:=⟨S,1,none⟩) J).trans hf
 have C:Hid (∀ q,S<(W.drewN q).heap.size):=fun q=>Nat.lt_of_lt_of_le J h.size
 have N:Hid (∀ q k:Nat,Hid (Moved w ((W.drewN q).setCell ⟨S,1,none⟩ (.int .i64 (k:Nat))) S k)):=fun q k=>Moved.onto (below_drewN h q) (Moved.set a k (s.o q)) (Below.refl _ _) J
 have G:∀ i,i<n-(a+2)->W.cell? ⟨b,a+2+i,none⟩=some (.int .u8 ((l.drop (a+2)).getD i 0)):=fun i K=>by
  have Y:=E.row (a+2+i) (by omega);rw[h.cell (p:=⟨b,a+2+i,none⟩) (World.block_lt_of_cell? _ _ Y),Y]
  simp[List.getD,List.getElem?_drop]
 have h4:(0:Int)<=(a:Int)+2:=by omega
 have h5:(a:Int)+2<=(n:Int):=by omega
 have h8:((a:Int)+2).toNat=a+2:=by omega
 clear y h E F D Q hp I O
 by_cases T:c=a+2
 ·have U:n=a+2:=by omega
  subst T;subst U;have t:=u ⟨b,0,none⟩ (fun i K=>by omega);clear u;have f:blkI l (a+2)=none:=blk_end l (a+2) (by have:=r.o;omega);rw[index_blk z.o 0 (a+2) (by have:=r.o;omega),f,Nat.sub_self] at t;rw[f];clear f
  go_enter Tryz.func185,Tryz.ntmps185
  go_wp2_with (first | (go_at_call 204;refine t.mono ?_;rintro e L ⟨rfl,q,rfl⟩) | (go_at_call 193;refine(fault_any S a 2 _ (s.o _) (C.o _)).mono ?_;rintro e w1 ⟨rfl,A⟩));refine⟨rfl,?_⟩;exact⟨rfl,grown_of_below (Below.on B.o ((below_drewN (Below.refl _ _) _).trans A)) _⟩
 ·skip
  have t:=u ⟨b,a+2,none⟩ (fun i K=>by rw[show(⟨b,a+2,none⟩:Addr).add i=⟨b,a+2+i,none⟩ by unfold Addr.add;split <;> simp_all];exact G i K);clear u
  cases f:blkI l (a+2) with
  | none=>
    rw[index_blk z.o (n-(a+2)) (a+2) (by have:=r.o;omega),f] at t;clear f
    go_enter Tryz.func185,Tryz.ntmps185
    go_wp2_with (first | (go_at_call 204;refine t.mono ?_;rintro e L ⟨rfl,q,rfl⟩) | (go_at_call 193;refine(fault_any S a 2 _ (s.o _) (C.o _)).mono ?_;rintro e w1 ⟨rfl,A⟩));refine⟨rfl,?_⟩;exact⟨rfl,grown_of_below (Below.on B.o ((below_drewN (Below.refl _ _) _).trans A)) _⟩
  | some j=>
    have V:=blk_rng _ _ _ f;rw[index_blk z.o (n-(a+2)) (a+2) (by have:=r.o;omega),f] at t;simp only at t
    obtain⟨d,X⟩:∃ d,d=j-(a+2):=⟨_,rfl⟩
    rw[<-X] at t
    have hd:d<=10000:=by have:=r.o;omega
    have HJ:Hid (j+2=a+2+d+2):=by show _=_;omega
    have h2:¬ ((d:Int)<0):=by omega
    clear f V X
    go_enter Tryz.func185,Tryz.ntmps185
    go_wp2_with (first | (go_at_call 204;refine t.mono ?_;rintro e L ⟨rfl,q,rfl⟩;have e1:=s.o q;have e2:=M.o q));refine bodyPost_end (v:=.tuple #[]) (by simp[results,Tryz.results185,go_sem]) rfl ⟨rfl,?_⟩;have Z:=(N.o q (j+2)).o;rw[HJ.o] at Z ⊢
    simpa using Z
theorem runLen_ge_one {p:Int->Bool}{a:List Int}(h:a≠[])(b:p (a.getD 0 0)=true):1<=runLen p a:=by
 cases a with
 | nil=>exact absurd rfl h
 | cons y r=>
   have c:p y=true:=by simpa using b
   show 1<=(if p y=true then runLen p r+1 else 0)
   rw[if_pos c];omega
theorem line_pos {a:List Int}{p:Nat}(h:byteI a p=37):1<=lineI a p:=by
 have b:p<a.length:=by
  rcases Nat.lt_or_ge p a.length with h' | h'
  ·exact h'
  ·rw[byteI_ge h'] at h;omega
 rw[byteI_lt b] at h;refine runLen_ge_one (fun e=>?_) ?_
 ·have:=List.drop_eq_nil_iff.1 e;omega
 ·have:(a.drop p).getD 0 0=37:=by simpa [List.getD,List.getElem?_drop] using h
  rw[this];rfl
theorem line_le (a:List Int)(p:Nat)(b:p<=a.length):p+lineI a p<=a.length:=by
 have:=runLen_le (fun c=>c != 10) (a.drop p)
 unfold lineI
 simp at this
 omega
def layF (xs:List Int):Nat->Nat->Except Nat Nat
 | 0,pos=>.ok pos
 | f+1,pos=>match layI xs pos with
   | none=>.error pos
   | some k=>if 0<k then layF xs f (pos+k) else .ok pos
def layA (xs:List Int)(pos:Nat):Except Nat Nat:=layF xs (xs.length+1-pos) pos
theorem layI_rng {xs:List Int}{p k:Nat}(e:p<=xs.length)(h:layI xs p=some k):p+k<=xs.length:=by
 unfold layI at h
 have a:byteI xs p≠-1->p<xs.length:=fun b=>by
  rcases Nat.lt_or_ge p xs.length with h' | h'
  ·exact h'
  ·exact absurd (byteI_ge h') b
 split at h
 ·rename_i c
  cases h
  exact a c.2.1
 ·split at h
  ·cases h
   exact line_le xs p e
  ·split at h
   ·split at h
    ·cases h
    ·rename_i j d
     cases h
     have:=blk_rng _ _ _ d
     omega
   ·cases h;omega
theorem layF_more {xs:List Int} : ∀ (f p:Nat),p<=xs.length->xs.length+1<=p+f->∀ g,layF xs (f+g) p=layF xs f p
 | 0,p,hp,hf,g=>by omega
 | f+1,p,hp,hf,g=>by
   rw[show f+1+g=(f+g)+1 by omega]
   show(match layI xs p with | none=>_ | some k=>if 0<k then layF xs (f+g) (p+k) else _)=(match layI xs p with | none=>_ | some k=>if 0<k then layF xs f (p+k) else _)
   cases b:layI xs p with
   | none=>rfl
   | some k=>
     simp only
     by_cases a:0<k
     ·rw[if_pos a,if_pos a]
      exact layF_more f (p+k) (layI_rng hp b) (by omega) g
     ·rw[if_neg a,if_neg a]
theorem layA_step {xs:List Int}{p:Nat}(c:p<=xs.length):layA xs p=match layI xs p with
  | none=>.error p
  | some k=>if 0<k then layA xs (p+k) else .ok p:=by
 unfold layA
 rw[show xs.length+1-p=(xs.length-p)+1 by omega]
 show(match layI xs p with | none=>_ | some k=>if 0<k then layF xs (xs.length-p) (p+k) else _)=_
 cases b:layI xs p with
 | none=>rfl
 | some k=>
   simp only
   by_cases a:0<k
   ·rw[if_pos a,if_pos a]
    have d:=layI_rng c b;have:=layF_more (xs:=xs) (xs.length+1-(p+k)) (p+k) d (by omega) (k-1);rw[<-this]
    congr 1
    omega
   ·rw[if_neg a,if_neg a]
def LayOut (w:World)(S:Nat)(r:Except Nat Nat)(e:Ending)(w':World):Prop:=
 match r with
 | .error q=>Faults 2 q e/\w.grownBy w' (some S)
 | .ok q=>e = .returned (.tuple #[])/\Moved w w' S q
theorem layOut_of {w b:World}{S:Nat}{e:Ending}{r a:Except Nat Nat}(h:LayOut w S r e b)(c:a=r):LayOut w S a e b:=c▸h
def placeOf (w:World)(S:Nat):Nat:=match w.cell? ⟨S,1,none⟩ with
 | some (.int _ i)=>i.toNat
 | _=>0
theorem placeOf_at {w:World}{S p:Nat}(h:w.cell? ⟨S,1,none⟩=some (.int .i64 p)):placeOf w S=p:=by unfold placeOf;rw[h];simp
theorem max_kept {w f:World}{S b n c a q:Nat}{i:List Int}{m:Int}(E:Env w S b n c a i)(M:Moved w f S q)(h:w.cell? ⟨2,0,none⟩=some (.int .i64 m)):f.cell? ⟨2,0,none⟩=some (.int .i64 m):=by
 have g:2≠S:=fun e=>by have d:=E.src;rw[<-e,h] at d;cases d
 rw[World.cell?_of_block (w:=w) (M.grown.block _ (World.block_lt_of_cell? _ _ h) (by simpa using g))];exact h
theorem skipLayout_any (S b n c s:Nat)(d:List Int)(m:Int)(w:World)(E:Env w S b n c s d)(hp:s<=d.length)(hM:w.cell? ⟨2,0,none⟩=some (.int .i64 m)) :
  Calls Tryz.prog 151 #[.pointer (some ⟨S,0,none⟩)] w (LayOut w S (layA d s)):=by
 have HE:Hid (Env w S b n c s d):=E;have h8:Hid (w.cell? ⟨2,0,none⟩=some (.int .i64 m)):=hM;have HP:Hid (s<=d.length):=hp;have e8:=E.small;have K:Hid (n=d.length):=E.len;have h6:Hid (Moved w w S s):=Moved.of_below (Below.refl _ _) E.inH E.at1;clear E hM hp
 go_enter Tryz.func151,Tryz.ntmps151
 go_wp2
 go_loopw [] (fun wr=>∃ p:Nat,p<=n/\Hid (Moved w wr S p)/\Hid (layA d s=layA d p)) (fun wr=>20000-placeOf wr S)
 case atStart=>exact⟨s,by rw[K.o];exact HP.o,h6,rfl⟩
 case round=>
  obtain⟨p,e4,N,I⟩:=hrel;have f:Hid (Env wr S b n c p d):=HE.o.moved N.o;have h7:=max_kept HE.o N.o h8.o;have R:Hid (placeOf wr S=p):=placeOf_at N.o.at1
  have C:p<=d.length:=by rw[<-K.o];exact e4
  have e7:p<=10000:=by omega
  have hr:=byteI_rng f.o.bytes p;have e5:=byteI_rng f.o.bytes (p+1);have Q:=isOf16 hr.1 hr.2;have i:=layA_step C;have h1:=f.o.at1;have hf:=f.o.fz 1;have G:Hid (p<d.length->_):=skipLine_any S b n c p d wr f.o
  have F:Hid (p+2<=d.length->_):=fun h=>skipBlock_any S b n c p d m wr f.o h h7
  have a:layI d p=if endsI (byteI d p)=true/\byteI d p≠-1/\byteI d p≠37 then some 1
    else if byteI d p=37 then some (lineI d p)
    else if byteI d p=47/\byteI d (p+1)=42 then(match blkI d (p+2) with | none=>none | some j=>some (j+2-p))
    else some 0:=rfl
  have z:byteI d p≠-1->p<d.length:=fun h9=>by
   rcases Nat.lt_or_ge p d.length with h' | h'
   ·exact h'
   ·exact absurd (byteI_ge h') h9
  have t:byteI d (p+1)≠-1->p+2<=d.length:=fun h9=>by
   rcases Nat.lt_or_ge (p+1) d.length with h' | h'
   ·exact h'
   ·exact absurd (byteI_ge h') h9
  have A:Hid (byteI d p=37->1<=lineI d p):=line_pos;have D:Hid (p+lineI d p<=d.length):=line_le d p C
  obtain⟨x,ex⟩:∃ x,x=byteI d p:=⟨_,rfl⟩
  obtain⟨y,ey⟩:∃ y,y=byteI d (p+1):=⟨_,rfl⟩
  rw[<-ex] at a z hr Q A;rw[<-ey] at a t e5;have U:Hid (byteI d p=x):=ex.symm;have X:Hid (byteI d (p+1)=y):=ey.symm;have l:Hid (isOfB x 16=_):=Q;have g:True:=trivial;have u:True:=trivial;clear ex ey Q
  by_cases t0:x=32∨x=9∨x=10∨x=13
  ·have M:endsI x=true:=by unfold endsI;simp only[decide_eq_true_iff];omega
   rw[if_pos ⟨M,by omega,by omega⟩] at a;rw[a] at i
   have J:Hid (layA d s=layA d (p+1)):=by show _=_;rw[I.o,i];rfl
   have h5:p+1<=n:=by rw[K.o];exact z (by omega)
   have l:Hid (isOfB x 16=true):=by show _=_;rw[l.o];simpa using t0
   have W:Hid (∀ q:Nat,Hid (Moved wr (wr.setCell ⟨S,1,none⟩ (.int .i64 (q:Nat))) S q)):=fun q=>Moved.set p q h1
   clear M a i I z t G F A D t0 X C;go_wp2_with (first | (go_at_call 182;have P:=g;refine(byteAt_any S b n c d p _ (f.o).bytes (f.o).len (by have:=(f.o).small;omega) (by omega) (f.o).src (f.o).row).mono ?_;rintro e H ⟨rfl,rfl⟩;rw[U.o];clear g) | (go_at_call 183;refine(isOf_any _ _ _ (by omega) (by omega) f.o.tab).mono ?_;rintro e H ⟨rfl,rfl⟩;rw[l.o]));go_roundw
   case rel=>exact⟨p+1,h5,N.o.trans (by have:=(W.o (p+1)).o;simpa using this),J⟩
   case measure=>
    have:=placeOf_at (W.o (p+1)).o.at1
    have e9:((p+1:Nat):Int)=(p:Int)+1:=by simp
    rw[e9] at this;rw[this,R.o];omega
  have l:Hid (isOfB x 16=false):=by show _=_;rw[l.o];simpa using t0
  have h4:¬ (endsI x=true/\x≠-1/\x≠37):=fun ⟨h,h2,h3⟩=>by unfold endsI at h;simp only[decide_eq_true_iff] at h;omega
  rw[if_neg h4] at a;clear h4 t0
  by_cases O:x=37
  ·rw[if_pos O] at a
   have e2:=A.o O;have Z:=D.o;have HL:=G.o (z (by omega))
   obtain⟨k,ek⟩:∃ k,k=lineI d p:=⟨_,rfl⟩
   rw[<-ek] at a e2 Z HL;rw[a] at i
   have J:Hid (layA d s=layA d (p+k)):=by show _=_;rw[I.o,i];simp only;rw[if_pos (by omega)]
   have L:Hid (p+k<=n):=by rw[K.o];exact Z
   subst O;clear a i I z t G F A D X C ek;go_wp2_with (first | (go_at_call 182;have P:=g;refine(byteAt_any S b n c d p _ (f.o).bytes (f.o).len (by have:=(f.o).small;omega) (by omega) (f.o).src (f.o).row).mono ?_;rintro e H ⟨rfl,rfl⟩;rw[U.o];clear g) | (go_at_call 183;refine(isOf_any _ _ _ (by omega) (by omega) f.o.tab).mono ?_;rintro e H ⟨rfl,rfl⟩;rw[l.o]) | (go_at_call 184;refine HL.mono ?_;rintro e w1 ⟨rfl,Y⟩));go_roundw
   case rel=>exact⟨p+k,L.o,N.o.trans Y,J⟩
   case measure=>
    have e3:=L.o;rw[placeOf_at Y.at1,R.o];omega
  rw[if_neg O] at a
  have s1:(x == 37)=false:=by simpa using O
  by_cases T:x=47
  ·by_cases V:y=42
   ·rw[if_pos ⟨T,V⟩] at a
    have h2:=t (by omega);have HB:=F.o h2
    cases B:blkI d (p+2) with
    | none=>
      rw[B] at a HB;rw[a] at i
      have J:Hid (layA d s = .error p):=by show _=_;rw[I.o,i]
      subst T;subst V;clear a i I z t G F A D C B O s1;go_wp2_with (first | (go_at_call 182;have P:=g;refine(byteAt_any S b n c d p _ (f.o).bytes (f.o).len (by have:=(f.o).small;omega) (by omega) (f.o).src (f.o).row).mono ?_;rintro e H ⟨rfl,rfl⟩;rw[U.o];clear g) | (go_at_call 182;have P:=u;refine(byteAt_any S b n c d (p+1) _ (f.o).bytes (f.o).len (by have:=(f.o).small;omega) (by omega) (f.o).src (f.o).row).mono ?_;rintro e H ⟨rfl,rfl⟩;rw[X.o];clear u) | (go_at_call 183;refine(isOf_any _ _ _ (by omega) (by omega) f.o.tab).mono ?_;rintro e H ⟨rfl,rfl⟩;rw[l.o]) | (go_at_call 185;refine HB.mono ?_;rintro e w1 ⟨rfl,e1⟩));refine⟨rfl,?_⟩;exact layOut_of (r:=.error p) ⟨rfl,N.o.grown.trans e1⟩ J.o
    | some j=>
      have e6:=blk_rng _ _ _ B;rw[B] at a HB;simp only at a;rw[a] at i
      have J:Hid (layA d s=layA d (j+2)):=by show _=_;rw[I.o,i];simp only;rw[if_pos (by omega),show p+(j+2-p)=j+2 by omega]
      have L:Hid (j+2<=n/\p<j+2):=by rw[K.o];exact⟨by omega,by omega⟩
      subst T;subst V;clear a i I z t G F A D C B O s1 e6;go_wp2_with (first | (go_at_call 182;have P:=g;refine(byteAt_any S b n c d p _ (f.o).bytes (f.o).len (by have:=(f.o).small;omega) (by omega) (f.o).src (f.o).row).mono ?_;rintro e H ⟨rfl,rfl⟩;rw[U.o];clear g) | (go_at_call 182;have P:=u;refine(byteAt_any S b n c d (p+1) _ (f.o).bytes (f.o).len (by have:=(f.o).small;omega) (by omega) (f.o).src (f.o).row).mono ?_;rintro e H ⟨rfl,rfl⟩;rw[X.o];clear u) | (go_at_call 183;refine(isOf_any _ _ _ (by omega) (by omega) f.o.tab).mono ?_;rintro e H ⟨rfl,rfl⟩;rw[l.o]) | (go_at_call 185;refine HB.mono ?_;rintro e w1 ⟨rfl,Y⟩));go_roundw
      case rel=>exact⟨j+2,L.o.1,N.o.trans Y,J⟩
      case measure=>
       have e3:=L.o;rw[placeOf_at Y.at1,R.o];omega
   ·rw[if_neg (fun h=>V h.2)] at a
    rw[a] at i
    have J:Hid (layA d s = .ok p):=by show _=_;rw[I.o,i];rfl
    have s3:(y == 42)=false:=by simpa using V
    subst T;clear a i I z t G F A D C O s1 V;go_wp2_with (first | (go_at_call 182;have P:=g;refine(byteAt_any S b n c d p _ (f.o).bytes (f.o).len (by have:=(f.o).small;omega) (by omega) (f.o).src (f.o).row).mono ?_;rintro e H ⟨rfl,rfl⟩;rw[U.o];clear g) | (go_at_call 182;have P:=u;refine(byteAt_any S b n c d (p+1) _ (f.o).bytes (f.o).len (by have:=(f.o).small;omega) (by omega) (f.o).src (f.o).row).mono ?_;rintro e H ⟨rfl,rfl⟩;rw[X.o];clear u) | (go_at_call 183;refine(isOf_any _ _ _ (by omega) (by omega) f.o.tab).mono ?_;rintro e H ⟨rfl,rfl⟩;rw[l.o]));refine bodyPost_end (v:=.tuple #[]) (by simp[results,Tryz.results151,go_sem]) rfl (layOut_of (r:=.ok p) ⟨rfl,N.o⟩ J.o)
  ·rw[if_neg (fun h=>T h.1)] at a
   rw[a] at i
   have J:Hid (layA d s = .ok p):=by show _=_;rw[I.o,i];rfl
   have s2:(x == 47)=false:=by simpa using T
   clear a i I z t G F A D C O T;go_wp2_with (first | (go_at_call 182;have P:=g;refine(byteAt_any S b n c d p _ (f.o).bytes (f.o).len (by have:=(f.o).small;omega) (by omega) (f.o).src (f.o).row).mono ?_;rintro e H ⟨rfl,rfl⟩;rw[U.o];clear g) | (go_at_call 183;refine(isOf_any _ _ _ (by omega) (by omega) f.o.tab).mono ?_;rintro e H ⟨rfl,rfl⟩;rw[l.o]));refine bodyPost_end (v:=.tuple #[]) (by simp[results,Tryz.results151,go_sem]) rfl (layOut_of (r:=.ok p) ⟨rfl,N.o⟩ J.o)
end
section
open Go Go.RowKit
theorem Keep.wide {B U a b:Nat}{w c:World}(h:Keep B U w c)(e:a<=B)(f:U<=b):Keep a b w c:=⟨h.os,h.tape,h.output,h.size,fun k d g=>h.block k d (by omega)⟩
theorem Keep.cellU {B U:Nat}{w c:World}(h:Keep B U w c){a:Addr}{v:Value}(b:w.cell? a=some v)(ha:a.block<B∨U<=a.block):c.cell? a=some v:=
 (World.cell?_of_block (h.block a.block (World.block_lt_of_cell? _ _ b) (by omega))).trans b
abbrev rowVV (rs:List (Option Addr×Nat))(ns:List (List Int)):List Value:=(List.range ns.length).map fun i=>.slice (rs.getD i (none,0)).1 (ns.getD i []).length (rs.getD i (none,0)).2
def OwnVU (w:World)(B U:Nat)(p:Option Addr)(n c:Nat)(ns:List (List Int)):Prop:=
 n=ns.length/\∃ rs:List (Option Addr×Nat),rs.length=ns.length/\w.ownsRow B 23 1 (.slice p n c) n (rowVV rs ns)/\
   (∀ i,i<ns.length->OwnT w B (rs.getD i (none,0)).1 (ns.getD i []).length (rs.getD i (none,0)).2 (ns.getD i []))/\
   (∀ i,i<ns.length->0<(ns.getD i []).length->(rs.getD i (none,0)).1≠p)/\
   (∀ i j,i<ns.length->j<ns.length->i≠j->0<(ns.getD i []).length->0<(ns.getD j []).length->(rs.getD i (none,0)).1≠(rs.getD j (none,0)).1)/\
   (∀ k,Value.ownBlock (.slice p n c)=some k->k<U)/\(∀ i,i<ns.length->∀ k,tb (rs.getD i (none,0)).1 (ns.getD i []).length=some k->k<U)
theorem OwnV.up {w:World}{B:Nat}{p:Option Addr}{n c:Nat}{e:List (List Int)}(h:OwnV w B p n c e):OwnVU w B w.heap.size p n c e:=by
 obtain⟨l,o,m,j,b,d,ha,f⟩:=h;exact⟨l,m,j,b,d,ha,f,fun k a=>(b.lt k a).2,fun i g k a=>((d i g).tb a).2.2⟩
theorem OwnVU.other {w o:World}{B U:Nat}{p:Option Addr}{n c:Nat}{m:List (List Int)}(h:OwnVU w B U p n c m)(F:w.heap.size<=o.heap.size)(t:∀ k,k<w.heap.size->B<=k->k<U->o.heap[k]?=w.heap[k]?):OwnVU o B U p n c m:=by
 obtain⟨E,A,D,x,u,ha,d,z,y⟩:=h;refine⟨E,A,D,⟨x.1,?_⟩,fun i f=>(u i f).other F (fun g j e=>?_),ha,d,z,y⟩
 ·rcases x.2 with C | ⟨g,a,b,l,s,v,r⟩
  ·exact .inl C
  ·refine .inr ⟨g,a,b,l,s,(t g (Array.getElem?_eq_some_iff.1 v).1 s (z g ?_)).trans v,r⟩
   simp only[Value.slice.injEq] at l;rw[l.1];rfl
 ·have q:Go.Proofs.YtlkhmmoimplokaaGreatDoor.tb (A.getD i (none,0)).1 (m.getD i []).length=some g:=by rw[e];exact tb_of j
  have:=(u i f).tb q;exact t g this.2.2 this.2.1 (y i f g q)
theorem OwnVU.below {w w':World}{B U:Nat}{p:Option Addr}{n c:Nat}{b:List (List Int)}(h:OwnVU w B U p n c b)(a:Below w.heap.size w w'):OwnVU w' B U p n c b:=h.other a.size (fun k d _ _=>a.block k d)
theorem OwnVU.keep {w f:World}{B U a b:Nat}{p:Option Addr}{n c:Nat}{e:List (List Int)}(h:OwnVU w B U p n c e)(d:Keep a b w f)(l:U<=a∨b<=B):OwnVU f B U p n c e:=h.other d.size (fun k g i j=>d.block k g (by omega))
theorem OwnVU.lowerU {w:World}{B a U:Nat}{p:Option Addr}{n c:Nat}{d:List (List Int)}(h:OwnVU w B U p n c d)(b:a<=B):OwnVU w a U p n c d:=by
 obtain⟨j,l,g,k,e,ha⟩:=h;exact⟨j,l,g,ownsRow_down k b,fun i f=>(e i f).mono b,ha⟩
theorem rowVV_at (b:List (Option Addr×Nat))(a:List (List Int))(j:Nat)(h:j<a.length):(rowVV b a)[j]?=some (.slice (b.getD j (none,0)).1 (a.getD j []).length (b.getD j (none,0)).2):=by simp[rowVV,h]
theorem OwnVU.nin {w:World}{B U:Nat}{p:Option Addr}{n c:Nat}{a:List (List Int)}(h:OwnVU w B U p n c a):NIn w p a:=fun q=>by
 obtain⟨s,o,r,d,l,ha,j,u,t⟩:=h;obtain⟨g,f,e,k,m⟩:=d.form (by omega);simp only[Value.slice.injEq,true_and] at e;obtain⟨rfl,rfl⟩:=e;exact⟨g,0,rfl,fun i b=>⟨_,_,by rw[Nat.zero_add];exact(d.cellAt i (by omega)).trans (rowVV_at o a i b),(l i b).bin⟩⟩
def mixN (k:Int)(ns:List (List Int))(j:Nat):List (List Int):=(List.range ns.length).map fun i=>if i<j then marks (k+(tnn (ns.take i):Nat)) (ns.getD i []).length else ns.getD i []
theorem mixN_len (k:Int)(a:List (List Int))(j:Nat):(mixN k a j).length=a.length:=by simp[mixN]
theorem mixN_at (k:Int)(a:List (List Int))(j i:Nat)(h:i<a.length):(mixN k a j).getD i []=if i<j then marks (k+(tnn (a.take i):Nat)) (a.getD i []).length else a.getD i []:=by
 simp[mixN,List.getD,h]
theorem mixN_atl (k:Int)(a:List (List Int))(j i:Nat)(h:i<a.length):((mixN k a j).getD i []).length=(a.getD i []).length:=by
 rw[mixN_at _ _ _ _ h]
 split
 ·exact marks_len _ _
 ·rfl
theorem same_names {b c:List (List Int)}(h:b.length=c.length)(ha:∀ i,i<b.length->b.getD i []=c.getD i []):b=c:=by
 apply List.ext_getElem? 
 intro i
 by_cases a:i<b.length
 ·have:=ha i a
  simp only[List.getD,List.getElem?_eq_getElem a,List.getElem?_eq_getElem (h▸a:i<c.length),Option.getD_some] at this;rw[List.getElem?_eq_getElem a,List.getElem?_eq_getElem (h▸a:i<c.length),this]
 ·rw[List.getElem?_eq_none (by omega),List.getElem?_eq_none (by omega)]
theorem ns_set_at (a:List (List Int))(j i:Nat)(b:List Int)(h:j<a.length):(a.set j b).getD i []=if i=j then b else a.getD i []:=by
 by_cases e:i=j
 ·subst e;simp[List.getD,List.getElem?_set,h]
 ·simp[List.getD,List.getElem?_set,e,Ne.symm e]
theorem mixN_zero (k:Int)(b:List (List Int)):mixN k b 0=b:=same_names (mixN_len ..) (fun j a=>by rw[mixN_at _ _ _ _ (by rw[mixN_len] at a;exact a),if_neg (Nat.not_lt_zero _)])
theorem mixN_succ (k:Int)(a:List (List Int))(j:Nat)(h:j<a.length):mixN k a (j+1)=(mixN k a j).set j (marks (k+(tnn (a.take j):Nat)) (a.getD j []).length):=same_names (by simp[mixN]) (fun i b=>by
 rw[mixN_len] at b;rw[mixN_at _ _ _ _ b,ns_set_at _ _ _ _ (by rw[mixN_len];exact h)]
 by_cases e:i=j
 ·subst e;rw[if_pos (by omega),if_pos rfl]
 ·rw[if_neg e,mixN_at _ _ _ _ b]
  by_cases c:i<j
  ·rw[if_pos c,if_pos (by omega)]
  ·rw[if_neg c,if_neg (by omega)])
theorem rowVV_set (c:List (Option Addr×Nat))(a:List (List Int))(j:Nat)(b:List Int)(h:j<a.length)(d:b.length=(a.getD j []).length):rowVV c (a.set j b)=rowVV c a:=by
 unfold rowVV
 rw[List.length_set]
 apply List.map_congr_left
 intro i _
 rw[ns_set_at _ _ _ _ h]
 by_cases e:i=j
 ·rw[if_pos e,d,e]
 ·rw[if_neg e]
theorem markN_one {w t:World}{B U g n c j:Nat}{a:List (List Int)}{b:List (Option Addr×Nat)}(E:n=a.length)(D:b.length=a.length)(G:w.ownsRow B 23 1 (.slice (some ⟨g,0,none⟩) n c) n (rowVV b a))
  (q:∀ i,i<a.length->OwnT w B (b.getD i (none,0)).1 (a.getD i []).length (b.getD i (none,0)).2 (a.getD i []))
  (ha:∀ i,i<a.length->0<(a.getD i []).length->(b.getD i (none,0)).1≠some ⟨g,0,none⟩)
  (p:∀ i j,i<a.length->j<a.length->i≠j->0<(a.getD i []).length->0<(a.getD j []).length->(b.getD i (none,0)).1≠(b.getD j (none,0)).1)
  (I:g<U) (A:∀ i,i<a.length->∀ k,tb (b.getD i (none,0)).1 (a.getD i []).length=some k->k<U) (h:j<a.length) (s:List Int) (y:s.length=(a.getD j []).length)
  (F:OwnT t B (b.getD j (none,0)).1 (a.getD j []).length (b.getD j (none,0)).2 s) (r:w.grownBy t (tb (b.getD j (none,0)).1 (a.getD j []).length)) :
  OwnVU t B U (some ⟨g,0,none⟩) n c (a.set j s)/\Keep B U w t:=by
 have d:∀ i,((a.set j s).getD i []).length=(a.getD i []).length:=fun i=>by
  rw[ns_set_at _ _ _ _ h]
  by_cases e:i=j
  ·rw[if_pos e,y,e]
  ·rw[if_neg e]
 have m:tb (b.getD j (none,0)).1 (a.getD j []).length≠some g:=fun e=>ha j h (tb_some e).1 ((q j h).tb e).1
 refine⟨⟨by simpa using E,b,by simpa using D,?_,fun i l=>?_,fun i l=>?_,fun i H l f u=>?_,fun k o=>?_,fun i l k o=>?_⟩,Keep.of_grown r (fun k e=>⟨((q j h).tb e).2.1,A j h k e⟩)⟩
 ·rw[rowVV_set _ _ _ _ h y]
  exact G.kept r (.inr (fun e=>m e.symm))
 ·have f:i<a.length:=by simpa using l
  rw[d,ns_set_at _ _ _ _ h]
  by_cases e:i=j
  ·rw[if_pos e,e];exact F
  ·rw[if_neg e]
   refine(q i f).other r.size (fun k z v=>?_);have o:=((q i f).tb (v▸tb_of z)).2.2;refine r.block k o (fun x=>?_);have C:=(q j h).tb x.symm;exact p i j f h e z (tb_some x.symm).1 (by rw[v,C.1])
 ·rw[d];exact ha i (by simpa using l)
 ·rw[d,d];exact p i H (by simpa using l) (by simpa using f) u
 ·have:k=g:=(Option.some.inj o).symm
  omega
 ·rw[d] at o
  exact A i (by simpa using l) k o
theorem markN_any (B U:Nat)(p:Option Addr)(n c:Nat)(k:Int)(a:List (List Int))(w:World)(T:0<=k)(h1:k<=10000000000)(hn:a.length+tnn a<=100000000)(h:OwnVU w B U p n c a) :
  Calls Tryz.prog 39 #[.slice p n c,.int .i64 k] w fun e w'=>e = .returned (.int .i64 (k+(tnn a:Nat)))/\OwnVU w' B U p n c (mixN k a a.length)/\Keep B U w w':=by
 have L:=h.1;have HO:Hid (OwnVU w B U p n c a):=h;clear h
 have h6:n<=100000000:=by omega
 have u:Hid (n=a.length):=L;clear L
 go_enter Tryz.func39,Tryz.ntmps39
 go_wp2
 go_loopw [1,5] (fun q i wr=>∃ (j:Nat) (t:Int),j<=n/\0<=t/\t<=1000000000000/\i = .int .i64 j/\q = .int .i64 t/\Hid (t=k+(tnn (a.take j):Nat))/\Hid (OwnVU wr B U p n c (mixN k a j))/\Hid (Keep B U w wr)) (fun _ i _=>n-(intOf i).toNat)
 case atStart=>exact⟨0,k,Nat.zero_le _,T,by omega,rfl,rfl,by show _=_;simp[tnn],by rw[mixN_zero];exact HO,Keep.refl _ _ _⟩
 case round=>
  obtain⟨j,t,hj,W,X,rfl,rfl,Q,R,Z⟩:=hrel
  by_cases Y:j<n
  ·obtain⟨K,z,hl,P,V,ha,G,hu,ht⟩:=R.o
   obtain⟨g,h3,hv,h4,h5⟩:=P.form (by omega);simp only[Value.slice.injEq,true_and] at hv;obtain⟨rfl,rfl⟩:=hv
   have f:j<a.length:=by rw[<-u.o];exact Y
   have m:j<(mixN k a j).length:=by rw[mixN_len];exact f
   have S:=(P.cellAt j (by omega)).trans (rowVV_at z _ j m);have I:=V j m;have s:((mixN k a j).getD j []).length=(a.getD j []).length:=mixN_atl _ _ _ _ f;have N:=tnn_at a j f;have b:=markT_any B _ _ _ t _ _ W X (by omega) I
   have d:Hid (∀ y O,O.length=((mixN k a j).getD j []).length->OwnT y B (z.getD j (none,0)).1 ((mixN k a j).getD j []).length (z.getD j (none,0)).2 O->wr.grownBy y (tb (z.getD j (none,0)).1 ((mixN k a j).getD j []).length)->
     OwnVU y B U (some ⟨g,0,none⟩) n c ((mixN k a j).set j O)/\Keep B U wr y):=fun y O T h1 h2=>markN_one K hl P V ha G (hu g rfl) ht m O T h1 h2
   have v:Hid _:=tnn_take a j f;have C:Hid _:=mixN_succ k a j f;have l:=tnn_take_le a (j+1)
   have H:t+((a.getD j []).length:Nat)<=1000000000000:=by have:=v.o;have:=Q.o;omega
   obtain⟨tp,F⟩:∃ x,x=(z.getD j (none,0)).1:=⟨_,rfl⟩
   obtain⟨tc,D⟩:∃ x,x=(z.getD j (none,0)).2:=⟨_,rfl⟩
   rw[<-F,<-D] at b S d;rw[s] at b S d
   obtain⟨tn,E⟩:∃ x,x=(a.getD j []).length:=⟨_,rfl⟩
   rw[<-E] at b S d v C H N
   have h7:tn<=100000000:=by omega
   clear F D E K hl P V ha G hu ht I s N R HO l m;go_wp2_with fail;refine b.mono ?_;rintro e y ⟨rfl,M,J⟩;have A:Hid _:=d.o y _ (marks_len _ _) M J;clear M J b;go_wp2_with fail;have e1:=v.o;have e2:=C.o;have e3:=Q.o;have r:=A.o;go_roundw
   case rel=>exact⟨j+1,t+tn,by omega,by omega,H,by go_num,rfl,by show _=_;rw[e1];omega,by
    show OwnVU _ _ _ _ _ _ _
    rw[e2,<-e3]
    exact r.1,Z.o.trans r.2⟩
   case measure=>simp[intOf];omega
  ·obtain rfl:j=n:=by omega
   go_wp2_with fail;go_ret;refine⟨ret_int ?_,?_,Z.o⟩
   ·rw[Q.o,u.o,List.take_length]
   ·have:=R.o
    rw[<-u.o];exact this
theorem heldN_any (p:Option Addr)(n c:Nat)(k:Int)(a:List (List Int))(w:World)(J:0<=k)(P:k<=10000000000)(R:a.length+tnn a<=100000000)(F:n=a.length)(t:NIn w p (mixN k a a.length)) :
  Calls Tryz.prog 41 #[.slice p n c,.int .i64 k] w fun e N=>e = .returned (.int .i64 (k+(tnn a:Nat)))/\N=w:=by
 have A:Hid (NIn w p (mixN k a a.length)):=t;have l:Hid (n=a.length):=F;clear t
 have K:n<=100000000:=by omega
 clear F
 go_enter Tryz.func41,Tryz.ntmps41
 go_wp2_with fail
 go_loop [1,5] (fun q i=>∃ (j:Nat) (g:Int),j<=n/\0<=g/\g<=1000000000000/\i = .int .i64 j/\q = .int .i64 g/\Hid (g=k+(tnn (a.take j):Nat))) (fun _ i=>n-(intOf i).toNat)
 case atStart=>exact⟨0,k,Nat.zero_le _,J,by omega,rfl,rfl,by show _=_;simp[tnn]⟩
 case round=>
  obtain⟨j,g,Q,C,D,rfl,rfl,v⟩:=hrel
  by_cases E:j<n
  ·have d:j<a.length:=by rw[<-l.o];exact E
   obtain⟨b,o,rfl,s⟩:=A.o (by rw[mixN_len];omega);obtain⟨q,M,B,y⟩:=s j (by rw[mixN_len];exact d);rw[mixN_at _ _ _ _ d,if_pos d,<-v.o] at B y;rw[marks_len] at B;have u:=tnn_at a j d;have h:Hid _:=tnn_take a j d;have f:=tnn_take_le a (j+1)
   have r:g+((a.getD j []).length:Nat)<=1000000000000:=by have:=h.o;have:=v.o;omega
   obtain⟨z,m⟩:∃ x,x=(a.getD j []).length:=⟨_,rfl⟩
   rw[<-m] at B y h r u
   have L:z<=100000000:=by omega
   have G:¬ (g+(z:Int)<0):=by omega
   have H:=held_any q z M g w C D (by omega) y;clear m s u A f y;go_wp2_with fail;refine H.mono ?_;rintro e S ⟨rfl,rfl⟩;go_wp2_with fail;have I:=h.o;have O:=v.o
   go_round
   case rel=>exact⟨j+1,g+z,by omega,by omega,r,by go_num,rfl,by show _=_;rw[I];omega⟩
   case measure=>simp[intOf];omega
  ·obtain rfl:j=n:=by omega
   clear A;go_wp2_with fail;go_ret;exact⟨ret_int (by rw[v.o,l.o,List.take_length]),rfl⟩
theorem box3 {V:World}{R:Nat}{a b c:Value}{t:TypeId}(h:V.heap[R]?=some (.cells #[a,b,c] t)):V.cell? ⟨R,0,none⟩=some a/\V.cell? ⟨R,1,none⟩=some b/\V.cell? ⟨R,2,none⟩=some c:=
 ⟨by unfold World.cell?;rw[h];rfl,by unfold World.cell?;rw[h];rfl,by unfold World.cell?;rw[h];rfl⟩
theorem box_below (w:World)(o:Obj):Below w.heap.size w (w.alloc o):=⟨rfl,rfl,rfl,by simp,fun k a=>Below.heap_alloc _ _ _ a⟩
theorem box_new (w:World)(o:Obj):(w.alloc o).heap[w.heap.size]?=some o:=by unfold World.alloc;simp
def OwnCl (w:World)(B U:Nat)(q:Option Addr)(m cm:Nat)(p:Option Addr)(n c:Nat)(t:List Cel)(ns:List (List Int)):Prop:=∃ M,OwnVU w B M p n c ns/\OwnCU w M U q m cm t/\B<=M/\M<=U
theorem OwnCl.below {w w':World}{B U:Nat}{q:Option Addr}{m a:Nat}{p:Option Addr}{n c:Nat}{t:List Cel}{d:List (List Int)}(h:OwnCl w B U q m a p n c t d)(b:Below w.heap.size w w'):OwnCl w' B U q m a p n c t d:=by
 obtain⟨M,e,f,g,i⟩:=h;exact⟨M,e.below b,f.below b,g,i⟩
theorem OwnCl.keep {w g:World}{B U a b:Nat}{q:Option Addr}{m d:Nat}{p:Option Addr}{n c:Nat}{t:List Cel}{f:List (List Int)}(h:OwnCl w B U q m d p n c t f)(e:Keep a b w g)(o:U<=a∨b<=B):OwnCl g B U q m d p n c t f:=by
 obtain⟨M,i,j,k,l⟩:=h;exact⟨M,i.keep e (by omega),j.keep e (by omega),k,l⟩
theorem OwnCl.ins {w:World}{B U:Nat}{q:Option Addr}{m e:Nat}{p:Option Addr}{n c:Nat}{t:List Cel}{a:List (List Int)}(h:OwnCl w B U q m e p n c t a):CIn w q t/\NIn w p a/\m=t.length/\n=a.length:=by
 obtain⟨M,b,d,f,g⟩:=h;exact⟨d.toC.cin,b.nin,d.1,b.1⟩
abbrev clV (q:Option Addr)(m cm:Nat)(p:Option Addr)(n c:Nat):Value:=.agg #[.slice q m cm,.slice p n c,.int .i64 0]
theorem endC_pos (t:List Cel)(k:Nat):¬ endC 1 t+(k:Int)<0:=by unfold endC kAt;omega
theorem eqClause_same (q i:Option Addr)(m l a:Nat)(p f:Option Addr)(n c g:Nat)(t:List Cel)(d:List (List Int))(w:World)(K:t.length+tl t<=1000000000)(R:d.length+tnn d<=1048576)(H:CIn w q t/\NIn w p d)(I:CIn w i t/\NIn w f d)(S:m=t.length)(J:n=d.length) :
  Calls Tryz.prog 10 #[clV q m l p n c,clV i m a f n g] w fun e z=>e = .returned (.bool true)/\Below w.heap.size w z:=by
 subst S J
 have k:Hid (∀ W,Below w.heap.size w W->Calls Tryz.prog 35 #[.slice q t.length l,.slice i t.length a] W fun e z=>e = .returned (.bool true)/\Below W.heap.size W z):=fun W h=>by
  have:=eqCellS_any q i l a t t W K K (H.1.below h) (I.1.below h);rw[decide_eq_true rfl] at this;exact this
 have G:Hid (∀ W,Below w.heap.size w W->Calls Tryz.prog 36 #[.slice p d.length c,.slice f d.length g] W fun e z=>e = .returned (.bool true)/\Below W.heap.size W z):=fun W h=>eqNN_same p f c g d W R (H.2.below h) (I.2.below h)
 obtain⟨m,P⟩:∃ x,x=t.length:=⟨_,rfl⟩
 obtain⟨n,Q⟩:∃ x,x=d.length:=⟨_,rfl⟩
 rw[<-P] at k ⊢;rw[<-Q] at G ⊢;clear H I K R P Q
 obtain⟨A,y⟩:∃ A,A=(w.alloc (.cells #[.slice q m l,.slice p n c,.int .i64 0] 28)).alloc (.cells #[.slice i m a,.slice f n g,.int .i64 0] 28):=⟨_,rfl⟩
 have D:Hid (A=(w.alloc (.cells #[.slice q m l,.slice p n c,.int .i64 0] 28)).alloc (.cells #[.slice i m a,.slice f n g,.int .i64 0] 28)):=y
 have s:Below w.heap.size w A:=by rw[y];exact Below.on (box_below _ _) (box_below _ _)
 have L:A.heap[w.heap.size]?=some (.cells #[.slice q m l,.slice p n c,.int .i64 0] 28):=by rw[y];exact(Below.heap_alloc _ _ _ (by simp)).trans (box_new _ _)
 have M:A.heap[w.heap.size+1]?=some (.cells #[.slice i m a,.slice f n g,.int .i64 0] 28):=by
  rw[y];have:=box_new (w.alloc (.cells #[.slice q m l,.slice p n c,.int .i64 0] 28)) (.cells #[.slice i m a,.slice f n g,.int .i64 0] 28)
  simpa using this
 have u:Hid (∀ W,Below A.heap.size A W->(W.cell? ⟨w.heap.size,1,none⟩=some (.slice p n c)/\W.cell? ⟨w.heap.size,2,none⟩=some (.int .i64 0))/\W.cell? ⟨w.heap.size+1,1,none⟩=some (.slice f n g)/\W.cell? ⟨w.heap.size+1,2,none⟩=some (.int .i64 0)):=fun W h=>by
  have T:=(Array.getElem?_eq_some_iff.1 L).1;have U:=(Array.getElem?_eq_some_iff.1 M).1;exact⟨(box3 ((h.block _ T).trans L)).2,(box3 ((h.block _ U).trans M)).2⟩
 have N:=k.o A s;have F:Hid (Below w.heap.size w A):=s;clear y s L M k
 go_enter Tryz.func10,Tryz.ntmps10
 go_wp2_with fail;rw[<-D.o];refine N.mono ?_;rintro e B ⟨rfl,b⟩;have j:Hid (Below w.heap.size w B):=Below.on F.o b;have v:=G.o B j.o;have C:Hid (Below A.heap.size A B):=b;obtain⟨⟨V,X⟩,Y,Z⟩:=u.o B b;clear G N b;go_wp2_with fail;refine v.mono ?_;rintro e O ⟨rfl,r⟩;have E:Hid (Below w.heap.size w O):=Below.on j.o r;obtain⟨⟨y1,y2⟩,y3,y4⟩:=u.o O (Below.on C.o r);clear r v j V X Y Z;go_wp2_with fail;go_ret;exact⟨rfl,E.o⟩
theorem Keep.of_below {B U:Nat}{w w':World}(h:Below w.heap.size w w'):Keep B U w w':=⟨h.os,h.tape,h.output,h.size,fun k a _=>h.block k a⟩
theorem markClause_any (B U:Nat)(q:Option Addr)(m d:Nat)(p:Option Addr)(n c:Nat)(t:List Cel)(a:List (List Int))(w:World)(O:t.length+tl t<=100000000)(G:a.length+tnn a<=100000000)(h:OwnCl w B U q m d p n c t a)(V:U<=w.heap.size) :
  Calls Tryz.prog 15 #[clV q m d p n c,.int .i64 1] w fun e v=>e = .returned (.int .i64 (endC 1 t+(tnn a:Nat)))/\OwnCl v B U q m d p n c (markC 1 t) (mixN (endC 1 t) a a.length)/\Keep B U w v:=by
 obtain⟨M,J,K,L,N⟩:=h
 obtain⟨A,z⟩:∃ A,A=w.alloc (.cells #[.slice q m d,.slice p n c,.int .i64 0] 28):=⟨_,rfl⟩
 have C:Hid (A=w.alloc (.cells #[.slice q m d,.slice p n c,.int .i64 0] 28)):=z
 have f:Below w.heap.size w A:=by rw[z];exact box_below _ _
 have P:A.heap[w.heap.size]?=some (.cells #[.slice q m d,.slice p n c,.int .i64 0] 28):=by rw[z];exact box_new _ _
 obtain⟨_,H,_⟩:=box3 P;have x:=markCells_any M U q m d 1 t A (by omega) (by omega) O (K.below f)
 have E:0<=endC 1 t/\endC 1 t<=10000000000:=by
  have X:=tl_take_le t t.length
  unfold endC kAt
  exact⟨by omega,by omega⟩
 have k:Hid (∀ W,Keep M U A W->Calls Tryz.prog 39 #[.slice p n c,.int .i64 (endC 1 t)] W fun e v=>e = .returned (.int .i64 (endC 1 t+(tnn a:Nat)))/\OwnVU v B M p n c (mixN (endC 1 t) a a.length)/\Keep B M W v):=fun W F=>markN_any B M p n c (endC 1 t) a W E.1 E.2 G ((J.below f).keep F (by omega))
 have y:Hid (∀ b i,OwnCU b M U q m d (markC 1 t)->Keep M U A b->OwnVU i B M p n c (mixN (endC 1 t) a a.length)->Keep B M b i->OwnCl i B U q m d p n c (markC 1 t) (mixN (endC 1 t) a a.length)/\Keep B U w i):=fun b i R S T I=>⟨⟨M,T,R.keep I (by omega),L,N⟩,((Keep.of_below f).trans (S.wide L (Nat.le_refl _))).trans (I.wide (Nat.le_refl _) N)⟩
 generalize markC 1 t=t' at x y ⊢
 generalize mixN (endC 1 t) a a.length=ns' at k y ⊢
 generalize endC 1 t=kk at x k E ⊢
 generalize tnn a=tn at k G ⊢
 have Q:Hid (∀ W,Keep M U A W->W.cell? ⟨w.heap.size,1,none⟩=some (.slice p n c)):=fun W F=>F.cellU H (.inr V)
 clear J K O G z f P H
 go_enter Tryz.func15,Tryz.ntmps15
 go_wp2_with fail;rw[<-C.o];refine x.mono ?_;rintro e b ⟨rfl,s,g⟩;have l:=k.o b g
 have j:Hid (OwnCU b M U q m d t'/\Keep M U A b):=⟨s,g⟩
 have H:=Q.o b g;clear k x s g;go_wp2_with fail;refine l.mono ?_;rintro e i ⟨rfl,u,r⟩;have D:Hid _:=y.o b i j.o.1 j.o.2 u r;clear u r l y;go_wp2_with fail;go_ret;exact⟨rfl,D.o⟩
theorem heldClause_any (q:Option Addr)(m d:Nat)(p:Option Addr)(n c:Nat)(t:List Cel)(b:List (List Int))(w:World)(x:t.length+tl t<=100000000)(v:b.length+tnn b<=100000000)(u:m=t.length)(f:n=b.length)(r:CIn w q (markC 1 t))(s:NIn w p (mixN (endC 1 t) b b.length)) :
  Calls Tryz.prog 16 #[clV q m d p n c,.int .i64 1] w fun e D=>e = .returned (.int .i64 (endC 1 t+(tnn b:Nat)))/\Below w.heap.size w D:=by
 obtain⟨A,h⟩:∃ A,A=w.alloc (.cells #[.slice q m d,.slice p n c,.int .i64 0] 28):=⟨_,rfl⟩
 have i:Hid (A=w.alloc (.cells #[.slice q m d,.slice p n c,.int .i64 0] 28)):=h
 have a:Below w.heap.size w A:=by rw[h];exact box_below _ _
 have y:A.heap[w.heap.size]?=some (.cells #[.slice q m d,.slice p n c,.int .i64 0] 28):=by rw[h];exact box_new _ _
 obtain⟨_,H,_⟩:=box3 y;have k:=heldCells_any q m d 1 t A (by omega) (by omega) x u (r.below a)
 have l:0<=endC 1 t/\endC 1 t<=10000000000:=by
  have G:=tl_take_le t t.length
  unfold endC kAt
  exact⟨by omega,by omega⟩
 have g:=heldN_any p n c (endC 1 t) b A l.1 l.2 v f (s.below a)
 generalize endC 1 t=kk at k g l ⊢
 generalize tnn b=C at g v ⊢
 have z:¬ kk<0:=by omega
 have B:¬ kk+(C:Int)<0:=by omega
 have j:Hid (Below w.heap.size w A):=a;clear r s x u f h y a
 go_enter Tryz.func16,Tryz.ntmps16
 go_wp2_with fail;rw[<-i.o];refine k.mono ?_;rintro e E ⟨rfl,rfl⟩;clear k;go_wp2_with fail;refine g.mono ?_;rintro e F ⟨rfl,rfl⟩;clear g;go_wp2_with fail;go_ret;exact⟨rfl,j.o⟩
end
end Go.Proofs.YtlkhmmoimplokaaGreatDoor
