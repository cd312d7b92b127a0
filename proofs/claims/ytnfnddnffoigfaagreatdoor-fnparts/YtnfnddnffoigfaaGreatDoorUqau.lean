/- Texts of FpA, FpL, FpN. Own work of the verifier. -/
import Derived.Test.YtnfnddnffoigfaaGreatDoorUqaq
import Derived.Test.YtnfnddnffoigfaaGreatDoorUqao
import Derived.Laws.EntriesVeiled
namespace Go.Proofs.YtnfnddnffoigfaaGreatDoor
set_option maxHeartbeats 4000000
set_option maxRecDepth 100000
open Go Go.RowKit
set_option linter.unusedVariables false
set_option linter.unusedSimpArgs false
theorem integerN_any (v:Int)(w:World):Calls Tryz.prog 122 #[.iface 146 (.int .i64 v)] w fun e a=>e = .returned (.tuple #[.int .i64 v,.nilIface])/\a=w:=by
 have b:=noVar_num;have c:=nbA_num_num
 go_enter Tryz.func122,Tryz.ntmps122
 go_wp2_with fail
 go_ret2
 exact⟨rfl,rfl⟩
theorem arg_any (i:Int)(tb:TypeId)(b q m:Nat)(n r:TypeId)(s t:Value)(g c on oc:Nat)(op:Option Addr)(fr:Int)(w:World)(X:Thr w g (.iface 146 (.int .i64 i)) (.iface 101 (.pointer (some ⟨b,0,none⟩))) (.iface n s))
  (a:w.cell? ⟨b,1,none⟩=some (.slice (some ⟨q,0,none⟩) m m)) (hi:1<=i) (Y:i<=m) (hm:m<=100000) (O:w.cell? ⟨q,(i-1).toNat,none⟩=some (.iface r t)) :
  Calls Tryz.prog 73 #[calV3 op on oc g c fr] w (PairE w (.iface n s) (.iface r t)):=by
 obtain⟨E,G⟩:∃ E,E=w.alloc (Obj.cells #[.slice op on oc,.slice (some ⟨g,0,none⟩) 3 c,.int .i64 fr] 67):=⟨_,rfl⟩
 obtain⟨u,x⟩:∃ u,u=E.alloc (Obj.cells #[Value.slice none 0 0,Value.nilIface,Value.slice none 0 0] 70):=⟨_,rfl⟩
 have J:Below w.heap.size w E:=by rw[G];exact(Below.refl _ _).alloc (Nat.le_refl _) _
 have B:Below E.heap.size E u:=by rw[x];exact(Below.refl _ _).alloc (Nat.le_refl _) _
 have I:Below w.heap.size w u:=Below.on J B
 have N:E.heap.size=w.heap.size+1:=by rw[G];simp
 have L:u.cell? ⟨w.heap.size,1,none⟩=some (.slice (some ⟨g,0,none⟩) 3 c):=by
  rw[B.cell (p:=⟨w.heap.size,1,none⟩) (by show w.heap.size<_;omega),G,World.cell?,heap_alloc_new];rfl
 have Z:Hid (∀ W,Below u.heap.size u W->W.heap[w.heap.size+1]?=some (Obj.cells #[Value.slice none 0 0,Value.nilIface,Value.slice none 0 0] 70)):=fun W F=>by
  rw[F.block _ (by rw[x];simp;omega),x,<-N,heap_alloc_new]
 have U:=X.below I;have p0:=U.at0;have p1:=U.at1;have S:=U.at2;have T:=(I.cell (World.block_lt_of_cell? _ _ a)).trans a;have R:=(I.cell (World.block_lt_of_cell? _ _ O)).trans O;have HB:=hid I
 have HS:Hid (u.heap.size=w.heap.size+2):=by show _=_;rw[x];simp;omega
 have hI:=integerN_any i u
 obtain⟨j,ej⟩:∃ j:Nat,i=(j:Int)+1:=⟨(i-1).toNat,by omega⟩
 have H:(i-1).toNat=j:=by omega
 rw[H] at R O
 have hj:j<m:=by omega
 subst ej
 have b1:((j:Int)+1<1)=False:=by simp;omega
 have b2:((m:Int)<(j:Int)+1)=False:=by simp;omega
 have d1:(0:Int)<=(j:Int):=by omega
 have d2:(j:Int)<(m:Int):=by omega
 have d3:(j:Int)+1-1=(j:Int):=by omega
 have d4:(j:Int)<=100000:=by omega
 have d5:IntKind.i64.wrap (j:Int)=(j:Int):=by rw[IntKind.wrap_i64];omega
 have d6:IntKind.i64.wrap ((j:Int)+1-1)=(j:Int):=by rw[IntKind.wrap_i64];omega
 have A:Hid (g<w.heap.size/\b<w.heap.size/\q<w.heap.size):=⟨World.block_lt_of_cell? _ _ X.at0,World.block_lt_of_cell? _ _ a,World.block_lt_of_cell? _ _ O⟩
 rw[G] at x;clear G J B I N U X a O hi Y H;have n1:=noVar_comp;have n2:=isComp;have Q:=p0;have M:=L;rw[x] at Q M
 go_enter Tryz.func73,Tryz.ntmps73
 go_wp2_with fail;rw[<-x];refine hI.mono ?_;rintro e h ⟨rfl,rfl⟩;clear hI Q M x p0
 have hS:h.cell? ⟨w.heap.size,1,none⟩=some (.slice (some ⟨g,0,none⟩) 3 c)/\h.cell? ⟨g,2,none⟩=some (.iface n s)/\h.cell? ⟨b,1,none⟩=some (.slice (some ⟨q,0,none⟩) m m)/\h.cell? ⟨q,j,none⟩=some (.iface r t):=⟨L,S,T,R⟩
 have KS:Hid (∀ W,Below h.heap.size h W->W.cell? ⟨w.heap.size,1,none⟩=some (.slice (some ⟨g,0,none⟩) 3 c)/\W.cell? ⟨g,2,none⟩=some (.iface n s)/\W.cell? ⟨b,1,none⟩=some (.slice (some ⟨q,0,none⟩) m m)/\W.cell? ⟨q,j,none⟩=some (.iface r t)):=fun W F=>⟨(F.cell (World.block_lt_of_cell? _ _ L)).trans L,(F.cell (World.block_lt_of_cell? _ _ S)).trans S,(F.cell (World.block_lt_of_cell? _ _ T)).trans T,(F.cell (World.block_lt_of_cell? _ _ R)).trans R⟩
 have HD:Hid (Below h.heap.size h (h.drewN 1)):=below_drewN (Below.refl _ _) 1;have HU:=unifying_ok n r s t (h.drewN 1);have y:True:=trivial;go_wp2_with fail;clear L p1 S T R
 go_region_held3 (fun W=>W.cell? ⟨w.heap.size,1,none⟩=some (.slice (some ⟨g,0,none⟩) 3 c)/\W.cell? ⟨g,2,none⟩=some (.iface n s)/\W.cell? ⟨b,1,none⟩=some (.slice (some ⟨q,0,none⟩) m m)/\W.cell? ⟨q,j,none⟩=some (.iface r t)) (first | exact P | exact f | exact hS | go_keep)
  (first
    | (have _t:=y;go_at_call 112;refine Calls.mono HU ?_;rintro e k ⟨d,rfl,C,c0,c1,K⟩;have l:=hid (Below.on HD.o K);have f:=KS.o k l.o;have P:(wr3 k (w.heap.size+1) (.slice (some ⟨d,0,none⟩) 1 1) .nilIface (.slice none 0 0)).cell? ⟨w.heap.size,1,none⟩=some (.slice (some ⟨g,0,none⟩) 3 c)/\(wr3 k (w.heap.size+1) (.slice (some ⟨d,0,none⟩) 1 1) .nilIface (.slice none 0 0)).cell? ⟨g,2,none⟩=some (.iface n s)/\(wr3 k (w.heap.size+1) (.slice (some ⟨d,0,none⟩) 1 1) .nilIface (.slice none 0 0)).cell? ⟨b,1,none⟩=some (.slice (some ⟨q,0,none⟩) m m)/\(wr3 k (w.heap.size+1) (.slice (some ⟨d,0,none⟩) 1 1) .nilIface (.slice none 0 0)).cell? ⟨q,j,none⟩=some (.iface r t):=⟨(wr3_ne (by show w.heap.size≠_;omega)).trans f.1,(wr3_ne (by show g≠_;have:=A.o.1;omega)).trans f.2.1,(wr3_ne (by show b≠_;have:=A.o.2.1;omega)).trans f.2.2.1,(wr3_ne (by show q≠_;have:=A.o.2.2;omega)).trans f.2.2.2⟩;have z:Hid (h.heap.size<=d/\k.cell? ⟨d,0,none⟩=some (.iface n s)/\k.cell? ⟨d,1,none⟩=some (.iface r t)):=⟨C,c0,c1⟩;obtain⟨h1,h2,h4,h5⟩:=Box3.of_block (Z.o k l.o);clear C c0 c1 K y))
 rename_i D
 clear D;have HX:=Box3.of_block (Z.o k l.o);have HP:Hid _:=wr3_box HX (.slice (some ⟨d,0,none⟩) 1 1) .nilIface (.slice none 0 0)
 have V:Hid (PairE w (.iface n s) (.iface r t) (.returned (.tuple #[.agg #[.slice (some ⟨d,0,none⟩) 1 1,.nilIface,.slice none 0 0],.nilIface])) (wr3 k (w.heap.size+1) (.slice (some ⟨d,0,none⟩) 1 1) .nilIface (.slice none 0 0))):=by
  have h6:=HS.o;have C:=z.o.1;exact⟨d,rfl,by omega,(wr3_ne (by show d≠_;omega)).trans z.o.2.1,(wr3_ne (by show d≠_;omega)).trans z.o.2.2,wr3_below (Below.on HB.o l.o) (Nat.le_succ _)⟩
 clear f P hS HX
 go_wp2
 obtain⟨d0,d1,d2,_⟩:=HP.o;exact bodyPost_ret (v:=.tuple #[.agg #[.slice (some ⟨d,0,none⟩) 1 1,.nilIface,.slice none 0 0],.nilIface]) (by simp[results,Tryz.results73,go_sem,d0,d1,d2]) rfl V.o
theorem argF_any (a:Addr)(i:Int)(b q m:Nat)(Q:Value)(g h on F:Nat)(op:Option Addr)(B:Int)(w:World)(C:Thr w g (.iface 146 (.int .i64 i)) (.iface 101 (.pointer (some ⟨b,0,none⟩))) Q)
  (c:w.cell? ⟨b,1,none⟩=some (.slice (some ⟨q,0,none⟩) m m)) (N:1<=i) (z:(m:Int)<i) (d:w.cell? ⟨0,0,none⟩=some (erV a)) :
  Calls Tryz.prog 73 #[calV3 op on F g h B] w fun e R=>e = .returned (.tuple #[noEf,erV a])/\Below w.heap.size w R:=by
 obtain⟨l,r⟩:∃ l,l=w.alloc (Obj.cells #[.slice op on F,.slice (some ⟨g,0,none⟩) 3 h,.int .i64 B] 67):=⟨_,rfl⟩
 obtain⟨f,n⟩:∃ f,f=l.alloc (Obj.cells #[Value.slice none 0 0,Value.nilIface,Value.slice none 0 0] 70):=⟨_,rfl⟩
 have t:Below w.heap.size w l:=by rw[r];exact(Below.refl _ _).alloc (Nat.le_refl _) _
 have j:Below l.heap.size l f:=by rw[n];exact(Below.refl _ _).alloc (Nat.le_refl _) _
 have s:Below w.heap.size w f:=Below.on t j
 have x:l.heap.size=w.heap.size+1:=by rw[r];simp
 have O:f.cell? ⟨w.heap.size,1,none⟩=some (.slice (some ⟨g,0,none⟩) 3 h):=by
  rw[j.cell (p:=⟨w.heap.size,1,none⟩) (by show w.heap.size<_;omega),r,World.cell?,heap_alloc_new];rfl
 have E:Box3 f (w.heap.size+1) (.slice none 0 0) .nilIface (.slice none 0 0):=Box3.of_block (by rw[n,<-x];exact heap_alloc_new _ _);have I:=hid s;have J:Hid _:=wr3_box E (.slice none 0 0) .nilIface (.slice none 0 0);have A:=C.below s;have G:=A.at0;have X:=A.at1;have Y:=(s.cell (World.block_lt_of_cell? _ _ c)).trans c;have H:=(s.cell (World.block_lt_of_cell? _ _ d)).trans d;have D:=integerN_any i f;have P:(wr3 f (w.heap.size+1) (.slice none 0 0) .nilIface (.slice none 0 0)).cell? ⟨0,0,none⟩=some (erV a):=(wr3_ne (by have:=World.block_lt_of_cell? _ _ d;show 0≠_;omega)).trans H
 have S:(i<1)=False:=by simp;omega
 have T:((m:Int)<i)=True:=by simp;omega
 obtain⟨x0,x1,x2,x3⟩:=E;rw[r] at n;clear r t j s x A C c d N z;have U:=noVar_comp;have V:=isComp;have y:=G;have u:=O;rw[n] at y u
 go_enter Tryz.func73,Tryz.ntmps73
 go_wp2_with fail;rw[<-n];refine D.mono ?_;rintro e Z ⟨rfl,rfl⟩;clear D y u n G;go_wp2_with fail
 go_region_held3 (fun W=>W.cell? ⟨0,0,none⟩=some (erV a)) (first | exact P | exact H | go_keep) (fail)
 rename_i k
 clear k
 go_wp2
 obtain⟨K,L,M,_⟩:=J.o;exact bodyPost_ret (v:=.tuple #[noEf,erV a]) (by simp[results,Tryz.results73,go_sem,K,L,M]) rfl ⟨rfl,(wr3_below I.o (Nat.le_succ _)).drew⟩
theorem textAtom_any (s:ByteArray)(w:World):Calls Tryz.prog 130 #[.iface 55 (.string s)] w fun e a=>e = .returned (.tuple #[.string s,.nilIface])/\a=w:=by
 have b:=nbA_atom_var;have c:=nbA_atom_num;have d:=nbA_atom_atom
 go_enter Tryz.func130,Tryz.ntmps130
 go_wp2_with fail
 go_ret2
 exact⟨rfl,rfl⟩
theorem nameAtom_any (s k:ByteArray)(w:World):Calls Tryz.prog 185 #[.iface 55 (.string s),.string k] w fun e a=>e = .returned (.tuple #[.string s,.nilIface])/\a=w:=by
 have b:=nbA_atom_var;have c:=nbA_atom_atom
 go_enter Tryz.func185,Tryz.ntmps185
 go_wp2_with fail
 go_ret2
 exact⟨rfl,rfl⟩
theorem arityTo_any (i:Int)(s:ByteArray)(v:Value)(g b on l:Nat)(op:Option Addr)(k:Int)(w:World)(q:0<=i)(r:i<=20)(j:Thr w g v (.iface 55 (.string s)) (.iface 146 (.int .i64 i))) :
  Calls Tryz.prog 184 #[calV3 op on l g b k] w fun e x=>e = .returned (.tuple #[.int .i64 i,.nilIface])/\Below w.heap.size w x:=by
 obtain⟨c,d⟩:∃ c,c=w.alloc (Obj.cells #[.slice op on l,.slice (some ⟨g,0,none⟩) 3 b,.int .i64 k] 67):=⟨_,rfl⟩
 have a:Below w.heap.size w c:=by rw[d];exact(Below.refl _ _).alloc (Nat.le_refl _) _
 have t:c.cell? ⟨w.heap.size,1,none⟩=some (.slice (some ⟨g,0,none⟩) 3 b):=by rw[d,World.cell?,heap_alloc_new];rfl
 have u:=(j.below a).at1;have B:=(j.below a).at2;have p:=nbIsVar_atom (.string s) c;have n:=integerN_any i c;have m:=hid a
 have z:(i<0)=False:=by simp;omega
 have A:((20:Int)<i)=False:=by simp;omega
 have h:=u;have f:=t;rw[d] at h f;clear a j q r
 go_enter Tryz.func184,Tryz.ntmps184
 go_wp2_with fail;rw[<-d];refine p.mono ?_;rintro e y ⟨rfl,rfl⟩;clear h f d;go_wp2_with fail;refine n.mono ?_;rintro e y ⟨rfl,rfl⟩;go_wp2_with fail
 go_ret2
 exact⟨rfl,m.o⟩
def newVs (fr:Int)(n:Nat):List Value:=(List.range n).map fun (j:Nat)=>Value.iface 65 (.int .i64 (fr+(j:Int)))
theorem newVs_succ (a:Int)(n:Nat):newVs a (n+1)=newVs a n ++ [.iface 65 (.int .i64 (a+(n:Int)))]:=by simp[newVs,List.range_succ]
theorem newVs_len (a:Int)(n:Nat):(newVs a n).length=n:=by simp[newVs]
theorem newVars_any (n:Nat)(g s on P:Nat)(op:Option Addr)(a:Int)(w:World)(Z:n<=20)(v:0<=a)(x:a<=1000000) :
  Calls Tryz.prog 186 #[calV3 op on P g s a,.int .i64 n] w fun e L=>∃ q,e = .returned (.slice (some ⟨q,0,none⟩) n n)/\w.heap.size<=q/\q<L.heap.size/\(∀ i,i<n->L.cell? ⟨q,i,none⟩=some ((newVs a n).getD i .nilIface))/\Below w.heap.size w L:=by
 obtain⟨f,t⟩:∃ f,f=w.alloc (Obj.cells #[.slice op on P,.slice (some ⟨g,0,none⟩) 3 s,.int .i64 a] 67):=⟨_,rfl⟩
 have u:Below w.heap.size w f:=by rw[t];exact(Below.refl _ _).alloc (Nat.le_refl _) _
 have m:f.heap.size=w.heap.size+1:=by rw[t];simp
 have O:f.cell? ⟨w.heap.size,2,none⟩=some (.int .i64 a):=by rw[t,World.cell?,heap_alloc_new];rfl
 have S:=hid O;have Q:=hid u
 have l:Hid (0<=a/\a<=1000000):=⟨v,x⟩
 obtain⟨U,D,A,B,C⟩:=info_parts infoTerm
 have y:n<=maxLen:=by unfold maxLen;omega
 clear O u v x
 go_enter Tryz.func186,Tryz.ntmps186
 go_wp2_with (at_make;rw[<-t];refine wpList_make_full _ rfl _ _ 52 rfl (w.heap.size+1) 48 U .nilIface 1 Tryz.underlying52 D A B _ _ _ _ n rfl rfl rfl rfl (by rw[C];omega) y (by rw[m];exact Nat.le_refl _) ?_;rw[m];intro M d c)
 have r:Hid (M.ownsRow (w.heap.size+1) 48 1 (.slice (some ⟨(w.heap.size+1),0,none⟩) n n) n (newVs a 0 ++ List.replicate (n-0) .nilIface)):=by
  have:=d
  simp[Value.cells,toList_madeCells_one] at this
  exact this
 have E:Hid (Below (w.heap.size+1) f M):=(Below.refl _ _).grown c (Nat.le_of_eq m.symm) (fun k h=>by cases h);have I:(w.heap.size+1)<M.heap.size:=(r.o.lt (w.heap.size+1) rfl).2;clear d c D A B C y t
 go_loopw [11] (fun i wr=>∃ (j:Nat),j<=n/\i = .int .i64 j/\Hid (wr.ownsRow (w.heap.size+1) 48 1 (.slice (some ⟨(w.heap.size+1),0,none⟩) n n) n (newVs a j ++ List.replicate (n-j) .nilIface))/\Hid (Below (w.heap.size+1) f wr)/\(w.heap.size+1)<wr.heap.size) (fun i _=>n-(intOf i).toNat)
 case atStart=>exact⟨0,Nat.zero_le _,rfl,r,E,I⟩
 case round=>
  obtain⟨j,Y,rfl,p,b,z⟩:=hrel
  by_cases K:j<n
  ·have V:wr.cell? ⟨w.heap.size,2,none⟩=some (.int .i64 a):=(b.o.cell (by show w.heap.size<_;omega)).trans S.o
   have W:wr.cell? ⟨(w.heap.size+1),j,none⟩=some .nilIface:=by
    rw[p.o.cellAt j (by omega),List.getElem?_append_right (by rw[newVs_len];exact Nat.le_refl _),List.getElem?_replicate,if_pos (by rw[newVs_len];omega)]
   have X:wr.frozen? ⟨(w.heap.size+1),j,none⟩=false:=p.o.frozenAt j
   have hw:IntKind.i64.wrap (a+(j:Int))=a+(j:Int):=by have:=l.o;rw[IntKind.wrap_i64];omega
   have H:Hid ((wr.setCell ⟨(w.heap.size+1),j,none⟩ (.iface 65 (.int .i64 (a+(j:Int))))).ownsRow (w.heap.size+1) 48 1 (.slice (some ⟨(w.heap.size+1),0,none⟩) n n) n (newVs a (j+1) ++ List.replicate (n-(j+1)) .nilIface)):=by
    rw[newVs_succ];exact row_next p.o (newVs_len a j) K _
   have F:Hid (Below (w.heap.size+1) f (wr.setCell ⟨(w.heap.size+1),j,none⟩ (.iface 65 (.int .i64 (a+(j:Int)))))):=b.o.setCell (Nat.le_refl _) _;have T:=l.o.2;have N:=l.o.1;clear p b;go_wp2_with fail;go_roundw
   case rel=>exact⟨j+1,by omega,by go_num,H,F,by simpa using z⟩
   case measure=>simp[intOf];omega
  ·obtain rfl:j=n:=by omega
   have J:=p.o;rw[Nat.sub_self,List.replicate_zero,List.append_nil] at J
   have R:Hid (∀ i,i<j->wr.cell? ⟨(w.heap.size+1),i,none⟩=some ((newVs a j).getD i .nilIface)):=fun i D=>by
    rw[J.cellAt i (by omega)]
    simp[List.getD,newVs_len,D]
   have G:Hid (Below w.heap.size w wr):=Q.o.trans (b.o.mono (Nat.le_succ _));clear p b J;go_wp2_with fail;go_ret;exact⟨_,rfl,by omega,z,R.o,G.o⟩
def varsF:List Int->Fo
 | []=>.nil
 | x :: r=>.node (0,x,[]) .nil (varsF r)
theorem varsF_cells:∀ l:List Int,(varsF l).cells=l.map fun x=>((0,x,[]):Cel)
 | []=>rfl
 | x :: r=>by simp[varsF,Fo.cells,varsF_cells r]
theorem varsF_count:∀ l:List Int,(varsF l).count=l.length
 | []=>rfl
 | x :: r=>by simp[varsF,Fo.count,varsF_count r]
theorem varsF_in {W:World}{B:Nat} : ∀ l:List Int,FoIn W B (varsF l) (l.map fun x=>Value.iface 65 (.int .i64 x))
 | []=>rfl
 | x :: r=>⟨_,_,rfl,.inl ⟨rfl,rfl⟩,varsF_in r⟩
theorem varsF_ok:∀ l:List Int,(∀ x ∈ l,0<=x/\x<=1000000)->(varsF l).ok
 | [],_=>trivial
 | x :: r,h=>⟨by have:=h x (by simp);simp[cellB];omega,fun y a=>by simp at a,fun e=>by simp at e,fun _=>rfl,trivial,varsF_ok r (fun y a=>h y (by simp[a]))⟩
def newIs (fr:Int)(n:Nat):List Int:=(List.range n).map fun (j:Nat)=>fr+(j:Int)
theorem newVs_is (a:Int)(n:Nat):newVs a n=(newIs a n).map fun x=>Value.iface 65 (.int .i64 x):=by simp[newVs,newIs]
def fvT (s:List Int)(fr:Int)(n:Nat):Tr:=((3,(n:Int),s),varsF (newIs fr n))
theorem newIs_len (a:Int)(n:Nat):(newIs a n).length=n:=by simp[newIs]
theorem fvT_small {s:List Int}{a:Int}{n:Nat}(k:s.length<=100)(b:Byte s)(h:1<=n)(i:n<=20)(c:0<=a)(d:a<=900000):smallT (fvT s a n):=by
 refine smallT.of ⟨by simp[fvT,cellB];omega,b,fun _=>by rw[fvT,varsF_count,newIs_len],fun e=>absurd rfl e,varsF_ok _ (fun x g=>?_),trivial⟩ (by rw[fvT,varsF_cells,List.length_map,newIs_len];omega);obtain⟨j,f,rfl⟩:=List.mem_map.1 g;have:=List.mem_range.1 f
 omega
theorem madeFun_any (n:Nat)(s:List Int)(v0:Value)(g b on p:Nat)(op:Option Addr)(a:Int)(w:World)(X:1<=n)(Y:n<=20)(E:0<=a)(F:a<=900000)(P:Thr w g v0 (.iface 55 (.string (strOfNums s))) (.iface 146 (.int .i64 n))) :
  Calls Tryz.prog 121 #[calV3 op on p g b a] w fun e w'=>∃ t x,e = .returned (.tuple #[.iface t x,.nilIface])/\FoIn w' w.heap.size (fvT s a n).fo [.iface t x]/\Below w.heap.size w w':=by
 obtain⟨l,B⟩:∃ l,l=w.alloc (Obj.cells #[.slice op on p,.slice (some ⟨g,0,none⟩) 3 b,.int .i64 a] 67):=⟨_,rfl⟩
 have j:Below w.heap.size w l:=by rw[B];exact(Below.refl _ _).alloc (Nat.le_refl _) _
 obtain⟨str,O⟩:∃ str,str=strOfNums s:=⟨_,rfl⟩
 have L:=hid O;rw[<-O] at P
 have m:l.heap[w.heap.size]?=some (Obj.cells #[.slice op on p,.slice (some ⟨g,0,none⟩) 3 b,.int .i64 a] 67):=by rw[B];exact heap_alloc_new _ _
 have f:=P.below j;have Q:=arityTo_any (n:Int) str v0 g b on p op a l (by omega) (by omega) f
 have HK:Hid (∀ W,Below l.heap.size l W->W.heap[w.heap.size]?=some (Obj.cells #[.slice op on p,.slice (some ⟨g,0,none⟩) 3 b,.int .i64 a] 67)/\W.cell? ⟨g,1,none⟩=some (.iface 55 (.string str))):=fun W Z=>⟨(Z.block _ (Array.getElem?_eq_some_iff.1 m).1).trans m,(f.below Z).at1⟩
 have R:=hid j
 have M:Hid (1<=n/\n<=20/\0<=a/\a<=900000):=⟨X,Y,E,F⟩
 have b1:((n:Int) == 0)=false:=by simp;omega
 have T:=cell_of_row _ _ 0 _ _ _ m;have U:=cell_of_row _ _ 1 _ _ _ m;have V:=cell_of_row _ _ 2 _ _ _ m;rw[B] at T U V;clear j P m f O X Y E F
 go_enter Tryz.func121,Tryz.ntmps121
 go_wp2_with fail;rw[<-B];refine Q.mono ?_;rintro e K ⟨rfl,k⟩;obtain⟨J,q1⟩:=HK.o K k;have u:=hid k;have d0:=cell_of_row _ _ 0 _ _ _ J;have d1:=cell_of_row _ _ 1 _ _ _ J;have d2:=cell_of_row _ _ 2 _ _ _ J;have S:=textAtom_any str K;have y:=nameAtom_any str ⟨#[99,97,108,108,97,98,108,101]⟩ K;have z:=newVars_any n g b on p op a K M.o.2.1 M.o.2.2.1 (by have:=M.o.2.2.2;omega);clear T U V B k J Q;go_wp2_with fail;refine S.mono ?_;rintro e w3 ⟨rfl,rfl⟩;clear S;go_wp2_with fail;refine y.mono ?_;rintro e w4 ⟨rfl,rfl⟩;clear y;go_wp2_with fail;refine z.mono ?_;rintro e d ⟨q,rfl,G,H,I,D⟩;have v:=hid (Below.on R.o (Below.on u.o D));have N:=hid G
 have A:Hid (q<d.heap.size/\∀ i,i<n->d.cell? ⟨q,i,none⟩=some ((newVs a n).getD i .nilIface)):=⟨H,I⟩
 have r:Hid (FoIn (d.alloc (Obj.cells #[.string str,.slice (some ⟨q,0,none⟩) n n] 105)) w.heap.size (fvT s a n).fo [.iface 101 (.pointer (some ⟨d.heap.size,0,none⟩))]/\Below w.heap.size w (d.alloc (Obj.cells #[.string str,.slice (some ⟨q,0,none⟩) n n] 105))):=by
  have C:Below d.heap.size d (d.alloc (Obj.cells #[.string str,.slice (some ⟨q,0,none⟩) n n] 105)):=(Below.refl _ _).alloc (Nat.le_refl _) _;have c:=heap_alloc_new d (Obj.cells #[.string str,.slice (some ⟨q,0,none⟩) n n] 105);refine⟨⟨_,[],rfl,.inr (.inr (.inr ⟨rfl,d.heap.size,q,newVs a n,rfl,v.o.size,by have:=R.o.size;have:=u.o.size;have:=N.o;omega,?_,?_,?_,fun i hi=>?_,?_⟩)),rfl⟩,Below.on v.o C⟩
  ·rw[L.o] at c ⊢;exact cell_of_row _ _ 0 _ _ _ c
  ·rw[newVs_len];exact cell_of_row _ _ 1 _ _ _ c
  ·simp;have:=A.o.1;omega
  ·rw[newVs_len] at hi
   have h:=A.o.2 i hi;exact(C.cell (World.block_lt_of_cell? _ _ h)).trans h
  ·rw[newVs_is];exact varsF_in _
 clear G H I D z d0 d1 d2 q1;go_wp2_with fail
 go_ret2
 exact⟨_,_,rfl,r.o.1,r.o.2⟩
theorem functorV_any (n:Nat)(s:List Int)(q:Int)(g c on G:Nat)(op:Option Addr)(h:Int)(w:World)(X:1<=n)(Y:n<=20)(B:0<=h)(C:h<=900000)(L:Thr w g (.iface 65 (.int .i64 q)) (.iface 55 (.string (strOfNums s))) (.iface 146 (.int .i64 n))) :
  Calls Tryz.prog 72 #[calV3 op on G g c h] w fun e w'=>∃ t x,PairE w (.iface 65 (.int .i64 q)) (.iface t x) e w'/\FoIn w' 0 (fvT s h n).fo [.iface t x]:=by
 obtain⟨l,y⟩:∃ l,l=w.alloc (Obj.cells #[.slice op on G,.slice (some ⟨g,0,none⟩) 3 c,.int .i64 h] 67):=⟨_,rfl⟩
 obtain⟨d,f⟩:∃ d,d=l.alloc (Obj.cells #[Value.slice none 0 0,Value.nilIface,Value.slice none 0 0] 70):=⟨_,rfl⟩
 have z:Below w.heap.size w l:=by rw[y];exact(Below.refl _ _).alloc (Nat.le_refl _) _
 have j:Below l.heap.size l d:=by rw[f];exact(Below.refl _ _).alloc (Nat.le_refl _) _
 have i:Below w.heap.size w d:=Below.on z j
 have F:l.heap.size=w.heap.size+1:=by rw[y];simp
 have m:d.heap[w.heap.size]?=some (Obj.cells #[.slice op on G,.slice (some ⟨g,0,none⟩) 3 c,.int .i64 h] 67):=by rw[j.block _ (by omega),y];exact heap_alloc_new _ _
 have HR:Hid (∀ W,Below d.heap.size d W->W.heap[w.heap.size+1]?=some (Obj.cells #[Value.slice none 0 0,Value.nilIface,Value.slice none 0 0] 70)):=fun W hW=>by
  rw[hW.block _ (by rw[f];simp;omega),f,<-F,heap_alloc_new]
 have HB:=hid i
 have HS:Hid (d.heap.size=w.heap.size+2):=by show _=_;rw[f];simp;omega
 have O:=madeFun_any n s (.iface 65 (.int .i64 q)) g c on G op h d X Y B C (L.below i);have Z:=(L.below i).at0;have R:=cell_of_row _ _ 0 _ _ _ m;have S:=cell_of_row _ _ 1 _ _ _ m;have T:=cell_of_row _ _ 2 _ _ _ m;rw[y] at f;rw[f] at Z R S T;have n1:=isVar;clear y z j i F m L X Y B C
 go_enter Tryz.func72,Tryz.ntmps72
 go_wp2_with fail;rw[<-f];refine O.mono ?_;rintro e H ⟨M,N,rfl,D,A⟩;have r:=hid A;have K:=hid D;have P:=unifying_ok 65 M (.int .i64 q) N H;clear Z R S T f A D O;go_wp2_with fail;refine P.mono ?_;rintro e p ⟨a,rfl,E,U,V,k⟩;have u:=hid (Below.on r.o k);have Q:=Box3.of_block (HR.o p u.o);have HP:Hid _:=wr3_box Q (.slice (some ⟨a,0,none⟩) 1 1) .nilIface (.slice none 0 0)
 have J:Hid (H.heap.size<=a/\p.cell? ⟨a,0,none⟩=some (.iface 65 (.int .i64 q))/\p.cell? ⟨a,1,none⟩=some (.iface M N)/\Below H.heap.size H p):=⟨E,U,V,k⟩
 have I:Hid (∃ t x,PairE w (.iface 65 (.int .i64 q)) (.iface t x) (.returned (.tuple #[.agg #[.slice (some ⟨a,0,none⟩) 1 1,.nilIface,.slice none 0 0],.nilIface])) (wr3 p (w.heap.size+1) (.slice (some ⟨a,0,none⟩) 1 1) .nilIface (.slice none 0 0))/\FoIn (wr3 p (w.heap.size+1) (.slice (some ⟨a,0,none⟩) 1 1) .nilIface (.slice none 0 0)) 0 (fvT s h n).fo [.iface t x]):=by
  have h4:=r.o.size;have h2:=HS.o;obtain⟨hg,k0,m,i⟩:=J.o;refine⟨M,N,⟨a,rfl,by omega,(wr3_ne (by show a≠_;omega)).trans k0,(wr3_ne (by show a≠_;omega)).trans m,wr3_below (Below.on HB.o u.o) (Nat.le_succ _)⟩,?_⟩;exact(FoIn.imp (Nat.le_refl _) (fun b o i hl=>wr3_ne (show b≠w.heap.size+1 by omega)) (by simp[wr3]) _ _ (FoIn.below K.o i)).mono (Nat.zero_le _)
 obtain⟨b0,b1,b2,b3⟩:=Q;clear E U V k P
 go_wp2
 obtain⟨d0,d1,d2,_⟩:=HP.o;exact bodyPost_ret (v:=.tuple #[.agg #[.slice (some ⟨a,0,none⟩) 1 1,.nilIface,.slice none 0 0],.nilIface]) (by simp[results,Tryz.results72,go_sem,d0,d1,d2]) rfl I.o
abbrev cItV (x:Int):Value:=.iface 146 (.int .i64 x)
abbrev hItV (x:Int):Value:=.iface 55 (.string (strOfNums [x]))
def cItT (x:Int):Cel×Fo:=((1,x,[]),.nil)
def hItT (x:Int):Cel×Fo:=((2,0,[x]),.nil)
abbrev cSp:Value:=.agg #[.func (.func 190) #[] #[],.func (.func 136) #[] #[]]
abbrev hSp:Value:=.agg #[.func (.func 137) #[] #[],.func (.func 135) #[] #[]]
theorem cLeaf {W:World}{B:Nat} : ∀ s:List Int,FoIn W B (itsF (s.map cItT)) (s.map cItV)
 | []=>rfl
 | x :: r=>⟨_,_,rfl,.inr (.inl ⟨rfl,rfl⟩),cLeaf r⟩
theorem hLeaf {W:World}{B:Nat} : ∀ s:List Int,FoIn W B (itsF (s.map hItT)) (s.map hItV)
 | []=>rfl
 | x :: r=>⟨_,_,rfl,.inr (.inr (.inl ⟨rfl,rfl⟩)),hLeaf r⟩
theorem cLeafV {W:World}{B:Nat} : ∀ (s:List Int) (a:List Value),FoIn W B (itsF (s.map cItT)) a->a=s.map cItV
 | [],a,h=>h
 | x :: r,a,⟨v,vr,e,hn,hr⟩=>by
   rcases hn with ⟨h,_⟩ | ⟨_,h⟩ | ⟨h,_⟩ | ⟨h,_⟩
   ·cases h
   ·rw[e,h,cLeafV r vr hr];rfl
   ·cases h
   ·cases h
theorem hLeafV {W:World}{B:Nat} : ∀ (s:List Int) (a:List Value),FoIn W B (itsF (s.map hItT)) a->a=s.map hItV
 | [],a,h=>h
 | x :: r,a,⟨v,vr,e,hn,hr⟩=>by
   rcases hn with ⟨h,_⟩ | ⟨h,_⟩ | ⟨_,h⟩ | ⟨h,_⟩
   ·cases h
   ·cases h
   ·rw[e,h,hLeafV r vr hr];rfl
   ·cases h
theorem cItem_any (x:Int)(b:0<=x)(c:x<256)(w:World):Calls Tryz.prog 190 #[.int .u8 x] w fun e a=>e = .returned (cItV x)/\Below w.heap.size w a:=by
 have d:IntKind.i64.wrap x=x:=by rw[IntKind.wrap_i64];omega
 go_enter Tryz.func190,Tryz.ntmps190
 go_wp2_with fail;go_ret;exact⟨rfl,Below.refl _ _⟩
theorem hItem_any (x:Int)(l:0<=x)(m:x<256)(w:World):Calls Tryz.prog 137 #[.int .u8 x] w fun e h=>e = .returned (hItV x)/\Below w.heap.size w h:=by
 obtain⟨g,f⟩:∃ g,g=w.alloc (.cells #[.int .u8 x] 5):=⟨_,rfl⟩
 have b:Below w.heap.size w g:=by rw[f];exact(Below.refl _ _).alloc (Nat.le_refl _) _
 have d:BIn g (some ⟨w.heap.size,0,none⟩) [x]:=fun _=>⟨w.heap.size,0,rfl,fun i k=>by
  obtain rfl:i=0:=by simpa using k
  rw[f];exact cell_of_row _ _ 0 _ _ _ (heap_alloc_new _ _)⟩
 have c:=conv_str d 1 1 rfl 55 Tryz.underlying55;have j:=hid b
 obtain⟨st,a⟩:∃ st,st=strOfNums [x]:=⟨_,rfl⟩
 rw[<-a] at c
 show Calls _ _ _ _ fun e h=>e = .returned (.iface 55 (.string (strOfNums [x])))/\_
 rw[<-a];rw[f] at c;clear d b a
 go_enter Tryz.func137,Tryz.ntmps137
 go_wp2_with fail;rw[<-f];go_ret;exact⟨rfl,j.o⟩
theorem cByte_any (x:Int)(g:0<=x)(h:x<256)(w:World):Calls Tryz.prog 136 #[cItV x] w fun e a=>e = .returned (.tuple #[.int .u8 x,.nilIface])/\a=w:=by
 have j:=nbA_num_var;have k:=nbA_num_num
 have b:(x<0)=False:=by simp;omega
 have c:((255:Int)<x)=False:=by simp;omega
 have d:(0<=x)=True:=by simp;omega
 have f:(x<=255)=True:=by simp;omega
 have i:IntKind.u8.wrap x=x:=by simp[IntKind.wrap,IntKind.bits,IntKind.signed];omega
 go_enter Tryz.func136,Tryz.ntmps136
 go_wp2_with fail
 go_ret2
 exact⟨rfl,rfl⟩
theorem hByte_any (x:Int)(c:0<=x)(d:x<256)(w:World):Calls Tryz.prog 135 #[hItV x] w fun e i=>e = .returned (.tuple #[.int .u8 x,.nilIface])/\i=w:=by
 have j:=nbA_atom_var;have k:=nbA_atom_atom
 obtain⟨st,a⟩:∃ st,st=strOfNums [x]:=⟨_,rfl⟩
 have f:st.size=1:=by rw[a,strOfNums_size];rfl
 have g:((UInt8.ofNat x.toNat).toNat:Int)=x:=u8_of c d
 have b:Hid (∀ h:0<st.size,((st[0]'h).toNat:Int)=x):=by rw[a];exact fun h=>g
 show Calls _ _ #[.iface 55 (.string (strOfNums [x]))] _ _
 rw[<-a];clear a
 go_enter Tryz.func135,Tryz.ntmps135
 go_wp2_with fail
 go_ret2
 refine⟨?_,rfl⟩
 simp[b.o]
theorem cList_any (s:List Int)(w:World)(D:Byte s)(hl:s.length<=1000) :
  Calls Tryz.prog 139 #[cSp,.string (strOfNums s)] w fun e w'=>∃ t x,e = .returned (.iface t x)/\FoIn w' w.heap.size (listT (s.map cItT)) [.iface t x]/\Below w.heap.size w w':=by
 obtain⟨H,L⟩:∃ H,H=w.alloc (Obj.cells #[.func (.func 190) #[] #[],.func (.func 136) #[] #[]] 178):=⟨_,rfl⟩
 have N:Below w.heap.size w H:=by rw[L];exact(Below.refl _ _).alloc (Nat.le_refl _) _
 have R:H.heap.size=w.heap.size+1:=by rw[L];simp
 have k1:H.heap[w.heap.size]?=some (Obj.cells #[.func (.func 190) #[] #[],.func (.func 136) #[] #[]] 178):=by rw[L];exact heap_alloc_new _ _
 obtain⟨y,h8,h,z,V⟩:=conv_bytes H s D 9 Tryz.underlying9
 obtain⟨m,em⟩:∃ m,m=s.length:=⟨_,rfl⟩
 obtain⟨str,es⟩:∃ str,str=strOfNums s:=⟨_,rfl⟩
 rw[<-em] at h V hl;rw[<-es] at h ⊢;rw[R] at h V
 have h6:Hid (w.heap.size+1<=y.heap.size):=by have:=z.size;show _<=_;omega
 have Y:=hid (Below.on N z)
 have HK:Hid (∀ W,Below y.heap.size y W->W.cell? ⟨w.heap.size,0,none⟩=some (.func (.func 190) #[] #[])/\∀ j,j<m->W.cell? ⟨w.heap.size+1,j,none⟩=some (.int .u8 (s.getD j 0))):=fun W hW=>by
  have X:=cell_of_row _ _ 0 _ _ _ ((z.block _ (by omega)).trans k1);refine⟨(hW.cell (World.block_lt_of_cell? _ _ X)).trans X,fun j hj=>?_⟩;obtain⟨b,o,e,hc⟩:=V.bin (by omega);have E:=hc j (by omega);simp only[Option.some.injEq,Addr.mk.injEq] at e;obtain⟨rfl,rfl,_⟩:=e;rw[Nat.zero_add] at E;exact(hW.cell (World.block_lt_of_cell? _ _ E)).trans E
 have h2:=hid D;have G:=hid em;obtain⟨i0,F,n,q,r⟩:=info_parts infoTerm;have h3:Hid _:=And.intro F (And.intro n (And.intro q r));rw[L] at h;clear N R k1 z V D es L em F n q r
 go_enter Tryz.func139,Tryz.ntmps139
 go_wp2_with fail;clear h
 go_loopw [5,11] (fun v i wr=>∃ (j:Nat) (p:Option Addr) (c:Nat),j<=m/\i = .int .i64 j/\v = .slice p j c/\Hid (wr.ownsRow y.heap.size 48 1 (.slice p j c) j ((s.take j).map cItV))/\Hid (Below y.heap.size y wr)) (fun _ i _=>m-(intOf i).toNat)
 case atStart=>exact⟨0,none,0,Nat.zero_le _,rfl,rfl,World.ownsRow_nil _ _ _ _,Below.refl _ _⟩
 case round=>
  obtain⟨j,p,c,hj,rfl,rfl,T,f⟩:=hrel
  by_cases g:j<m
  ·obtain⟨X,q1⟩:=HK.o wr f.o
   have q2:=q1 j g
   obtain⟨x,U⟩:∃ x,x=s.getD j 0:=⟨_,rfl⟩
   rw[<-U] at q2
   have S:0<=x/\x<256:=by rw[U];exact h2.o _ (by rw[G.o] at g;simp[List.getD,g])
   have HX:Hid (s.take (j+1)=s.take j ++ [x]):=by
    show _=_
    rw[G.o] at g;rw[List.take_succ_eq_append_getElem g,U,List.getD,List.getElem?_eq_getElem g];rfl
   have HI:=cItem_any x S.1 S.2 wr;have e2:=S.1;have e3:=S.2;have h4:=hid T;have Z:=hid f;clear q1 U S T f;go_wp2_with fail;refine HI.mono ?_;rintro e w3 ⟨rfl,C⟩;have K:=hid (row_below h4.o C);have J:=hid (Below.on Z.o C);have h7:y.heap.size<=w3.heap.size:=J.o.size;obtain⟨F,n,q,r⟩:=h3.o;clear HI C X q2;go_wp2_with (at_builtin;refine wpList_append_lies _ rfl _ _ 52 rfl y.heap.size 48 i0 .nilIface 1 16 Tryz.underlying52 F n q r rfl (by decide) (.slice p j c) j ((s.take j).map cItV) rfl (K.o.alloc _) ⟨w3.heap.size,0,none⟩ 1 1 [cItV x] rfl rfl (cell_one_new _ _ _) (fun u hu=>by rw[List.mem_singleton.1 hu];rfl) (by decide) (by unfold maxLen;omega) (by omega) (by simp;omega) _ rfl ?_;intro g5 B w5 l a M Q)
   have h5:Hid (w5.ownsRow y.heap.size 48 1 (.slice (some ⟨g5,0,none⟩) (j+1) B) (j+1) ((s.take (j+1)).map cItV)):=by rw[HX.o,List.map_append];exact l
   have h1:Hid (Below y.heap.size y w5):=((J.o).alloc h7 _).trans ((Below.refl _ _).grown a (by simp;omega) (fun k hk=>(K.o.lt k hk).1));clear l a M Q F n q r;go_wp2_with fail;go_roundw
   case rel=>exact⟨j+1,some ⟨g5,0,none⟩,B,by omega,by go_num,rfl,h5,h1⟩
   case measure=>simp[intOf];omega
  ·obtain rfl:j=m:=by omega
   have d:=T.o;rw[List.take_of_length_le (by rw[G.o];exact Nat.le_refl _)] at d
   have HL:=listOfN_any (s.map cItT) (s.map cItV) p j c wr.heap.size wr (by rw[G.o];simp) (by omega) (by rw[G.o];simp) (by have:=f.o.size;have:=h6.o;omega) (Nat.le_refl _) (fun h0=>by
    obtain⟨g3,h9,hv,_,_⟩:=d.form h0;simp only[Value.slice.injEq,true_and] at hv;obtain⟨rfl,rfl⟩:=hv;refine⟨g3,rfl,fun i F=>?_⟩;rw[d.cellAt i (by omega),List.getD]
    rw[List.getElem?_eq_getElem (by simp;rw[<-G.o];exact F)];rfl) (cLeaf s)
   have A:=hid (Below.on Y.o f.o);clear T f d;go_wp2_with fail;refine HL.mono ?_;rintro e w6 ⟨t6,x6,rfl,P,O⟩
   have I:Hid (FoIn w6 w.heap.size (listT (s.map cItT)) [.iface t6 x6]/\Below w.heap.size w w6):=⟨P.mono A.o.size,Below.on A.o O⟩
   clear P O HL;go_wp2_with fail;go_ret;exact⟨_,_,rfl,I.o.1,I.o.2⟩
theorem cText_any (s:List Int)(p:Option Addr)(n c:Nat)(w:World)(A:Byte s)(hl:s.length<=1000)(O:n=s.length)(U:0<n->∃ b,p=some ⟨b,0,none⟩/\∀ i,i<n->w.cell? ⟨b,i,none⟩=some (cItV (s.getD i 0))) :
  Calls Tryz.prog 141 #[cSp,.slice p n c] w fun e X=>∃ q m S,e = .returned (.tuple #[.slice q m S,.nilIface])/\OwnS X w.heap.size q m S s/\Below w.heap.size w X:=by
 obtain⟨g,E⟩:∃ g,g=w.alloc (Obj.cells #[.func (.func 190) #[] #[],.func (.func 136) #[] #[]] 178):=⟨_,rfl⟩
 have y:Below w.heap.size w g:=by rw[E];exact(Below.refl _ _).alloc (Nat.le_refl _) _
 have Q:g.heap[w.heap.size]?=some (Obj.cells #[.func (.func 190) #[] #[],.func (.func 136) #[] #[]] 178):=by rw[E];exact heap_alloc_new _ _
 have u:=hid y;have N:Hid (w.heap.size<g.heap.size):=(Array.getElem?_eq_some_iff.1 Q).1
 have HK:Hid (∀ W,Below g.heap.size g W->W.cell? ⟨w.heap.size,1,none⟩=some (.func (.func 136) #[] #[])):=fun W hW=>by
  have G:=cell_of_row _ _ 1 _ _ _ Q;exact(hW.cell (World.block_lt_of_cell? _ _ G)).trans G
 have HC:=hid U;have J:=hid A;have K:=hid O;rw[<-O] at hl;clear y Q A U O
 go_enter Tryz.func141,Tryz.ntmps141
 go_wp2_with fail;rw[<-E];clear E
 go_loopw [6,13] (fun v i wr=>∃ (j:Nat) (q:Option Addr) (d:Nat),j<=n/\i = .int .i64 j/\v = .slice q j d/\Hid (OwnS wr g.heap.size q j d (s.take j))/\Hid (Below g.heap.size g wr)) (fun _ i _=>n-(intOf i).toNat)
 case atStart=>exact⟨0,none,0,Nat.zero_le _,rfl,rfl,OwnS.nil _ _,Below.refl _ _⟩
 case round=>
  obtain⟨j,q,d,hj,rfl,rfl,D,a⟩:=hrel
  by_cases f:j<n
  ·have G:=HK.o wr a.o
   obtain⟨b,rfl,r⟩:=HC.o (by omega);have V:wr.cell? ⟨b,j,none⟩=some (cItV (s.getD j 0)):=((Below.on u.o a.o).cell (World.block_lt_of_cell? _ _ (r j f))).trans (r j f)
   obtain⟨x,F⟩:∃ x,x=s.getD j 0:=⟨_,rfl⟩
   rw[<-F] at V
   have C:0<=x/\x<256:=by rw[F];exact J.o _ (by rw[K.o] at f;simp[List.getD,f])
   have HX:Hid (s.take (j+1)=s.take j ++ [x]):=by
    show _=_
    rw[K.o] at f;rw[List.take_succ_eq_append_getElem f,F,List.getD,List.getElem?_eq_getElem f];rfl
   have R:=cByte_any x C.1 C.2 wr;have h1:=C.1;have h2:=C.2;have P:g.heap.size<=wr.heap.size:=a.o.size;have L:=hid D;have H:=hid a;clear F C D a r;go_wp2_with fail;refine R.mono ?_;rintro e Y ⟨rfl,rfl⟩;clear R G V;go_wp2_with (at_builtin;refine app_bytes _ rfl _ _ rfl g.heap.size q j d (s.take j) [x] 1 rfl rfl (L.o.alloc _) ⟨Y.heap.size,0,none⟩ 1 rfl (news1 Y x) (by decide) (by omega) (by simp;omega) ?_;intro T n5 l Z k z B);obtain rfl:n5=j+1:=B.o
   have M:Hid (OwnS Z g.heap.size (some ⟨T,0,none⟩) (j+1) l (s.take (j+1))):=by rw[HX.o];exact k
   have I:Hid (Below g.heap.size g Z):=((H.o).alloc P _).trans z;clear k z B;go_wp2_with fail;go_roundw
   case rel=>exact⟨j+1,some ⟨T,0,none⟩,l,by omega,by go_num,rfl,M,I⟩
   case measure=>simp[intOf];omega
  ·obtain rfl:j=n:=by omega
   have h:=D.o;rw[List.take_of_length_le (by rw[K.o];exact Nat.le_refl _)] at h
   have t:Hid (OwnS wr w.heap.size q j d s/\Below w.heap.size w wr):=⟨⟨h.1,h.2.mono (by have:=N.o;omega)⟩,Below.on u.o a.o⟩
   clear D a h;go_wp2_with fail
   go_ret2
   exact⟨_,_,_,rfl,t.o.1,t.o.2⟩
theorem cIn_any (w:World):Calls Tryz.prog 132 #[] w fun e i=>e = .returned cSp/\Below w.heap.size w i:=by
 obtain⟨b,c⟩:∃ b,b=w.alloc (Obj.cells #[.func (.func 190) #[] #[],.func (.func 136) #[] #[]] 178):=⟨_,rfl⟩
 have a:Below w.heap.size w b:=by rw[c];exact(Below.refl _ _).alloc (Nat.le_refl _) _
 have d:b.heap[w.heap.size]?=some (Obj.cells #[.func (.func 190) #[] #[],.func (.func 136) #[] #[]] 178):=by rw[c];exact heap_alloc_new _ _
 have g:=cell_of_row _ _ 0 _ _ _ d;have h:=cell_of_row _ _ 1 _ _ _ d;have f:=hid a;clear a d
 go_enter Tryz.func132,Tryz.ntmps132
 go_wp2_with fail;rw[<-c];exact bodyPost_ret (v:=cSp) (by simp[results,Tryz.results132,go_sem,g,h]) rfl ⟨rfl,f.o⟩
theorem hList_any (s:List Int)(w:World)(D:Byte s)(hl:s.length<=1000) :
  Calls Tryz.prog 139 #[hSp,.string (strOfNums s)] w fun e w'=>∃ t x,e = .returned (.iface t x)/\FoIn w' w.heap.size (listT (s.map hItT)) [.iface t x]/\Below w.heap.size w w':=by
 obtain⟨H,L⟩:∃ H,H=w.alloc (Obj.cells #[.func (.func 137) #[] #[],.func (.func 135) #[] #[]] 178):=⟨_,rfl⟩
 have N:Below w.heap.size w H:=by rw[L];exact(Below.refl _ _).alloc (Nat.le_refl _) _
 have R:H.heap.size=w.heap.size+1:=by rw[L];simp
 have k1:H.heap[w.heap.size]?=some (Obj.cells #[.func (.func 137) #[] #[],.func (.func 135) #[] #[]] 178):=by rw[L];exact heap_alloc_new _ _
 obtain⟨y,h8,h,z,V⟩:=conv_bytes H s D 9 Tryz.underlying9
 obtain⟨m,em⟩:∃ m,m=s.length:=⟨_,rfl⟩
 obtain⟨str,es⟩:∃ str,str=strOfNums s:=⟨_,rfl⟩
 rw[<-em] at h V hl;rw[<-es] at h ⊢;rw[R] at h V
 have h6:Hid (w.heap.size+1<=y.heap.size):=by have:=z.size;show _<=_;omega
 have Y:=hid (Below.on N z)
 have HK:Hid (∀ W,Below y.heap.size y W->W.cell? ⟨w.heap.size,0,none⟩=some (.func (.func 137) #[] #[])/\∀ j,j<m->W.cell? ⟨w.heap.size+1,j,none⟩=some (.int .u8 (s.getD j 0))):=fun W hW=>by
  have X:=cell_of_row _ _ 0 _ _ _ ((z.block _ (by omega)).trans k1);refine⟨(hW.cell (World.block_lt_of_cell? _ _ X)).trans X,fun j hj=>?_⟩;obtain⟨b,o,e,hc⟩:=V.bin (by omega);have E:=hc j (by omega);simp only[Option.some.injEq,Addr.mk.injEq] at e;obtain⟨rfl,rfl,_⟩:=e;rw[Nat.zero_add] at E;exact(hW.cell (World.block_lt_of_cell? _ _ E)).trans E
 have h2:=hid D;have G:=hid em;obtain⟨i0,F,n,q,r⟩:=info_parts infoTerm;have h3:Hid _:=And.intro F (And.intro n (And.intro q r));rw[L] at h;clear N R k1 z V D es L em F n q r
 go_enter Tryz.func139,Tryz.ntmps139
 go_wp2_with fail;clear h
 go_loopw [5,11] (fun v i wr=>∃ (j:Nat) (p:Option Addr) (c:Nat),j<=m/\i = .int .i64 j/\v = .slice p j c/\Hid (wr.ownsRow y.heap.size 48 1 (.slice p j c) j ((s.take j).map hItV))/\Hid (Below y.heap.size y wr)) (fun _ i _=>m-(intOf i).toNat)
 case atStart=>exact⟨0,none,0,Nat.zero_le _,rfl,rfl,World.ownsRow_nil _ _ _ _,Below.refl _ _⟩
 case round=>
  obtain⟨j,p,c,hj,rfl,rfl,T,f⟩:=hrel
  by_cases g:j<m
  ·obtain⟨X,q1⟩:=HK.o wr f.o
   have q2:=q1 j g
   obtain⟨x,U⟩:∃ x,x=s.getD j 0:=⟨_,rfl⟩
   rw[<-U] at q2
   have S:0<=x/\x<256:=by rw[U];exact h2.o _ (by rw[G.o] at g;simp[List.getD,g])
   have HX:Hid (s.take (j+1)=s.take j ++ [x]):=by
    show _=_
    rw[G.o] at g;rw[List.take_succ_eq_append_getElem g,U,List.getD,List.getElem?_eq_getElem g];rfl
   have HI:=hItem_any x S.1 S.2 wr;have e2:=S.1;have e3:=S.2;have h4:=hid T;have Z:=hid f;clear q1 U S T f;go_wp2_with fail;refine HI.mono ?_;rintro e w3 ⟨rfl,C⟩;have K:=hid (row_below h4.o C);have J:=hid (Below.on Z.o C);have h7:y.heap.size<=w3.heap.size:=J.o.size;obtain⟨F,n,q,r⟩:=h3.o;clear HI C X q2;go_wp2_with (at_builtin;refine wpList_append_lies _ rfl _ _ 52 rfl y.heap.size 48 i0 .nilIface 1 16 Tryz.underlying52 F n q r rfl (by decide) (.slice p j c) j ((s.take j).map hItV) rfl (K.o.alloc _) ⟨w3.heap.size,0,none⟩ 1 1 [hItV x] rfl rfl (cell_one_new _ _ _) (fun u hu=>by rw[List.mem_singleton.1 hu];rfl) (by decide) (by unfold maxLen;omega) (by omega) (by simp;omega) _ rfl ?_;intro g5 B w5 l a M Q)
   have h5:Hid (w5.ownsRow y.heap.size 48 1 (.slice (some ⟨g5,0,none⟩) (j+1) B) (j+1) ((s.take (j+1)).map hItV)):=by rw[HX.o,List.map_append];exact l
   have h1:Hid (Below y.heap.size y w5):=((J.o).alloc h7 _).trans ((Below.refl _ _).grown a (by simp;omega) (fun k hk=>(K.o.lt k hk).1));clear l a M Q F n q r;go_wp2_with fail;go_roundw
   case rel=>exact⟨j+1,some ⟨g5,0,none⟩,B,by omega,by go_num,rfl,h5,h1⟩
   case measure=>simp[intOf];omega
  ·obtain rfl:j=m:=by omega
   have d:=T.o;rw[List.take_of_length_le (by rw[G.o];exact Nat.le_refl _)] at d
   have HL:=listOfN_any (s.map hItT) (s.map hItV) p j c wr.heap.size wr (by rw[G.o];simp) (by omega) (by rw[G.o];simp) (by have:=f.o.size;have:=h6.o;omega) (Nat.le_refl _) (fun h0=>by
    obtain⟨g3,h9,hv,_,_⟩:=d.form h0;simp only[Value.slice.injEq,true_and] at hv;obtain⟨rfl,rfl⟩:=hv;refine⟨g3,rfl,fun i F=>?_⟩;rw[d.cellAt i (by omega),List.getD]
    rw[List.getElem?_eq_getElem (by simp;rw[<-G.o];exact F)];rfl) (hLeaf s)
   have A:=hid (Below.on Y.o f.o);clear T f d;go_wp2_with fail;refine HL.mono ?_;rintro e w6 ⟨t6,x6,rfl,P,O⟩
   have I:Hid (FoIn w6 w.heap.size (listT (s.map hItT)) [.iface t6 x6]/\Below w.heap.size w w6):=⟨P.mono A.o.size,Below.on A.o O⟩
   clear P O HL;go_wp2_with fail;go_ret;exact⟨_,_,rfl,I.o.1,I.o.2⟩
theorem hText_any (s:List Int)(p:Option Addr)(n c:Nat)(w:World)(A:Byte s)(hl:s.length<=1000)(O:n=s.length)(U:0<n->∃ b,p=some ⟨b,0,none⟩/\∀ i,i<n->w.cell? ⟨b,i,none⟩=some (hItV (s.getD i 0))) :
  Calls Tryz.prog 141 #[hSp,.slice p n c] w fun e X=>∃ q m S,e = .returned (.tuple #[.slice q m S,.nilIface])/\OwnS X w.heap.size q m S s/\Below w.heap.size w X:=by
 obtain⟨g,E⟩:∃ g,g=w.alloc (Obj.cells #[.func (.func 137) #[] #[],.func (.func 135) #[] #[]] 178):=⟨_,rfl⟩
 have y:Below w.heap.size w g:=by rw[E];exact(Below.refl _ _).alloc (Nat.le_refl _) _
 have Q:g.heap[w.heap.size]?=some (Obj.cells #[.func (.func 137) #[] #[],.func (.func 135) #[] #[]] 178):=by rw[E];exact heap_alloc_new _ _
 have u:=hid y;have N:Hid (w.heap.size<g.heap.size):=(Array.getElem?_eq_some_iff.1 Q).1
 have HK:Hid (∀ W,Below g.heap.size g W->W.cell? ⟨w.heap.size,1,none⟩=some (.func (.func 135) #[] #[])):=fun W hW=>by
  have G:=cell_of_row _ _ 1 _ _ _ Q;exact(hW.cell (World.block_lt_of_cell? _ _ G)).trans G
 have HC:=hid U;have J:=hid A;have K:=hid O;rw[<-O] at hl;clear y Q A U O
 go_enter Tryz.func141,Tryz.ntmps141
 go_wp2_with fail;rw[<-E];clear E
 go_loopw [6,13] (fun v i wr=>∃ (j:Nat) (q:Option Addr) (d:Nat),j<=n/\i = .int .i64 j/\v = .slice q j d/\Hid (OwnS wr g.heap.size q j d (s.take j))/\Hid (Below g.heap.size g wr)) (fun _ i _=>n-(intOf i).toNat)
 case atStart=>exact⟨0,none,0,Nat.zero_le _,rfl,rfl,OwnS.nil _ _,Below.refl _ _⟩
 case round=>
  obtain⟨j,q,d,hj,rfl,rfl,D,a⟩:=hrel
  by_cases f:j<n
  ·have G:=HK.o wr a.o
   obtain⟨b,rfl,r⟩:=HC.o (by omega);have V:wr.cell? ⟨b,j,none⟩=some (hItV (s.getD j 0)):=((Below.on u.o a.o).cell (World.block_lt_of_cell? _ _ (r j f))).trans (r j f)
   obtain⟨x,F⟩:∃ x,x=s.getD j 0:=⟨_,rfl⟩
   rw[<-F] at V
   have C:0<=x/\x<256:=by rw[F];exact J.o _ (by rw[K.o] at f;simp[List.getD,f])
   have HX:Hid (s.take (j+1)=s.take j ++ [x]):=by
    show _=_
    rw[K.o] at f;rw[List.take_succ_eq_append_getElem f,F,List.getD,List.getElem?_eq_getElem f];rfl
   have R:=hByte_any x C.1 C.2 wr;have h1:=C.1;have h2:=C.2;have P:g.heap.size<=wr.heap.size:=a.o.size;have L:=hid D;have H:=hid a;clear F C D a r;go_wp2_with fail;refine R.mono ?_;rintro e Y ⟨rfl,rfl⟩;clear R G V;go_wp2_with (at_builtin;refine app_bytes _ rfl _ _ rfl g.heap.size q j d (s.take j) [x] 1 rfl rfl (L.o.alloc _) ⟨Y.heap.size,0,none⟩ 1 rfl (news1 Y x) (by decide) (by omega) (by simp;omega) ?_;intro T n5 l Z k z B);obtain rfl:n5=j+1:=B.o
   have M:Hid (OwnS Z g.heap.size (some ⟨T,0,none⟩) (j+1) l (s.take (j+1))):=by rw[HX.o];exact k
   have I:Hid (Below g.heap.size g Z):=((H.o).alloc P _).trans z;clear k z B;go_wp2_with fail;go_roundw
   case rel=>exact⟨j+1,some ⟨T,0,none⟩,l,by omega,by go_num,rfl,M,I⟩
   case measure=>simp[intOf];omega
  ·obtain rfl:j=n:=by omega
   have h:=D.o;rw[List.take_of_length_le (by rw[K.o];exact Nat.le_refl _)] at h
   have t:Hid (OwnS wr w.heap.size q j d s/\Below w.heap.size w wr):=⟨⟨h.1,h.2.mono (by have:=N.o;omega)⟩,Below.on u.o a.o⟩
   clear D a h;go_wp2_with fail
   go_ret2
   exact⟨_,_,_,rfl,t.o.1,t.o.2⟩
theorem hIn_any (w:World):Calls Tryz.prog 133 #[] w fun e i=>e = .returned hSp/\Below w.heap.size w i:=by
 obtain⟨b,c⟩:∃ b,b=w.alloc (Obj.cells #[.func (.func 137) #[] #[],.func (.func 135) #[] #[]] 178):=⟨_,rfl⟩
 have a:Below w.heap.size w b:=by rw[c];exact(Below.refl _ _).alloc (Nat.le_refl _) _
 have d:b.heap[w.heap.size]?=some (Obj.cells #[.func (.func 137) #[] #[],.func (.func 135) #[] #[]] 178):=by rw[c];exact heap_alloc_new _ _
 have g:=cell_of_row _ _ 0 _ _ _ d;have h:=cell_of_row _ _ 1 _ _ _ d;have f:=hid a;clear a d
 go_enter Tryz.func133,Tryz.ntmps133
 go_wp2_with fail;rw[<-c];exact bodyPost_ret (v:=hSp) (by simp[results,Tryz.results133,go_sem,g,h]) rfl ⟨rfl,f.o⟩
end Go.Proofs.YtnfnddnffoigfaaGreatDoor
