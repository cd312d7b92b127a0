/- Texts of FpO. Own work of the verifier. -/
import Derived.Test.YtnfnddnffoigfaaGreatDoorUqav
import Derived.Test.YtnfnddnffoigfaaGreatDoorUqau
namespace Go.Proofs.YtnfnddnffoigfaaGreatDoor
set_option maxHeartbeats 4000000
set_option maxRecDepth 100000
open Go Go.RowKit
set_option linter.unusedVariables false
set_option linter.unusedSimpArgs false
theorem cSpellF_any (s:List Int)(t0:TypeId)(x0:Value)(j:TypeId)(k:Value)(g a on oc:Nat)(op:Option Addr)(fr:Int)(w:World)(B:Byte s)(hl:s.length<=1000)(h2:Two w g (.iface t0 x0) (.iface j k))
  (HV:∀ W,Calls Tryz.prog 134 #[.iface t0 x0] W fun e K=>e = .returned (.bool false)/\K=W) (HT:∀ W,Below w.heap.size w W->Calls Tryz.prog 130 #[.iface t0 x0] W fun e K=>e = .returned (.tuple #[.string (strOfNums s),.nilIface])/\Below W.heap.size W K) :
  Calls Tryz.prog 131 #[calV op on oc g a fr,cSp] w (PtO w (.iface j k) (listT (s.map cItT))):=by
 obtain⟨n,P⟩:∃ n,n=w.alloc (Obj.cells #[.slice op on oc,.slice (some ⟨g,0,none⟩) 2 a,.int .i64 fr] 67):=⟨_,rfl⟩
 obtain⟨G,I⟩:∃ G,G=n.alloc (Obj.cells #[.func (.func 190) #[] #[],.func (.func 136) #[] #[]] 178):=⟨_,rfl⟩
 obtain⟨b,p⟩:∃ b,b=G.alloc (Obj.cells #[Value.slice none 0 0,Value.nilIface,Value.slice none 0 0] 70):=⟨_,rfl⟩
 have Q:Below w.heap.size w n:=by rw[P];exact(Below.refl _ _).alloc (Nat.le_refl _) _
 have S:Below n.heap.size n G:=by rw[I];exact(Below.refl _ _).alloc (Nat.le_refl _) _
 have z:Below G.heap.size G b:=by rw[p];exact(Below.refl _ _).alloc (Nat.le_refl _) _
 have i:Below n.heap.size n b:=Below.on S z;have hb:Below w.heap.size w b:=Below.on Q i
 have E:n.heap.size=w.heap.size+1:=by rw[P];simp
 have F:G.heap.size=w.heap.size+1+1:=by rw[I,<-E];simp
 have U:b.heap.size=w.heap.size+1+1+1:=by rw[p,<-F];simp
 have k1:b.heap[w.heap.size]?=some (Obj.cells #[.slice op on oc,.slice (some ⟨g,0,none⟩) 2 a,.int .i64 fr] 67):=by rw[i.block _ (by omega),P];exact heap_alloc_new _ _
 have kb:b.heap[w.heap.size+1]?=some (Obj.cells #[.func (.func 190) #[] #[],.func (.func 136) #[] #[]] 178):=by rw[z.block _ (by omega),I,<-E];exact heap_alloc_new _ _
 have k2:b.heap[w.heap.size+1+1]?=some (Obj.cells #[Value.slice none 0 0,Value.nilIface,Value.slice none 0 0] 70):=by rw[p,<-F];exact heap_alloc_new _ _
 have HR:Hid (∀ W,Below b.heap.size b W->W.heap[w.heap.size+1+1]?=some (Obj.cells #[Value.slice none 0 0,Value.nilIface,Value.slice none 0 0] 70)):=fun W J=>(J.block _ (by omega)).trans k2
 have tr:=h2.below hb
 have Z:Hid (∀ W,Below b.heap.size b W->W.cell? ⟨w.heap.size,1,none⟩=some (.slice (some ⟨g,0,none⟩) 2 a)/\W.cell? ⟨g,0,none⟩=some (.iface t0 x0)/\W.cell? ⟨g,1,none⟩=some (.iface j k)/\W.cell? ⟨w.heap.size+1,0,none⟩=some (.func (.func 190) #[] #[])/\W.cell? ⟨w.heap.size+1,1,none⟩=some (.func (.func 136) #[] #[])):=fun W J=>by
  have q1:=(J.block _ (by omega)).trans k1;have q2:=(J.block _ (by omega)).trans kb;exact⟨cell_of_row _ _ 1 _ _ _ q1,(tr.below J).at0,(tr.below J).at1,cell_of_row _ _ 0 _ _ _ q2,cell_of_row _ _ 1 _ _ _ q2⟩
 have HB:=hid hb;have HS:=hid U;have h5:Hid (g<w.heap.size):=World.block_lt_of_cell? _ _ h2.at0;obtain⟨H,c2,-,-,-⟩:=Z.o b (Below.refl _ _);have O:=HV b;have y:=HT b hb
 have h8:Hid (Byte s/\s.length<=1000):=⟨B,hl⟩
 have N:Hid (∀ W:World,Calls Tryz.prog 139 #[cSp,.string (strOfNums s)] W fun e K=>∃ t x,e = .returned (.iface t x)/\FoIn K W.heap.size (listT (s.map cItT)) [.iface t x]/\Below W.heap.size W K):=fun W=>cList_any s W B hl
 obtain⟨str,es⟩:∃ str,str=strOfNums s:=⟨_,rfl⟩
 rw[<-es] at y N;rw[P] at I;rw[I] at p;rw[p] at H c2;clear P I Q S z i hb E F U k1 kb k2 tr h2 B hl es HV HT
 go_enter Tryz.func131,Tryz.ntmps131
 go_wp2_with fail;rw[<-p];refine O.mono ?_;rintro e w3 ⟨rfl,V⟩;rw[V];clear V w3;rw[<-p] at H c2;clear p O;go_wp2_with fail;refine y.mono ?_;rintro e L ⟨rfl,m⟩;have h7:=hid m;have h3:=hid (below_drewN m 1);have h6:=N.o (L.drewN 1);obtain⟨s1,-,s2,s3,s4⟩:=Z.o L m
 have hS:L.cell? ⟨w.heap.size,1,none⟩=some (.slice (some ⟨g,0,none⟩) 2 a)/\L.cell? ⟨g,1,none⟩=some (.iface j k)/\L.cell? ⟨w.heap.size+1,0,none⟩=some (.func (.func 190) #[] #[])/\L.cell? ⟨w.heap.size+1,1,none⟩=some (.func (.func 136) #[] #[]):=⟨s1,s2,s3,s4⟩
 have q:True:=trivial;have r:True:=trivial;clear H c2 m y s1 s2 s3 s4;go_wp2_with fail
 go_region_held3 (fun W=>W.cell? ⟨w.heap.size,1,none⟩=some (.slice (some ⟨g,0,none⟩) 2 a)/\W.cell? ⟨g,1,none⟩=some (.iface j k)/\W.cell? ⟨w.heap.size+1,0,none⟩=some (.func (.func 190) #[] #[])/\W.cell? ⟨w.heap.size+1,1,none⟩=some (.func (.func 136) #[] #[])) (first | exact Y | exact c | exact X | exact hS | go_keep)
  (first
    | (have _t:=q;go_at_call 139;refine Calls.mono h6 ?_;rintro e M ⟨t6,x6,rfl,T,R⟩;have u:=hid (Below.on h3.o R);obtain⟨u1,-,u2,u3,u4⟩:=Z.o M u.o;have X:M.cell? ⟨w.heap.size,1,none⟩=some (.slice (some ⟨g,0,none⟩) 2 a)/\M.cell? ⟨g,1,none⟩=some (.iface j k)/\M.cell? ⟨w.heap.size+1,0,none⟩=some (.func (.func 190) #[] #[])/\M.cell? ⟨w.heap.size+1,1,none⟩=some (.func (.func 136) #[] #[]):=⟨u1,u2,u3,u4⟩;have h4:Hid _:=T;have HU:=unifying_ok j t6 k x6 M;clear T R q u1 u2 u3 u4)
    | (have _t:=r;go_at_call 112;refine Calls.mono HU ?_;rintro e d ⟨h,rfl,C,c0,H,A⟩;have f:=hid (Below.on u.o A);obtain⟨u1,-,u2,u3,u4⟩:=Z.o d f.o;have c:d.cell? ⟨w.heap.size,1,none⟩=some (.slice (some ⟨g,0,none⟩) 2 a)/\d.cell? ⟨g,1,none⟩=some (.iface j k)/\d.cell? ⟨w.heap.size+1,0,none⟩=some (.func (.func 190) #[] #[])/\d.cell? ⟨w.heap.size+1,1,none⟩=some (.func (.func 136) #[] #[]):=⟨u1,u2,u3,u4⟩;have Y:(wr3 d (w.heap.size+1+1) (.slice (some ⟨h,0,none⟩) 1 1) .nilIface (.slice none 0 0)).cell? ⟨w.heap.size,1,none⟩=some (.slice (some ⟨g,0,none⟩) 2 a)/\(wr3 d (w.heap.size+1+1) (.slice (some ⟨h,0,none⟩) 1 1) .nilIface (.slice none 0 0)).cell? ⟨g,1,none⟩=some (.iface j k)/\(wr3 d (w.heap.size+1+1) (.slice (some ⟨h,0,none⟩) 1 1) .nilIface (.slice none 0 0)).cell? ⟨w.heap.size+1,0,none⟩=some (.func (.func 190) #[] #[])/\(wr3 d (w.heap.size+1+1) (.slice (some ⟨h,0,none⟩) 1 1) .nilIface (.slice none 0 0)).cell? ⟨w.heap.size+1,1,none⟩=some (.func (.func 136) #[] #[]):=⟨(wr3_ne (by show w.heap.size≠_;omega)).trans c.1,(wr3_ne (by have:=h5.o;show g≠_;omega)).trans c.2.1,(wr3_ne (by show w.heap.size+1≠_;omega)).trans c.2.2.1,(wr3_ne (by show w.heap.size+1≠_;omega)).trans c.2.2.2⟩;have l:Hid _:=And.intro C (And.intro c0 (And.intro H A));obtain⟨b0,b1,b2,b3⟩:=Box3.of_block (HR.o d f.o);clear C c0 H A r u1 u2 u3 u4))
 rename_i D
 clear D;have HX:=Box3.of_block (HR.o d f.o);have HP:Hid _:=wr3_box HX (.slice (some ⟨h,0,none⟩) 1 1) .nilIface (.slice none 0 0)
 have h1:Hid (PtO w (.iface j k) (listT (s.map cItT)) (.returned (.tuple #[.agg #[.slice (some ⟨h,0,none⟩) 1 1,.nilIface,.slice none 0 0],.nilIface])) (wr3 d (w.heap.size+1+1) (.slice (some ⟨h,0,none⟩) 1 1) .nilIface (.slice none 0 0))):=by
  have e3:=u.o.size;have h9:=HS.o;have C:=l.o.1;refine⟨t6,x6,⟨h,rfl,by omega,(wr3_ne (by show h≠_;omega)).trans l.o.2.1,(wr3_ne (by show h≠_;omega)).trans l.o.2.2.1,wr3_below (Below.on HB.o f.o) (by omega)⟩,?_⟩;exact FoIn.wr3 (HR.o d f.o) _ _ _ (FoIn.below (FoIn.mono h4.o (Nat.zero_le _)) l.o.2.2.2)
 clear X c Y hS HX
 go_wp2
 obtain⟨d0,d1,d2,_⟩:=HP.o;exact bodyPost_ret (v:=.tuple #[.agg #[.slice (some ⟨h,0,none⟩) 1 1,.nilIface,.slice none 0 0],.nilIface]) (by simp[results,Tryz.results131,go_sem,d0,d1,d2]) rfl h1.o
theorem cSpellB_any (s:List Int)(q:Int)(c:Cel)(k:Fo)(ta:TypeId)(va:Value)(g f on oc:Nat)(op:Option Addr)(fr:Int)(w:World)(h6:Byte s)(hl:s.length<=1000)(h2:Two w g (.iface 65 (.int .i64 q)) (.iface ta va))
  (e3:(Fo.node c k .nil).ok) (h9:k.cells.length<=10000) (h8:FoIn w 0 (.node c k .nil) [.iface ta va]) (z:(splitF c k).2.1=nilC) (e6:(splitF c k).1=s.map cItT) :
  Calls Tryz.prog 131 #[calV op on oc g f fr,cSp] w (PtO w (.iface 65 (.int .i64 q)) (.node (2,0,s) .nil .nil)):=by
 obtain⟨u,Z⟩:∃ u,u=w.alloc (Obj.cells #[.slice op on oc,.slice (some ⟨g,0,none⟩) 2 f,.int .i64 fr] 67):=⟨_,rfl⟩
 obtain⟨O,Q⟩:∃ O,O=u.alloc (Obj.cells #[.func (.func 190) #[] #[],.func (.func 136) #[] #[]] 178):=⟨_,rfl⟩
 obtain⟨d,y⟩:∃ d,d=O.alloc (Obj.cells #[Value.slice none 0 0,Value.nilIface,Value.slice none 0 0] 70):=⟨_,rfl⟩
 have h1:Below w.heap.size w u:=by rw[Z];exact(Below.refl _ _).alloc (Nat.le_refl _) _
 have h5:Below u.heap.size u O:=by rw[Q];exact(Below.refl _ _).alloc (Nat.le_refl _) _
 have F:Below O.heap.size O d:=by rw[y];exact(Below.refl _ _).alloc (Nat.le_refl _) _
 have n:Below u.heap.size u d:=Below.on h5 F;have hb:Below w.heap.size w d:=Below.on h1 n
 have M:u.heap.size=w.heap.size+1:=by rw[Z];simp
 have N:O.heap.size=w.heap.size+1+1:=by rw[Q,<-M];simp
 have e5:d.heap.size=w.heap.size+1+1+1:=by rw[y,<-N];simp
 have k1:d.heap[w.heap.size]?=some (Obj.cells #[.slice op on oc,.slice (some ⟨g,0,none⟩) 2 f,.int .i64 fr] 67):=by rw[n.block _ (by omega),Z];exact heap_alloc_new _ _
 have kb:d.heap[w.heap.size+1]?=some (Obj.cells #[.func (.func 190) #[] #[],.func (.func 136) #[] #[]] 178):=by rw[F.block _ (by omega),Q,<-M];exact heap_alloc_new _ _
 have k2:d.heap[w.heap.size+1+1]?=some (Obj.cells #[Value.slice none 0 0,Value.nilIface,Value.slice none 0 0] 70):=by rw[y,<-N];exact heap_alloc_new _ _
 have HR:Hid (∀ W,Below d.heap.size d W->W.heap[w.heap.size+1+1]?=some (Obj.cells #[Value.slice none 0 0,Value.nilIface,Value.slice none 0 0] 70)):=fun W p=>(p.block _ (by omega)).trans k2
 have tr:=h2.below hb
 have Y:Hid (∀ W,Below d.heap.size d W->W.cell? ⟨w.heap.size,1,none⟩=some (.slice (some ⟨g,0,none⟩) 2 f)/\W.cell? ⟨g,0,none⟩=some (.iface 65 (.int .i64 q))/\W.cell? ⟨g,1,none⟩=some (.iface ta va)/\W.cell? ⟨w.heap.size+1,0,none⟩=some (.func (.func 190) #[] #[])/\W.cell? ⟨w.heap.size+1,1,none⟩=some (.func (.func 136) #[] #[])):=fun W p=>by
  have q1:=(p.block _ (by omega)).trans k1;have q2:=(p.block _ (by omega)).trans kb;exact⟨cell_of_row _ _ 1 _ _ _ q1,(tr.below p).at0,(tr.below p).at1,cell_of_row _ _ 0 _ _ _ q2,cell_of_row _ _ 1 _ _ _ q2⟩
 have HB:=hid hb;have HS:=hid e5;have k9:Hid (g<w.heap.size):=World.block_lt_of_cell? _ _ h2.at0;obtain⟨P,c2,-,-,-⟩:=Y.o d (Below.refl _ _)
 have X:Calls Tryz.prog 134 #[.iface 65 (.int .i64 q)] d fun e w'=>e = .returned (.bool true)/\w'=d:=nbIsVar_var _ d
 have E:=listArg_any 0 d c k (.iface ta va) e3 h9 (FoIn.below h8 hb) z;rw[e6] at E
 have U:Hid (Byte s/\s.length<=1000):=⟨h6,hl⟩
 rw[Z] at Q;rw[Q] at y;rw[y] at P c2;clear Z Q h1 h5 F n hb M N e5 k1 kb k2 tr h2 h6 hl e3 h9 h8 z e6
 go_enter Tryz.func131,Tryz.ntmps131
 go_wp2_with fail;rw[<-y];refine X.mono ?_;rintro e w3 ⟨rfl,e7⟩;rw[e7];clear e7 w3;rw[<-y] at P c2;clear y X;obtain⟨-,-,c3,-,-⟩:=Y.o d (Below.refl _ _);go_wp2_with fail;refine E.mono ?_;rintro e w4 ⟨p4,n4,x1,vs,rfl,K,L,h7,e4,G⟩;obtain rfl:=cLeafV s vs h7;have S:=hid G
 have V:=cText_any s p4 n4 x1 w4 U.o.1 U.o.2 (by rw[K];simp) (fun h0=>by
  obtain⟨g3,x4,hv,_,_⟩:=L.form h0;simp only[Value.slice.injEq,true_and] at hv;obtain⟨rfl,rfl⟩:=hv;refine⟨g3,rfl,fun i hi=>?_⟩
  have x3:i<s.length:=by rw[K] at hi;simpa using hi
  rw[L.cellAt i (by omega)]
  simp[List.getD,x3])
 obtain⟨-,-,-,s3,s4⟩:=Y.o w4 G;clear P c2 c3 E K L h7 e4 G;go_wp2_with fail;refine V.mono ?_;rintro e j ⟨R,A,x,rfl,l,h3⟩;have C:=hid (Below.on S.o h3)
 obtain⟨str,es⟩:∃ str,str=strOfNums s:=⟨_,rfl⟩
 have k7:=hid es
 have D:Hid (∀ W,Below j.heap.size j W->(convert 22 55 (.slice R A x)).run Tryz.prog W = .ok (.string str) W):=fun W p=>by rw[es];exact conv_str (BIn.below l.bin p) A x l.1 55 Tryz.underlying55
 obtain⟨u1,u2,-,-,-⟩:=Y.o j C.o
 have hS:j.cell? ⟨w.heap.size,1,none⟩=some (.slice (some ⟨g,0,none⟩) 2 f)/\j.cell? ⟨g,0,none⟩=some (.iface 65 (.int .i64 q))/\(convert 22 55 (.slice R A x)).run Tryz.prog j = .ok (.string str) j:=⟨u1,u2,D.o j (Below.refl _ _)⟩
 have k6:=hid (below_drewN C.o 1);have HU:=unifying_ok 65 55 (.int .i64 q) (.string str) (j.drewN 1)
 have T:Hid (∀ a h,Below j.heap.size j a->(convert 22 55 (.slice R A x)).run Tryz.prog (wr3 a (w.heap.size+1+1) (.slice (some ⟨h,0,none⟩) 1 1) .nilIface (.slice none 0 0)) = .ok (.string str) (wr3 a (w.heap.size+1+1) (.slice (some ⟨h,0,none⟩) 1 1) .nilIface (.slice none 0 0))):=fun a h p=>by
  rw[es];refine conv_str (fun hn=>?_) A x l.1 55 Tryz.underlying55;obtain⟨b,o,e,hc⟩:=l.bin hn;obtain⟨g9,c9,hv,x5,_⟩:=l.2.form (by rw[l.1];exact hn);simp only[Value.slice.injEq,true_and] at hv;have e9:=e.symm.trans hv.1;simp only[Option.some.injEq,Addr.mk.injEq] at e9;obtain⟨rfl,rfl,_⟩:=e9;have h4:=S.o.size;have x2:=HS.o;exact⟨b,0,e,fun i hi=>(wr3_ne (by show b≠_;omega)).trans ((p.cell (World.block_lt_of_cell? _ _ (hc i hi))).trans (hc i hi))⟩
 have B:True:=trivial;clear s3 s4 V l h3 u1 u2 es;go_wp2_with fail
 go_region_held3 (fun W=>W.cell? ⟨w.heap.size,1,none⟩=some (.slice (some ⟨g,0,none⟩) 2 f)/\W.cell? ⟨g,0,none⟩=some (.iface 65 (.int .i64 q))/\(convert 22 55 (.slice R A x)).run Tryz.prog W = .ok (.string str) W) (first | exact k3 | exact e8 | exact hS | exact⟨hS.1,hS.2.1,D.o _ (Below.refl _ _).drew⟩ | go_keep)
  (first
    | (have _t:=B;go_at_call 112;refine Calls.mono HU ?_;rintro e a ⟨h,rfl,I,c0,P,t⟩;have H:Below j.heap.size j a:=(below_drewN (Below.refl _ j) 1).trans t;have m:=hid (Below.on k6.o t);obtain⟨u1,u2,-,-,-⟩:=Y.o a m.o;have e8:a.cell? ⟨w.heap.size,1,none⟩=some (.slice (some ⟨g,0,none⟩) 2 f)/\a.cell? ⟨g,0,none⟩=some (.iface 65 (.int .i64 q))/\(convert 22 55 (.slice R A x)).run Tryz.prog a = .ok (.string str) a:=⟨u1,u2,D.o a H⟩;have k3:(wr3 a (w.heap.size+1+1) (.slice (some ⟨h,0,none⟩) 1 1) .nilIface (.slice none 0 0)).cell? ⟨w.heap.size,1,none⟩=some (.slice (some ⟨g,0,none⟩) 2 f)/\(wr3 a (w.heap.size+1+1) (.slice (some ⟨h,0,none⟩) 1 1) .nilIface (.slice none 0 0)).cell? ⟨g,0,none⟩=some (.iface 65 (.int .i64 q))/\(convert 22 55 (.slice R A x)).run Tryz.prog (wr3 a (w.heap.size+1+1) (.slice (some ⟨h,0,none⟩) 1 1) .nilIface (.slice none 0 0)) = .ok (.string str) (wr3 a (w.heap.size+1+1) (.slice (some ⟨h,0,none⟩) 1 1) .nilIface (.slice none 0 0)):=⟨(wr3_ne (by show w.heap.size≠_;omega)).trans u1,(wr3_ne (by have:=k9.o;show g≠_;omega)).trans u2,T.o a h H⟩;have r:Hid _:=And.intro I (And.intro c0 (And.intro P t));obtain⟨b0,b1,b2,b3⟩:=Box3.of_block (HR.o a m.o);clear I c0 P t B u1 u2 H))
 rename_i J
 clear J
 have k8:Hid (FoIn j 0 (.node (2,0,s) .nil .nil) [.iface 55 (.string str)]):=⟨_,[],rfl,.inr (.inr (.inl ⟨rfl,by rw[k7.o]⟩)),rfl⟩
 have k5:=hid C;have HX:=Box3.of_block (HR.o a m.o);have HP:Hid _:=wr3_box HX (.slice (some ⟨h,0,none⟩) 1 1) .nilIface (.slice none 0 0)
 have k4:Hid (PtO w (.iface 65 (.int .i64 q)) (.node (2,0,s) .nil .nil) (.returned (.tuple #[.agg #[.slice (some ⟨h,0,none⟩) 1 1,.nilIface,.slice none 0 0],.nilIface])) (wr3 a (w.heap.size+1+1) (.slice (some ⟨h,0,none⟩) 1 1) .nilIface (.slice none 0 0))):=by
  have x6:=k5.o.size;have x2:=HS.o;have I:j.heap.size<=h:=r.o.1;refine⟨_,_,⟨h,rfl,by omega,(wr3_ne (by show h≠_;omega)).trans r.o.2.1,(wr3_ne (by show h≠_;omega)).trans r.o.2.2.1,wr3_below (Below.on HB.o m.o) (by omega)⟩,?_⟩;exact FoIn.wr3 (HR.o a m.o) _ _ _ (FoIn.below (w:=j.drewN 1) k8.o r.o.2.2.2)
 clear e8 k3 hS HX
 go_wp2
 obtain⟨d0,d1,d2,_⟩:=HP.o;exact bodyPost_ret (v:=.tuple #[.agg #[.slice (some ⟨h,0,none⟩) 1 1,.nilIface,.slice none 0 0],.nilIface]) (by simp[results,Tryz.results131,go_sem,d0,d1,d2]) rfl k4.o
theorem cAtom_any (g b on k:Nat)(op:Option Addr)(j:Int)(w:World)(H:Value)(T:Fo)(x:∀ W,Below w.heap.size w W->Calls Tryz.prog 131 #[calV op on k g b j,cSp] W (PtO W H T)) :
  Calls Tryz.prog 78 #[calV op on k g b j] w (PtO w H T):=by
 obtain⟨t,y⟩:∃ t,t=w.alloc (Obj.cells #[.slice op on k,.slice (some ⟨g,0,none⟩) 2 b,.int .i64 j] 67):=⟨_,rfl⟩
 obtain⟨a,u⟩:∃ a,a=t.alloc (Obj.cells #[Value.slice none 0 0,Value.nilIface,Value.slice none 0 0] 70):=⟨_,rfl⟩
 have A:Below w.heap.size w t:=by rw[y];exact(Below.refl _ _).alloc (Nat.le_refl _) _
 have p:Below t.heap.size t a:=by rw[u];exact(Below.refl _ _).alloc (Nat.le_refl _) _
 have N:Below w.heap.size w a:=Below.on A p
 have s:t.heap.size=w.heap.size+1:=by rw[y];simp
 have E:a.heap.size=w.heap.size+1+1:=by rw[u,<-s];simp
 have S:a.heap[w.heap.size]?=some (Obj.cells #[.slice op on k,.slice (some ⟨g,0,none⟩) 2 b,.int .i64 j] 67):=by rw[p.block _ (by omega),y];exact heap_alloc_new _ _
 have U:a.heap[w.heap.size+1]?=some (Obj.cells #[Value.slice none 0 0,Value.nilIface,Value.slice none 0 0] 70):=by rw[u,<-s];exact heap_alloc_new _ _
 have K:Hid (∀ W,Below a.heap.size a W->W.heap[w.heap.size+1]?=some (Obj.cells #[Value.slice none 0 0,Value.nilIface,Value.slice none 0 0] 70)):=fun W z=>(z.block _ (by omega)).trans U
 have M:Hid (∀ W,Below a.heap.size a W->W.cell? ⟨w.heap.size,0,none⟩=some (.slice op on k)/\W.cell? ⟨w.heap.size,1,none⟩=some (.slice (some ⟨g,0,none⟩) 2 b)/\W.cell? ⟨w.heap.size,2,none⟩=some (.int .i64 j)):=fun W z=>by
  have q1:=(z.block _ (by omega)).trans S;exact⟨cell_of_row _ _ 0 _ _ _ q1,cell_of_row _ _ 1 _ _ _ q1,cell_of_row _ _ 2 _ _ _ q1⟩
 have X:=hid N;have HS:=hid E
 have L:Hid (∀ W,Below a.heap.size a W->Calls Tryz.prog 131 #[calV op on k g b j,cSp] W (PtO W H T)):=fun W z=>x W (Below.on N z)
 have J:Hid (∀ W,Calls Tryz.prog 132 #[] W fun e w'=>e = .returned cSp/\Below W.heap.size W w'):=fun W=>cIn_any W
 have Z:=J.o (a.drewN 1);have Y:Hid (Below a.heap.size a (a.drewN 1)):=below_drewN (Below.refl _ _) 1;have R:=M.o a (Below.refl _ _);have l:True:=trivial;have m:True:=trivial;rw[y] at u;clear y A p N s E S U x
 go_enter Tryz.func78,Tryz.ntmps78
 go_wp2_with fail;rw[<-u];clear u
 go_region_held3 (fun W=>W.cell? ⟨w.heap.size,0,none⟩=some (.slice op on k)/\W.cell? ⟨w.heap.size,1,none⟩=some (.slice (some ⟨g,0,none⟩) 2 b)/\W.cell? ⟨w.heap.size,2,none⟩=some (.int .i64 j)) (first | exact G | exact d | exact F | exact R | go_keep)
  (first
    | (have _t:=l;go_at_call 132;refine Calls.mono Z ?_;rintro e V ⟨rfl,B⟩;have h:=hid (Below.on Y.o B);have F:=M.o V h.o;have HU:=L.o V h.o;clear B l)
    | (have _t:=m;go_at_call 131;refine Calls.mono HU ?_;rintro e n ⟨t7,x7,⟨f,rfl,q,P,Q,C⟩,D⟩;have c:=hid (Below.on h.o C);have d:=M.o n c.o;have G:(wr3 n (w.heap.size+1) (.slice (some ⟨f,0,none⟩) 1 1) .nilIface (.slice none 0 0)).cell? ⟨w.heap.size,0,none⟩=some (.slice op on k)/\(wr3 n (w.heap.size+1) (.slice (some ⟨f,0,none⟩) 1 1) .nilIface (.slice none 0 0)).cell? ⟨w.heap.size,1,none⟩=some (.slice (some ⟨g,0,none⟩) 2 b)/\(wr3 n (w.heap.size+1) (.slice (some ⟨f,0,none⟩) 1 1) .nilIface (.slice none 0 0)).cell? ⟨w.heap.size,2,none⟩=some (.int .i64 j):=⟨(wr3_ne (by show w.heap.size≠_;omega)).trans d.1,(wr3_ne (by show w.heap.size≠_;omega)).trans d.2.1,(wr3_ne (by show w.heap.size≠_;omega)).trans d.2.2⟩;have i:Hid _:=And.intro q (And.intro P (And.intro Q D));obtain⟨b0,b1,b2,b3⟩:=Box3.of_block (K.o n c.o);clear q P Q C D m))
 rename_i r
 clear r;have O:=Box3.of_block (K.o n c.o);have HP:Hid _:=wr3_box O (.slice (some ⟨f,0,none⟩) 1 1) .nilIface (.slice none 0 0)
 have I:Hid (PtO w H T (.returned (.tuple #[.agg #[.slice (some ⟨f,0,none⟩) 1 1,.nilIface,.slice none 0 0],.nilIface])) (wr3 n (w.heap.size+1) (.slice (some ⟨f,0,none⟩) 1 1) .nilIface (.slice none 0 0))):=by
  have h2:=h.o.size;have h1:=HS.o;have q:=i.o.1;exact⟨t7,x7,⟨f,rfl,by omega,(wr3_ne (by show f≠_;omega)).trans i.o.2.1,(wr3_ne (by show f≠_;omega)).trans i.o.2.2.1,wr3_below (Below.on X.o c.o) (by omega)⟩,FoIn.wr3 (K.o n c.o) _ _ _ i.o.2.2.2⟩
 clear F d G R O
 go_wp2
 obtain⟨d0,d1,d2,_⟩:=HP.o;exact bodyPost_ret (v:=.tuple #[.agg #[.slice (some ⟨f,0,none⟩) 1 1,.nilIface,.slice none 0 0],.nilIface]) (by simp[results,Tryz.results78,go_sem,d0,d1,d2]) rfl I.o
theorem hSpellF_any (s:List Int)(t0:TypeId)(x0:Value)(j:TypeId)(k:Value)(g a on oc:Nat)(op:Option Addr)(fr:Int)(w:World)(B:Byte s)(hl:s.length<=1000)(h2:Two w g (.iface t0 x0) (.iface j k))
  (HV:∀ W,Calls Tryz.prog 134 #[.iface t0 x0] W fun e K=>e = .returned (.bool false)/\K=W) (HT:∀ W,Below w.heap.size w W->Calls Tryz.prog 130 #[.iface t0 x0] W fun e K=>e = .returned (.tuple #[.string (strOfNums s),.nilIface])/\Below W.heap.size W K) :
  Calls Tryz.prog 131 #[calV op on oc g a fr,hSp] w (PtO w (.iface j k) (listT (s.map hItT))):=by
 obtain⟨n,P⟩:∃ n,n=w.alloc (Obj.cells #[.slice op on oc,.slice (some ⟨g,0,none⟩) 2 a,.int .i64 fr] 67):=⟨_,rfl⟩
 obtain⟨G,I⟩:∃ G,G=n.alloc (Obj.cells #[.func (.func 137) #[] #[],.func (.func 135) #[] #[]] 178):=⟨_,rfl⟩
 obtain⟨b,p⟩:∃ b,b=G.alloc (Obj.cells #[Value.slice none 0 0,Value.nilIface,Value.slice none 0 0] 70):=⟨_,rfl⟩
 have Q:Below w.heap.size w n:=by rw[P];exact(Below.refl _ _).alloc (Nat.le_refl _) _
 have S:Below n.heap.size n G:=by rw[I];exact(Below.refl _ _).alloc (Nat.le_refl _) _
 have z:Below G.heap.size G b:=by rw[p];exact(Below.refl _ _).alloc (Nat.le_refl _) _
 have i:Below n.heap.size n b:=Below.on S z;have hb:Below w.heap.size w b:=Below.on Q i
 have E:n.heap.size=w.heap.size+1:=by rw[P];simp
 have F:G.heap.size=w.heap.size+1+1:=by rw[I,<-E];simp
 have U:b.heap.size=w.heap.size+1+1+1:=by rw[p,<-F];simp
 have k1:b.heap[w.heap.size]?=some (Obj.cells #[.slice op on oc,.slice (some ⟨g,0,none⟩) 2 a,.int .i64 fr] 67):=by rw[i.block _ (by omega),P];exact heap_alloc_new _ _
 have kb:b.heap[w.heap.size+1]?=some (Obj.cells #[.func (.func 137) #[] #[],.func (.func 135) #[] #[]] 178):=by rw[z.block _ (by omega),I,<-E];exact heap_alloc_new _ _
 have k2:b.heap[w.heap.size+1+1]?=some (Obj.cells #[Value.slice none 0 0,Value.nilIface,Value.slice none 0 0] 70):=by rw[p,<-F];exact heap_alloc_new _ _
 have HR:Hid (∀ W,Below b.heap.size b W->W.heap[w.heap.size+1+1]?=some (Obj.cells #[Value.slice none 0 0,Value.nilIface,Value.slice none 0 0] 70)):=fun W J=>(J.block _ (by omega)).trans k2
 have tr:=h2.below hb
 have Z:Hid (∀ W,Below b.heap.size b W->W.cell? ⟨w.heap.size,1,none⟩=some (.slice (some ⟨g,0,none⟩) 2 a)/\W.cell? ⟨g,0,none⟩=some (.iface t0 x0)/\W.cell? ⟨g,1,none⟩=some (.iface j k)/\W.cell? ⟨w.heap.size+1,0,none⟩=some (.func (.func 137) #[] #[])/\W.cell? ⟨w.heap.size+1,1,none⟩=some (.func (.func 135) #[] #[])):=fun W J=>by
  have q1:=(J.block _ (by omega)).trans k1;have q2:=(J.block _ (by omega)).trans kb;exact⟨cell_of_row _ _ 1 _ _ _ q1,(tr.below J).at0,(tr.below J).at1,cell_of_row _ _ 0 _ _ _ q2,cell_of_row _ _ 1 _ _ _ q2⟩
 have HB:=hid hb;have HS:=hid U;have h5:Hid (g<w.heap.size):=World.block_lt_of_cell? _ _ h2.at0;obtain⟨H,c2,-,-,-⟩:=Z.o b (Below.refl _ _);have O:=HV b;have y:=HT b hb
 have h8:Hid (Byte s/\s.length<=1000):=⟨B,hl⟩
 have N:Hid (∀ W:World,Calls Tryz.prog 139 #[hSp,.string (strOfNums s)] W fun e K=>∃ t x,e = .returned (.iface t x)/\FoIn K W.heap.size (listT (s.map hItT)) [.iface t x]/\Below W.heap.size W K):=fun W=>hList_any s W B hl
 obtain⟨str,es⟩:∃ str,str=strOfNums s:=⟨_,rfl⟩
 rw[<-es] at y N;rw[P] at I;rw[I] at p;rw[p] at H c2;clear P I Q S z i hb E F U k1 kb k2 tr h2 B hl es HV HT
 go_enter Tryz.func131,Tryz.ntmps131
 go_wp2_with fail;rw[<-p];refine O.mono ?_;rintro e w3 ⟨rfl,V⟩;rw[V];clear V w3;rw[<-p] at H c2;clear p O;go_wp2_with fail;refine y.mono ?_;rintro e L ⟨rfl,m⟩;have h7:=hid m;have h3:=hid (below_drewN m 1);have h6:=N.o (L.drewN 1);obtain⟨s1,-,s2,s3,s4⟩:=Z.o L m
 have hS:L.cell? ⟨w.heap.size,1,none⟩=some (.slice (some ⟨g,0,none⟩) 2 a)/\L.cell? ⟨g,1,none⟩=some (.iface j k)/\L.cell? ⟨w.heap.size+1,0,none⟩=some (.func (.func 137) #[] #[])/\L.cell? ⟨w.heap.size+1,1,none⟩=some (.func (.func 135) #[] #[]):=⟨s1,s2,s3,s4⟩
 have q:True:=trivial;have r:True:=trivial;clear H c2 m y s1 s2 s3 s4;go_wp2_with fail
 go_region_held3 (fun W=>W.cell? ⟨w.heap.size,1,none⟩=some (.slice (some ⟨g,0,none⟩) 2 a)/\W.cell? ⟨g,1,none⟩=some (.iface j k)/\W.cell? ⟨w.heap.size+1,0,none⟩=some (.func (.func 137) #[] #[])/\W.cell? ⟨w.heap.size+1,1,none⟩=some (.func (.func 135) #[] #[])) (first | exact Y | exact c | exact X | exact hS | go_keep)
  (first
    | (have _t:=q;go_at_call 139;refine Calls.mono h6 ?_;rintro e M ⟨t6,x6,rfl,T,R⟩;have u:=hid (Below.on h3.o R);obtain⟨u1,-,u2,u3,u4⟩:=Z.o M u.o;have X:M.cell? ⟨w.heap.size,1,none⟩=some (.slice (some ⟨g,0,none⟩) 2 a)/\M.cell? ⟨g,1,none⟩=some (.iface j k)/\M.cell? ⟨w.heap.size+1,0,none⟩=some (.func (.func 137) #[] #[])/\M.cell? ⟨w.heap.size+1,1,none⟩=some (.func (.func 135) #[] #[]):=⟨u1,u2,u3,u4⟩;have h4:Hid _:=T;have HU:=unifying_ok j t6 k x6 M;clear T R q u1 u2 u3 u4)
    | (have _t:=r;go_at_call 112;refine Calls.mono HU ?_;rintro e d ⟨h,rfl,C,c0,H,A⟩;have f:=hid (Below.on u.o A);obtain⟨u1,-,u2,u3,u4⟩:=Z.o d f.o;have c:d.cell? ⟨w.heap.size,1,none⟩=some (.slice (some ⟨g,0,none⟩) 2 a)/\d.cell? ⟨g,1,none⟩=some (.iface j k)/\d.cell? ⟨w.heap.size+1,0,none⟩=some (.func (.func 137) #[] #[])/\d.cell? ⟨w.heap.size+1,1,none⟩=some (.func (.func 135) #[] #[]):=⟨u1,u2,u3,u4⟩;have Y:(wr3 d (w.heap.size+1+1) (.slice (some ⟨h,0,none⟩) 1 1) .nilIface (.slice none 0 0)).cell? ⟨w.heap.size,1,none⟩=some (.slice (some ⟨g,0,none⟩) 2 a)/\(wr3 d (w.heap.size+1+1) (.slice (some ⟨h,0,none⟩) 1 1) .nilIface (.slice none 0 0)).cell? ⟨g,1,none⟩=some (.iface j k)/\(wr3 d (w.heap.size+1+1) (.slice (some ⟨h,0,none⟩) 1 1) .nilIface (.slice none 0 0)).cell? ⟨w.heap.size+1,0,none⟩=some (.func (.func 137) #[] #[])/\(wr3 d (w.heap.size+1+1) (.slice (some ⟨h,0,none⟩) 1 1) .nilIface (.slice none 0 0)).cell? ⟨w.heap.size+1,1,none⟩=some (.func (.func 135) #[] #[]):=⟨(wr3_ne (by show w.heap.size≠_;omega)).trans c.1,(wr3_ne (by have:=h5.o;show g≠_;omega)).trans c.2.1,(wr3_ne (by show w.heap.size+1≠_;omega)).trans c.2.2.1,(wr3_ne (by show w.heap.size+1≠_;omega)).trans c.2.2.2⟩;have l:Hid _:=And.intro C (And.intro c0 (And.intro H A));obtain⟨b0,b1,b2,b3⟩:=Box3.of_block (HR.o d f.o);clear C c0 H A r u1 u2 u3 u4))
 rename_i D
 clear D;have HX:=Box3.of_block (HR.o d f.o);have HP:Hid _:=wr3_box HX (.slice (some ⟨h,0,none⟩) 1 1) .nilIface (.slice none 0 0)
 have h1:Hid (PtO w (.iface j k) (listT (s.map hItT)) (.returned (.tuple #[.agg #[.slice (some ⟨h,0,none⟩) 1 1,.nilIface,.slice none 0 0],.nilIface])) (wr3 d (w.heap.size+1+1) (.slice (some ⟨h,0,none⟩) 1 1) .nilIface (.slice none 0 0))):=by
  have e3:=u.o.size;have h9:=HS.o;have C:=l.o.1;refine⟨t6,x6,⟨h,rfl,by omega,(wr3_ne (by show h≠_;omega)).trans l.o.2.1,(wr3_ne (by show h≠_;omega)).trans l.o.2.2.1,wr3_below (Below.on HB.o f.o) (by omega)⟩,?_⟩;exact FoIn.wr3 (HR.o d f.o) _ _ _ (FoIn.below (FoIn.mono h4.o (Nat.zero_le _)) l.o.2.2.2)
 clear X c Y hS HX
 go_wp2
 obtain⟨d0,d1,d2,_⟩:=HP.o;exact bodyPost_ret (v:=.tuple #[.agg #[.slice (some ⟨h,0,none⟩) 1 1,.nilIface,.slice none 0 0],.nilIface]) (by simp[results,Tryz.results131,go_sem,d0,d1,d2]) rfl h1.o
theorem hSpellB_any (s:List Int)(q:Int)(c:Cel)(k:Fo)(ta:TypeId)(va:Value)(g f on oc:Nat)(op:Option Addr)(fr:Int)(w:World)(h6:Byte s)(hl:s.length<=1000)(h2:Two w g (.iface 65 (.int .i64 q)) (.iface ta va))
  (e3:(Fo.node c k .nil).ok) (h9:k.cells.length<=10000) (h8:FoIn w 0 (.node c k .nil) [.iface ta va]) (z:(splitF c k).2.1=nilC) (e6:(splitF c k).1=s.map hItT) :
  Calls Tryz.prog 131 #[calV op on oc g f fr,hSp] w (PtO w (.iface 65 (.int .i64 q)) (.node (2,0,s) .nil .nil)):=by
 obtain⟨u,Z⟩:∃ u,u=w.alloc (Obj.cells #[.slice op on oc,.slice (some ⟨g,0,none⟩) 2 f,.int .i64 fr] 67):=⟨_,rfl⟩
 obtain⟨O,Q⟩:∃ O,O=u.alloc (Obj.cells #[.func (.func 137) #[] #[],.func (.func 135) #[] #[]] 178):=⟨_,rfl⟩
 obtain⟨d,y⟩:∃ d,d=O.alloc (Obj.cells #[Value.slice none 0 0,Value.nilIface,Value.slice none 0 0] 70):=⟨_,rfl⟩
 have h1:Below w.heap.size w u:=by rw[Z];exact(Below.refl _ _).alloc (Nat.le_refl _) _
 have h5:Below u.heap.size u O:=by rw[Q];exact(Below.refl _ _).alloc (Nat.le_refl _) _
 have F:Below O.heap.size O d:=by rw[y];exact(Below.refl _ _).alloc (Nat.le_refl _) _
 have n:Below u.heap.size u d:=Below.on h5 F;have hb:Below w.heap.size w d:=Below.on h1 n
 have M:u.heap.size=w.heap.size+1:=by rw[Z];simp
 have N:O.heap.size=w.heap.size+1+1:=by rw[Q,<-M];simp
 have e5:d.heap.size=w.heap.size+1+1+1:=by rw[y,<-N];simp
 have k1:d.heap[w.heap.size]?=some (Obj.cells #[.slice op on oc,.slice (some ⟨g,0,none⟩) 2 f,.int .i64 fr] 67):=by rw[n.block _ (by omega),Z];exact heap_alloc_new _ _
 have kb:d.heap[w.heap.size+1]?=some (Obj.cells #[.func (.func 137) #[] #[],.func (.func 135) #[] #[]] 178):=by rw[F.block _ (by omega),Q,<-M];exact heap_alloc_new _ _
 have k2:d.heap[w.heap.size+1+1]?=some (Obj.cells #[Value.slice none 0 0,Value.nilIface,Value.slice none 0 0] 70):=by rw[y,<-N];exact heap_alloc_new _ _
 have HR:Hid (∀ W,Below d.heap.size d W->W.heap[w.heap.size+1+1]?=some (Obj.cells #[Value.slice none 0 0,Value.nilIface,Value.slice none 0 0] 70)):=fun W p=>(p.block _ (by omega)).trans k2
 have tr:=h2.below hb
 have Y:Hid (∀ W,Below d.heap.size d W->W.cell? ⟨w.heap.size,1,none⟩=some (.slice (some ⟨g,0,none⟩) 2 f)/\W.cell? ⟨g,0,none⟩=some (.iface 65 (.int .i64 q))/\W.cell? ⟨g,1,none⟩=some (.iface ta va)/\W.cell? ⟨w.heap.size+1,0,none⟩=some (.func (.func 137) #[] #[])/\W.cell? ⟨w.heap.size+1,1,none⟩=some (.func (.func 135) #[] #[])):=fun W p=>by
  have q1:=(p.block _ (by omega)).trans k1;have q2:=(p.block _ (by omega)).trans kb;exact⟨cell_of_row _ _ 1 _ _ _ q1,(tr.below p).at0,(tr.below p).at1,cell_of_row _ _ 0 _ _ _ q2,cell_of_row _ _ 1 _ _ _ q2⟩
 have HB:=hid hb;have HS:=hid e5;have k9:Hid (g<w.heap.size):=World.block_lt_of_cell? _ _ h2.at0;obtain⟨P,c2,-,-,-⟩:=Y.o d (Below.refl _ _)
 have X:Calls Tryz.prog 134 #[.iface 65 (.int .i64 q)] d fun e w'=>e = .returned (.bool true)/\w'=d:=nbIsVar_var _ d
 have E:=listArg_any 0 d c k (.iface ta va) e3 h9 (FoIn.below h8 hb) z;rw[e6] at E
 have U:Hid (Byte s/\s.length<=1000):=⟨h6,hl⟩
 rw[Z] at Q;rw[Q] at y;rw[y] at P c2;clear Z Q h1 h5 F n hb M N e5 k1 kb k2 tr h2 h6 hl e3 h9 h8 z e6
 go_enter Tryz.func131,Tryz.ntmps131
 go_wp2_with fail;rw[<-y];refine X.mono ?_;rintro e w3 ⟨rfl,e7⟩;rw[e7];clear e7 w3;rw[<-y] at P c2;clear y X;obtain⟨-,-,c3,-,-⟩:=Y.o d (Below.refl _ _);go_wp2_with fail;refine E.mono ?_;rintro e w4 ⟨p4,n4,x1,vs,rfl,K,L,h7,e4,G⟩;obtain rfl:=hLeafV s vs h7;have S:=hid G
 have V:=hText_any s p4 n4 x1 w4 U.o.1 U.o.2 (by rw[K];simp) (fun h0=>by
  obtain⟨g3,x4,hv,_,_⟩:=L.form h0;simp only[Value.slice.injEq,true_and] at hv;obtain⟨rfl,rfl⟩:=hv;refine⟨g3,rfl,fun i hi=>?_⟩
  have x3:i<s.length:=by rw[K] at hi;simpa using hi
  rw[L.cellAt i (by omega)]
  simp[List.getD,x3])
 obtain⟨-,-,-,s3,s4⟩:=Y.o w4 G;clear P c2 c3 E K L h7 e4 G;go_wp2_with fail;refine V.mono ?_;rintro e j ⟨R,A,x,rfl,l,h3⟩;have C:=hid (Below.on S.o h3)
 obtain⟨str,es⟩:∃ str,str=strOfNums s:=⟨_,rfl⟩
 have k7:=hid es
 have D:Hid (∀ W,Below j.heap.size j W->(convert 22 55 (.slice R A x)).run Tryz.prog W = .ok (.string str) W):=fun W p=>by rw[es];exact conv_str (BIn.below l.bin p) A x l.1 55 Tryz.underlying55
 obtain⟨u1,u2,-,-,-⟩:=Y.o j C.o
 have hS:j.cell? ⟨w.heap.size,1,none⟩=some (.slice (some ⟨g,0,none⟩) 2 f)/\j.cell? ⟨g,0,none⟩=some (.iface 65 (.int .i64 q))/\(convert 22 55 (.slice R A x)).run Tryz.prog j = .ok (.string str) j:=⟨u1,u2,D.o j (Below.refl _ _)⟩
 have k6:=hid (below_drewN C.o 1);have HU:=unifying_ok 65 55 (.int .i64 q) (.string str) (j.drewN 1)
 have T:Hid (∀ a h,Below j.heap.size j a->(convert 22 55 (.slice R A x)).run Tryz.prog (wr3 a (w.heap.size+1+1) (.slice (some ⟨h,0,none⟩) 1 1) .nilIface (.slice none 0 0)) = .ok (.string str) (wr3 a (w.heap.size+1+1) (.slice (some ⟨h,0,none⟩) 1 1) .nilIface (.slice none 0 0))):=fun a h p=>by
  rw[es];refine conv_str (fun hn=>?_) A x l.1 55 Tryz.underlying55;obtain⟨b,o,e,hc⟩:=l.bin hn;obtain⟨g9,c9,hv,x5,_⟩:=l.2.form (by rw[l.1];exact hn);simp only[Value.slice.injEq,true_and] at hv;have e9:=e.symm.trans hv.1;simp only[Option.some.injEq,Addr.mk.injEq] at e9;obtain⟨rfl,rfl,_⟩:=e9;have h4:=S.o.size;have x2:=HS.o;exact⟨b,0,e,fun i hi=>(wr3_ne (by show b≠_;omega)).trans ((p.cell (World.block_lt_of_cell? _ _ (hc i hi))).trans (hc i hi))⟩
 have B:True:=trivial;clear s3 s4 V l h3 u1 u2 es;go_wp2_with fail
 go_region_held3 (fun W=>W.cell? ⟨w.heap.size,1,none⟩=some (.slice (some ⟨g,0,none⟩) 2 f)/\W.cell? ⟨g,0,none⟩=some (.iface 65 (.int .i64 q))/\(convert 22 55 (.slice R A x)).run Tryz.prog W = .ok (.string str) W) (first | exact k3 | exact e8 | exact hS | exact⟨hS.1,hS.2.1,D.o _ (Below.refl _ _).drew⟩ | go_keep)
  (first
    | (have _t:=B;go_at_call 112;refine Calls.mono HU ?_;rintro e a ⟨h,rfl,I,c0,P,t⟩;have H:Below j.heap.size j a:=(below_drewN (Below.refl _ j) 1).trans t;have m:=hid (Below.on k6.o t);obtain⟨u1,u2,-,-,-⟩:=Y.o a m.o;have e8:a.cell? ⟨w.heap.size,1,none⟩=some (.slice (some ⟨g,0,none⟩) 2 f)/\a.cell? ⟨g,0,none⟩=some (.iface 65 (.int .i64 q))/\(convert 22 55 (.slice R A x)).run Tryz.prog a = .ok (.string str) a:=⟨u1,u2,D.o a H⟩;have k3:(wr3 a (w.heap.size+1+1) (.slice (some ⟨h,0,none⟩) 1 1) .nilIface (.slice none 0 0)).cell? ⟨w.heap.size,1,none⟩=some (.slice (some ⟨g,0,none⟩) 2 f)/\(wr3 a (w.heap.size+1+1) (.slice (some ⟨h,0,none⟩) 1 1) .nilIface (.slice none 0 0)).cell? ⟨g,0,none⟩=some (.iface 65 (.int .i64 q))/\(convert 22 55 (.slice R A x)).run Tryz.prog (wr3 a (w.heap.size+1+1) (.slice (some ⟨h,0,none⟩) 1 1) .nilIface (.slice none 0 0)) = .ok (.string str) (wr3 a (w.heap.size+1+1) (.slice (some ⟨h,0,none⟩) 1 1) .nilIface (.slice none 0 0)):=⟨(wr3_ne (by show w.heap.size≠_;omega)).trans u1,(wr3_ne (by have:=k9.o;show g≠_;omega)).trans u2,T.o a h H⟩;have r:Hid _:=And.intro I (And.intro c0 (And.intro P t));obtain⟨b0,b1,b2,b3⟩:=Box3.of_block (HR.o a m.o);clear I c0 P t B u1 u2 H))
 rename_i J
 clear J
 have k8:Hid (FoIn j 0 (.node (2,0,s) .nil .nil) [.iface 55 (.string str)]):=⟨_,[],rfl,.inr (.inr (.inl ⟨rfl,by rw[k7.o]⟩)),rfl⟩
 have k5:=hid C;have HX:=Box3.of_block (HR.o a m.o);have HP:Hid _:=wr3_box HX (.slice (some ⟨h,0,none⟩) 1 1) .nilIface (.slice none 0 0)
 have k4:Hid (PtO w (.iface 65 (.int .i64 q)) (.node (2,0,s) .nil .nil) (.returned (.tuple #[.agg #[.slice (some ⟨h,0,none⟩) 1 1,.nilIface,.slice none 0 0],.nilIface])) (wr3 a (w.heap.size+1+1) (.slice (some ⟨h,0,none⟩) 1 1) .nilIface (.slice none 0 0))):=by
  have x6:=k5.o.size;have x2:=HS.o;have I:j.heap.size<=h:=r.o.1;refine⟨_,_,⟨h,rfl,by omega,(wr3_ne (by show h≠_;omega)).trans r.o.2.1,(wr3_ne (by show h≠_;omega)).trans r.o.2.2.1,wr3_below (Below.on HB.o m.o) (by omega)⟩,?_⟩;exact FoIn.wr3 (HR.o a m.o) _ _ _ (FoIn.below (w:=j.drewN 1) k8.o r.o.2.2.2)
 clear e8 k3 hS HX
 go_wp2
 obtain⟨d0,d1,d2,_⟩:=HP.o;exact bodyPost_ret (v:=.tuple #[.agg #[.slice (some ⟨h,0,none⟩) 1 1,.nilIface,.slice none 0 0],.nilIface]) (by simp[results,Tryz.results131,go_sem,d0,d1,d2]) rfl k4.o
theorem hAtom_any (g b on k:Nat)(op:Option Addr)(j:Int)(w:World)(H:Value)(T:Fo)(x:∀ W,Below w.heap.size w W->Calls Tryz.prog 131 #[calV op on k g b j,hSp] W (PtO W H T)) :
  Calls Tryz.prog 79 #[calV op on k g b j] w (PtO w H T):=by
 obtain⟨t,y⟩:∃ t,t=w.alloc (Obj.cells #[.slice op on k,.slice (some ⟨g,0,none⟩) 2 b,.int .i64 j] 67):=⟨_,rfl⟩
 obtain⟨a,u⟩:∃ a,a=t.alloc (Obj.cells #[Value.slice none 0 0,Value.nilIface,Value.slice none 0 0] 70):=⟨_,rfl⟩
 have A:Below w.heap.size w t:=by rw[y];exact(Below.refl _ _).alloc (Nat.le_refl _) _
 have p:Below t.heap.size t a:=by rw[u];exact(Below.refl _ _).alloc (Nat.le_refl _) _
 have N:Below w.heap.size w a:=Below.on A p
 have s:t.heap.size=w.heap.size+1:=by rw[y];simp
 have E:a.heap.size=w.heap.size+1+1:=by rw[u,<-s];simp
 have S:a.heap[w.heap.size]?=some (Obj.cells #[.slice op on k,.slice (some ⟨g,0,none⟩) 2 b,.int .i64 j] 67):=by rw[p.block _ (by omega),y];exact heap_alloc_new _ _
 have U:a.heap[w.heap.size+1]?=some (Obj.cells #[Value.slice none 0 0,Value.nilIface,Value.slice none 0 0] 70):=by rw[u,<-s];exact heap_alloc_new _ _
 have K:Hid (∀ W,Below a.heap.size a W->W.heap[w.heap.size+1]?=some (Obj.cells #[Value.slice none 0 0,Value.nilIface,Value.slice none 0 0] 70)):=fun W z=>(z.block _ (by omega)).trans U
 have M:Hid (∀ W,Below a.heap.size a W->W.cell? ⟨w.heap.size,0,none⟩=some (.slice op on k)/\W.cell? ⟨w.heap.size,1,none⟩=some (.slice (some ⟨g,0,none⟩) 2 b)/\W.cell? ⟨w.heap.size,2,none⟩=some (.int .i64 j)):=fun W z=>by
  have q1:=(z.block _ (by omega)).trans S;exact⟨cell_of_row _ _ 0 _ _ _ q1,cell_of_row _ _ 1 _ _ _ q1,cell_of_row _ _ 2 _ _ _ q1⟩
 have X:=hid N;have HS:=hid E
 have L:Hid (∀ W,Below a.heap.size a W->Calls Tryz.prog 131 #[calV op on k g b j,hSp] W (PtO W H T)):=fun W z=>x W (Below.on N z)
 have J:Hid (∀ W,Calls Tryz.prog 133 #[] W fun e w'=>e = .returned hSp/\Below W.heap.size W w'):=fun W=>hIn_any W
 have Z:=J.o (a.drewN 1);have Y:Hid (Below a.heap.size a (a.drewN 1)):=below_drewN (Below.refl _ _) 1;have R:=M.o a (Below.refl _ _);have l:True:=trivial;have m:True:=trivial;rw[y] at u;clear y A p N s E S U x
 go_enter Tryz.func79,Tryz.ntmps79
 go_wp2_with fail;rw[<-u];clear u
 go_region_held3 (fun W=>W.cell? ⟨w.heap.size,0,none⟩=some (.slice op on k)/\W.cell? ⟨w.heap.size,1,none⟩=some (.slice (some ⟨g,0,none⟩) 2 b)/\W.cell? ⟨w.heap.size,2,none⟩=some (.int .i64 j)) (first | exact G | exact d | exact F | exact R | go_keep)
  (first
    | (have _t:=l;go_at_call 133;refine Calls.mono Z ?_;rintro e V ⟨rfl,B⟩;have h:=hid (Below.on Y.o B);have F:=M.o V h.o;have HU:=L.o V h.o;clear B l)
    | (have _t:=m;go_at_call 131;refine Calls.mono HU ?_;rintro e n ⟨t7,x7,⟨f,rfl,q,P,Q,C⟩,D⟩;have c:=hid (Below.on h.o C);have d:=M.o n c.o;have G:(wr3 n (w.heap.size+1) (.slice (some ⟨f,0,none⟩) 1 1) .nilIface (.slice none 0 0)).cell? ⟨w.heap.size,0,none⟩=some (.slice op on k)/\(wr3 n (w.heap.size+1) (.slice (some ⟨f,0,none⟩) 1 1) .nilIface (.slice none 0 0)).cell? ⟨w.heap.size,1,none⟩=some (.slice (some ⟨g,0,none⟩) 2 b)/\(wr3 n (w.heap.size+1) (.slice (some ⟨f,0,none⟩) 1 1) .nilIface (.slice none 0 0)).cell? ⟨w.heap.size,2,none⟩=some (.int .i64 j):=⟨(wr3_ne (by show w.heap.size≠_;omega)).trans d.1,(wr3_ne (by show w.heap.size≠_;omega)).trans d.2.1,(wr3_ne (by show w.heap.size≠_;omega)).trans d.2.2⟩;have i:Hid _:=And.intro q (And.intro P (And.intro Q D));obtain⟨b0,b1,b2,b3⟩:=Box3.of_block (K.o n c.o);clear q P Q C D m))
 rename_i r
 clear r;have O:=Box3.of_block (K.o n c.o);have HP:Hid _:=wr3_box O (.slice (some ⟨f,0,none⟩) 1 1) .nilIface (.slice none 0 0)
 have I:Hid (PtO w H T (.returned (.tuple #[.agg #[.slice (some ⟨f,0,none⟩) 1 1,.nilIface,.slice none 0 0],.nilIface])) (wr3 n (w.heap.size+1) (.slice (some ⟨f,0,none⟩) 1 1) .nilIface (.slice none 0 0))):=by
  have h2:=h.o.size;have h1:=HS.o;have q:=i.o.1;exact⟨t7,x7,⟨f,rfl,by omega,(wr3_ne (by show f≠_;omega)).trans i.o.2.1,(wr3_ne (by show f≠_;omega)).trans i.o.2.2.1,wr3_below (Below.on X.o c.o) (by omega)⟩,FoIn.wr3 (K.o n c.o) _ _ _ i.o.2.2.2⟩
 clear F d G R O
 go_wp2
 obtain⟨d0,d1,d2,_⟩:=HP.o;exact bodyPost_ret (v:=.tuple #[.agg #[.slice (some ⟨f,0,none⟩) 1 1,.nilIface,.slice none 0 0],.nilIface]) (by simp[results,Tryz.results79,go_sem,d0,d1,d2]) rfl I.o
end Go.Proofs.YtnfnddnffoigfaaGreatDoor
