/- Texts of Str0, Ops3, Or0. Own work of the verifier. -/
import Derived.Test.YtlkhmmoimplokaaGreatDoorUqae
import Derived.Laws.BytesArg
import Derived.Lib.SlBytesConst
import Derived.Lib.ConvBytes
import Derived.WideShapes
import Derived.Deep.RegionWith
namespace Go.Proofs.YtlkhmmoimplokaaGreatDoor
set_option maxHeartbeats 2000000
open Go Go.RowKit
set_option linter.unusedVariables false
def Byte (xs:List Int):Prop:=∀ x ∈ xs,0<=x/\x<256
theorem u8_of {x:Int}(a:0<=x)(b:x<256):((UInt8.ofNat x.toNat).toNat:Int)=x:=by
 simp only[UInt8.toNat_ofNat'];omega
theorem str_list {a:List Int} : (strOfNums a).toList=a.map fun n=>UInt8.ofNat n.toNat:=by
 rw[ByteArray.toList_eq];rfl
theorem map_back:∀ {a:List Int},Byte a->(a.map fun n=>UInt8.ofNat n.toNat).map (fun u=>(u.toNat:Int))=a
 | [],_=>rfl
 | x :: r,h=>by
   have b:=h x (List.mem_cons_self ..);simp only[List.map_cons];rw[u8_of b.1 b.2,map_back (fun y c=>h y (List.mem_cons_of_mem _ c))]
theorem map_forth (l:List UInt8):((l.map (fun u=>(u.toNat:Int))).map fun n=>UInt8.ofNat n.toNat)=l:=by
 induction l with
 | nil=>rfl
 | cons a r b=>simp only[List.map_cons,b];simp
theorem str_eq {a:List Int}(b:Byte a)(l:List UInt8):(strOfNums a).toList=l↔a=l.map (fun u=>(u.toNat:Int)):=by
 rw[str_list]
 constructor
 ·intro h;rw[<-h,map_back b]
 ·intro h;rw[h,map_forth]
theorem conv_str {w:World}{p:Option Addr}{d:List Int}(h:BIn w p d)(m e:Nat)(i:m=d.length)(c:TypeId)(g:Tryz.prog.underlying c=some .string) :
  (convert 23 c (.slice p m e)).run Tryz.prog w = .ok (.string (strOfNums d)) w:=by
 subst i
 by_cases f:0<d.length
 ·obtain⟨b,o,rfl,j⟩:=h f
  exact run_convert_bytes_arg w 23 5 Tryz.underlying23 Tryz.underlying5 b o d.length e d rfl j c g
 ·obtain rfl:d = []:=by cases d with | nil=>rfl | cons a r=>simp at f
  rw[run_convert_bytes_string w 23 c 5 _ _ e Tryz.underlying23 Tryz.underlying5 g]
  cases p with
  | none=>simp[Conv.bytesToString,strOfNums];rfl
  | some a=>simp[Conv.bytesToString,strOfNums];rfl
theorem conv_bytes (w:World)(a:List Int)(h:Byte a)(b:TypeId)(c:Tryz.prog.underlying b=some .string) :
  ∃ f d,(convert b 23 (.string (strOfNums a))).run Tryz.prog w = .ok (.slice (some ⟨w.heap.size,0,none⟩) a.length d) f/\Below w.heap.size w f/\OwnT f w.heap.size (some ⟨w.heap.size,0,none⟩) a.length d a:=by
 refine⟨Lib.bytesWorld w 5 (strOfNums a),grownCap w (strOfNums a).size 0 5,?_,?_,rfl,fun m=>⟨w.heap.size,rfl,Nat.le_refl _,?_,fun i g=>⟨?_,?_⟩⟩⟩
 ·rw[Lib.run_convert_string_bytes w b 23 5 (strOfNums a) c Tryz.underlying23 Tryz.underlying5,strOfNums_size]
 ·exact⟨rfl,rfl,rfl,by rw[Lib.bytesWorld_size];omega,fun k j=>Lib.bytesWorld_at_old w 5 _ k j⟩
 ·rw[Lib.bytesWorld_size];omega
 ·rw[Lib.bytesWorld_cell w 5 _ i (by rw[strOfNums_size];exact g),strOfNums_data]
  have l:=h (a.getD i 0) (by simp[List.getD,g])
  have e:(((a.map fun n=>UInt8.ofNat n.toNat).getD i 0).toNat:Int)=a.getD i 0:=by
   simp only[List.getD,List.getElem?_map,List.getElem?_eq_getElem g,Option.map_some,Option.getD_some] at l ⊢;simp only[UInt8.toNat_ofNat'];omega
  rw[e]
 ·have o:i<(Lib.bytesCells w 5 (strOfNums a)).size:=by
   have:(strOfNums a).data.size=a.length:=strOfNums_size a;simp only[Lib.bytesCells,Array.size_append,Array.size_map,this];omega
  simp only[World.frozen?,Lib.bytesWorld_at_new]
  simp;omega
theorem drop_at (a:List Cel)(k:Nat)(h:k<a.length):a.drop k=a.getD k Cel.none :: a.drop (k+1):=by
 rw[List.drop_eq_getElem_cons h]
 congr 1
 rw[List.getD,List.getElem?_eq_getElem h];rfl
theorem bl_irrefl:∀ a:List UInt8,Op.bytesLess a a=false
 | []=>by simp[Op.bytesLess]
 | a :: r=>by simp[Op.bytesLess,bl_irrefl r]
theorem u8_lt (a b:UInt8):a<b↔a.toNat<b.toNat:=UInt8.lt_iff_toNat_lt
theorem u8_eq (a b:UInt8):a=b↔a.toNat=b.toNat:=UInt8.toNat_inj.symm
theorem bl_trans:∀ a b c:List UInt8,Op.bytesLess a b=true->Op.bytesLess b c=true->Op.bytesLess a c=true
 | _,[],_,h,_=>by simp[Op.bytesLess] at h
 | _,_ :: _,[],_,h=>by simp[Op.bytesLess] at h
 | [],_ :: _,_ :: _,_,_=>by simp[Op.bytesLess]
 | a :: x,b :: y,c :: z,h1,d=>by
   simp only[Op.bytesLess,Bool.or_eq_true,decide_eq_true_eq,Bool.and_eq_true,beq_iff_eq] at h1 d ⊢;have f:=bl_trans x y z;rw[u8_lt,u8_eq] at *
   rcases h1 with h1 | ⟨h1,h1'⟩ <;> rcases d with d | ⟨d,e⟩
   ·left;omega
   ·left;omega
   ·left;omega
   ·right;exact⟨by omega,f h1' e⟩
theorem ba_ext {a b:ByteArray}(h:a.toList=b.toList):a=b:=by
 rw[ByteArray.toList_eq,ByteArray.toList_eq] at h
 cases a;cases b;simpa using h
def cmpI (x y:Int):Int:=if x<y then -1 else if y<x then 1 else 0
def cmpS (x y:ByteArray):Int:=if Op.bytesLess x.toList y.toList then -1 else if x.toList == y.toList then 0 else 1
theorem eqOp_any (c i a g:Int)(p q:Option Addr)(D I r s:Nat)(d f:List Int)(w:World)(K:D=d.length)(H:I=f.length)(Y:D<=1000000000)(Z:I<=1000000000)(U:BIn w p d)(Q:BIn w q f) :
  Calls Tryz.prog 37 #[.agg #[.slice p D r,.int .i64 c,.int .i64 i],.agg #[.slice q I s,.int .i64 a,.int .i64 g]] w fun e z=>e = .returned (.bool (decide (((c,i,d):Cel)=(a,g,f))))/\Below w.heap.size w z:=by
 subst K H
 have B:Hid (∀ W,Below w.heap.size w W->Calls Tryz.prog 12 #[.slice p d.length r,.slice q f.length s] W fun e z=>e = .returned (.bool (decide (d=f)))/\∃ n,z=W.drewN n):=fun W P=>eqByteS_any p q r s d f W Y Z (U.below P) (Q.below P)
 have v:Below w.heap.size w ((w.alloc (Obj.cells #[Value.slice p d.length r,Value.int IntKind.i64 c,Value.int IntKind.i64 i] 60)).alloc (Obj.cells #[Value.slice q f.length s,Value.int IntKind.i64 a,Value.int IntKind.i64 g] 60)):=((Below.refl _ _).alloc (Nat.le_refl _) _).alloc (by simp) _;clear U Q;have A:=B.o _ v;have L:Hid _:=v;clear v B
 cases u:decide (d=f)
 ·rw[u] at A
  have y:decide (((c,i,d):Cel)=(a,g,f))=false:=by
   rw[decide_eq_false_iff_not] at u ⊢
   intro e;exact u (Prod.mk.inj (Prod.mk.inj e).2).2
  rw[y];clear u y
  go_enter Tryz.func37,Tryz.ntmps37
  go_wp2_with (go_at_call 12;refine A.mono ?_;rintro e z ⟨rfl,m,rfl⟩);go_ret;exact⟨rfl,below_drewN L.o _⟩
 ·rw[u] at A
  have C:d=f:=of_decide_eq_true u
  have y:decide (((c,i,d):Cel)=(a,g,f))=(decide (c=a) && decide (i=g)):=by
   rw[C,Bool.eq_iff_iff];simp
  rw[y];clear u y C
  have G:∀ m,Box3 (((w.alloc (Obj.cells #[Value.slice p d.length r,Value.int IntKind.i64 c,Value.int IntKind.i64 i] 60)).alloc (Obj.cells #[Value.slice q f.length s,Value.int IntKind.i64 a,Value.int IntKind.i64 g] 60)).drewN m) w.heap.size (.slice p d.length r) (.int .i64 c) (.int .i64 i)/\Box3 (((w.alloc (Obj.cells #[Value.slice p d.length r,Value.int IntKind.i64 c,Value.int IntKind.i64 i] 60)).alloc (Obj.cells #[Value.slice q f.length s,Value.int IntKind.i64 a,Value.int IntKind.i64 g] 60)).drewN m) (w.heap.size+1) (.slice q f.length s) (.int .i64 a) (.int .i64 g):=fun m=>by
   refine⟨Box3.of_block (t:=60) ((Below.heap_alloc _ _ _ (by simp)).trans (heap_alloc_new _ _)),Box3.of_block (t:=60) ?_⟩;have:=heap_alloc_new (w.alloc (Obj.cells #[Value.slice p d.length r,Value.int IntKind.i64 c,Value.int IntKind.i64 i] 60)) (Obj.cells #[Value.slice q f.length s,Value.int IntKind.i64 a,Value.int IntKind.i64 g] 60);rw[World.size_alloc] at this;exact this
  have O:Hid _:=G;clear G
  have j:Hid (∀ b,b=(decide (c=a) && decide (i=g))->Ending.returned (.bool b) = .returned (.bool (decide (c=a) && decide (i=g)))):=fun b h=>ret_bool h
  go_enter Tryz.func37,Tryz.ntmps37
  go_wp2_with fail;refine A.mono ?_;rintro e z ⟨rfl,m,rfl⟩;obtain⟨⟨X,T,S,_⟩,⟨N,R,M,_⟩⟩:=O.o m;have l:=below_drewN L.o m;clear A O L
  revert X T S N R M l
  generalize (((w.alloc (Obj.cells #[Value.slice p d.length r,Value.int IntKind.i64 c,Value.int IntKind.i64 i] 60)).alloc (Obj.cells #[Value.slice q f.length s,Value.int IntKind.i64 a,Value.int IntKind.i64 g] 60)).drewN m)=W
  intro X T S N R M l
  by_cases x:c=a
  ·by_cases k:i=g
   ·have J:Hid _:=j.o true (by simp[x,k])
    subst x k;clear j
    go_wp2
    go_ret;exact⟨J.o,l⟩
   ·have V:(i != g)=true:=by simpa using k
    have E:(c != a)=false:=by simpa using x
    have F:=hid k;clear j x k
    go_wp2
    go_ret;exact⟨by have:=F.o;simp[this],l⟩
  ·have J:Hid _:=j.o false (by simp[x])
   have E:(c != a)=true:=by simpa using x
   clear j
   go_wp2
   go_ret;exact⟨J.o,l⟩
theorem eqOpS_any (p q:Option Addr)(c1 c2:Nat)(c a:List Cel)(w:World)(R:c.length+tl c<=1000000000)(hm:a.length+tl a<=1000000000)(Z:OIn w p c)(T:OIn w q a) :
  Calls Tryz.prog 11 #[.slice p c.length c1,.slice q a.length c2] w fun e I=>e = .returned (.bool (decide (c=a)))/\Below w.heap.size w I:=by
 have X:=hid Z;have M:=hid T;clear Z T
 by_cases y:c.length=a.length
 ·have J:Hid (c.length=a.length):=y
  obtain⟨n,F⟩:∃ n,a.length=n:=⟨_,rfl⟩
  rw[y];rw[y] at R;rw[F] at R hm y ⊢;have H:=hid F;clear y F
  go_enter Tryz.func11,Tryz.ntmps11
  go_wp2
  go_loopw [5] (fun i wr=>∃ k:Nat,k<=n/\i = .int .i64 k/\Hid (Below w.heap.size w wr)/\Hid (∀ j,j<k->c.getD j Cel.none=a.getD j Cel.none)) (fun i _=>n-(intOf i).toNat)
  case atStart=>exact⟨0,Nat.zero_le _,rfl,Below.refl _ _,fun _ h=>absurd h (Nat.not_lt_zero _)⟩
  case round=>
   obtain⟨k,hk,rfl,D,N⟩:=hrel
   by_cases z:k<n
   ·have t:k<c.length:=by rw[J.o,H.o];exact z
    have m:k<a.length:=by rw[H.o];exact z
    obtain⟨b,o,rfl,A⟩:=X.o (by omega);obtain⟨b',o',rfl,C⟩:=M.o (by omega);obtain⟨S,U,x0,x1,x2,P⟩:=(A k t).below D.o;obtain⟨L,qy,y0,y1,y2,y3⟩:=(C k m).below D.o;have bx:=tl_at c k t;have bY:=tl_at a k m;have B:Hid (decide (((c.getD k Cel.none).1,(c.getD k Cel.none).2.1,(c.getD k Cel.none).2.2)=(((a.getD k Cel.none).1,(a.getD k Cel.none).2.1,(a.getD k Cel.none).2.2):Cel))=decide (c.getD k Cel.none=a.getD k Cel.none)):=rfl
    obtain⟨a0,d⟩:∃ x,x=(c.getD k Cel.none).1:=⟨_,rfl⟩
    obtain⟨Y,l⟩:∃ x,x=(c.getD k Cel.none).2.1:=⟨_,rfl⟩
    obtain⟨am,r⟩:∃ x,x=(c.getD k Cel.none).2.2.length:=⟨_,rfl⟩
    obtain⟨O,g⟩:∃ x,x=(a.getD k Cel.none).1:=⟨_,rfl⟩
    obtain⟨V,f⟩:∃ x,x=(a.getD k Cel.none).2.1:=⟨_,rfl⟩
    obtain⟨K,u⟩:∃ x,x=(a.getD k Cel.none).2.2.length:=⟨_,rfl⟩
    have E:Hid (∀ W,Below wr.heap.size wr W->Calls Tryz.prog 37 #[.agg #[.slice S am U,.int .i64 a0,.int .i64 Y],.agg #[.slice L K qy,.int .i64 O,.int .i64 V]] W fun e I=>e = .returned (.bool (decide (c.getD k Cel.none=a.getD k Cel.none)))/\Below W.heap.size W I):=fun W Q=>by
     have:=eqOp_any a0 Y O V S L am K U qy _ _ W r u (by omega) (by omega) (P.below Q) (y3.below Q)
     rwa[d,l,g,f,B.o,<-d,<-l,<-g,<-f] at this
    rw[<-d] at x0;rw[<-l] at x1;rw[<-r] at x2;rw[<-g] at y0;rw[<-f] at y1;rw[<-u] at y2;clear d l r g f u B P y3 A C X M bx bY t m
    cases v:decide (c.getD k Cel.none=a.getD k Cel.none)
    ·rw[v] at E
     have G:Hid _:=v;clear v
     go_wp2
     go_region_with (go_at_call 37;refine(E.o _ (Below.refl _ _).drew).mono ?_;rintro e w2 ⟨rfl,s⟩)
     all_goals go_wp2
     all_goals go_ret
     all_goals exact⟨ret_bool (by
      symm;rw[decide_eq_false_iff_not];intro e
      have:=G.o;rw[decide_eq_false_iff_not] at this
      exact this (by rw[e])),Below.on D.o ((Below.refl _ _).drew.trans s)⟩
    ·rw[v] at E
     have G:Hid _:=v;clear v
     go_wp2
     go_region_with (go_at_call 37;refine(E.o _ (Below.refl _ _).drew).mono ?_;rintro e w2 ⟨rfl,s⟩)
     all_goals go_wp2
     all_goals go_roundw
     all_goals first
      | (simp[intOf];omega)
      | exact⟨k+1,by omega,by go_num,Below.on D.o ((Below.refl _ _).drew.trans s),fun j hj=>by
         by_cases e:j=k
         ·subst e;exact of_decide_eq_true G.o
         ·exact N.o j (by omega)⟩
   ·obtain rfl:k=n:=by omega
    go_wp2
    go_ret;exact⟨ret_bool (by symm;rw[decide_eq_true_iff];exact same_cells J.o (by rw[J.o,H.o];exact N.o)),D.o⟩
 ·have h1:¬ ((c.length:Int)=(a.length:Int)):=by omega
  have e:decide (c=a)=false:=by rw[decide_eq_false_iff_not];intro e;exact y (by rw[e])
  rw[e];clear e
  go_enter Tryz.func11,Tryz.ntmps11
  go_wp2
  go_ret;exact⟨rfl,Below.refl _ _⟩
def orI (x y:Int):Int:=if x≠0 then x else y
theorem or_any (b:Nat)(x y:Int)(w:World)(j:w.cell? ⟨b,0,none⟩=some (.int .i64 x))(k:w.cell? ⟨b,1,none⟩=some (.int .i64 y)):Calls Tryz.prog 131 #[.slice (some ⟨b,0,none⟩) 2 2] w fun e g=>e = .returned (.int .i64 (orI x y))/\g=w:=by
 have a:Hid (∀ c,c=orI x y->Ending.returned (.int .i64 c) = .returned (.int .i64 (orI x y))):=fun c h=>ret_int h
 go_enter Tryz.func131,Tryz.ntmps131
 go_wp2_with fail
 go_loop [8] (fun i=>i = .int .i64 0∨(i = .int .i64 1/\x=0)∨(i = .int .i64 2/\x=0/\y=0)) (fun i=>2-(intOf i).toNat)
 case atStart=>exact .inl rfl
 case round=>
  rcases hrel with rfl | ⟨rfl,rfl⟩ | ⟨rfl,rfl,rfl⟩
  ·by_cases d:x=0
   ·subst d
    go_wp2_with fail;go_roundw
    case rel=>exact .inr (.inl ⟨by go_num,by simp⟩)
    case measure=>simp[intOf]
   ·have f:Hid _:=a.o x (by rw[orI,if_pos d])
    go_wp2_with fail;go_ret;exact⟨f.o,rfl⟩
  ·by_cases d:y=0
   ·subst d
    go_wp2_with fail;go_roundw
    case rel=>exact .inr (.inr ⟨by go_num,by simp⟩)
    case measure=>simp[intOf]
   ·have f:Hid _:=a.o y (by rw[orI,if_neg (by simp)])
    go_wp2_with fail;go_ret;exact⟨f.o,rfl⟩
  ·go_wp2_with fail
   go_ret;exact⟨rfl,rfl⟩
theorem pair_new (W:World)(a b:Value)(t:TypeId):(W.alloc (.cells #[a,b] t)).cell? ⟨W.heap.size,0,none⟩=some a/\(W.alloc (.cells #[a,b] t)).cell? ⟨W.heap.size,1,none⟩=some b:=
 ⟨by simp[World.cell?_alloc_new],by simp[World.cell?_alloc_new]⟩
end Go.Proofs.YtlkhmmoimplokaaGreatDoor
