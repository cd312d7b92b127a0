/- Texts of OpsM3, WiF. Own work of the verifier. -/
import Derived.Test.YtlkhmmoimplokaaGreatDoorUqan
import Derived.Test.YtlkhmmoimplokaaGreatDoorUqay
namespace Go.Proofs.YtlkhmmoimplokaaGreatDoor
set_option maxHeartbeats 2000000
set_option maxRecDepth 100000
open Go Go.RowKit Go.Maps
set_option linter.unusedVariables false
theorem take_snoc (a:List Cel)(k:Nat)(h:k<a.length):a.take (k+1)=a.take k ++ [a.getD k Cel.none]:=by
 rw[List.take_succ_eq_append_getElem h,List.getD,List.getElem?_eq_getElem h];rfl
theorem dropK_self {T:List Cel}{k:List UInt8×Int}(h:∀ x ∈ T,keyC x≠k):dropK T k=T:=List.filter_eq_self.2 (fun x a=>by simpa using h x a)
theorem apart_take {a:List Cel}(h:Apart a)(k:Nat)(c:k<a.length):∀ x ∈ a.take k,keyC x≠keyC (a.getD k Cel.none):=fun x e=>by
 obtain⟨i,d,rfl⟩:=List.mem_iff_getElem.1 e
 have b:i<k:=by simp at d;omega
 have:=List.pairwise_iff_getElem.1 h i k (by omega) c b;rw[List.getElem_take,List.getD,List.getElem?_eq_getElem c];exact this
theorem kkM {a c:World}{b g:Nat}{j i k:Value}(l:a.grownBy c (some b))(h:a.cell? ⟨g,0,none⟩=some j/\a.cell? ⟨g,1,none⟩=some i/\a.cell? ⟨g,2,none⟩=some k)(d:g≠b):c.cell? ⟨g,0,none⟩=some j/\c.cell? ⟨g,1,none⟩=some i/\c.cell? ⟨g,2,none⟩=some k:=by
 have e:g<a.heap.size:=World.block_lt_of_cell? _ _ h.1
 have f:∀ o,c.cell? ⟨g,o,none⟩=a.cell? ⟨g,o,none⟩:=fun o=>World.cell?_of_block (l.block _ e (by simpa using d))
 exact⟨(f _).trans h.1,(f _).trans h.2.1,(f _).trans h.2.2⟩
theorem tableOf_any (p:Option Addr)(c:Nat)(a:List Cel)(w:World)(hn:a.length<=1000000)(F:∀ x ∈ a,okT x)(E:Apart a)(hc:OIn w p a) :
  Calls Tryz.prog 61 #[.slice p a.length c] w fun e w'=>e = .returned (.map (some w.heap.size))/\OpMap w' w.heap.size a.length a/\Below w.heap.size w w':=by
 have HC:=hid hc;have h7:=hid F;have h4:=hid E;have R:=@run_makeMap Tryz.prog;have U:=hid (OpMap.made w);have h6:Hid (Below w.heap.size w (w.alloc (.map #[] 0))):=(Below.refl _ _).alloc (Nat.le_refl _) _;clear hc F E
 go_enter Tryz.func61,Tryz.ntmps61
 go_wp2_with fail;clear R
 go_loopw [10] (fun i wr=>∃ k:Nat,k<=a.length/\i = .int .i64 k/\Hid (OpMap wr w.heap.size k (a.take k))/\Hid (Below w.heap.size w wr)) (fun i _=>a.length-(intOf i).toNat)
 case atStart=>exact⟨0,Nat.zero_le _,rfl,U,h6⟩
 case round=>
  obtain⟨k,hk,rfl,HM,P⟩:=hrel
  by_cases m:k<a.length
  ·obtain⟨g,o,rfl,K⟩:=HC.o (by omega)
   have J:=(K k m).below P.o;have r:okT (a.getD k Cel.none):=h7.o _ (by rw[List.getD,List.getElem?_eq_getElem m];exact List.getElem_mem m)
   have HT:Hid (dropK (a.take k) (keyC (a.getD k Cel.none)) ++ [a.getD k Cel.none]=a.take (k+1)):=by show _=_;rw[dropK_self (apart_take h4.o k m),take_snoc a k m]
   obtain⟨x,ex⟩:∃ x,x=a.getD k Cel.none:=⟨_,rfl⟩
   rw[<-ex] at J r HT;obtain⟨q,C,h0,h1,h2,h3⟩:=J;obtain⟨d,b,O⟩:=x;simp only at h0 h1 h2 h3
   obtain⟨B,v⟩:∃ l,l=O.length:=⟨_,rfl⟩
   obtain⟨n,u⟩:∃ s,s=strOfNums O:=⟨_,rfl⟩
   rw[<-v] at h2;have hW:Below wr.heap.size wr (wr.alloc (Obj.cells #[.slice q B C,.int .i64 d,.int .i64 b] 60)):=(Below.refl _ _).alloc (Nat.le_refl _) _;have cv:=conv_str (h3.below hW) B C v 9 Tryz.underlying9;rw[<-u] at cv;have z:Below wr.heap.size wr ((wr.alloc (Obj.cells #[.slice q B C,.int .i64 d,.int .i64 b] 60)).alloc (Obj.cells #[.string n,.int .i64 d,.int .i64 b] 126)):=hW.alloc (by simp) _
   have G:Box3 ((wr.alloc (Obj.cells #[.slice q B C,.int .i64 d,.int .i64 b] 60)).alloc (Obj.cells #[.string n,.int .i64 d,.int .i64 b] 126)) (wr.heap.size+1) (.string n) (.int .i64 d) (.int .i64 b):=Box3.of_block (t:=126) (by
    have:=heap_alloc_new (wr.alloc (Obj.cells #[.slice q B C,.int .i64 d,.int .i64 b] 60)) (Obj.cells #[.string n,.int .i64 d,.int .i64 b] 126);rw[World.size_alloc] at this
    exact this)
   have H:=hid (HM.o.below z);have S:=hid (Below.on P.o z);have HG:Hid _:=G
   have T:Hid (keyOf Tryz.prog 130 (.agg #[.string n,.int .i64 (srt b)])=some (okk (kO (d,b,O)))):=by rw[u];exact keyOf_kO r
   have Y:Hid (opElem (.agg #[.string n,.int .i64 d,.int .i64 b])=some (encD (d,b,O),[])):=by rw[u];exact opElem_enc (d,b,O)
   have Q:=hid r
   have HK:=fun W=>key_any n d b W
   clear K h3 v u ex hW z G HM HC r;go_wp2_with fail;obtain⟨a0,a1,a2,_⟩:=HG.o;clear HG
   generalize (wr.alloc (Obj.cells #[.slice q B C,.int .i64 d,.int .i64 b] 60)).alloc (Obj.cells #[.string n,.int .i64 d,.int .i64 b] 126)=W2 at *
   have L:w.heap.size<W2.heap.size:=H.o.lt
   go_region_held3 (fun W=>W.cell? ⟨wr.heap.size+1,0,none⟩=some (.string n)/\W.cell? ⟨wr.heap.size+1,1,none⟩=some (.int .i64 d)/\W.cell? ⟨wr.heap.size+1,2,none⟩=some (.int .i64 b))
    (first | exact M | exact X | go_keep)
    ((go_at_call 102;refine(HK _).mono ?_;rintro e w1 ⟨rfl,f⟩;have X:w1.cell? ⟨wr.heap.size+1,0,none⟩=some (.string n)/\w1.cell? ⟨wr.heap.size+1,1,none⟩=some (.int .i64 d)/\w1.cell? ⟨wr.heap.size+1,2,none⟩=some (.int .i64 b):=⟨(f.cell (World.block_lt_of_cell? _ _ a0)).trans a0,(f.cell (World.block_lt_of_cell? _ _ a1)).trans a1,(f.cell (World.block_lt_of_cell? _ _ a2)).trans a2⟩;obtain⟨D,hD⟩:=H.o.below ((Below.refl _ _).drew.trans f);obtain⟨N,y,h,A⟩:=hD.1.update lawOk Tryz.underlying74 (by unfold maxLen;omega) T.o Y.o;have I:=OpMap.put Q.o hD h;have M:N.cell? ⟨wr.heap.size+1,0,none⟩=some (.string n)/\N.cell? ⟨wr.heap.size+1,1,none⟩=some (.int .i64 d)/\N.cell? ⟨wr.heap.size+1,2,none⟩=some (.int .i64 b):=kkM A X (by have:=P.o.size;omega)))
   all_goals
    have h5:Hid (OpMap N w.heap.size (k+1) (a.take (k+1))):=by rw[<-HT.o];exact I
    have Z:Hid (Below w.heap.size w N):=(S.o.trans (((Below.refl _ _).drew.trans f).mono (Nat.le_of_lt L))).grown A (Nat.le_trans (Nat.le_of_lt L) f.size) (fun j hj=>by cases hj;exact Nat.le_refl _);clear X M hD h A I y;go_wp2_with fail;go_roundw
    case rel=>exact⟨k+1,by omega,by go_num,h5,Z⟩
    case measure=>simp[intOf];omega
  ·obtain rfl:k=a.length:=by omega
   have V:Hid (OpMap wr w.heap.size a.length a):=by have:=HM.o;rwa[List.take_length] at this
   clear HC;go_wp2_with fail;go_ret;exact⟨rfl,V.o,P.o⟩
theorem fIdx_two (s:List UInt8)(a:Bool):∀ (T:List Cel) (k:Nat),(fIdx s a k T = -1/\∀ x ∈ T,hitB s a x=false)∨∃ i,i<T.length/\fIdx s a k T=((k+i:Nat):Int)/\hitB s a (T.getD i Cel.none)=true
 | [],k=>.inl ⟨rfl,fun x h=>by cases h⟩
 | x :: r,k=>by
   unfold fIdx
   cases d:hitB s a x with
   | true=>exact .inr ⟨0,by simp,by simp,by simpa using d⟩
   | false=>
     rcases fIdx_two s a r (k+1) with ⟨c,b⟩ | ⟨i,c,b,e⟩
     ·exact .inl ⟨by simpa using c,fun y hy=>by
       rcases List.mem_cons.1 hy with rfl | hy
       ·exact d
       ·exact b y hy⟩
     ·exact .inr ⟨i+1,by simpa using c,by rw[if_neg (by simp),b];congr 1;omega,by simpa using e⟩
def sortI (pf:Bool):Int:=if pf then 0 else 1
theorem srt_sort (t:Int):srt t=sortI (preB t):=by unfold srt sortI;rfl
theorem hit_key {d:List Int}{c:Bool}{x:Cel} : hitB (strOfNums d).toList c x=true↔kO x=(strOfNums d,sortI c):=by
 unfold hitB kO
 rw[Bool.and_eq_true,beq_iff_eq,beq_iff_eq,Prod.mk.injEq,srt_sort]
 constructor
 ·rintro⟨b,a⟩
  exact⟨ba_ext b,by rw[a]⟩
 ·rintro⟨b,a⟩
  refine⟨by rw[b],?_⟩
  revert a
  unfold sortI
  cases preB x.2.1 <;> cases c <;> simp
theorem zeroOpW (w:World):(zeroValue 126).run Tryz.prog w = .ok (.agg #[.string ⟨#[]⟩,.int .i64 0,.int .i64 0]) w:=by kernel_rfl
theorem OpMap.look {w:World}{b N:Nat}{T:List Cel}(h:OpMap w b N T)(a:List Int)(B:a.length<=1000000)(d:Bool) :
  ∃ p q to,(Instr.lookup 74 (.map (some b)) (.agg #[.string (strOfNums a),.int .i64 (sortI d)]) true).run Tryz.prog w = .ok (.tuple #[.agg #[.string p,.int .i64 q,.int .i64 to],.bool (decide (0<=findW T a d))]) w/\
    (0<=findW T a d->(Value.agg #[.string p,.int .i64 q,.int .i64 to])=encV (opW T (findW T a d))/\opW T (findW T a d) ∈ T/\(opW T (findW T a d)).2.2.length=a.length/\strOfNums (opW T (findW T a d)).2.2=strOfNums a/\preB (opW T (findW T a d)).2.1=d):=by
 obtain⟨D,m,A,z,C,n,s⟩:=h
 have E:(strOfNums a).size<=1000000:=by simpa [strOfNums,ByteArray.size] using B
 have f:=keyOk (strOfNums a,sortI d) E (by show(0:Int)<=sortI d;unfold sortI;cases d <;> decide) (by show sortI d<=(1000000:Int);unfold sortI;cases d <;> decide);obtain⟨v,I,l,u⟩:=m.look_ok lawOk Tryz.underlying74 (zeroOpW w) (zd:=zD) (zp:=[]) rfl f;obtain⟨⟨p,q,to⟩,rfl,H⟩:=opElem_inv u;refine⟨p,q,to,?_,?_⟩
 ·rw[l]
  have e:has D (okk (strOfNums a,sortI d))=decide (0<=findW T a d):=by
   rw[Bool.eq_iff_iff,decide_eq_true_iff,n _ _ f]
   unfold findW
   rcases fIdx_two (strOfNums a).toList d T 0 with ⟨g,j⟩ | ⟨i,g,j,r⟩
   ·rw[g]
    constructor
    ·rintro⟨c,G,t⟩
     have:=j c G;rw[hit_key.2 t] at this
     cases this
    ·intro h;omega
   ·rw[j]
    constructor
    ·intro _;omega
    ·intro _
     exact⟨T.getD i Cel.none,by simp[List.getD,g],hit_key.1 r⟩
  rw[e]
 ·intro x
  unfold findW at x ⊢
  rcases fIdx_two (strOfNums a).toList d T 0 with ⟨g,j⟩ | ⟨i,g,j,r⟩
  ·rw[g] at x;omega
  ·rw[j]
   have F:opW T ((0+i:Nat):Int)=T.getD i Cel.none:=by unfold opW;simp
   rw[F]
   have y:T.getD i Cel.none ∈ T:=by simp[List.getD,g]
   have t:=hit_key.1 r;have ha:=s _ y;rw[t] at ha;rw[ha] at u;have o:=r
   unfold hitB at o
   rw[Bool.and_eq_true,beq_iff_eq,beq_iff_eq] at o;have k:strOfNums (T.getD i Cel.none).2.2=strOfNums a:=ba_ext o.1;refine⟨opElem_at u,y,?_,k,o.2⟩;have:=congrArg ByteArray.size k
   simpa [strOfNums,ByteArray.size] using this
def ownR (t:Int):Bool:=t == 1 || t == 3
theorem opOwn_any (s:ByteArray)(p t:Int)(w:World):Calls Tryz.prog 160 #[.agg #[.string s,.int .i64 p,.int .i64 t]] w fun e f=>e = .returned (.bool (ownR t))/\Below w.heap.size w f:=by
 have g:Hid (∀ b,b=ownR t->Ending.returned (.bool b) = .returned (.bool (ownR t))):=fun b h=>ret_bool h
 have a:Hid (ownR t=(t == 1 || t == 3)):=rfl
 have i:Hid (∀ o,Below w.heap.size w (w.alloc o)):=fun o=>(Below.refl _ _).alloc (Nat.le_refl _) _
 cases d:(t == 1) <;> cases c:(t == 3)
 all_goals
  rw[d,c] at a
  go_enter Tryz.func160,Tryz.ntmps160
  go_wp2_with fail;go_ret;exact⟨g.o _ a.o.symm,i.o _⟩
def leftI (p t:Int):Int:=if t=2∨t=6 then p else p-1
theorem opLeft_any (s:ByteArray)(p t:Int)(l:0<=p/\p<=100000)(w:World):Calls Tryz.prog 116 #[.agg #[.string s,.int .i64 p,.int .i64 t]] w fun e f=>e = .returned (.int .i64 (leftI p t))/\Below w.heap.size w f:=by
 have g:Hid (∀ b,b=leftI p t->Ending.returned (.int .i64 b) = .returned (.int .i64 (leftI p t))):=fun b h=>ret_int h
 have i:Hid (∀ o,Below w.heap.size w (w.alloc o)):=fun o=>(Below.refl _ _).alloc (Nat.le_refl _) _
 have j:IntKind.i64.wrap (p-1)=p-1:=by simp[IntKind.wrap,IntKind.signed,IntKind.bits];omega
 cases d:(t == 2) <;> cases c:(t == 6)
 all_goals
  have k:Hid (leftI p t=leftI p t):=rfl
  have a:Hid ((t=2↔(t == 2)=true)/\(t=6↔(t == 6)=true)):=⟨by simp,by simp⟩
  rw[d,c] at a
  go_enter Tryz.func116,Tryz.ntmps116
  go_wp2_with fail;go_ret;exact⟨g.o _ (by unfold leftI;simp[a.o.1,a.o.2]),i.o _⟩
def rightI (p t:Int):Int:=if t=1∨t=3 then p else p-1
theorem opRight_any (s:ByteArray)(p t:Int)(r:0<=p/\p<=100000)(w:World):Calls Tryz.prog 113 #[.agg #[.string s,.int .i64 p,.int .i64 t]] w fun e j=>e = .returned (.int .i64 (rightI p t))/\Below w.heap.size w j:=by
 have g:=fun W=>opOwn_any s p t W
 have l:Hid (∀ b,b=rightI p t->Ending.returned (.int .i64 b) = .returned (.int .i64 (rightI p t))):=fun b h=>ret_int h
 have d:Hid (ownR t=true↔t=1∨t=3):=by show _↔_;unfold ownR;simp
 have q:IntKind.i64.wrap (p-1)=p-1:=by simp[IntKind.wrap,IntKind.signed,IntKind.bits];omega
 cases f:ownR t
 rotate_right
 case' _=>
  rw[f] at g d
  have c:Hid (rightI p t=p):=by show _=_;unfold rightI;rw[if_pos (d.o.1 rfl)]
 rotate_right
 case' _=>
  rw[f] at g d
  have c:Hid (rightI p t=p-1):=by show _=_;unfold rightI;rw[if_neg (fun h=>by cases d.o.2 h)]
 all_goals
  clear d f
  go_enter Tryz.func113,Tryz.ntmps113
  go_wp2_with fail;refine(g _).mono ?_;rintro e i ⟨rfl,a⟩;have k:=a.block w.heap.size (by simp);rw[heap_alloc_new] at k;have n:i.cell? ⟨w.heap.size,1,none⟩=some (.int .i64 p):=cell_of_row _ _ 1 _ _ _ k;have m:Hid (Below w.heap.size w i):=((Below.refl _ _).alloc (Nat.le_refl _) _).trans (a.mono (by simp));clear a k;go_wp2_with fail;go_ret;exact⟨l.o _ c.o.symm,m.o⟩
end Go.Proofs.YtlkhmmoimplokaaGreatDoor
