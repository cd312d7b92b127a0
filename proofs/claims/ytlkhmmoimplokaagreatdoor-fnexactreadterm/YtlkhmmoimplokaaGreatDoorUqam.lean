/- Texts of OpsP, OpsS1, OpsM1. Own work of the verifier. -/
import Derived.Test.YtlkhmmoimplokaaGreatDoorUqaj
import Derived.Test.YtlkhmmoimplokaaGreatDoorUqad
namespace Go.Proofs.YtlkhmmoimplokaaGreatDoor
set_option maxHeartbeats 2000000
set_option linter.unusedVariables false
set_option maxRecDepth 100000
section
open Go Go.RowKit
def keyC (c:Cel):List UInt8×Int:=((strOfNums c.2.2).toList,srt c.2.1)
theorem ltO_iff_key (x y:Cel):ltO x y=true↔Op.bytesLess (keyC x).1 (keyC y).1=true∨((keyC x).1=(keyC y).1/\(keyC x).2<(keyC y).2):=by
 rw[ltO,decide_eq_true_eq,opCmp_lt];rfl
theorem ltO_key {x y:Cel}(h:ltO x y=true):keyC x≠keyC y:=fun e=>by
 rw[ltO_iff_key,e,bl_irrefl] at h;simp at h
theorem srt_two (t:Int):srt t=0∨srt t=1:=by unfold srt;split <;> simp
def Asc (cs:List Cel):Prop:=cs.Pairwise (fun x y=>ltO x y=true)
theorem chain_asc:∀ (b:List Cel) (a:Option Cel),chainO a b=true->Asc b
 | [],_,_=>List.Pairwise.nil
 | x :: r,a,h=>by
   simp only[chainO,Bool.and_eq_true] at h;exact List.Pairwise.cons (fun y c=>(chainO_all r x h.2 y c).1) (chain_asc r (some x) h.2)
theorem Asc.filter {a:List Cel}(h:Asc a)(p:Cel->Bool):Asc (a.filter p):=List.Pairwise.filter p h
def hasK (cs:List Cel)(k:List UInt8×Int):Bool:=cs.any (fun x=>decide (keyC x=k))
theorem l3infix_any (t:Int)(w:World):Calls Tryz.prog 95 #[.int .i64 t] w fun e a=>e = .returned (.bool (decide (t<=2)))/\a=w:=by
 cases h:decide (t<=2)
 all_goals
  go_enter Tryz.func95,Tryz.ntmps95
  go_wp2_with fail;go_ret;exact⟨rfl,rfl⟩
def hitB (s:List UInt8)(pf:Bool)(x:Cel):Bool:=((strOfNums x.2.2).toList == s) && (preB x.2.1 == pf)
def fIdx (s:List UInt8)(pf:Bool):Nat->List Cel->Int
 | _,[]=>-1
 | k,x :: r=>if hitB s pf x then k else fIdx s pf (k+1) r
theorem fIdx_at (s:List UInt8)(b:Bool)(a:List Cel)(k:Nat)(h:k<a.length):fIdx s b k (a.drop k)=if hitB s b (a.getD k Cel.none) then(k:Int) else fIdx s b (k+1) (a.drop (k+1)):=by
 rw[drop_at a k h,fIdx]
theorem l3find_any (p:Option Addr)(c:Nat)(a:List Cel)(q:Option Addr)(l J:Nat)(G:List Int)(j:Bool)(w:World)(hl:l=G.length)(hn:a.length<=1000000)(F:OIn w p a)(hx:BIn w q G) :
  Calls Tryz.prog 120 #[.slice p a.length c,.slice q l J,.bool j] w fun e T=>e = .returned (.int .i64 (fIdx (strOfNums G).toList j 0 a))/\∃ m,T=w.drewN m:=by
 have D:=hid F;have HX:=hid hx;have HL:=hid hl
 obtain⟨f,v⟩:∃ s,s=strOfNums G:=⟨_,rfl⟩
 rw[<-v];have P:=hid v;clear F hx hl v
 have HF:Hid (∀ b,b=fIdx f.toList j 0 a->Ending.returned (.int .i64 b) = .returned (.int .i64 (fIdx f.toList j 0 a))):=fun b h=>ret_int h
 go_enter Tryz.func120,Tryz.ntmps120
 go_wp2_with fail
 go_loopw [7] (fun i wr=>∃ k m:Nat,k<=a.length/\i = .int .i64 k/\Hid (wr=w.drewN m)/\Hid (fIdx f.toList j 0 a=fIdx f.toList j k (a.drop k))) (fun i _=>a.length-(intOf i).toNat)
 case atStart=>exact⟨0,0,Nat.zero_le _,rfl,rfl,rfl⟩
 case round=>
  obtain⟨k,m,hk,rfl,A,K⟩:=hrel
  by_cases B:k<a.length
  ·obtain⟨g,o,rfl,E⟩:=D.o (by omega)
   have C:OAt wr g (o+k * 3) (a.getD k Cel.none):=by rw[A.o];exact E k B
   have r:Hid _:=fIdx_at f.toList j a k B;have d:Hid (hitB f.toList j (a.getD k Cel.none)=(((strOfNums (a.getD k Cel.none).2.2).toList == f.toList) && (preB (a.getD k Cel.none).2.1 == j))):=rfl
   obtain⟨x,ex⟩:∃ x,x=a.getD k Cel.none:=⟨_,rfl⟩
   rw[<-ex] at C r d;obtain⟨qx,Z,h0,h1,H,h3⟩:=C;obtain⟨x0,x1,x2⟩:=x;simp only at h0 h1 H h3 d
   obtain⟨N,y⟩:∃ l,l=x2.length:=⟨_,rfl⟩
   obtain⟨O,u⟩:∃ s,s=strOfNums x2:=⟨_,rfl⟩
   rw[<-y] at H;rw[<-u] at d;have X:=hid y;have R:=hid u;have H3:=hid h3
   have Y:Hid (BIn wr q G):=by rw[A.o];exact HX.o
   have M:(convert 23 9 (.slice qx N Z)).run Tryz.prog wr.drew = .ok (.string O) wr.drew:=by rw[R.o];exact conv_str (w:=wr.drew) H3.o N Z X.o 9 Tryz.underlying9
   have U:(convert 23 9 (.slice q l J)).run Tryz.prog wr.drew = .ok (.string f) wr.drew:=by rw[P.o];exact conv_str (w:=wr.drew) Y.o l J HL.o 9 Tryz.underlying9
   clear y u ex h3 E h0
   cases I:(O.toList == f.toList) with
   | true=>
     cases hp:(preB x1 == j) with
     | true=>
       have z:Hid (fIdx f.toList j 0 a=(k:Int)):=by show _=_;rw[K.o,r.o,d.o,I,hp];rfl
       clear r d;go_wp2_with fail
       go_region_held3 (fun W=>W=wr.drew) (rfl)
        ((go_at_call 50;refine(l3prefix_any _ _).mono ?_;rintro e T ⟨rfl,rfl⟩))
       all_goals go_wp2_with fail
       all_goals go_ret
       all_goals exact⟨HF.o _ z.o.symm,m+1,by rw[A.o];rfl⟩
     | false=>
       have z:Hid (fIdx f.toList j 0 a=fIdx f.toList j (k+1) (a.drop (k+1))):=by show _=_;rw[K.o,r.o,d.o,I,hp];rfl
       clear r d;go_wp2_with fail
       go_region_held3 (fun W=>W=wr.drew) (rfl)
        ((go_at_call 50;refine(l3prefix_any _ _).mono ?_;rintro e T ⟨rfl,rfl⟩))
       all_goals go_wp2_with fail
       all_goals go_roundw
       all_goals first
        | (simp[intOf];omega)
        | exact⟨k+1,m+1,by omega,by go_num,by rw[A.o];rfl,z⟩
   | false=>
     have z:Hid (fIdx f.toList j 0 a=fIdx f.toList j (k+1) (a.drop (k+1))):=by show _=_;rw[K.o,r.o,d.o,I];rfl
     have h4:=hid H
     have Q:(0:Int)<=(k:Int):=by omega
     have V:(k:Int)<(a.length:Int):=by omega
     clear r d;go_wp2_with fail;refine wp_region_held_drew (S:=fun W=>W=wr.drew) (by kernel_rfl) ?_ (fun L=>?_)
     ·exact rfl
     refine hTq 0 (.slice (some ⟨g,o,none⟩) a.length c) 14 ?_
     simp only[Act.put,zzA,zzB,zzC];refine hTq 1 (.int .i64 k) 15 ?_
     simp only[Act.put,zzA,zzB,zzC];refine hTr 2 (.pointer (some ⟨g,o+k * 3,none⟩)) 16 (fun o t W n=>?y2) ?_
     case y2=>cases t;simp[execOp,go_sem,Act.eval,Q,V]
     simp only[Act.put,zzA,zzB,zzC];refine hTq 3 (.pointer (some ⟨g,o+k * 3,none⟩)) 17 ?_
     simp only[Act.put,zzA,zzB,zzC];refine hTr 4 (.slice qx N Z) 18 (fun o t W n=>?y4) ?_
     case y4=>
      cases t
      subst n
      simp[execOp,go_sem,Act.eval,H]
     simp only[Act.put,zzA,zzB,zzC];refine hTr 5 (.string O) 19 (fun o t W n=>?y5) ?_
     case y5=>
      cases t
      subst n
      simp[execOp,go_sem,Act.eval,M]
     simp only[Act.put,zzA,zzB,zzC];refine hTq 6 (.slice q l J) 20 ?_
     simp only[Act.put,zzA,zzB,zzC];refine hTr 7 (.string f) 21 (fun o t W n=>?y7) ?_
     case y7=>
      cases t
      subst n
      simp[execOp,go_sem,Act.eval,U]
     simp only[Act.put,zzA,zzB,zzC];refine hTr 8 (.bool false) 22 (fun o t W n=>?y8) ?_
     case y8=>cases t;simp[execOp,go_sem,Act.eval,I]
     simp only[Act.put,zzA,zzB,zzC];refine hTq 9 (.bool false) 23 ?_
     simp only[Act.put,zzA,zzB,zzC];refine hSq 10 24 ?_;refine hSq 11 25 ?_;refine hSq 12 26 ?_;refine hSq 13 27 ?_;simp only[Act.put,zzA,zzB,zzC];refine hSq 14 28 ?_;refine hSq 15 29 ?_;refine hSq 16 30 ?_;refine hSq 17 31 ?_;simp only[Act.put,zzA,zzB,zzC];refine hTq 18 (.bool false) 32 ?_
     simp only[Act.put,zzA,zzB,zzC];refine wpAnyH_done (by kernel_rfl) ?_ _;go_wp2_with fail;go_roundw
     case rel=>exact⟨k+1,m+1,by omega,by go_num,by rw[A.o];rfl,z⟩
     case measure=>simp[intOf];omega
  ·obtain rfl:k=a.length:=by omega
   have z:Hid (fIdx f.toList j 0 a = -1):=by have:=K.o;rw[List.drop_length] at this;exact this
   clear D;go_wp2_with fail;go_ret;exact⟨HF.o _ z.o.symm,m,A.o⟩
end
section
open Go Go.RowKit Go.Maps
abbrev OKey:=ByteArray×Int
theorem laidOk:laidOutB Tryz.prog=true:=by kernel_rfl
theorem rowOk:(130:TypeId)<Tryz.prog.types.size:=of_decide_eq_true (by kernel_rfl)
theorem keyAtOk:Tryz.prog.keyTypeAt 3 130=true:=by kernel_rfl
theorem lawOkK:WideMaps.KeyLaw Tryz.prog 130:=deep_law_laid laidOk (m:=3) (by decide) rowOk keyAtOk (by kernel_rfl)
theorem lawOk:Keyed Tryz.prog 130:=Keyed.of_law lawOkK
theorem typOk:Tryz.prog.keyType 130=true:=by kernel_rfl
theorem cellsOk:Tryz.prog.cellsOf 130=2:=by kernel_rfl
theorem cellsStrO:Tryz.prog.cellsOf 9=1:=by kernel_rfl
theorem cellsSrt:Tryz.prog.cellsOf 128=1:=by kernel_rfl
def okk (f:OKey):Lit:=.string (keyBytes [.string f.1.data.toList,.int .i64 f.2])
theorem nTypesO:∃ n,Tryz.prog.types.size=n+1:=by
 have h:130<Tryz.prog.types.size:=rowOk
 generalize Tryz.prog.types.size=m at h
 exact⟨m-1,by omega⟩
theorem keyOk (f:OKey)(g:f.1.size<=1000000)(d:0<=f.2)(e:f.2<=1000000):keyOf Tryz.prog 130 (.agg #[.string f.1,.int .i64 f.2])=some (okk f):=by
 obtain⟨n,a⟩:=nTypesO
 have c:f.1.size<=maxLen:=by unfold maxLen;omega
 have b:(Lit.int .i64 f.2).wf=true:=WalkArith.wf_i64 (by omega);exact keyPair Tryz.prog 130 9 128 _ _ _ rfl Tryz.underlying130 rfl rfl rfl rfl (by decide) (by decide) Tryz.underlying9 Tryz.underlying128 cellsOk cellsStrO cellsSrt typOk n a f.1 f.2 c b
theorem ok_inj {f g:OKey}(a:f.1.size<=1000000/\0<=f.2/\f.2<=1000000)(b:g.1.size<=1000000/\0<=g.2/\g.2<=1000000)(h:okk f=okk g):f=g:=by
 have d:=keyOk f a.1 a.2.1 a.2.2;have c:=keyOk g b.1 b.2.1 b.2.2;rw[<-h] at c;have:=lawOk.inj d c;obtain⟨e,k⟩:=f;obtain⟨i,j⟩:=g
 simpa using this
end
end Go.Proofs.YtlkhmmoimplokaaGreatDoor
