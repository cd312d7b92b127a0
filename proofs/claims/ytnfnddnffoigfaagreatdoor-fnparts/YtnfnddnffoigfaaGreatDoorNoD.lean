/- Places that are all distinct, told by one pass. Own work of the verifier. -/
import Derived.Test.YtnfnddnffoigfaaGreatDoorRows
import Derived.LaidByTextLater
namespace Go.Proofs.YtnfnddnffoigfaaGreatDoor
set_option maxHeartbeats 2000000
open Go
set_option linter.unusedVariables false
def okFrom (seen:List Nat)(b o:Nat):List MemPlace->Bool
 | []=>true
 | .cell b' o' :: r=>bif Nat.beq b' b then Nat.blt o o' && okFrom seen b o' r else(seen.all fun x=>!Nat.beq b' x) && okFrom (b' :: seen) b' o' r
 | .map _ :: _=>false
def okAll:List MemPlace->Bool
 | []=>true
 | .cell b o :: r=>okFrom [b] b o r
 | .map _ :: _=>false
theorem okFrom_spec:∀ (s:List MemPlace) (a:List Nat) (b o:Nat),okFrom a b o s=true->b ∈ a->s.Nodup/\∀ x ∈ s,∃ c d,x = .cell c d/\((c=b/\o<d)∨c ∉ a)
 | [],a,b,o,_,_=>⟨List.nodup_nil,fun x f=>by cases f⟩
 | .map _ :: r,a,b,o,h,_=>by simp[okFrom] at h
 | .cell c d :: r,a,b,o,h,hb=>by
   unfold okFrom at h
   cases q:Nat.beq c b with
   | true=>
     rw[q] at h;simp only[cond_true,Bool.and_eq_true] at h;obtain⟨l,m⟩:=h;have e:c=b:=Nat.eq_of_beq_eq_true q;subst e
     have p:o<d:=by simpa [Nat.blt_eq] using l
     obtain⟨n,f⟩:=okFrom_spec r a c d m hb;refine⟨List.nodup_cons.2 ⟨fun hm=>?_,n⟩,fun x hm=>?_⟩
     ·obtain⟨g,j,e,hh⟩:=f _ hm
      simp only[MemPlace.cell.injEq] at e;obtain⟨rfl,rfl⟩:=e
      rcases hh with ⟨_,hh⟩ | hh
      ·omega
      ·exact hh hb
     ·rcases List.mem_cons.1 hm with rfl | hm
      ·exact⟨c,d,rfl,.inl ⟨rfl,p⟩⟩
      ·obtain⟨g,j,e,hh⟩:=f _ hm
       refine⟨g,j,e,?_⟩
       rcases hh with ⟨k,hh⟩ | hh
       ·exact .inl ⟨k,by omega⟩
       ·exact .inr hh
   | false=>
     rw[q] at h;simp only[cond_false,Bool.and_eq_true,List.all_eq_true,Bool.not_eq_true'] at h;obtain⟨l,m⟩:=h
     have i:c ∉ a:=fun hm=>by
      have:=l c hm;rw[Nat.beq_refl] at this
      cases this
     obtain⟨n,f⟩:=okFrom_spec r (c :: a) c d m (List.mem_cons_self ..);refine⟨List.nodup_cons.2 ⟨fun hm=>?_,n⟩,fun x hm=>?_⟩
     ·obtain⟨g,j,e,hh⟩:=f _ hm
      simp only[MemPlace.cell.injEq] at e;obtain⟨rfl,rfl⟩:=e
      rcases hh with ⟨_,hh⟩ | hh
      ·omega
      ·exact hh (List.mem_cons_self ..)
     ·rcases List.mem_cons.1 hm with rfl | hm
      ·exact⟨c,d,rfl,.inr i⟩
      ·obtain⟨g,j,e,hh⟩:=f _ hm
       refine⟨g,j,e,.inr ?_⟩
       rcases hh with ⟨k,_⟩ | hh
       ·rw[k];exact i
       ·exact fun hm=>hh (List.mem_cons_of_mem _ hm)
theorem okAll_nodup {a:List MemPlace}(h:okAll a=true):a.Nodup:=by
 match a,h with
 | [],_=>exact List.nodup_nil
 | .map _ :: _,h=>simp[okAll] at h
 | .cell b o :: r,h=>
   obtain⟨n,d⟩:=okFrom_spec r [b] b o h (List.mem_singleton.2 rfl);refine List.nodup_cons.2 ⟨fun c=>?_,n⟩;obtain⟨f,g,e,hh⟩:=d _ c;simp only[MemPlace.cell.injEq] at e;obtain⟨rfl,rfl⟩:=e
   rcases hh with ⟨_,hh⟩ | hh
   ·omega
   ·exact hh (List.mem_singleton.2 rfl)
theorem nodup_quick {a:Type}{R:Option (a×List MemPlace)}{f:List MemPlace->Bool}(h:R.map (fun x=>okAll x.2 && f x.2)=some true):R.map (fun x=>decide x.2.Nodup && f x.2)=some true:=by
 cases R with
 | none=>cases h
 | some x=>
   simp only[Option.map_some,Option.some.injEq,Bool.and_eq_true] at h ⊢;exact⟨decide_eq_true (okAll_nodup h.1),h.2⟩
end Go.Proofs.YtnfnddnffoigfaaGreatDoor
