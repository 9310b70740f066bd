/- The program's LockOk: tidsOk and LockOk. -/
import Derived.Test.YtkpkjcmoldkmmaaLi1
namespace Go.Proofs.Ytkpkjcmoldkmmaa
open Go.RowKit

/-- the row of bools marks what is in S -/
def metF (S : List Int) (j : Nat) : Value := .bool (S.contains (j : Int))
theorem metF_add (S : List Int) (y j : Nat) : (if j = y then Value.bool true else metF S j) = metF (S ++ [(y : Int)]) j := by
  unfold metF
  by_cases e : j = y
  · subst e; simp
  · rw [if_neg e]
    congr 1
    rw [Bool.eq_iff_iff]
    simp only [List.contains_eq_mem, List.mem_append, List.mem_singleton, decide_eq_true_eq]
    exact ⟨.inl, fun h => h.elim id (fun h => absurd (by omega) e)⟩
/-- what is left to be tested -/
def TRest (all S R : List Int) : Prop := idsOk [] all = idsOk S R
theorem TRest.bad1 {all S R : List Int} {t : Int} (h : TRest all S (t :: R)) (ht : tidB t = false) : idsOk [] all = false := by
  unfold TRest at h; rw [h, idsOk, ht]; rfl
theorem TRest.bad2 {all S R : List Int} {t : Int} (h : TRest all S (t :: R)) (ht : S.contains t = true) : idsOk [] all = false := by
  unfold TRest at h; rw [h, idsOk, ht]; simp
theorem TRest.ok {all S R : List Int} {t : Int} (h : TRest all S (t :: R)) (h1 : tidB t = true) (ht : S.contains t = false) : TRest all (S ++ [t]) R := by
  unfold TRest at h ⊢; rw [h, idsOk, ht, h1]; rfl

def preL (hs ws : HL) (o : Nat) : List Int := if o = 0 then [] else if o = 1 then ids hs else ids hs ++ ids ws
def postL (hs ws : HL) (o : Nat) : List Int := if o = 0 then ids hs ++ ids ws else if o = 1 then ids ws else []

end Go.Proofs.Ytkpkjcmoldkmmaa
