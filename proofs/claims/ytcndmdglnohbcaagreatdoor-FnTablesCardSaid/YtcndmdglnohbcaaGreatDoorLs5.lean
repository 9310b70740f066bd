/- The model's grant: l03Grant. -/
import Derived.Test.YtcndmdglnohbcaaGreatDoorLs4
namespace Go.Proofs.YtcndmdglnohbcaaGreatDoor
open Go.RowKit

def stepIns (h : Int × Bool) (acc : HL × Bool) (x : Int × Bool) : HL × Bool := if !acc.2 && decide (h.1 < x.1) then (acc.1 ++ [h, x], true) else (acc.1 ++ [x], acc.2)
/-- what the model's loop has laid after k holders -/
def insTo (h : Int × Bool) (hs : HL) (k : Nat) : HL × Bool := (hs.take k).foldl (stepIns h) ([], false)
theorem insTo_succ {h : Int × Bool} {hs : HL} {k : Nat} (hk : k < hs.length) : insTo h hs (k + 1) = stepIns h (insTo h hs k) (hT hs k, hW hs k) := by
  unfold insTo
  rw [List.take_succ_eq_append_getElem hk, List.foldl_append, ← hT_get hk]; rfl
theorem foldIns_true (h : Int × Bool) (l : HL) : ∀ a : HL, l.foldl (stepIns h) (a, true) = (a ++ l, true) := by
  induction l with
  | nil => intro a; simp
  | cons x l ih => intro a; simp only [List.foldl_cons, stepIns, Bool.not_true, Bool.false_and, Bool.false_eq_true, if_false]; rw [ih]; simp
theorem foldIns_false (h : Int × Bool) (l : HL) : ∀ a : HL, (let r := l.foldl (stepIns h) (a, false); if r.2 then r.1 else r.1 ++ [h]) = a ++ ins h l := by
  induction l with
  | nil => intro a; simp [ins]
  | cons x l ih =>
    intro a
    by_cases hlt : h.1 < x.1
    · simp only [List.foldl_cons, stepIns, Bool.not_false, Bool.true_and, decide_eq_true hlt, if_true, ins, if_pos hlt]
      rw [foldIns_true]; simp
    · simp only [List.foldl_cons, stepIns, Bool.not_false, Bool.true_and, decide_eq_false hlt, Bool.false_eq_true, if_false, ins, if_neg hlt]
      have := ih (a ++ [x])
      simp only at this
      rw [this]; simp
theorem insTo_true {h : Int × Bool} {hs : HL} (e : (insTo h hs hs.length).2 = true) : ins h hs = (insTo h hs hs.length).1 := by
  have := foldIns_false h hs []
  unfold insTo at e ⊢
  rw [List.take_length] at e ⊢
  simp only [e, if_true, List.nil_append] at this
  exact this.symm
theorem insTo_false {h : Int × Bool} {hs : HL} (e : (insTo h hs hs.length).2 = false) : ins h hs = (insTo h hs hs.length).1 ++ [h] := by
  have := foldIns_false h hs []
  unfold insTo at e ⊢
  rw [List.take_length] at e ⊢
  simp only [e, Bool.false_eq_true, if_false, List.nil_append] at this
  exact this.symm
theorem insTo_len (h : Int × Bool) (hs : HL) : ∀ k, k ≤ hs.length → (insTo h hs k).1.length ≤ k + 1 ∧ ((insTo h hs k).2 = false → (insTo h hs k).1.length ≤ k) := by
  intro k
  induction k with
  | zero => intro _; simp [insTo]
  | succ k ih =>
    intro hk
    have h1 := ih (by omega)
    rw [insTo_succ (by omega)]
    unfold stepIns
    split
    · rename_i hc
      simp only [Bool.and_eq_true, Bool.not_eq_true'] at hc
      have := h1.2 hc.1
      simp; omega
    · simp; exact ⟨h1.1, fun e => h1.2 e⟩

/-- a lock that is granted on to the same end -/
def SameG (hs ws : HL) (p : HL × HL) : Prop := grantS p.1 p.2 = grantS hs ws ∧ p.1.length + p.2.length = hs.length + ws.length
theorem SameG.next {hs ws a : HL} {y : Int × Bool} {r : HL} (h : SameG hs ws (a, y :: r)) (hg : grantsS a (y :: r) = true) : SameG hs ws (ins y a, r) := by
  refine ⟨?_, ?_⟩
  · rw [← h.1]; simp only; rw [grantS, if_pos hg]
  · have := h.2; have := (ins_perm y a).length_eq; simp at *; omega
theorem SameG.done {hs ws : HL} {p : HL × HL} (h : SameG hs ws p) (hg : grantsS p.1 p.2 = false) : p = grantS hs ws := by
  rw [← h.1]
  obtain ⟨a, b⟩ := p
  cases b with
  | nil => rfl
  | cons y r => simp only at hg ⊢; rw [grantS, if_neg (by rw [hg]; simp)]
theorem grants_cons {a b : HL} (h : grantsS a b = true) : ∃ y r, b = y :: r := by
  cases b with
  | nil => cases h
  | cons y r => exact ⟨y, r, rfl⟩

theorem OwnH.ne {w : World} {lo : Nat} {v : Value} {l : HL} {a : Addr} (h : OwnH w lo v l) (u : Value) (hd : ∀ k, v.ownBlock = some k → ¬ a.block = k) : OwnH (w.setCell a u) lo v l := by
  refine ⟨h.1, ?_⟩
  rcases h.2 with h' | ⟨g, cap, cur, rfl, h2, h3, h4⟩
  · exact .inl h'
  · refine .inr ⟨g, cap, cur, rfl, h2, ?_, h4⟩
    rw [Below.heap_setCell _ _ _ _ (fun e => hd g rfl e.symm)]
    exact h3
/-- a row of holds, one more behind it -/
theorem OwnH.grown {w w' : World} {lo : Nat} {v v' : Value} {l : HL} {x : Int × Bool} (_ : OwnH w lo v l) (h : w'.ownsRow lo 77 2 v' (l.length + 1) (hcs l ++ [.int .i64 x.1, .bool x.2])) : OwnH w' lo v' (l ++ [x]) := by
  unfold OwnH
  rw [hcs_append, List.length_append]
  exact h

theorem OwnH.cap {w : World} {lo c : Nat} {A : Option Addr} {l : HL} (h : OwnH w lo (.slice A l.length c) l) : l.length ≤ c ∧ c ≤ maxLen := by
  rcases h.2 with ⟨e, e0⟩ | ⟨g, cap, cur, e, h2, h3, h4, h5, _⟩
  · injection e with _ e1 e2; subst e2; omega
  · injection e with _ e1 e2; subst e2; exact ⟨h4, h5⟩
/-- the lists of a lock lie apart from the boxes b and b + 1 -/
def NeB (v1 v2 : Value) (b : Nat) : Prop := (∀ k, v1.ownBlock = some k → ¬ k = b ∧ ¬ k = b + 1) ∧ (∀ k, v2.ownBlock = some k → ¬ k = b ∧ ¬ k = b + 1)

/-- what the outer loop hands on -/
def RoundEnd (hs ws : HL) (lo b gk : Nat) (w wr : World) : Prop := ∃ (u1 u2 : Value) (p : HL × HL), p.2.length = gk ∧ SameG hs ws p ∧ OwnL wr lo u1 u2 p ∧ NeB u1 u2 b ∧ Below w.heap.size w wr ∧ Box wr b [u1, u2] ∧ Box wr (b + 1) [.slice none 0 0, .slice none 0 0]

end Go.Proofs.YtcndmdglnohbcaaGreatDoor
