/- The mathematics of covering a list of wants. -/
import Derived.Test.YtognfnfbmbfidaaVx
namespace Go.Proofs.Ytognfnfbmbfidaa
open Go.RowKit

def covZ (a : HL) (z : Int × Bool) : Bool := a.any fun y => y.1 == z.1 && (y.2 || !z.2)
def covL (a b : HL) : Bool := b.all (covZ a)
theorem Asc.lt {k : Int} : ∀ {l : HL}, Asc k l → ∀ z ∈ l, k ≤ z.1
  | [], _, z, hz => absurd hz (by simp)
  | y :: l, h, z, hz => by
    rcases List.mem_cons.1 hz with rfl | hz
    · exact h.1
    · have := h.2.lt z hz
      have := h.1
      omega
theorem covZ_past {x z : Int × Bool} {a : HL} (h : x.1 ≠ z.1) : covZ (x :: a) z = covZ a z := by
  have h1 : (x.1 == z.1) = false := beq_eq_false_iff_ne.2 h
  simp [covZ, h1]
theorem covZ_none {a : HL} {z : Int × Bool} (h : ∀ y ∈ a, z.1 < y.1) : covZ a z = false := by
  rw [Bool.eq_false_iff]
  intro hp
  simp only [covZ, List.any_eq_true, Bool.and_eq_true, beq_iff_eq] at hp
  obtain ⟨y, hy, he, _⟩ := hp
  have := h y hy
  omega
theorem covL_past {x : Int × Bool} {a b : HL} (h : ∀ z ∈ b, x.1 < z.1) : covL (x :: a) b = covL a b := by
  unfold covL
  rw [Bool.eq_iff_iff, List.all_eq_true, List.all_eq_true]
  constructor
  · intro hh z hz
    rw [← covZ_past (x := x) (by have := h z hz; omega)]
    exact hh z hz
  · intro hh z hz
    rw [covZ_past (x := x) (by have := h z hz; omega)]
    exact hh z hz
theorem cover_is (n : Nat) : ∀ (a b : HL) (k : Int), a.length + b.length ≤ n → Asc k a → Asc k b → (mergeR a b = a ↔ covL a b = true) := by
  induction n with
  | zero =>
    intro a b k hn _ _
    have ea : a = [] := List.length_eq_zero_iff.1 (by omega)
    have eb : b = [] := List.length_eq_zero_iff.1 (by omega)
    subst ea eb
    rw [mergeR_nilL]
    simp [covL]
  | succ n ih =>
    intro a b k hn ha hb
    match a, b, hn, ha, hb with
    | [], [], _, _, _ => rw [mergeR_nilL]; simp [covL]
    | [], y :: b, _, _, _ => rw [mergeR_nilL]; simp [covL, covZ]
    | x :: a, [], _, _, _ => rw [mergeR_nilR]; simp [covL]
    | x :: a, y :: b, hn, ha, hb =>
      simp only [List.length_cons] at hn
      have la := ha.2.lt
      have lb := hb.2.lt
      rcases Int.lt_trichotomy x.1 y.1 with h | h | h
      · rw [mergeR_lt h, covL_past (fun z hz => by
          rcases List.mem_cons.1 hz with rfl | hz
          · exact h
          · have := lb z hz; omega)]
        have := ih a (y :: b) (x.1 + 1) (by simp; omega) ha.2 ⟨by omega, hb.2⟩
        rw [← this]
        simp
      · rw [mergeR_eq h]
        have hi := ih a b (x.1 + 1) (by omega) ha.2 (by rw [h]; exact hb.2)
        have h1 : covL (x :: a) (y :: b) = (covZ (x :: a) y && covL (x :: a) b) := rfl
        have h2 : covZ (x :: a) y = (x.2 || !y.2) := by
          have h3 : covZ a y = false := covZ_none (fun z hz => by have := la z hz; omega)
          have h4 : covZ (x :: a) y = ((x.1 == y.1 && (x.2 || !y.2)) || covZ a y) := rfl
          rw [h4, h3, beq_iff_eq.2 h]
          simp
        rw [h1, h2, covL_past (fun z hz => by have := lb z hz; omega)]
        obtain ⟨x1, x2⟩ := x
        obtain ⟨y1, y2⟩ := y
        simp only [List.cons.injEq, Prod.mk.injEq, true_and, Bool.and_eq_true, hi]
        cases x2 <;> cases y2 <;> simp
      · rw [mergeR_gt h]
        have h1 : covL (x :: a) (y :: b) = (covZ (x :: a) y && covL (x :: a) b) := rfl
        rw [h1, covZ_none (fun z hz => by
          rcases List.mem_cons.1 hz with rfl | hz
          · exact h
          · have := la z hz; omega)]
        constructor
        · intro e
          injection e with e _
          subst e
          omega
        · intro e
          simp at e
/-- the answer of CoversWants -/
def covO (a b : HL) : Bool := wantsB a && wantsB b && covL a b
theorem cover_mrg {a b : HL} (ha : wantsB a = true) (hb : wantsB b = true) : mrgO a b = a ↔ covL a b = true := by
  rw [← mergeR_is ha hb]
  exact cover_is _ a b 0 (Nat.le_refl _) (asc_of ha) (asc_of hb)
theorem mrgF_len (a b : HL) (k n : Nat) : (mrgF a b k n).length ≤ n := by
  unfold mrgF
  rw [List.length_map]
  exact Nat.le_trans (List.length_filter_le _ _) (by simp)
theorem mrgF_snoc (a b : HL) (n : Nat) : mrgF a b 0 (n + 1) = mrgF a b 0 n ++ (if (hasK a n || hasK b n) = true then [((n : Int), wrK a n || wrK b n)] else []) := by
  unfold mrgF
  rw [List.range'_1_concat, List.filter_append, List.map_append]
  congr 1
  rw [Nat.zero_add, List.filter_cons]
  by_cases h : (hasK a n || hasK b n) = true
  · rw [if_pos h, if_pos h]; rfl
  · rw [if_neg h, if_neg h]; rfl
theorem hasK_take {l : HL} {k i : Nat} (hi : i < l.length) : hasK (l.take (i + 1)) k = (hasK (l.take i) k || (hT l i == (k : Int))) := by
  unfold hasK
  rw [List.take_succ_eq_append_getElem hi, List.any_append, ← hT_get hi]
  simp
theorem wrK_take {l : HL} {k i : Nat} (hi : i < l.length) : wrK (l.take (i + 1)) k = (wrK (l.take i) k || ((hT l i == (k : Int)) && hW l i)) := by
  unfold wrK
  rw [List.take_succ_eq_append_getElem hi, List.any_append, ← hT_get hi]
  simp
theorem wrK_has {l : HL} {k : Nat} (h : wrK l k = true) : hasK l k = true := by
  simp only [wrK, hasK, List.any_eq_true, Bool.and_eq_true] at h ⊢
  obtain ⟨z, h1, h2, _⟩ := h
  exact ⟨z, h1, h2⟩
/-- the merged list's own keys -/
theorem hasK_append (a b : HL) (k : Nat) : hasK (a ++ b) k = (hasK a k || hasK b k) := List.any_append
theorem wrK_append (a b : HL) (k : Nat) : wrK (a ++ b) k = (wrK a k || wrK b k) := List.any_append
theorem hasK_mrg (a b : HL) (k : Nat) : ∀ n, hasK (mrgF a b 0 n) k = (decide (k < n) && (hasK a k || hasK b k)) ∧ wrK (mrgF a b 0 n) k = (decide (k < n) && (wrK a k || wrK b k))
  | 0 => by simp [mrgF, hasK, wrK]
  | n + 1 => by
    have ih := hasK_mrg a b k n
    rw [mrgF_snoc, hasK_append, wrK_append, ih.1, ih.2]
    by_cases e : k = n
    · subst e
      have hw : wrK a k || wrK b k → hasK a k || hasK b k := by
        simp only [Bool.or_eq_true]
        exact fun h => h.imp wrK_has wrK_has
      by_cases h : (hasK a k || hasK b k) = true
      · rw [if_pos h, h]; simp [hasK, wrK]
      · rw [if_neg h]
        have h2 : (wrK a k || wrK b k) = false := by rw [Bool.eq_false_iff]; exact fun q => h (hw q)
        rw [h2]
        rw [Bool.not_eq_true] at h
        rw [h]; simp [hasK, wrK]
    · have h1 : decide (k < n + 1) = decide (k < n) := by
        rw [decide_eq_decide]; omega
      rw [h1]
      have h2 : ((n : Int) == (k : Int)) = false := beq_eq_false_iff_ne.2 (by omega)
      by_cases h : (hasK a n || hasK b n) = true
      · rw [if_pos h]; simp [hasK, wrK, h2]
      · rw [if_neg h]; simp [hasK, wrK]
theorem mrgO_both {a b : HL} (m : HL) (hm : m = mrgO a b) : mrgO m a = m ∧ mrgO m b = m := by
  have key : ∀ c : HL, (c = a ∨ c = b) → mrgF m c 0 8 = mrgF a b 0 8 := by
    intro c hc
    unfold mrgF
    have hh : ∀ j, j < 8 → (hasK m j || hasK c j) = (hasK a j || hasK b j) ∧ (wrK m j || wrK c j) = (wrK a j || wrK b j) := by
      intro j hj
      have h := hasK_mrg a b j 8
      have hd : decide (j < 8) = true := decide_eq_true hj
      rw [hd] at h
      rw [hm]
      unfold mrgO
      rw [h.1, h.2]
      rcases hc with rfl | rfl
      · constructor
        · cases hasK c j <;> cases hasK b j <;> rfl
        · cases wrK c j <;> cases wrK b j <;> rfl
      · constructor
        · cases hasK c j <;> cases hasK a j <;> rfl
        · cases wrK c j <;> cases wrK a j <;> rfl
    have h1 : (List.range' 0 8).filter (fun j => hasK m j || hasK c j) = (List.range' 0 8).filter (fun j => hasK a j || hasK b j) := by
      apply List.filter_congr
      intro j hj
      exact (hh j (by have := List.mem_range'_1.1 hj; omega)).1
    rw [h1]
    apply List.map_congr_left
    intro j hj
    rw [(hh j (by have := List.mem_range'_1.1 (List.mem_filter.1 hj).1; omega)).2]
  have hm' : m = mrgF a b 0 8 := hm
  exact ⟨(key a (.inl rfl)).trans hm'.symm, (key b (.inr rfl)).trans hm'.symm⟩
/-- an ascending list of keys is one that WantsOk takes -/
theorem ok_of_asc : ∀ {l : HL} {k : Int}, Asc k l → (∀ z ∈ l, z.1 < 8) → 0 ≤ k → ∀ j, j < l.length → k ≤ hT l j ∧ hT l j ≤ 7 ∧ (0 < j → hT l (j - 1) < hT l j)
  | [], _, _, _, _, j, hj => absurd hj (by simp)
  | z :: l, k, h, h8, hk, 0, _ => by
    have := h8 z (List.mem_cons_self ..)
    have := h.1
    refine ⟨?_, ?_, fun h => absurd h (by omega)⟩ <;> simp [hT] <;> omega
  | z :: l, k, h, h8, hk, j + 1, hj => by
    have ih := ok_of_asc h.2 (fun y hy => h8 y (List.mem_cons_of_mem _ hy)) (by have := h.1; omega) j (by simpa using hj)
    have e : hT (z :: l) (j + 1) = hT l j := rfl
    rw [e]
    refine ⟨by have := h.1; omega, ih.2.1, fun _ => ?_⟩
    match j, ih with
    | 0, ih => have : hT (z :: l) (0 + 1 - 1) = z.1 := rfl
               rw [this]; omega
    | j + 1, ih => have : hT (z :: l) (j + 1 + 1 - 1) = hT l j := rfl
                   rw [this]
                   have := ih.2.2 (by omega)
                   simpa using this
theorem wantsB_of_asc {l : HL} (h : Asc 0 l) (h8 : ∀ z ∈ l, z.1 < 8) : wantsB l = true := by
  refine wantsB_yes fun k hk => ?_
  have := ok_of_asc h h8 (Int.le_refl _) k hk
  by_cases e : 0 < k
  · have h2 : ¬ hT l (k - 1) ≥ hT l k := by have := this.2.2 e; omega
    simp only [okW, decide_eq_false h2]
    simp [inB]; omega
  · simp only [okW, decide_eq_false e]
    simp [inB]; omega
theorem asc_mrgF (a b : HL) (n : Nat) : ∀ k : Nat, Asc (k : Int) (mrgF a b k n) ∧ ∀ z ∈ mrgF a b k n, z.1 < ((k + n : Nat) : Int) := by
  induction n with
  | zero => intro k; exact ⟨trivial, fun z hz => absurd hz (by simp [mrgF])⟩
  | succ n ih =>
    intro k
    rw [mrgF_step]
    have := ih (k + 1)
    have e : ((k + 1 : Nat) : Int) = (k : Int) + 1 := by omega
    by_cases h : (hasK a k || hasK b k) = true
    · rw [if_pos h]
      refine ⟨⟨Int.le_refl _, by rw [← e]; exact this.1⟩, fun z hz => ?_⟩
      rcases List.mem_cons.1 hz with rfl | hz
      · show (k : Int) < _; omega
      · have := this.2 z hz; omega
    · rw [if_neg h]
      exact ⟨this.1.mono (by omega), fun z hz => by have := this.2 z hz; omega⟩
theorem wantsB_mrgO (a b : HL) : wantsB (mrgO a b) = true :=
  wantsB_of_asc (asc_mrgF a b 8 0).1 (fun z hz => by have := (asc_mrgF a b 8 0).2 z hz; omega)
/-- the answer of MergeWants -/
def mrgA (a b : HL) : HL := if (wantsB a && wantsB b) = true then mrgO a b else []
theorem mrgA_len (a b : HL) : (mrgA a b).length ≤ 8 := by
  unfold mrgA
  split
  · exact mrgO_len a b
  · simp
end Go.Proofs.Ytognfnfbmbfidaa
