/- A commit's text says the commit. -/
import Derived.Test.YtmphiomalhjciaaCd
import Derived.Test.YtmphiomalhjciaaFoldG
namespace Go.Proofs.Ytmphiomalhjciaa
open Go.RowKit

/-- digits hold no dot, no space, no star, no semicolon -/
theorem itoa_bytes (x : Int) : ∀ b ∈ Lib.itoa x, b.toNat = 45 ∨ (48 ≤ b.toNat ∧ b.toNat ≤ 57) := by
  intro b hb
  by_cases h : 0 ≤ x
  · obtain ⟨n, rfl⟩ := Int.eq_ofNat_of_zero_le h
    rw [Lib.itoa_nonneg] at hb
    exact .inr (dec_digit _ b hb)
  · obtain ⟨n, rfl⟩ : ∃ n : Nat, x = -(n : Int) := ⟨x.natAbs, by omega⟩
    rw [Lib.itoa_neg n (by omega)] at hb
    rcases List.mem_cons.1 hb with rfl | hb
    · exact .inl rfl
    · exact .inr (dec_digit _ b hb)
theorem itoa_ne (x : Int) : Lib.itoa x ≠ [] := by
  by_cases h : 0 ≤ x
  · obtain ⟨n, rfl⟩ := Int.eq_ofNat_of_zero_le h
    rw [Lib.itoa_nonneg]
    intro e
    have := dec_len (n + 1) n (by omega) (Nat.lt_of_lt_of_le (Nat.lt_pow_self (by decide : 1 < 10)) (Nat.pow_le_pow_right (by decide) (by omega)))
    rw [e] at this
    exact absurd this.1 (by decide)
  · obtain ⟨n, rfl⟩ : ∃ n : Nat, x = -(n : Int) := ⟨x.natAbs, by omega⟩
    rw [Lib.itoa_neg n (by omega)]
    simp

theorem dec_first (u : Nat) : ∃ c r, Lib.decDigits u = c :: r ∧ ¬ c = 45 := by
  cases h : Lib.decDigits u with
  | nil => exact absurd (by rw [Lib.itoa_nonneg]; exact h) (itoa_ne (u : Int))
  | cons c r =>
    refine ⟨c, r, rfl, fun e => ?_⟩
    have := (dec_digit u c (by rw [h]; simp)).1
    rw [e] at this
    exact absurd this (by decide)
theorem itoa_inj {a b : Int} (h : Lib.itoa a = Lib.itoa b) : a = b := by
  by_cases ha : 0 ≤ a
  · obtain ⟨m, rfl⟩ := Int.eq_ofNat_of_zero_le ha
    by_cases hb : 0 ≤ b
    · obtain ⟨n, rfl⟩ := Int.eq_ofNat_of_zero_le hb
      rw [Lib.itoa_nonneg, Lib.itoa_nonneg] at h
      have := congrArg worth h
      rw [worth_dec, worth_dec] at this
      rw [this]
    · obtain ⟨n, rfl⟩ : ∃ n : Nat, b = -(n : Int) := ⟨b.natAbs, by omega⟩
      rw [Lib.itoa_nonneg, Lib.itoa_neg n (by omega)] at h
      obtain ⟨c, r, e, hc⟩ := dec_first m
      rw [e] at h
      exact absurd (List.cons.inj h).1 hc
  · obtain ⟨m, rfl⟩ : ∃ m : Nat, a = -(m : Int) := ⟨a.natAbs, by omega⟩
    by_cases hb : 0 ≤ b
    · obtain ⟨n, rfl⟩ := Int.eq_ofNat_of_zero_le hb
      rw [Lib.itoa_nonneg, Lib.itoa_neg m (by omega)] at h
      obtain ⟨c, r, e, hc⟩ := dec_first n
      rw [e] at h
      exact absurd (List.cons.inj h).1.symm hc
    · obtain ⟨n, rfl⟩ : ∃ n : Nat, b = -(n : Int) := ⟨b.natAbs, by omega⟩
      rw [Lib.itoa_neg m (by omega), Lib.itoa_neg n (by omega)] at h
      have := congrArg worth (List.cons.inj h).2
      rw [worth_dec, worth_dec] at this
      rw [this]

def numB (c : UInt8) : Prop := c.toNat = 45 ∨ (48 ≤ c.toNat ∧ c.toNat ≤ 57)
/-- the rest of a text does not go on with a number's byte -/
def Halts (r : List UInt8) : Prop := ∀ c s, r = c :: s → ¬ numB c
theorem halts_nil : Halts [] := fun _ _ h => by cases h
theorem halts_cons {c : UInt8} {s : List UInt8} (h : ¬ numB c) : Halts (c :: s) := fun _ _ e => by
  injection e with e _
  rw [← e]
  exact h
theorem app_eq : ∀ {a b r r' : List UInt8}, (∀ c ∈ a, numB c) → (∀ c ∈ b, numB c) → Halts r → Halts r' → a ++ r = b ++ r' → a = b ∧ r = r'
  | [], [], _, _, _, _, _, _, h => ⟨rfl, h⟩
  | [], c :: b, r, r', _, hb, hr, _, h => absurd (hb c (by simp)) (hr c (b ++ r') h)
  | c :: a, [], r, r', ha, _, _, hr', h => absurd (ha c (by simp)) (hr' c (a ++ r) h.symm)
  | c :: a, d :: b, r, r', ha, hb, hr, hr', h => by
    rw [List.cons_append, List.cons_append] at h
    injection h with h1 h2
    obtain ⟨h3, h4⟩ := app_eq (fun x hx => ha x (by simp [hx])) (fun x hx => hb x (by simp [hx])) hr hr' h2
    exact ⟨by rw [h1, h3], h4⟩
theorem num_eq {x y : Int} {r r' : List UInt8} (hr : Halts r) (hr' : Halts r') (h : Lib.itoa x ++ r = Lib.itoa y ++ r') : x = y ∧ r = r' := by
  obtain ⟨h1, h2⟩ := app_eq (itoa_bytes x) (itoa_bytes y) hr hr' h
  exact ⟨itoa_inj h1, h2⟩
theorem n32 : ¬ numB 32 := by unfold numB; decide
theorem n61 : ¬ numB 61 := by unfold numB; decide
theorem n112 : ¬ numB 112 := by unfold numB; decide
theorem itoa_head (x : Int) {c : UInt8} {t r : List UInt8} (hc : ¬ numB c) (h : c :: t = Lib.itoa x ++ r) : False := by
  cases he : Lib.itoa x with
  | nil => exact itoa_ne x he
  | cons d s =>
    rw [he, List.cons_append] at h
    injection h with h _
    exact hc (h ▸ itoa_bytes x d (by rw [he]; simp))
theorem gotT_cons (x : Int) (l : List Int) : gotT (x :: l) = 32 :: (Lib.itoa x ++ gotT l) := by simp [gotT]
theorem putsT_cons (p : DPut) (l : List DPut) : putsT (p :: l) = 32 :: (Lib.itoa p.1 ++ 61 :: (Lib.itoa p.2 ++ putsT l)) := by simp [putsT]
theorem halts_got (l : List Int) (t : List UInt8) : Halts (gotT l ++ 32 :: t) := by
  cases l with
  | nil => exact halts_cons n32
  | cons x l => rw [gotT_cons, List.cons_append]; exact halts_cons n32
theorem halts_puts (l : List DPut) : Halts (putsT l) := by
  cases l with
  | nil => exact halts_nil
  | cons x l => rw [putsT_cons]; exact halts_cons n32
theorem gots_eq : ∀ {l l' : List Int} {t t' : List UInt8}, gotT l ++ 32 :: 112 :: t = gotT l' ++ 32 :: 112 :: t' → l = l' ∧ t = t'
  | [], [], t, t', h => by
    have h : 32 :: 112 :: t = 32 :: 112 :: t' := h
    injection h with _ h
    injection h with _ h
    exact ⟨rfl, h⟩
  | [], y :: l', t, t', h => by
    rw [gotT_cons] at h
    have h : 32 :: 112 :: t = 32 :: ((Lib.itoa y ++ gotT l') ++ 32 :: 112 :: t') := h
    injection h with _ h
    rw [List.append_assoc] at h
    exact (itoa_head y n112 h).elim
  | x :: l, [], t, t', h => by
    rw [gotT_cons] at h
    have h : 32 :: ((Lib.itoa x ++ gotT l) ++ 32 :: 112 :: t) = 32 :: 112 :: t' := h
    injection h with _ h
    rw [List.append_assoc] at h
    exact (itoa_head x n112 h.symm).elim
  | x :: l, y :: l', t, t', h => by
    rw [gotT_cons, gotT_cons, List.cons_append, List.cons_append] at h
    injection h with _ h
    rw [List.append_assoc, List.append_assoc] at h
    obtain ⟨h1, h2⟩ := num_eq (halts_got _ _) (halts_got _ _) h
    obtain ⟨h3, h4⟩ := gots_eq h2
    exact ⟨by rw [h1, h3], h4⟩
theorem puts_eq : ∀ {l l' : List DPut}, putsT l = putsT l' → l = l'
  | [], [], _ => rfl
  | [], y :: l', h => by rw [putsT_cons] at h; cases h
  | x :: l, [], h => by rw [putsT_cons] at h; cases h
  | x :: l, y :: l', h => by
    rw [putsT_cons, putsT_cons] at h
    injection h with _ h
    obtain ⟨h1, h2⟩ := num_eq (halts_cons n61) (halts_cons n61) h
    injection h2 with _ h2
    obtain ⟨h3, h4⟩ := num_eq (halts_puts _) (halts_puts _) h2
    rw [puts_eq h4, show x = y from Prod.ext h1 h3]
theorem ctext_inj {c d : DCommit} (h : ctext c = ctext d) : c = d := by
  obtain ⟨c1, c2, c3, c4, c5, c6⟩ := c
  obtain ⟨d1, d2, d3, d4, d5, d6⟩ := d
  simp only [ctext, chead, List.append_assoc, List.cons_append, List.nil_append] at h
  obtain ⟨e3, h⟩ := num_eq (halts_cons n32) (halts_cons n32) h
  injection h with _ h
  injection h with _ h
  obtain ⟨e1, h⟩ := num_eq (halts_cons n32) (halts_cons n32) h
  injection h with _ h
  injection h with _ h
  obtain ⟨e2, h⟩ := num_eq (halts_cons n32) (halts_cons n32) h
  injection h with _ h
  injection h with _ h
  obtain ⟨e4, h⟩ := num_eq (halts_cons n32) (halts_cons n32) h
  injection h with _ h
  injection h with _ h
  injection h with _ h
  injection h with _ h
  obtain ⟨e5, h⟩ := gots_eq h
  injection h with _ h
  injection h with _ h
  have e6 := puts_eq h
  subst e1 e2 e3 e4 e5 e6
  rfl
end Go.Proofs.Ytmphiomalhjciaa
