/- The parts of a text: joined again they are the text; no part holds the byte; and a text is so joined in one way only. -/
import Derived.Test.YtilgfcbjonalaaaDoorCut
import Derived.Test.YtilgfcbjonalaaaDoorFold
import Derived.Lib.Join
import Derived.Lib.IndexMore
namespace Go.Proofs.YtilgfcbjonalaaaDoor
open Go.RowKit

theorem join_on (xs : List (List UInt8)) (x sep : List UInt8) (h : xs ≠ []) : Lib.join (xs ++ [x]) sep = Lib.join xs sep ++ sep ++ x := by
  obtain ⟨a, r, rfl⟩ := List.exists_cons_of_ne_nil h
  rw [List.cons_append, Lib.join_cons, Lib.join_cons]
  simp [Lib.joinTail]
theorem join_one (x sep : List UInt8) : Lib.join [x] sep = x := by rw [Lib.join_cons]; simp [Lib.joinTail]
theorem join_last (xs : List (List UInt8)) (a b sep : List UInt8) : Lib.join (xs ++ [a ++ b]) sep = Lib.join (xs ++ [a]) sep ++ b := by
  cases xs with
  | nil => rw [List.nil_append, List.nil_append, join_one, join_one]
  | cons y r => rw [join_on _ _ _ (by simp), join_on _ _ _ (by simp)]; simp
theorem join_two (p : List UInt8) (r : List (List UInt8)) (sep : List UInt8) (h : r ≠ []) : Lib.join (p :: r) sep = p ++ sep ++ Lib.join r sep := by
  obtain ⟨a, r', rfl⟩ := List.exists_cons_of_ne_nil h
  rw [Lib.join_cons, Lib.join_cons]
  simp [Lib.joinTail]

/-- no byte c -/
def Free (c : Nat) (l : List UInt8) : Prop := ∀ x ∈ l, ¬ x.toNat = c

theorem free_cut {c : UInt8} : ∀ {p q a b : List UInt8}, p ++ c :: a = q ++ c :: b → Free c.toNat p → Free c.toNat q → p = q ∧ a = b
  | [], [], a, b, h, _, _ => ⟨rfl, by simpa using h⟩
  | [], y :: q, a, b, h, _, hq => by
    simp at h
    exact absurd (by rw [h.1]) (hq y (by simp))
  | x :: p, [], a, b, h, hp, _ => by
    simp at h
    exact absurd (by rw [h.1]) (hp x (by simp))
  | x :: p, y :: q, a, b, h, hp, hq => by
    simp only [List.cons_append, List.cons.injEq] at h
    obtain ⟨h1, h2⟩ := free_cut h.2 (fun z hz => hp z (by simp [hz])) (fun z hz => hq z (by simp [hz]))
    exact ⟨by rw [h.1, h1], h2⟩

theorem join_free {c : UInt8} : ∀ {P Q : List (List UInt8)}, P ≠ [] → Q ≠ [] → (∀ p ∈ P, Free c.toNat p) → (∀ q ∈ Q, Free c.toNat q) → Lib.join P [c] = Lib.join Q [c] → P = Q
  | [], _, h, _, _, _, _ => absurd rfl h
  | _, [], _, h, _, _, _ => absurd rfl h
  | [p], [q], _, _, _, _, h => by rw [join_one, join_one] at h; rw [h]
  | [p], q :: q' :: Q, _, _, hp, _, h => by
    rw [join_one, join_two _ _ _ (by simp)] at h
    exact absurd rfl (hp p (by simp) c (by rw [h]; simp))
  | p :: p' :: P, [q], _, _, _, hq, h => by
    rw [join_one, join_two _ _ _ (by simp)] at h
    exact absurd rfl (hq q (by simp) c (by rw [← h]; simp))
  | p :: p' :: P, q :: q' :: Q, _, _, hp, hq, h => by
    rw [join_two p (p' :: P) _ (by simp), join_two q (q' :: Q) _ (by simp)] at h
    obtain ⟨h1, h2⟩ := free_cut (p := p) (q := q) (a := Lib.join (p' :: P) [c]) (b := Lib.join (q' :: Q) [c]) (by rw [List.append_assoc, List.append_assoc] at h; exact h) (hp p (by simp)) (hq q (by simp))
    have := join_free (P := p' :: P) (Q := q' :: Q) (by simp) (by simp) (fun z hz => hp z (by simp [hz])) (fun z hz => hq z (by simp [hz])) h2
    rw [h1, this]

/-- the bytes -/
def bl (s : ByteArray) : List UInt8 := s.data.toList
theorem bl_extract (s : ByteArray) (a b : Nat) : bl (s.extract a b) = ((bl s).drop a).take (b - a) := Lib.extract_data s a b
theorem bl_len (s : ByteArray) : (bl s).length = s.size := by unfold bl; rw [Array.length_toList]; rfl
theorem bl_get (s : ByteArray) (k : Nat) (h : k < s.size) : (bl s)[k]? = some (s.get! k) := by
  have h0 := get_at s k h
  rw [Nat.add_zero] at h0
  rw [h0]
  unfold bl
  rw [Array.getElem?_toList]
  exact Array.getElem?_eq_getElem (xs := s.data) h

theorem take_on (s : ByteArray) (k : Nat) (h : k < s.size) : (bl s).take (k + 1) = (bl s).take k ++ [s.get! k] := by
  rw [List.take_add_one, bl_get s k h]
  rfl

/-- behind k bytes -/
theorem cutTo_meets (s : ByteArray) (c : UInt8) : ∀ k, k ≤ s.size →
    (Lib.join ((cutTo s c.toNat k).1.map bl ++ [((bl s).take k).drop (cutTo s c.toNat k).2]) [c] = (bl s).take k ∧
    (∀ p ∈ (cutTo s c.toNat k).1.map bl, Free c.toNat p) ∧ Free c.toNat (((bl s).take k).drop (cutTo s c.toNat k).2))
  | 0, _ => ⟨by simp [cutTo, join_one], by simp [cutTo], by simp [Free]⟩
  | k + 1, hk => by
    obtain ⟨h1, h2, h3⟩ := cutTo_meets s c k (by omega)
    have hle := cutTo_le s c.toNat k
    have hlen : ((bl s).take k).length = k := by rw [List.length_take, bl_len]; omega
    have hx : bl (s.extract (cutTo s c.toNat k).2 k) = ((bl s).take k).drop (cutTo s c.toNat k).2 := by
      rw [bl_extract, List.drop_take]
    by_cases hc : (s.get! k).toNat = c.toNat
    · rw [cutTo_yes hc]
      have hcc : s.get! k = c := UInt8.toNat_inj.1 hc
      have e0 : ((bl s).take (k + 1)).drop (k + 1) = [] := List.drop_eq_nil_of_le (by rw [List.length_take]; omega)
      refine ⟨?_, ?_, ?_⟩
      · show Lib.join (((cutTo s c.toNat k).1 ++ [s.extract (cutTo s c.toNat k).2 k]).map bl ++ [((bl s).take (k + 1)).drop (k + 1)]) [c] = _
        rw [e0, List.map_append, List.map_cons, List.map_nil, hx, join_on _ _ _ (by simp), h1, take_on s k (by omega), hcc]
        simp
      · intro p hp
        rw [List.map_append] at hp
        rcases List.mem_append.1 hp with hp | hp
        · exact h2 p hp
        · rw [List.map_cons, List.map_nil, hx] at hp
          rw [List.mem_singleton.1 hp]
          exact h3
      · show Free c.toNat (((bl s).take (k + 1)).drop (k + 1))
        rw [e0]
        intro x hx; cases hx
    · rw [cutTo_no hc]
      have e0 : ((bl s).take (k + 1)).drop (cutTo s c.toNat k).2 = ((bl s).take k).drop (cutTo s c.toNat k).2 ++ [s.get! k] := by
        rw [take_on s k (by omega), List.drop_append_of_le_length (by omega)]
      refine ⟨?_, h2, ?_⟩
      · rw [e0, join_last, h1, take_on s k (by omega)]
      · rw [e0]
        intro x hx
        rcases List.mem_append.1 hx with hx | hx
        · exact h3 x hx
        · rw [List.mem_singleton.1 hx]
          exact hc

theorem parts_bl (s : ByteArray) (c : UInt8) : (parts s c.toNat).map bl = (cutTo s c.toNat s.size).1.map bl ++ [((bl s).take s.size).drop (cutTo s c.toNat s.size).2] := by
  unfold parts
  rw [List.map_append, List.map_cons, List.map_nil, bl_extract, List.drop_take]
theorem take_all (s : ByteArray) : (bl s).take s.size = bl s := List.take_of_length_le (by rw [bl_len]; exact Nat.le_refl _)
theorem parts_join (s : ByteArray) (c : UInt8) : Lib.join ((parts s c.toNat).map bl) [c] = bl s := by
  rw [parts_bl, (cutTo_meets s c s.size (Nat.le_refl _)).1, take_all]
theorem parts_free (s : ByteArray) (c : UInt8) : ∀ p ∈ (parts s c.toNat).map bl, Free c.toNat p := by
  rw [parts_bl]
  intro p hp
  rcases List.mem_append.1 hp with hp | hp
  · exact (cutTo_meets s c s.size (Nat.le_refl _)).2.1 p hp
  · rw [List.mem_singleton.1 hp]
    exact (cutTo_meets s c s.size (Nat.le_refl _)).2.2
theorem parts_ne (s : ByteArray) (c : UInt8) : (parts s c.toNat).map bl ≠ [] := by rw [parts_bl]; simp
/-- the one way -/
theorem parts_are {s : ByteArray} {c : UInt8} {P : List (List UInt8)} (hP : P ≠ []) (hf : ∀ p ∈ P, Free c.toNat p) (h : bl s = Lib.join P [c]) : (parts s c.toNat).map bl = P :=
  join_free (parts_ne s c) hP (parts_free s c) hf (by rw [parts_join, h])

/-- strings.Cut at one byte -/
theorem cut_found {l p q : List UInt8} {c : UInt8} (hp : Free c.toNat p) (h : l = p ++ c :: q) : Lib.cut l [c] = (p, q, true) := by
  subst h
  have hi : Lib.index (p ++ c :: q) [c] = (p.length : Int) := by
    refine Lib.index_first (by simp) (by simp [Lib.occAt]) fun j hj => ?_
    unfold Lib.occAt
    have hd : p.drop j = p[j] :: p.drop (j + 1) := List.drop_eq_getElem_cons hj
    rw [List.drop_append_of_le_length (by omega), hd, List.cons_append]
    have hne : ¬ p[j].toNat = c.toNat := hp _ (List.getElem_mem hj)
    have : (c == p[j]) = false := beq_eq_false_iff_ne.2 fun e => hne (by rw [← e])
    show ((c == p[j]) && _) = false
    rw [this]
    rfl
  unfold Lib.cut
  rw [if_pos (by rw [hi]; omega), hi]
  simp
theorem first_at {c : UInt8} : ∀ {l : List UInt8}, c ∈ l → ∃ p q, l = p ++ c :: q ∧ Free c.toNat p
  | [], h => by cases h
  | x :: r, h => by
    by_cases hx : x = c
    · exact ⟨[], r, by rw [hx]; rfl, by intro z hz; cases hz⟩
    · obtain ⟨p, q, he, hf⟩ := first_at (l := r) (by simpa [Ne.symm hx] using h)
      refine ⟨x :: p, q, by rw [he]; rfl, fun z hz => ?_⟩
      rcases List.mem_cons.1 hz with rfl | hz
      · exact fun e => hx (UInt8.toNat_inj.1 e)
      · exact hf z hz
theorem cut_spec (l : List UInt8) (c : UInt8) : (Free c.toNat l ∧ Lib.cut l [c] = (l, [], false)) ∨ (∃ p q, Free c.toNat p ∧ l = p ++ c :: q ∧ Lib.cut l [c] = (p, q, true)) := by
  by_cases h : c ∈ l
  · right
    obtain ⟨p, q, he, hn⟩ := first_at h
    exact ⟨p, q, hn, he, cut_found hn he⟩
  · left
    have hf : Free c.toNat l := fun x hx e => h (by rw [← UInt8.toNat_inj.1 e]; exact hx)
    refine ⟨hf, ?_⟩
    have hi : Lib.index l [c] = -1 := by
      rcases Lib.index_spec l [c] with ⟨h1, _⟩ | ⟨i, h1, h2, h3, _⟩
      · exact h1
      · exfalso
        unfold Lib.occAt at h3
        have : c ∈ l.drop i := by
          cases hd : l.drop i with
          | nil => rw [hd] at h3; simp [List.isPrefixOf] at h3
          | cons y r =>
            rw [hd] at h3
            simp [List.isPrefixOf] at h3
            rw [h3]; simp
        exact h (List.mem_of_mem_drop this)
    unfold Lib.cut
    rw [if_neg (by rw [hi]; decide)]

/-- digits hold no dot, no space, no star, no semicolon -/
theorem itoa_bytes (x : Int) : ∀ b ∈ Lib.itoa x, b.toNat = 45 ∨ (48 ≤ b.toNat ∧ b.toNat ≤ 57) := by
  intro b hb
  by_cases h : 0 ≤ x
  · obtain ⟨n, rfl⟩ := Int.eq_ofNat_of_zero_le h
    rw [Lib.itoa_nonneg] at hb
    exact .inr (dec_digit _ b hb)
  · obtain ⟨n, rfl⟩ : ∃ n : Nat, x = -(n : Int) := ⟨x.natAbs, by omega⟩
    rw [Lib.itoa_neg n (by omega)] at hb
    rcases List.mem_cons.1 hb with rfl | hb
    · exact .inl rfl
    · exact .inr (dec_digit _ b hb)
theorem itoa_free (x : Int) (c : Nat) (h1 : c ≠ 45) (h2 : c < 48 ∨ 57 < c) : Free c (Lib.itoa x) := by
  intro b hb e
  have := itoa_bytes x b hb
  omega

theorem itoa_ne (x : Int) : Lib.itoa x ≠ [] := by
  by_cases h : 0 ≤ x
  · obtain ⟨n, rfl⟩ := Int.eq_ofNat_of_zero_le h
    rw [Lib.itoa_nonneg]
    intro e
    have := dec_len (n + 1) n (by omega) (Nat.lt_of_lt_of_le (Nat.lt_pow_self (by decide : 1 < 10)) (Nat.pow_le_pow_right (by decide) (by omega)))
    rw [e] at this
    exact absurd this.1 (by decide)
  · obtain ⟨n, rfl⟩ : ∃ n : Nat, x = -(n : Int) := ⟨x.natAbs, by omega⟩
    rw [Lib.itoa_neg n (by omega)]
    simp

theorem dec_first (u : Nat) : ∃ c r, Lib.decDigits u = c :: r ∧ ¬ c = 45 := by
  cases h : Lib.decDigits u with
  | nil => exact absurd (by rw [Lib.itoa_nonneg]; exact h) (itoa_ne (u : Int))
  | cons c r =>
    refine ⟨c, r, rfl, fun e => ?_⟩
    have := (dec_digit u c (by rw [h]; simp)).1
    rw [e] at this
    exact absurd this (by decide)
theorem itoa_inj {a b : Int} (h : Lib.itoa a = Lib.itoa b) : a = b := by
  by_cases ha : 0 ≤ a
  · obtain ⟨m, rfl⟩ := Int.eq_ofNat_of_zero_le ha
    by_cases hb : 0 ≤ b
    · obtain ⟨n, rfl⟩ := Int.eq_ofNat_of_zero_le hb
      rw [Lib.itoa_nonneg, Lib.itoa_nonneg] at h
      have := congrArg worth h
      rw [worth_dec, worth_dec] at this
      rw [this]
    · obtain ⟨n, rfl⟩ : ∃ n : Nat, b = -(n : Int) := ⟨b.natAbs, by omega⟩
      rw [Lib.itoa_nonneg, Lib.itoa_neg n (by omega)] at h
      obtain ⟨c, r, e, hc⟩ := dec_first m
      rw [e] at h
      exact absurd (List.cons.inj h).1 hc
  · obtain ⟨m, rfl⟩ : ∃ m : Nat, a = -(m : Int) := ⟨a.natAbs, by omega⟩
    by_cases hb : 0 ≤ b
    · obtain ⟨n, rfl⟩ := Int.eq_ofNat_of_zero_le hb
      rw [Lib.itoa_nonneg, Lib.itoa_neg m (by omega)] at h
      obtain ⟨c, r, e, hc⟩ := dec_first n
      rw [e] at h
      exact absurd (List.cons.inj h).1.symm hc
    · obtain ⟨n, rfl⟩ : ∃ n : Nat, b = -(n : Int) := ⟨b.natAbs, by omega⟩
      rw [Lib.itoa_neg m (by omega), Lib.itoa_neg n (by omega)] at h
      have := congrArg worth (List.cons.inj h).2
      rw [worth_dec, worth_dec] at this
      rw [this]
end Go.Proofs.YtilgfcbjonalaaaDoor
