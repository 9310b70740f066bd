/- ParseWord: the program's and the model's. -/
import Derived.Test.YtilgfcbjonalaaaDoorWText
import Derived.Test.YtilgfcbjonalaaaDoorPiece
import Derived.Test.YtilgfcbjonalaaaDoorPNum
namespace Go.Proofs.YtilgfcbjonalaaaDoor
open Go.RowKit

/-- the text of a valid word -/
def wordIs (s : ByteArray) (a q : Int) (h : Bool) : Prop := wordOk a q = true ∧ bl s = wordText a q h
/-- what ParseWord answers -/
def WordOut (s : ByteArray) (w : World) (e : Ending) (w' : World) : Prop :=
  ((∃ a q h, wordIs s a q h ∧ e = .returned (.tuple #[.agg #[.int .i64 a, .int .i64 q, .bool h], .bool true])) ∨ ((∀ a q h, ¬ wordIs s a q h) ∧ e = .returned (.tuple #[.agg #[.int .i64 0, .int .i64 0, .bool false], .bool false]))) ∧ Below w.heap.size w w'

theorem suffix_cases (l : List UInt8) (c : UInt8) : (Lib.hasSuffix l [c] = true ∧ l = Lib.trimSuffix l [c] ++ [c]) ∨ (Lib.hasSuffix l [c] = false ∧ Lib.trimSuffix l [c] = l ∧ ∀ t, l ≠ t ++ [c]) := by
  cases h : Lib.hasSuffix l [c] with
  | true =>
    left
    refine ⟨rfl, ?_⟩
    obtain ⟨t, ht⟩ := List.isSuffixOf_iff_suffix.1 h
    unfold Lib.trimSuffix
    rw [h, ← ht]
    simp
  | false =>
    right
    refine ⟨rfl, by unfold Lib.trimSuffix; rw [h]; rfl, fun t ht => ?_⟩
    have : Lib.hasSuffix l [c] = true := List.isSuffixOf_iff_suffix.2 ⟨t, ht.symm⟩
    rw [h] at this
    cases this
theorem suffix_yes (t : List UInt8) (c : UInt8) : Lib.hasSuffix (t ++ [c]) [c] = true ∧ Lib.trimSuffix (t ++ [c]) [c] = t := by
  rcases suffix_cases (t ++ [c]) c with ⟨h1, h2⟩ | ⟨_, _, h3⟩
  · exact ⟨h1, (List.append_cancel_right h2).symm⟩
  · exact absurd rfl (h3 t)
theorem suffix_no {l : List UInt8} {c : UInt8} (h : ∀ t, l ≠ t ++ [c]) : Lib.hasSuffix l [c] = false ∧ Lib.trimSuffix l [c] = l := by
  rcases suffix_cases l c with ⟨_, h2⟩ | ⟨h1, h2, _⟩
  · exact absurd h2 (h _)
  · exact ⟨h1, h2⟩

theorem core_free (a q : Int) : ∀ b ∈ Lib.itoa a ++ [46] ++ Lib.itoa q, ¬ b = 42 := by
  intro b hb e
  subst e
  rcases List.mem_append.1 hb with hb | hb
  · rcases List.mem_append.1 hb with hb | hb
    · rcases itoa_bytes a _ hb with h | h
      · exact absurd h (by decide)
      · exact absurd h.1 (by decide)
    · exact absurd (List.mem_singleton.1 hb) (by decide)
  · rcases itoa_bytes q _ hb with h | h
    · exact absurd h (by decide)
    · exact absurd h.1 (by decide)

/-- a word's text by what stands ahead of the star -/
theorem wordIs_iff (s : ByteArray) (a q : Int) (h : Bool) : wordIs s a q h ↔ (wordOk a q = true ∧ h = Lib.hasSuffix (bl s) [42] ∧ Lib.trimSuffix (bl s) [42] = Lib.itoa a ++ [46] ++ Lib.itoa q) := by
  unfold wordIs wordText
  constructor
  · rintro ⟨h0, h1⟩
    refine ⟨h0, ?_⟩
    cases h
    · rw [if_neg (by decide), List.append_nil] at h1
      have hn : ∀ t, bl s ≠ t ++ [42] := by
        intro t ht
        exact core_free a q 42 (by rw [← h1, ht]; simp) rfl
      obtain ⟨e1, e2⟩ := suffix_no hn
      exact ⟨e1.symm, by rw [e2, h1]⟩
    · rw [if_pos rfl] at h1
      obtain ⟨e1, e2⟩ := suffix_yes (Lib.itoa a ++ [46] ++ Lib.itoa q) 42
      rw [h1, e1, e2]
      exact ⟨rfl, rfl⟩
  · rintro ⟨h0, h1, h2⟩
    refine ⟨h0, ?_⟩
    rcases suffix_cases (bl s) 42 with ⟨e1, e2⟩ | ⟨e1, e2, _⟩
    · rw [h1, e1, if_pos rfl, ← h2]
      exact e2
    · rw [h1, e1, if_neg (by decide), List.append_nil, ← h2, e2]

/-- what stands ahead of the star, cut at the first dot -/
theorem core_cut {V : List UInt8} {a q : Int} (h : V = Lib.itoa a ++ [46] ++ Lib.itoa q) : Lib.cut V [46] = (Lib.itoa a, Lib.itoa q, true) :=
  cut_found (itoa_free a 46 (by decide) (by decide)) (by rw [h]; simp)
theorem cut_core {V : List UInt8} {a q : Int} (h1 : (Lib.cut V [46]).1 = Lib.itoa a) (h2 : (Lib.cut V [46]).2.1 = Lib.itoa q) : V = Lib.itoa a ++ [46] ++ Lib.itoa q := by
  rcases cut_spec V 46 with ⟨_, h⟩ | ⟨x, y, _, h, he⟩
  · rw [h] at h2
    exact absurd h2.symm (itoa_ne q)
  · rw [he] at h1 h2
    rw [h, ← h1, ← h2]
    simp
theorem cut_len (V : List UInt8) : (Lib.cut V [46]).1.length ≤ V.length ∧ (Lib.cut V [46]).2.1.length ≤ V.length := by
  rcases cut_spec V 46 with ⟨_, h⟩ | ⟨x, y, _, h, he⟩
  · rw [h]; simp
  · rw [he, h]
    simp
    omega
theorem trim_len (l : List UInt8) : (Lib.trimSuffix l [42]).length ≤ l.length := by
  unfold Lib.trimSuffix
  split
  · rw [List.length_take]; omega
  · exact Nat.le_refl _

/-- some integer lies in the library's MaxLen -/
def MaxL (w : World) : Prop := ∃ m : Int, w.cell? ⟨2, 0, none⟩ = some (.int .i64 m)
theorem MaxL.below {w w' : World} (h : MaxL w) (hb : Below w.heap.size w w') : MaxL w' := by
  obtain ⟨m, hm⟩ := h
  exact ⟨m, (hb.cell (p := ⟨2, 0, none⟩) (World.block_lt_of_cell? _ _ hm)).trans hm⟩

theorem strOf_bl (l : List UInt8) : bl ⟨l.toArray⟩ = l := by simp [bl]
theorem size_of (l : List UInt8) : (⟨l.toArray⟩ : ByteArray).size = l.length := by rw [← bl_len, strOf_bl]

/-- a zero word lies in block B -/
def Z3 (w : World) (B : Nat) : Prop := (w.cell? ⟨B, 0, none⟩ = some (.int .i64 0) ∧ w.cell? ⟨B, 1, none⟩ = some (.int .i64 0) ∧ w.cell? ⟨B, 2, none⟩ = some (.bool false)) ∧
  (w.frozen? ⟨B, 0, none⟩ = false ∧ w.frozen? ⟨B, 1, none⟩ = false ∧ w.frozen? ⟨B, 2, none⟩ = false) ∧ B < w.heap.size
theorem Z3.made (w : World) (t : TypeId) : Z3 (w.alloc (.cells #[.int .i64 0, .int .i64 0, .bool false] t)) w.heap.size := by
  refine ⟨⟨?_, ?_, ?_⟩, ⟨?_, ?_, ?_⟩, ?_⟩ <;> first | go_simp | skip
  all_goals simp
theorem Z3.drewN {w : World} {B : Nat} (h : Z3 w B) (n : Nat) : Z3 (w.drewN n) B := h
theorem Z3.below {w w' : World} {B : Nat} (k : Z3 w B) (hb : Below w.heap.size w w') : Z3 w' B := by
  obtain ⟨⟨k1, k2, k3⟩, ⟨k4, k5, k6⟩, k7⟩ := k
  obtain ⟨hc, hf⟩ := wcell hb
  exact ⟨⟨(hc _ _ k7).trans k1, (hc _ _ k7).trans k2, (hc _ _ k7).trans k3⟩, ⟨(hf _ _ k7).trans k4, (hf _ _ k7).trans k5, (hf _ _ k7).trans k6⟩, Nat.lt_of_lt_of_le k7 hb.size⟩

theorem Z3.alloc {w : World} {B : Nat} (k : Z3 w B) (o : Obj) : Z3 (w.alloc o) B := k.below ((Below.refl _ _).alloc (Nat.le_refl _) _)

/-- the answer where both numbers are read -/
theorem word_yes {s : ByteArray} {V : List UInt8} {H : Bool} {X Y : ByteArray} (HV : Lib.trimSuffix (bl s) [42] = V) (HH : Lib.hasSuffix (bl s) [42] = H)
    (HX : bl X = (Lib.cut V [46]).1) (HY : bl Y = (Lib.cut V [46]).2.1) {a q : Int} (ha : numIs X a) (hq : numIs Y q) (ho : wordOk a q = true) : wordIs s a q H :=
  (wordIs_iff s a q H).2 ⟨ho, HH.symm, by rw [HV]; exact cut_core (by rw [← HX]; exact ha.1) (by rw [← HY]; exact hq.1)⟩
theorem word_back {s : ByteArray} {V : List UInt8} {X Y : ByteArray} (HV : Lib.trimSuffix (bl s) [42] = V)
    (HX : bl X = (Lib.cut V [46]).1) (HY : bl Y = (Lib.cut V [46]).2.1) {a q : Int} {h : Bool} (hw : wordIs s a q h) : wordOk a q = true ∧ numIs X a ∧ numIs Y q := by
  obtain ⟨h0, _, h2⟩ := (wordIs_iff s a q h).1 hw
  rw [HV] at h2
  have hc := core_cut h2
  obtain ⟨⟨a1, a2⟩, a3, a4⟩ := wordOk_iff.1 h0
  refine ⟨h0, ⟨?_, by omega, by omega⟩, ⟨?_, by omega, by omega⟩⟩
  · show bl X = _; rw [HX, hc]
  · show bl Y = _; rw [HY, hc]

set_option maxHeartbeats 1600000 in
set_option maxRecDepth 100000 in
theorem implParseWord_any (s : ByteArray) (hs : s.size ≤ 1048576) (w : World) (ht : Tab w) (hM : MaxL w) :
    Calls Tryd.prog 26 #[.string s] w (WordOut s w) := by
  have hV := trim_len (bl s)
  rw [bl_len] at hV
  have HT := Lib.hid ht
  clear ht
  obtain ⟨m, hm⟩ := hM.below ((Below.refl w.heap.size w).alloc (Nat.le_refl _) (.cells #[.int .i64 0, .int .i64 0, .bool false] 42))
  have HM := Lib.hid hm
  clear hm hM
  go_enter Tryd.func26, Tryd.ntmps26
  go_wp2_with fail
  refine (Tryd.strings_CutSuffix _ _ _ (by omega)).mono ?_; rintro e w1 ⟨rfl, rfl⟩
  rw [show (Lib.trimSuffix s.data.toList (⟨#[42]⟩ : ByteArray).data.toList) = Lib.trimSuffix (bl s) [42] from rfl, show Lib.hasSuffix s.data.toList (⟨#[42]⟩ : ByteArray).data.toList = Lib.hasSuffix (bl s) [42] from rfl]
  generalize hHH : Lib.hasSuffix (bl s) [42] = H
  generalize hVV : Lib.trimSuffix (bl s) [42] = V at hV ⊢
  have HH := Lib.hid hHH
  have HV := Lib.hid hVV
  clear hHH hVV
  obtain ⟨hx, hy⟩ := cut_len V
  go_wp2_with fail
  refine (Tryd.strings_Cut _ _ m _ (by rw [size_of]; omega) HM.out).mono ?_; rintro e w1 ⟨rfl, n, rfl⟩
  rw [show (⟨V.toArray⟩ : ByteArray).data.toList = V from by simp, show (⟨#[46]⟩ : ByteArray).data.toList = [46] from rfl]
  generalize hXX : (Lib.cut V [46]).1 = X0 at hx ⊢
  generalize hYY : (Lib.cut V [46]).2.1 = Y0 at hy ⊢
  generalize (Lib.cut V [46]).2.2 = F
  generalize hX : (⟨X0.toArray⟩ : ByteArray) = X
  generalize hY : (⟨Y0.toArray⟩ : ByteArray) = Y
  have hXs : X.size ≤ 1048576 := by rw [← hX, size_of]; omega
  have hYs : Y.size ≤ 1048576 := by rw [← hY, size_of]; omega
  have HX := Lib.hid (show bl X = (Lib.cut V [46]).1 by rw [← hX, strOf_bl, hXX])
  have HY := Lib.hid (show bl Y = (Lib.cut V [46]).2.1 by rw [← hY, strOf_bl, hYY])
  have hB0 := below_drewN ((Below.refl w.heap.size w).alloc (Nat.le_refl _) (.cells #[.int .i64 0, .int .i64 0, .bool false] 42)) n
  have HZ0 := Lib.hid ((Z3.made w 42).drewN n)
  have HT0 := Lib.hid (HT.out.below ((Below.refl w.heap.size w).alloc (Nat.le_refl _) (.cells #[.int .i64 0, .int .i64 0, .bool false] 42)))
  have HT1 := Lib.hid (HT0.out.below (below_drewN (Below.refl _ _) n))
  clear hXX hYY hX hY hx hy hV HM HT HT0
  generalize (w.alloc (.cells #[.int .i64 0, .int .i64 0, .bool false] 42)).drewN n = w2 at hB0 HZ0 HT1 ⊢
  go_wp2_with fail
  refine (parseNumber_any _ hXs _ HT1.out).mono ?_; rintro e w3 ⟨a, b1, rfl, ha1, ha2, hb3⟩
  have hz2 := HZ0.out.2.2
  have hB3 := hB0.trans (hb3.mono (Nat.le_of_lt hz2))
  have HZ3 := Lib.hid (HZ0.out.below hb3)
  have HT3 := Lib.hid (HT1.out.below hb3)
  have HA1 := Lib.hid ha1
  have HA2 := Lib.hid ha2
  clear ha1 ha2 hb3 hB0 HT1 HZ0 hz2
  go_wp2_with fail
  refine (parseNumber_any _ hYs _ HT3.out).mono ?_; rintro e w4 ⟨q, b2, rfl, hq1, hq2, hb4⟩
  have hz3 := HZ3.out.2.2
  have hB4 := hB3.trans (hb4.mono (Nat.le_of_lt hz3))
  have HZ4 := Lib.hid (HZ3.out.below hb4)
  have HQ1 := Lib.hid hq1
  have HQ2 := Lib.hid hq2
  clear hq1 hq2 hb4 hB3 HT3 HZ3 hz3
  cases b1
  · have HN := Lib.hid (show ∀ a q h, ¬ wordIs s a q h from fun a' q' h' hw => by
      have := (HA2.out a' (word_back HV.out HX.out HY.out hw).2.1).1
      cases this)
    obtain ⟨⟨z1, z2, z3⟩, ⟨f1, f2, f3⟩, zl⟩ := HZ4.out
    clear HZ4
    go_wp2
    exact bodyPost_ret (v := .tuple #[.agg #[.int .i64 0, .int .i64 0, .bool false], .bool false]) (by simp [results, Tryd.results26, go_sem, z1, z2, z3, zl]) rfl ⟨.inr ⟨HN.out, rfl⟩, (((hB4.setCell (by simp) _).setCell (by simp) _).setCell (by simp) _).alloc (by simp [World.setCell]; exact Nat.le_of_lt zl) _⟩
  cases b2
  · have HN := Lib.hid (show ∀ a q h, ¬ wordIs s a q h from fun a' q' h' hw => by
      have := (HQ2.out q' (word_back HV.out HX.out HY.out hw).2.2).1
      cases this)
    obtain ⟨⟨z1, z2, z3⟩, ⟨f1, f2, f3⟩, zl⟩ := HZ4.out
    clear HZ4
    go_wp2
    exact bodyPost_ret (v := .tuple #[.agg #[.int .i64 0, .int .i64 0, .bool false], .bool false]) (by simp [results, Tryd.results26, go_sem, z1, z2, z3, zl]) rfl ⟨.inr ⟨HN.out, rfl⟩, (((hB4.setCell (by simp) _).setCell (by simp) _).setCell (by simp) _).alloc (by simp [World.setCell]; exact Nat.le_of_lt zl) _⟩
  cases ho : wordOk a q
  · have HN := Lib.hid (show ∀ a q h, ¬ wordIs s a q h from fun a' q' h' hw => by
      obtain ⟨g0, g1, g2⟩ := word_back HV.out HX.out HY.out hw
      rw [(HA2.out a' g1).2, (HQ2.out q' g2).2, g0] at ho
      cases ho)
    go_wp2_with fail
    refine (implWordOk_any _ _ _ _).mono ?_; rintro o w5 ⟨rfl, hb5⟩; rw [ho]
    have HZ5 := (Z3.alloc HZ4.out (.cells #[.int .i64 a, .int .i64 q, .bool H] 42)).below hb5
    obtain ⟨⟨z1, z2, z3⟩, ⟨f1, f2, f3⟩, zl⟩ := HZ5
    have hB5 := (hB4.alloc (Nat.le_of_lt HZ4.out.2.2) _).trans (hb5.mono (by have := HZ4.out.2.2; simp; omega))
    obtain ⟨hc5, _⟩ := wcell hb5
    have y0 : w5.cell? ⟨w4.heap.size, 0, none⟩ = some (.int .i64 a) := by rw [hc5 _ _ (by simp)]; go_simp
    have y1 : w5.cell? ⟨w4.heap.size, 1, none⟩ = some (.int .i64 q) := by rw [hc5 _ _ (by simp)]; go_simp
    have y2 : w5.cell? ⟨w4.heap.size, 2, none⟩ = some (.bool H) := by rw [hc5 _ _ (by simp)]; go_simp
    clear hb5 hc5 ho hB4 HZ4
    go_wp2
    exact bodyPost_ret (v := .tuple #[.agg #[.int .i64 0, .int .i64 0, .bool false], .bool false]) (by simp [results, Tryd.results26, go_sem, z1, z2, z3]) rfl ⟨.inr ⟨HN.out, rfl⟩, ((hB5.setCell (by simp) _).setCell (by simp) _).setCell (by simp) _⟩
  · have HN := Lib.hid (word_yes HV.out HH.out HX.out HY.out (HA1.out rfl) (HQ1.out rfl) ho)
    go_wp2_with fail
    refine (implWordOk_any _ _ _ _).mono ?_; rintro o w5 ⟨rfl, hb5⟩; rw [ho]
    have HZ5 := (Z3.alloc HZ4.out (.cells #[.int .i64 a, .int .i64 q, .bool H] 42)).below hb5
    obtain ⟨⟨z1, z2, z3⟩, ⟨f1, f2, f3⟩, zl⟩ := HZ5
    have hB5 := (hB4.alloc (Nat.le_of_lt HZ4.out.2.2) _).trans (hb5.mono (by have := HZ4.out.2.2; simp; omega))
    obtain ⟨hc5, _⟩ := wcell hb5
    have y0 : w5.cell? ⟨w4.heap.size, 0, none⟩ = some (.int .i64 a) := by rw [hc5 _ _ (by simp)]; go_simp
    have y1 : w5.cell? ⟨w4.heap.size, 1, none⟩ = some (.int .i64 q) := by rw [hc5 _ _ (by simp)]; go_simp
    have y2 : w5.cell? ⟨w4.heap.size, 2, none⟩ = some (.bool H) := by rw [hc5 _ _ (by simp)]; go_simp
    clear hb5 hc5 ho hB4 HZ4
    go_wp2
    exact bodyPost_ret (v := .tuple #[.agg #[.int .i64 a, .int .i64 q, .bool H], .bool true]) (by simp [results, Tryd.results26, go_sem, z1, z2, z3]) rfl ⟨.inl ⟨a, q, H, HN.out, rfl⟩, ((hB5.setCell (by simp) _).setCell (by simp) _).setCell (by simp) _⟩

/-- a word's text is short -/
theorem wordIs_len {s : ByteArray} {a q : Int} {h : Bool} (hw : wordIs s a q h) : s.size ≤ 12 := by
  obtain ⟨h0, h1⟩ := hw
  obtain ⟨⟨a1, a2⟩, a3, a4⟩ := wordOk_iff.1 h0
  obtain ⟨m, rfl⟩ := Int.eq_ofNat_of_zero_le a1
  obtain ⟨n, rfl⟩ := Int.eq_ofNat_of_zero_le a3
  have l1 := (dec_len 4 m (by decide) (by omega)).2
  have l2 := (dec_len 5 n (by decide) (by omega)).2
  rw [← bl_len, h1]
  unfold wordText
  rw [Lib.itoa_nonneg, Lib.itoa_nonneg]
  cases h <;> simp <;> omega

theorem last_split (s : ByteArray) (h : 0 < s.size) : bl s = bl (s.extract 0 (s.size - 1)) ++ [s[s.size - 1]'(by omega)] := by
  have e1 := take_on s (s.size - 1) (by omega)
  rw [show s.size - 1 + 1 = s.size by omega, take_all] at e1
  have e2 := get_at s (s.size - 1) (by omega)
  rw [Nat.add_zero] at e2
  rw [bl_extract, List.drop_zero, Nat.sub_zero, ← e2]
  exact e1

/-- the model's body and flag are those of the last byte -/
theorem body_star {s : ByteArray} (h : 0 < s.size) (hl : (s[s.size - 1]'(by omega)).toNat = 42) : Lib.hasSuffix (bl s) [42] = true ∧ Lib.trimSuffix (bl s) [42] = bl (s.extract 0 (s.size - 1)) := by
  have e := last_split s h
  rw [show s[s.size - 1]'(by omega) = (42 : UInt8) from UInt8.toNat_inj.1 hl] at e
  rw [e]
  exact suffix_yes _ _
theorem body_plain {s : ByteArray} (hl : ∀ h : 0 < s.size, ¬ (s[s.size - 1]'(by omega)).toNat = 42) : Lib.hasSuffix (bl s) [42] = false ∧ Lib.trimSuffix (bl s) [42] = bl s := by
  refine suffix_no fun t ht => ?_
  have h : 0 < s.size := by rw [← bl_len, ht]; simp
  have e := last_split s h
  rw [ht] at e
  have e2 := (List.append_inj' e rfl).2
  simp at e2
  exact hl h (by rw [← e2]; rfl)

/-- two sides -/
theorem sides_two {D : ByteArray} {a q : Int} (h : bl D = Lib.itoa a ++ [46] ++ Lib.itoa q) : (parts D 46).map bl = [Lib.itoa a, Lib.itoa q] := by
  refine parts_are (c := 46) (by simp) (fun p hp => ?_) (by rw [h, join_two _ _ _ (by simp), join_one])
  simp at hp
  rcases hp with rfl | rfl
  · exact itoa_free _ 46 (by decide) (by decide)
  · exact itoa_free _ 46 (by decide) (by decide)
theorem sides_back {D X Y : ByteArray} {a q : Int} (h : parts D 46 = [X, Y]) (hx : bl X = Lib.itoa a) (hy : bl Y = Lib.itoa q) : bl D = Lib.itoa a ++ [46] ++ Lib.itoa q := by
  have := parts_join D 46
  rw [show parts D (46 : UInt8).toNat = [X, Y] from h] at this
  rw [← this, List.map_cons, List.map_cons, List.map_nil, join_two _ _ _ (by simp), join_one, hx, hy]

theorem specWord_no {s D : ByteArray} (HV : Lib.trimSuffix (bl s) [42] = bl D) (hn : ¬ (parts D 46).length = 2) : ∀ a q h, ¬ wordIs s a q h := by
  intro a q h hw
  obtain ⟨_, _, h2⟩ := (wordIs_iff s a q h).1 hw
  rw [HV] at h2
  have := congrArg List.length (sides_two h2)
  rw [List.length_map] at this
  exact hn this
theorem specWord_back {s D X Y : ByteArray} (HV : Lib.trimSuffix (bl s) [42] = bl D) (hp : parts D 46 = [X, Y]) {a q : Int} {h : Bool} (hw : wordIs s a q h) : wordOk a q = true ∧ numIs X a ∧ numIs Y q := by
  obtain ⟨h0, _, h2⟩ := (wordIs_iff s a q h).1 hw
  rw [HV] at h2
  have hc := sides_two h2
  rw [hp] at hc
  simp at hc
  obtain ⟨⟨a1, a2⟩, a3, a4⟩ := wordOk_iff.1 h0
  exact ⟨h0, ⟨hc.1, by omega, by omega⟩, ⟨hc.2, by omega, by omega⟩⟩
theorem specWord_yes {s D X Y : ByteArray} {H : Bool} (HV : Lib.trimSuffix (bl s) [42] = bl D) (HH : Lib.hasSuffix (bl s) [42] = H) (hp : parts D 46 = [X, Y]) {a q : Int} (ha : numIs X a) (hq : numIs Y q) (ho : wordOk a q = true) : wordIs s a q H :=
  (wordIs_iff s a q H).2 ⟨ho, HH.symm, by rw [HV]; exact sides_back hp ha.1 hq.1⟩

end Go.Proofs.YtilgfcbjonalaaaDoor
