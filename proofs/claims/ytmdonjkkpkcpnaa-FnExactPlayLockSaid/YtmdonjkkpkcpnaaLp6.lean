/- The laws' functions over lists of lists; marks of a lock and of a row beside it. -/
import Derived.Deep.RegionLaw
import Derived.Test.YtmdonjkkpkcpnaaLp3
namespace Go.Proofs.Ytmdonjkkpkcpnaa
open Go.RowKit

/-- the numbers in the first k lists -/
def totP (ops : OL) : Nat → Nat
  | 0 => 0
  | k + 1 => totP ops k + (opAt ops k).length
theorem totP_mono (ops : OL) {i j : Nat} (h : i ≤ j) : totP ops i ≤ totP ops j := by
  induction j with
  | zero => have : i = 0 := by omega
            subst this; exact Nat.le_refl _
  | succ j ih =>
    by_cases e : i = j + 1
    · subst e; exact Nat.le_refl _
    · have := ih (by omega)
      show totP ops i ≤ totP ops j + (opAt ops j).length
      omega
theorem totP_at (ops : OL) {k : Nat} (h : k < ops.length) : (opAt ops k).length ≤ totP ops ops.length := by
  have := totP_mono ops (show k + 1 ≤ ops.length by omega)
  have e : totP ops (k + 1) = totP ops k + (opAt ops k).length := rfl
  omega
def LenOk (ops : OL) : Prop := ops.length ≤ maxLen ∧ ∀ j, j < ops.length → (opAt ops j).length ≤ maxLen

theorem szIntS_any (A : Option Addr) (n cap : Nat) (left : Int) (w : World) (hn : n ≤ maxLen) (h0 : 0 ≤ left) (h1 : left ≤ 1048576) :
    Calls Try.prog 69 #[.slice A n cap, .int .i64 left] w fun e w' => e = .returned (.int .i64 (szOf left n)) ∧ w = w' := by
  unfold maxLen at hn
  by_cases hl : left < n
  · have h2 : left - (n : Int) < 0 := by omega
    go_enter Try.func69, Try.ntmps69
    go_wp2
    go_ret
    exact ⟨by unfold szOf; rw [if_pos (by omega)]; rfl, rfl⟩
  · have h2 : ¬ left - (n : Int) < 0 := by omega
    go_enter Try.func69, Try.ntmps69
    go_wp2
    go_ret
    exact ⟨by unfold szOf; rw [if_neg (by omega)]; rfl, rfl⟩

theorem szSS_yes (A : Option Addr) (c B : Nat) (ops : OL) (w : World) (hm : LenOk ops) (hs : ops.length + totP ops ops.length ≤ 1048576) (h : OpsAt w B A ops) :
    Calls Try.prog 35 #[.slice A ops.length c, .int .i64 1048576] w fun e w' => (∃ z : Int, e = .returned (.int .i64 z) ∧ 0 ≤ z) ∧ w = w' := by
  obtain ⟨hm1, hm2⟩ := hm
  unfold maxLen at hm1
  have f1 : ¬ ((1048576 : Int) - (ops.length : Int) < 0) := by omega
  go_enter Try.func35, Try.ntmps35
  go_wp2
  go_loop [1, 5] (fun s i => ∃ k : Nat, k ≤ ops.length ∧ i = .int .i64 k ∧ s = .int .i64 (1048576 - (ops.length : Int) - (totP ops k : Int))) (fun _ i => ops.length - (intOf i).toNat)
  case atStart => exact ⟨0, Nat.zero_le _, rfl, by simp [totP]⟩
  case round =>
    obtain ⟨k, hk, rfl, rfl⟩ := hrel
    have ht := totP_mono ops hk
    by_cases hkn : k < ops.length
    · obtain ⟨b, off, rfl, hB, hc⟩ := h (by omega)
      have hkz : (k : Int) < ops.length := by omega
      obtain ⟨O, co, d0, _⟩ := hc k hkn
      have ht2 := totP_mono ops (show k + 1 ≤ ops.length by omega)
      have e : totP ops (k + 1) = totP ops k + (opAt ops k).length := rfl
      have hl := hm2 k hkn
      have HE := Lib.hid (szOf_yes (left := 1048576 - (ops.length : Int) - (totP ops k : Int)) (n := (opAt ops k).length) (by omega))
      have HT := Lib.hid (show (1048576 - (ops.length : Int) - (totP ops k : Int)) - ((opAt ops k).length : Int) = 1048576 - (ops.length : Int) - (totP ops (k + 1) : Int) by rw [e]; omega)
      have hge : ¬ ((1048576 - (ops.length : Int) - (totP ops (k + 1) : Int)) < 0) := by omega
      have hle : totP ops k ≤ 1048576 := by omega
      clear hc e
      go_wp2_with fail
      refine (szIntS_any O _ co _ _ hl (by omega) (by omega)).mono ?_; rintro e w' ⟨rfl, rfl⟩
      rw [HE.out, HT.out]
      go_wp2
      exact ⟨⟨k + 1, by omega, by go_num, rfl⟩, by simp [intOf]; omega⟩
    · obtain rfl : k = ops.length := by omega
      go_wp2
      go_ret
      exact ⟨⟨_, rfl, by omega⟩, rfl⟩
/-- the lists read take too much -/
theorem szSS_no (A : Option Addr) (c B : Nat) (ops : OL) (w : World) (hm : LenOk ops) (hs : 1048576 < ops.length + totP ops ops.length) (h : OpsAt w B A ops) :
    Calls Try.prog 35 #[.slice A ops.length c, .int .i64 1048576] w fun e w' => e = .returned (.int .i64 (-1)) ∧ w = w' := by
  obtain ⟨hm1, hm2⟩ := hm
  unfold maxLen at hm1
  by_cases h1 : ops.length ≤ 1048576
  · have f1 : ¬ ((1048576 : Int) - (ops.length : Int) < 0) := by omega
    go_enter Try.func35, Try.ntmps35
    go_wp2
    go_loop [1, 5] (fun s i => ∃ k : Nat, k ≤ ops.length ∧ i = .int .i64 k ∧ ops.length + totP ops k ≤ 1048576 ∧ s = .int .i64 (1048576 - (ops.length : Int) - (totP ops k : Int))) (fun _ i => ops.length - (intOf i).toNat)
    case atStart => exact ⟨0, Nat.zero_le _, rfl, by simpa [totP] using h1, by simp [totP]⟩
    case round =>
      obtain ⟨k, hk, rfl, hkt, rfl⟩ := hrel
      by_cases hkn : k < ops.length
      · obtain ⟨b, off, rfl, hB, hc⟩ := h (by omega)
        have hkz : (k : Int) < ops.length := by omega
        obtain ⟨O, co, d0, _⟩ := hc k hkn
        have e : totP ops (k + 1) = totP ops k + (opAt ops k).length := rfl
        have hl := hm2 k hkn
        by_cases h2 : ops.length + totP ops (k + 1) ≤ 1048576
        · have HE := Lib.hid (szOf_yes (left := 1048576 - (ops.length : Int) - (totP ops k : Int)) (n := (opAt ops k).length) (by omega))
          have HT := Lib.hid (show (1048576 - (ops.length : Int) - (totP ops k : Int)) - ((opAt ops k).length : Int) = 1048576 - (ops.length : Int) - (totP ops (k + 1) : Int) by rw [e]; omega)
          have hge : ¬ ((1048576 - (ops.length : Int) - (totP ops (k + 1) : Int)) < 0) := by omega
          clear hc e
          go_wp2_with fail
          refine (szIntS_any O _ co _ _ hl (by omega) (by omega)).mono ?_; rintro e w' ⟨rfl, rfl⟩
          rw [HE.out, HT.out]
          go_wp2
          exact ⟨⟨k + 1, by omega, by go_num, h2, rfl⟩, by simp [intOf]; omega⟩
        · have HE := Lib.hid (szOf_no (left := 1048576 - (ops.length : Int) - (totP ops k : Int)) (n := (opAt ops k).length) (by omega))
          clear hc e
          go_wp2_with fail
          refine (szIntS_any O _ co _ _ hl (by omega) (by omega)).mono ?_; rintro e w' ⟨rfl, rfl⟩
          rw [HE.out]
          go_wp2
          go_ret
          exact ⟨rfl, rfl⟩
      · obtain rfl : k = ops.length := by omega
        omega
  · have f1 : ((1048576 : Int) - (ops.length : Int) < 0) := by omega
    go_enter Try.func35, Try.ntmps35
    go_wp2
    go_ret
    exact ⟨rfl, rfl⟩

theorem eqSS_same (A1 A2 : Option Addr) (c1 c2 B1 B2 : Nat) (ops : OL) (w : World) (hm : LenOk ops) (h1 : OpsAt w B1 A1 ops) (h2 : OpsAt w B2 A2 ops) (hB1 : B1 ≤ w.heap.size) (hB2 : B2 ≤ w.heap.size) :
    Calls Try.prog 38 #[.slice A1 ops.length c1, .slice A2 ops.length c2] w fun e w' => e = .returned (.bool true) ∧ Below w.heap.size w w' := by
  obtain ⟨hm1, hm2⟩ := hm
  unfold maxLen at hm1
  go_enter Try.func38, Try.ntmps38
  go_wp2
  go_loopw [5] (fun i wr => ∃ k : Nat, k ≤ ops.length ∧ i = .int .i64 k ∧ Below w.heap.size w wr) (fun i _ => ops.length - (intOf i).toNat)
  case atStart => exact ⟨0, Nat.zero_le _, rfl, Below.refl _ _⟩
  case round =>
    obtain ⟨k, hk, rfl, hb⟩ := hrel
    by_cases hkn : k < ops.length
    · obtain ⟨b, off, rfl, hB, hc⟩ := h1 (by omega)
      obtain ⟨b', off', rfl, hB', hc'⟩ := h2 (by omega)
      have hkz : (k : Int) < ops.length := by omega
      obtain ⟨O, co, d0, i0⟩ := hc k hkn
      obtain ⟨O', co', d0', i0'⟩ := hc' k hkn
      have d0 : wr.cell? ⟨b, off + k, none⟩ = some (.slice O (opAt ops k).length co) := (hb.cell (p := ⟨b, off + k, none⟩) (by show b < w.heap.size; omega)).trans d0
      have d0' : wr.cell? ⟨b', off' + k, none⟩ = some (.slice O' (opAt ops k).length co') := (hb.cell (p := ⟨b', off' + k, none⟩) (by show b' < w.heap.size; omega)).trans d0'
      have i0 := i0.below (hb.mono hB1) (Nat.le_refl _)
      have i0' := i0'.below (hb.mono hB2) (Nat.le_refl _)
      have hl := hm2 k hkn
      have hs := hb.size
      have hdr := Lib.hid (Below.refl wr.heap.size wr).drew
      have I0 := Lib.hid (i0.below (hdr.out.mono (Nat.le_trans hB1 hs)) (Nat.le_refl _))
      have I1 := Lib.hid (i0'.below (hdr.out.mono (Nat.le_trans hB2 hs)) (Nat.le_refl _))
      clear hc hc' h1 h2 i0 i0'
      go_wp2_with fail
      go_region_law (go_simp; go_at_call 37; refine (eqIntS_same O O' _ co co' _ _ (opF ops k) _ hl I0.out I1.out).mono ?_; rintro o w1 ⟨rfl, hb1⟩)
      all_goals
        have hb2 := hb.trans ((hdr.out.trans hb1).mono hs)
        clear hb1
        go_wp2
        exact ⟨⟨k + 1, by omega, by go_num, hb2⟩, by simp [intOf]; omega⟩
    · obtain rfl : k = ops.length := by omega
      go_wp2
      go_ret
      exact ⟨rfl, hb⟩

/-- rows of the call's own, each in a block of its own -/
def OpsOwn (w : World) (lo B : Nat) (A : Option Addr) (ops : OL) : Prop :=
  0 < ops.length → ∃ b, A = some ⟨b, 0, none⟩ ∧ lo ≤ b ∧ b < B ∧ ∃ g : Nat → Nat, (∀ j, j < ops.length → w.cell? ⟨b, j, none⟩ = some (.slice (some ⟨g j, 0, none⟩) (opAt ops j).length (opAt ops j).length) ∧ b < g j ∧ g j < B ∧ OwnI w (g j) (g j + 1) (some ⟨g j, 0, none⟩) (opAt ops j).length (opF ops j)) ∧ ∀ i j, i < j → j < ops.length → g i < g j
theorem OpsOwn.at_ {w : World} {lo B : Nat} {A : Option Addr} {ops : OL} (h : OpsOwn w lo B A ops) : OpsAt w B A ops := fun hn => by
  obtain ⟨b, e, h1, h2, g, hg, _⟩ := h hn
  refine ⟨b, 0, e, h2, fun j hj => ?_⟩
  obtain ⟨hc, h3, h4, ho⟩ := hg j hj
  exact ⟨_, _, by rw [Nat.zero_add]; exact hc, (ho.at_).below (Below.refl _ _) (by omega)⟩
theorem OpsOwn.below {w w' : World} {lo B B' : Nat} {A : Option Addr} {ops : OL} (h : OpsOwn w lo B A ops) (hb : Below B' w w') (hB : B ≤ B') : OpsOwn w' lo B A ops := fun hn => by
  obtain ⟨b, e, h1, h2, g, hg, hi⟩ := h hn
  refine ⟨b, e, h1, h2, g, fun j hj => ?_, hi⟩
  obtain ⟨hc, h3, h4, ho⟩ := hg j hj
  exact ⟨(hb.cell (p := ⟨b, j, none⟩) (show b < B' by omega)).trans hc, h3, h4, ho.below hb (by omega)⟩
theorem OpsOwn.more {w : World} {lo B lo' B' : Nat} {A : Option Addr} {ops : OL} (h : OpsOwn w lo B A ops) (hl : lo' ≤ lo) (hB : B ≤ B') : OpsOwn w lo' B' A ops := fun hn => by
  obtain ⟨b, e, h1, h2, g, hg, hi⟩ := h hn
  exact ⟨b, e, by omega, by omega, g, fun j hj => ⟨(hg j hj).1, (hg j hj).2.1, by have := (hg j hj).2.2.1; omega, (hg j hj).2.2.2⟩, hi⟩
end Go.Proofs.Ytmdonjkkpkcpnaa
