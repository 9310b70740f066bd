/- The laws' functions over tables: how much a table takes, whether two are the same. -/
import Derived.Deep.RegionLaw
import Derived.Test.YtomkfldimkpmdaaTa
import Derived.Test.YtomkfldimkpmdaaWBase
namespace Go.Proofs.Ytomkfldimkpmdaa
open Go.RowKit

theorem szLockG_yes (A A' : Option Addr) (n c n' c' : Nat) (left : Int) (w : World) (hn : n ≤ maxLen) (hn' : n' ≤ maxLen) (h0 : left ≤ 1048576) (h : (n : Int) + n' ≤ left) :
    Calls Try.prog 140 #[.agg #[.slice A n c, .slice A' n' c'], .int .i64 left] w fun e w' => e = .returned (.int .i64 (left - n - n')) ∧ Below w.heap.size w w' := by
  have E1 := Lib.hid (szOf_yes (left := left) (n := n) (by omega))
  have E2 := Lib.hid (szOf_yes (left := left - (n : Int)) (n := n') (by omega))
  have f1 : ¬ (left - (n : Int) < 0) := by omega
  have f2 : ¬ (left - (n : Int) - n' < 0) := by omega
  go_enter Try.func140, Try.ntmps140
  go_wp2_with fail
  refine (szHoldS_any _ _ _ _ _ hn (by omega) (by omega)).mono ?_; rintro e w1 ⟨rfl, rfl⟩
  rw [E1.out]
  go_wp2_with fail
  refine (szHoldS_any _ _ _ _ _ hn' (by omega) (by omega)).mono ?_; rintro e w1 ⟨rfl, rfl⟩
  rw [E2.out]
  go_wp2
  go_ret
  exact ⟨rfl, (Below.refl _ _).alloc (Nat.le_refl _) _⟩
theorem szLockG_no (A A' : Option Addr) (n c n' c' : Nat) (left : Int) (w : World) (hn : n ≤ maxLen) (hn' : n' ≤ maxLen) (h0 : left ≤ 1048576) (h1 : 0 ≤ left) (h : left < (n : Int) + n') :
    Calls Try.prog 140 #[.agg #[.slice A n c, .slice A' n' c'], .int .i64 left] w fun e w' => e = .returned (.int .i64 (-1)) ∧ Below w.heap.size w w' := by
  by_cases hl : (n : Int) ≤ left
  · have E1 := Lib.hid (szOf_yes (left := left) (n := n) (by omega))
    have E2 := Lib.hid (szOf_no (left := left - (n : Int)) (n := n') (by omega))
    have f1 : ¬ (left - (n : Int) < 0) := by omega
    go_enter Try.func140, Try.ntmps140
    go_wp2_with fail
    refine (szHoldS_any _ _ _ _ _ hn (by omega) (by omega)).mono ?_; rintro e w1 ⟨rfl, rfl⟩
    rw [E1.out]
    go_wp2_with fail
    refine (szHoldS_any _ _ _ _ _ hn' (by omega) (by omega)).mono ?_; rintro e w1 ⟨rfl, rfl⟩
    rw [E2.out]
    go_wp2
    go_ret
    exact ⟨rfl, (Below.refl _ _).alloc (Nat.le_refl _) _⟩
  · have E1 := Lib.hid (szOf_no (left := left) (n := n) (by omega))
    go_enter Try.func140, Try.ntmps140
    go_wp2_with fail
    refine (szHoldS_any _ _ _ _ _ hn (by omega) (by omega)).mono ?_; rintro e w1 ⟨rfl, rfl⟩
    rw [E1.out]
    go_wp2
    go_ret
    exact ⟨rfl, (Below.refl _ _).alloc (Nat.le_refl _) _⟩
theorem szCell_yes (c : CD) (q : Pl) (left : Int) (w : World) (hn : c.hs.length ≤ maxLen) (hn' : c.ws.length ≤ maxLen) (h0 : left ≤ 1048576) (h : (c.hs.length : Int) + c.ws.length ≤ left) :
    Calls Try.prog 94 #[cval c q, .int .i64 left] w fun e w' => e = .returned (.int .i64 (left - c.hs.length - c.ws.length)) ∧ Below w.heap.size w w' := by
  have f2 : ¬ (left - (c.hs.length : Int) - c.ws.length < 0) := by omega
  unfold cval
  go_enter Try.func94, Try.ntmps94
  go_wp2_with fail
  have hb := (Below.refl w.heap.size w).alloc (Nat.le_refl _) (.cells #[.int .i64 c.v, .int .i64 c.e, .int .i64 c.s, .bool c.h, .slice q.G c.hs.length q.c, .slice q.G' c.ws.length q.c'] 151)
  refine (szLockG_yes _ _ _ _ _ _ left _ hn hn' h0 h).mono ?_; rintro e w1 ⟨rfl, hb1⟩
  have hb2 := hb.trans (hb1.mono hb.size)
  clear hb hb1
  go_wp2
  go_ret
  exact ⟨rfl, hb2⟩
theorem szCell_no (c : CD) (q : Pl) (left : Int) (w : World) (hn : c.hs.length ≤ maxLen) (hn' : c.ws.length ≤ maxLen) (h0 : left ≤ 1048576) (h1 : 0 ≤ left) (h : left < (c.hs.length : Int) + c.ws.length) :
    Calls Try.prog 94 #[cval c q, .int .i64 left] w fun e w' => e = .returned (.int .i64 (-1)) ∧ Below w.heap.size w w' := by
  unfold cval
  go_enter Try.func94, Try.ntmps94
  go_wp2_with fail
  have hb := (Below.refl w.heap.size w).alloc (Nat.le_refl _) (.cells #[.int .i64 c.v, .int .i64 c.e, .int .i64 c.s, .bool c.h, .slice q.G c.hs.length q.c, .slice q.G' c.ws.length q.c'] 151)
  refine (szLockG_no _ _ _ _ _ _ left _ hn hn' h0 h1 h).mono ?_; rintro e w1 ⟨rfl, hb1⟩
  have hb2 := hb.trans (hb1.mono hb.size)
  clear hb hb1
  go_wp2
  go_ret
  exact ⟨rfl, hb2⟩

theorem szCellS_yes (A : Option Addr) (c B : Nat) (T : TL) (w : World) (hm : TLen T) (hs : TFit T) (hB : B ≤ w.heap.size) (h : TAt w B A T) :
    Calls Try.prog 44 #[.slice A T.length c, .int .i64 1048576] w fun e w' => (∃ z : Int, e = .returned (.int .i64 z) ∧ 0 ≤ z) ∧ Below w.heap.size w w' := by
  obtain ⟨hm1, hm2⟩ := hm
  unfold maxLen at hm1
  unfold TFit at hs
  have f1 : ¬ ((1048576 : Int) - (T.length : Int) < 0) := by omega
  go_enter Try.func44, Try.ntmps44
  go_wp2
  go_loopw [1, 5] (fun s i wr => ∃ k : Nat, k ≤ T.length ∧ i = .int .i64 k ∧ s = .int .i64 (1048576 - (T.length : Int) - (totT T k : Int)) ∧ Below w.heap.size w wr) (fun _ i _ => T.length - (intOf i).toNat)
  case atStart => exact ⟨0, Nat.zero_le _, rfl, by simp [totT], Below.refl _ _⟩
  case round =>
    obtain ⟨k, hk, rfl, rfl, hb⟩ := hrel
    have ht := totT_mono T hk
    by_cases hkn : k < T.length
    · obtain ⟨b, off, rfl, hbB, q, hc⟩ := h (by omega)
      have hkz : (k : Int) < T.length := by omega
      obtain ⟨h0, h1, h2, h3, h4, h5⟩ := (hc k hkn).1.below hb (show b < w.heap.size by omega)
      have ht2 := totT_mono T (show k + 1 ≤ T.length by omega)
      have e := totT_succ T k
      have hl := hm2 k hkn
      have HT := Lib.hid (show (1048576 - (T.length : Int) - (totT T k : Int)) - ((cd T k).hs.length : Int) - ((cd T k).ws.length : Int) = 1048576 - (T.length : Int) - (totT T (k + 1) : Int) by omega)
      have hge : ¬ ((1048576 - (T.length : Int) - (totT T (k + 1) : Int)) < 0) := by omega
      have hle : ((cd T k).hs.length : Int) + (cd T k).ws.length ≤ 1048576 - (T.length : Int) - (totT T k : Int) := by omega
      have hsz := hb.size
      clear hc e h
      go_wp2_with fail
      refine (szCell_yes (cd T k) (q k) _ _ hl.1 hl.2 (by omega) hle).mono ?_; rintro e w' ⟨rfl, hb1⟩
      rw [HT.out]
      have hb2 := hb.trans (hb1.mono hsz)
      clear hb hb1 h0 h1 h2 h3 h4 h5
      go_wp2
      exact ⟨⟨k + 1, by omega, by go_num, rfl, hb2⟩, by simp [intOf]; omega⟩
    · obtain rfl : k = T.length := by omega
      go_wp2
      go_ret
      exact ⟨⟨_, rfl, by omega⟩, hb⟩
/-- the table read takes too much -/
theorem szCellS_no (A : Option Addr) (c B : Nat) (T : TL) (w : World) (hm : TLen T) (hs : ¬ TFit T) (hB : B ≤ w.heap.size) (h : TAt w B A T) :
    Calls Try.prog 44 #[.slice A T.length c, .int .i64 1048576] w fun e w' => e = .returned (.int .i64 (-1)) ∧ Below w.heap.size w w' := by
  obtain ⟨hm1, hm2⟩ := hm
  unfold maxLen at hm1
  unfold TFit at hs
  by_cases h1 : T.length ≤ 1048576
  · have f1 : ¬ ((1048576 : Int) - (T.length : Int) < 0) := by omega
    go_enter Try.func44, Try.ntmps44
    go_wp2
    go_loopw [1, 5] (fun s i wr => ∃ k : Nat, k ≤ T.length ∧ i = .int .i64 k ∧ T.length + totT T k ≤ 1048576 ∧ s = .int .i64 (1048576 - (T.length : Int) - (totT T k : Int)) ∧ Below w.heap.size w wr) (fun _ i _ => T.length - (intOf i).toNat)
    case atStart => exact ⟨0, Nat.zero_le _, rfl, by simpa [totT] using h1, by simp [totT], Below.refl _ _⟩
    case round =>
      obtain ⟨k, hk, rfl, hkt, rfl, hb⟩ := hrel
      by_cases hkn : k < T.length
      · obtain ⟨b, off, rfl, hbB, q, hc⟩ := h (by omega)
        have hkz : (k : Int) < T.length := by omega
        obtain ⟨h0, h1', h2, h3, h4, h5⟩ := (hc k hkn).1.below hb (show b < w.heap.size by omega)
        have e := totT_succ T k
        have hl := hm2 k hkn
        have hsz := hb.size
        by_cases h2' : T.length + totT T (k + 1) ≤ 1048576
        · have HT := Lib.hid (show (1048576 - (T.length : Int) - (totT T k : Int)) - ((cd T k).hs.length : Int) - ((cd T k).ws.length : Int) = 1048576 - (T.length : Int) - (totT T (k + 1) : Int) by omega)
          have hge : ¬ ((1048576 - (T.length : Int) - (totT T (k + 1) : Int)) < 0) := by omega
          have hle : ((cd T k).hs.length : Int) + (cd T k).ws.length ≤ 1048576 - (T.length : Int) - (totT T k : Int) := by omega
          clear hc e h
          go_wp2_with fail
          refine (szCell_yes (cd T k) (q k) _ _ hl.1 hl.2 (by omega) hle).mono ?_; rintro e w' ⟨rfl, hb1⟩
          rw [HT.out]
          have hb2 := hb.trans (hb1.mono hsz)
          clear hb hb1 h0 h1' h2 h3 h4 h5
          go_wp2
          exact ⟨⟨k + 1, by omega, by go_num, h2', rfl, hb2⟩, by simp [intOf]; omega⟩
        · have hle : 1048576 - (T.length : Int) - (totT T k : Int) < ((cd T k).hs.length : Int) + (cd T k).ws.length := by omega
          clear hc e h
          go_wp2_with fail
          refine (szCell_no (cd T k) (q k) _ _ hl.1 hl.2 (by omega) (by omega) hle).mono ?_; rintro e w' ⟨rfl, hb1⟩
          have hb2 := hb.trans (hb1.mono hsz)
          clear hb hb1 h0 h1' h2 h3 h4 h5
          go_wp2
          go_ret
          exact ⟨rfl, hb2⟩
      · obtain rfl : k = T.length := by omega
        omega
  · have f1 : ((1048576 : Int) - (T.length : Int) < 0) := by omega
    go_enter Try.func44, Try.ntmps44
    go_wp2
    go_ret
    exact ⟨rfl, Below.refl _ _⟩
theorem szTable_yes (A : Option Addr) (c B : Nat) (T : TL) (w : World) (hm : TLen T) (hs : TFit T) (hB : B ≤ w.heap.size) (h : TAt w B A T) :
    Calls Try.prog 9 #[.agg #[.slice A T.length c], .int .i64 1048576] w fun e w' => (∃ z : Int, e = .returned (.int .i64 z) ∧ 0 ≤ z) ∧ Below w.heap.size w w' := by
  go_enter Try.func9, Try.ntmps9
  go_wp2_with fail
  have hb := (Below.refl w.heap.size w).alloc (Nat.le_refl _) (.cells #[.slice A T.length c] 24)
  refine (szCellS_yes A c B T _ hm hs (Nat.le_trans hB hb.size) (h.keep hb hB)).mono ?_; rintro e w1 ⟨⟨z, rfl, hz⟩, hb1⟩
  have hb2 := hb.trans (hb1.mono hb.size)
  have hz : ¬ (z < 0) := by omega
  clear hb hb1
  go_wp2
  go_ret
  exact ⟨⟨z, rfl, by omega⟩, hb2⟩
theorem szTable_no (A : Option Addr) (c B : Nat) (T : TL) (w : World) (hm : TLen T) (hs : ¬ TFit T) (hB : B ≤ w.heap.size) (h : TAt w B A T) :
    Calls Try.prog 9 #[.agg #[.slice A T.length c], .int .i64 1048576] w fun e w' => e = .returned (.int .i64 (-1)) ∧ Below w.heap.size w w' := by
  go_enter Try.func9, Try.ntmps9
  go_wp2_with fail
  have hb := (Below.refl w.heap.size w).alloc (Nat.le_refl _) (.cells #[.slice A T.length c] 24)
  refine (szCellS_no A c B T _ hm hs (Nat.le_trans hB hb.size) (h.keep hb hB)).mono ?_; rintro e w1 ⟨rfl, hb1⟩
  have hb2 := hb.trans (hb1.mono hb.size)
  clear hb hb1
  go_wp2
  go_ret
  exact ⟨rfl, hb2⟩
end Go.Proofs.Ytomkfldimkpmdaa
