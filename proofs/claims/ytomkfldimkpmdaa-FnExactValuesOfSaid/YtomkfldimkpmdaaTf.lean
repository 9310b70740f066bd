/- Marking a table and finding the marks: markCellS, markTable, heldCellS, heldTable. -/
import Derived.Test.YtomkfldimkpmdaaTe
import Derived.Test.YtomkfldimkpmdaaLk3
namespace Go.Proofs.Ytomkfldimkpmdaa
open Go.RowKit

theorem mkTo_k (T : TL) (k0 : Int) (k : Nat) : mkTo T k0 k k = cd T k := by simp [mkTo]
theorem mkTo_next (T : TL) (k0 : Int) (k j : Nat) : (if j = k then mkC (kTo T k0 k) (cd T k) else mkTo T k0 k j) = mkTo T k0 (k + 1) j := by
  unfold mkTo
  by_cases e : j = k
  · subst e; simp
  · by_cases h : j < k
    · have : j < k + 1 := by omega
      simp [e, h, this]
    · have : ¬ j < k + 1 := by omega
      simp [e, h, this]

set_option maxHeartbeats 1600000 in
set_option maxRecDepth 100000 in
theorem markCellS_row (b off cap lo B : Nat) (T : TL) (k0 : Int) (w : World) (q : Nat → Pl) (L H : Nat → Nat) (hs : TFit T) (h0 : 0 ≤ k0) (hk0 : k0 ≤ 1048576) (h : TRow w lo B b off T.length (cd T) q L H) :
    Calls Try.prog 50 #[.slice (some ⟨b, off, none⟩) T.length cap, .int .i64 k0] w fun e w' => e = .returned (.int .i64 (kTo T k0 T.length)) ∧ Onlys lo B w w' ∧ TRow w' lo B b off T.length (mkTo T k0 T.length) q L H := by
  have hlen := hs.len
  go_enter Try.func50, Try.ntmps50
  go_wp2
  go_loopw [1, 5] (fun s i wr => ∃ k : Nat, k ≤ T.length ∧ i = .int .i64 k ∧ s = .int .i64 (kTo T k0 k) ∧ Onlys lo B w wr ∧ TRow wr lo B b off T.length (mkTo T k0 k) q L H) (fun _ i _ => T.length - (intOf i).toNat)
  case atStart => exact ⟨0, Nat.zero_le _, rfl, by simp [kTo, totT], Onlys.refl _ _ _, h.congr (fun j _ => by simp [mkTo])⟩
  case round =>
    obtain ⟨k, hk, rfl, rfl, ho, hr⟩ := hrel
    clear h
    have hkr := kTo_range hs hk h0 hk0
    by_cases hkn : k < T.length
    · have hkz : (k : Int) < T.length := by omega
      have hl := hs.at_ hkn
      have Hn := Lib.hid (kTo_succ T k0 k)
      have Hx := Lib.hid (mkTo_next T k0 k)
      generalize kTo T k0 k = x at hkr Hn Hx ⊢
      obtain ⟨a0, a1, a2, a3, a4, a5⟩ := hr.cell k hkn
      rw [mkTo_k] at a0 a1 a2 a3 a4 a5
      have r0 := hr.free (off + k * 6)
      have r1 := hr.free (off + k * 6 + 1)
      have r2 := hr.free (off + k * 6 + 2)
      have r3 := hr.free (off + k * 6 + 3)
      go_wp2_with fail
      have t4 : TRow ((((wr.setCell ⟨b, off + k * 6, none⟩ (.int .i64 x)).setCell ⟨b, off + k * 6 + 1, none⟩ (.int .i64 (x + 1))).setCell ⟨b, off + k * 6 + 1 + 1, none⟩ (.int .i64 (x + 1 + 1))).setCell ⟨b, off + k * 6 + 1 + 2, none⟩ (.bool ((x + 1 + 1 + 1) % 3 == 0))) lo B b off T.length (fun j => if j = k then ⟨x, x + 1, x + 1 + 1, ((x + 1 + 1 + 1) % 3 == 0), (cd T k).hs, (cd T k).ws⟩ else mkTo T k0 k j) q L H :=
        ((((hr.store0 hkn x).store1 hkn (x + 1)).store2 hkn (x + 1 + 1)).store3 hkn ((x + 1 + 1 + 1) % 3 == 0)).congr (fun j _ => by
          by_cases e : j = k
          · subst e; simp [mkTo_k]
          · simp [e])
      have ho4 := (((ho.setCell (p := ⟨b, off + k * 6, none⟩) hr.rlo hr.rhi (.int .i64 x)).setCell (p := ⟨b, off + k * 6 + 1, none⟩) hr.rlo hr.rhi (.int .i64 (x + 1))).setCell (p := ⟨b, off + k * 6 + 1 + 1, none⟩) hr.rlo hr.rhi (.int .i64 (x + 1 + 1))).setCell (p := ⟨b, off + k * 6 + 1 + 2, none⟩) hr.rlo hr.rhi (.bool ((x + 1 + 1 + 1) % 3 == 0))
      generalize (((wr.setCell ⟨b, off + k * 6, none⟩ (.int .i64 x)).setCell ⟨b, off + k * 6 + 1, none⟩ (.int .i64 (x + 1))).setCell ⟨b, off + k * 6 + 1 + 1, none⟩ (.int .i64 (x + 1 + 1))).setCell ⟨b, off + k * 6 + 1 + 2, none⟩ (.bool ((x + 1 + 1 + 1) % 3 == 0)) = w4 at t4 ho4 ⊢
      have hlow := t4.low k hkn
      have hhigh := t4.high k hkn
      have hown := t4.own k hkn
      simp only [if_true] at hown
      obtain ⟨g1, g2, g3⟩ := hown
      clear hr ho a0 a1 a2 a3 a4 a5 r0 r1 r2 r3
      refine (markHoldS_apart _ _ _ (L k) (H k) (cd T k).hs (cd T k).ws (x + 1 + 1 + 1 + 1) _ (by omega) (by omega) (by omega) g1 g2 g3).mono ?_; rintro e w5 ⟨rfl, ho5, m1, m2⟩
      have t5 := t4.lists (c' := ⟨x, x + 1, x + 1 + 1, ((x + 1 + 1 + 1) % 3 == 0), marks (x + 1 + 1 + 1 + 1) (cd T k).hs.length, (cd T k).ws⟩) hkn ho5 (by simp) (by simp) (by simp) (by simp) (by simp [marks_len]) (by simp) ⟨m1, m2, fun q1 q2 => g3 (by
        have q1 : 0 < (marks (x + 1 + 1 + 1 + 1) (cd T k).hs.length).length := q1
        rwa [marks_len] at q1) q2⟩
      have ho5 := ho4.trans (ho5.more (lo' := lo) (B' := B) hlow hhigh)
      have hc5 := t5.cell k hkn
      simp only [if_true] at hc5
      obtain ⟨a0, a1, a2, a3, a4, a5⟩ := hc5
      clear t4 ho4 g1 g2 a0 a1 a2 a3
      go_wp2_with fail
      clear a4 a5
      refine (markHoldS_apart _ _ _ (L k) (H k) (cd T k).ws (marks (x + 1 + 1 + 1 + 1) (cd T k).hs.length) (x + 1 + 1 + 1 + 1 + (cd T k).hs.length * 2) _ (by omega) (by omega) (by omega) m2 m1 (fun q1 q2 a a' e1 e2 => fun e => g3 (by rwa [marks_len] at q2) q1 a' a e2 e1 e.symm)).mono ?_; rintro e w6 ⟨rfl, ho6, m3, m4⟩
      have t6 := t5.lists (c' := mkC x (cd T k)) hkn ho6 (by simp [mkC]) (by simp [mkC]) (by simp [mkC]) (by simp only [mkC, if_true]; rw [Bool.eq_iff_iff]; simp) (by simp [marks_len, mkC]) (by simp [marks_len, mkC]) (by
        have e1 : (mkC x (cd T k)).p = (marks (x + 1 + 1 + 1 + 1) (cd T k).hs.length, marks (x + 1 + 1 + 1 + 1 + (cd T k).hs.length * 2) (cd T k).ws.length) := by
          simp only [CD.p, mkC]
        unfold LsOwn
        rw [e1]
        exact ⟨m4, m3, fun q1 q2 => g3 (by
          have q1 : 0 < (marks (x + 1 + 1 + 1 + 1) (cd T k).hs.length).length := q1
          rwa [marks_len] at q1) (by
          have q2 : 0 < (marks (x + 1 + 1 + 1 + 1 + (cd T k).hs.length * 2) (cd T k).ws.length).length := q2
          rwa [marks_len] at q2)⟩)
      have HR := Lib.hid (t6.congr (g := mkTo T k0 (k + 1)) (fun j _ => by
        rw [← Hx.out]
        by_cases e : j = k
        · simp [e]
        · simp [e]))
      have HO := Lib.hid (ho5.trans (ho6.more (lo' := lo) (B' := B) hlow hhigh))
      clear t5 t6 ho5 ho6 m1 m2 m3 m4 g3
      go_wp2
      exact ⟨⟨k + 1, by omega, by go_num, by rw [Hn.out]; congr 1; omega, HO.out, HR.out⟩, by simp [intOf]; omega⟩
    · obtain rfl : k = T.length := by omega
      go_wp2
      go_ret
      exact ⟨rfl, ho, hr⟩

theorem mkT_fit {T : TL} {k0 : Int} (k : Nat) (hk : k ≤ T.length) : totT (mkT T k0) k = totT T k := by
  induction k with
  | zero => rfl
  | succ k ih => rw [totT_succ, totT_succ, ih (by omega), mkT_at (by omega)]; simp [mkC, marks_len]
theorem markCellS_nil (A : Option Addr) (c : Nat) (k0 : Int) (w : World) :
    Calls Try.prog 50 #[.slice A 0 c, .int .i64 k0] w fun e w' => e = .returned (.int .i64 k0) ∧ w = w' := by
  go_enter Try.func50, Try.ntmps50
  go_wp2
  refine wp_loop_rounds 1 ?_; rw [rounds_succ]
  go_wp2
  go_ret
  exact ⟨rfl, rfl⟩
theorem markTable_any (A : Option Addr) (c lo B : Nat) (T : TL) (k0 : Int) (w : World) (hs : TFit T) (h0 : 0 ≤ k0) (hk0 : k0 ≤ 1048576) (hB : B ≤ w.heap.size) (h : TOwn w lo B A T) :
    Calls Try.prog 15 #[.agg #[.slice A T.length c], .int .i64 k0] w fun e w' => e = .returned (.int .i64 (kTo T k0 T.length)) ∧ (∃ o, Onlys lo B (w.alloc o) w') ∧ TOwn w' lo B A (mkT T k0) := by
  go_enter Try.func15, Try.ntmps15
  go_wp2_with fail
  have b := (Below.refl w.heap.size w).alloc (Nat.le_refl _) (.cells #[.slice A T.length c] 30)
  rcases Nat.eq_zero_or_pos T.length with hz | hpos
  · have hT : T = [] := List.length_eq_zero_iff.1 hz
    subst hT
    have e0 : kTo [] k0 ([] : TL).length = k0 := by simp [kTo, totT]
    have E0 := Lib.hid e0
    clear e0
    refine (markCellS_nil A c k0 _).mono ?_; rintro e w1 ⟨rfl, rfl⟩
    go_wp2
    go_ret
    exact ⟨by rw [E0.out]; rfl, ⟨_, Onlys.refl _ _ _⟩, fun h => absurd h (by simp [mkT])⟩
  obtain ⟨bb, off, rfl, q, L, H, hr⟩ := h hpos
  refine (markCellS_row bb off c lo B T k0 _ q L H hs h0 hk0 (hr.keep b hB)).mono ?_; rintro e w1 ⟨rfl, ho, hr1⟩
  have HO := Lib.hid (show TOwn w1 lo B (some ⟨bb, off, none⟩) (mkT T k0) from fun _ => ⟨bb, off, rfl, q, L, H, by rw [mkT_len]; exact hr1.congr (fun j hj => by rw [mkT_at hj, mkTo, if_pos hj])⟩)
  clear hr hr1
  go_wp2
  go_ret
  exact ⟨rfl, ⟨_, ho⟩, HO.out⟩

set_option maxHeartbeats 1600000 in
set_option maxRecDepth 100000 in
theorem heldCellS_any (A : Option Addr) (cap B : Nat) (T : TL) (k0 : Int) (w : World) (hs : TFit T) (h0 : 0 ≤ k0) (hk0 : k0 ≤ 1048576) (h : TAt w B A (mkT T k0)) :
    Calls Try.prog 116 #[.slice A T.length cap, .int .i64 k0] w fun e w' => e = .returned (.int .i64 (kTo T k0 T.length)) ∧ w = w' := by
  have hlen := hs.len
  go_enter Try.func116, Try.ntmps116
  go_wp2
  go_loop [1, 5] (fun s i => ∃ k : Nat, k ≤ T.length ∧ i = .int .i64 k ∧ s = .int .i64 (kTo T k0 k)) (fun _ i => T.length - (intOf i).toNat)
  case atStart => exact ⟨0, Nat.zero_le _, rfl, by simp [kTo, totT]⟩
  case round =>
    obtain ⟨k, hk, rfl, rfl⟩ := hrel
    have hkr := kTo_range hs hk h0 hk0
    by_cases hkn : k < T.length
    · have hkz : (k : Int) < T.length := by omega
      have hl := hs.at_ hkn
      obtain ⟨b, off, rfl, _, q, hc⟩ := h (by rw [mkT_len]; omega)
      have hck := hc k (by rw [mkT_len]; exact hkn)
      rw [mkT_at hkn] at hck
      have Hn := Lib.hid (kTo_succ T k0 k)
      generalize kTo T k0 k = x at hkr Hn hck ⊢
      obtain ⟨⟨a0, a1, a2, a3, a4, a5⟩, i0⟩ := hck
      have i1 : HAt w B (q k).G (marks (x + 1 + 1 + 1 + 1) (cd T k).hs.length) := i0.1
      have i2 : HAt w B (q k).G' (marks (x + 1 + 1 + 1 + 1 + (cd T k).hs.length * 2) (cd T k).ws.length) := i0.2
      simp only [mkC, marks_len] at a0 a1 a2 a3 a4 a5
      clear hc h i0
      have f1 : ¬ (x + 1 + 1 + 1 + 1 + ((cd T k).hs.length : Int) * 2 < 0) := by omega
      have f2 : ¬ (x + 1 + 1 + 1 + 1 + ((cd T k).hs.length : Int) * 2 + ((cd T k).ws.length : Int) * 2 < 0) := by omega
      by_cases h3 : (x + 1 + 1 + 1) % 3 = 0
      · rw [decide_eq_true h3] at a3
        go_wp2_with fail
        refine (heldHoldS_any _ _ _ B _ _ (by omega) (by omega) (by omega) i1).mono ?_; rintro e w' ⟨rfl, rfl⟩
        go_wp2_with fail
        refine (heldHoldS_any _ _ _ B _ _ (by omega) (by omega) (by omega) i2).mono ?_; rintro e w' ⟨rfl, rfl⟩
        go_wp2
        exact ⟨⟨k + 1, by omega, by go_num, by rw [Hn.out]; congr 1; omega⟩, by simp [intOf]; omega⟩
      · rw [decide_eq_false h3] at a3
        go_wp2_with fail
        refine (heldHoldS_any _ _ _ B _ _ (by omega) (by omega) (by omega) i1).mono ?_; rintro e w' ⟨rfl, rfl⟩
        go_wp2_with fail
        refine (heldHoldS_any _ _ _ B _ _ (by omega) (by omega) (by omega) i2).mono ?_; rintro e w' ⟨rfl, rfl⟩
        go_wp2
        exact ⟨⟨k + 1, by omega, by go_num, by rw [Hn.out]; congr 1; omega⟩, by simp [intOf]; omega⟩
    · obtain rfl : k = T.length := by omega
      go_wp2
      go_ret
      exact ⟨rfl, rfl⟩

theorem heldTable_any (A : Option Addr) (c B : Nat) (T : TL) (k0 : Int) (w : World) (hs : TFit T) (h0 : 0 ≤ k0) (hk0 : k0 ≤ 1048576) (hB : B ≤ w.heap.size) (h : TAt w B A (mkT T k0)) :
    Calls Try.prog 67 #[.agg #[.slice A T.length c], .int .i64 k0] w fun e w' => e = .returned (.int .i64 (kTo T k0 T.length)) ∧ Below w.heap.size w w' := by
  have hr := kTo_range hs (Nat.le_refl _) h0 hk0
  have f1 : ¬ (kTo T k0 T.length < 0) := by omega
  go_enter Try.func67, Try.ntmps67
  go_wp2_with fail
  have b := (Below.refl w.heap.size w).alloc (Nat.le_refl _) (.cells #[.slice A T.length c] 30)
  refine (heldCellS_any A c B T k0 _ hs h0 hk0 (h.keep b hB)).mono ?_; rintro e w1 ⟨rfl, rfl⟩
  clear hr
  go_wp2
  go_ret
  exact ⟨rfl, b⟩
end Go.Proofs.Ytomkfldimkpmdaa
