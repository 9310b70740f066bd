/- The program's TryCell. -/
import Derived.Test.YtnnjhikfbpcmfaaGreatUc
namespace Go.Proofs.YtnnjhikfbpcmfaaGreat
open Go.RowKit
open Go.Maps (Keyed)

set_option maxHeartbeats 800000 in
set_option maxRecDepth 100000 in
theorem implTryCell_any (b off c B : Nat) (T : TL) (key tid : Int) (wr : Bool) (w : World) (hkey : keyOf Tryz.prog 3 (.int .i64 key) = some (.int .i64 key)) (hs : TFit T) (hB : B ≤ w.heap.size) (h : TAt w B (some ⟨b, off, none⟩) T) :
    Calls Tryz.prog 14 #[.agg #[.slice (some ⟨b, off, none⟩) T.length c], .int .i64 key, .int .i64 tid, .bool wr] w (RetTO w (tcT T key tid wr) fun v => .tuple #[v, .bool (tcB T key tid wr)]) := by
  go_enter Tryz.func14, Tryz.ntmps14
  go_wp2_with fail
  have b0 := ((Below.refl w.heap.size w).alloc (Nat.le_refl _) (.cells #[.slice (some ⟨b, off, none⟩) T.length c] 28)).alloc (by simp) (.cells #[.slice none 0 0] 28)
  have X := (Box.new (w := w) (c := #[.slice (some ⟨b, off, none⟩) T.length c]) (t := 28) rfl).alloc (.cells #[.slice none 0 0] 28)
  have R := Box.new (w := w.alloc (.cells #[.slice (some ⟨b, off, none⟩) T.length c] 28)) (b := w.heap.size + 1) (c := #[.slice none 0 0]) (t := 28) (by simp)
  have hz0 : w.heap.size + 2 ≤ ((w.alloc (.cells #[.slice (some ⟨b, off, none⟩) T.length c] 28)).alloc (.cells #[.slice none 0 0] 28)).heap.size := by simp
  generalize (w.alloc (.cells #[.slice (some ⟨b, off, none⟩) T.length c] 28)).alloc (.cells #[.slice none 0 0] 28) = w0 at b0 X R hz0 ⊢
  refine (implLockCell_any b off c B T key tid wr _ hkey hs (Nat.le_trans hB b0.size) (h.keep b0 hB)).mono ?_; rintro o w1 ⟨A2, c2, rfl, ta, hb⟩
  have X := X.next hb
  have R := R.next hb
  have b1 := b0.trans (hb.mono b0.size)
  have hz1 : w.heap.size + 2 ≤ w1.heap.size := Nat.le_trans hz0 hb.size
  have ta := ta.more hz0 (Nat.le_refl _)
  have HH := Lib.hid (tc_hit (T := T) (key := key) (tid := tid) (wr := wr))
  have HM := Lib.hid (tc_miss (T := T) (key := key) (tid := tid) (wr := wr))
  generalize lcT T key tid wr = T' at ta HH ⊢
  generalize lcC T key tid wr = code at HH HM ⊢
  have hA := (Below.refl w1.heap.size w1).alloc (Nat.le_refl _) (.cells #[.slice A2 T'.length c2] 28)
  have U := Box.new (w := w1) (c := #[.slice A2 T'.length c2]) (t := 28) rfl
  have X := X.next hA
  have R := R.next hA
  have b1 := b1.trans (hA.mono b1.size)
  have ta := ta.below hA (Nat.le_refl _)
  have hz2 : w1.heap.size < (w1.alloc (.cells #[.slice A2 T'.length c2] 28)).heap.size := by simp
  clear hb hz0 hA
  go_upto_region 2 with (fail)
  generalize w1.alloc (.cells #[.slice A2 T'.length c2] 28) = w2 at X R U b1 ta hz2 ⊢
  obtain ⟨x0, xf⟩ := X.c1
  have Xl := X.lt
  by_cases h0 : code = 0
  · subst h0
    have HE := Lib.hid (HH.out rfl)
    obtain ⟨y0, yf⟩ := U.c1
    obtain ⟨r0, rf⟩ := R.c1
    have Rl := R.lt
    have Ul := U.lt
    have HO := Lib.hid ((ta.put (a := w.heap.size + 1) (.slice A2 T'.length c2) (by omega)).more (lo' := w.heap.size) (B' := (w2.setCell ⟨w.heap.size + 1, 0, none⟩ (.slice A2 T'.length c2)).heap.size) (by omega) (by simp; omega))
    have HB8 := Lib.hid (b1.setCell (p := ⟨w.heap.size + 1, 0, none⟩) (by simp) (.slice A2 T'.length c2))
    clear ta b1 U R X yf
    go_wp2
    exact bodyPost_ret (v := .tuple #[.agg #[.slice A2 T'.length c2], .bool true]) (by simp [results, Tryz.results14, go_sem, r0]) rfl (by
      rw [HE.out.1, HE.out.2]
      exact ⟨A2, c2, rfl, HO.out, HB8.out⟩)
  · have HE := Lib.hid (HM.out h0)
    clear ta U
    go_wp2_with fail
    refine (copiedTable_any b off c B T _ hs (Nat.le_trans hB b1.size) (h.keep b1 hB)).mono ?_; rintro o w8 ⟨A8, c8, rfl, ht, hb8⟩
    have R8 := R.next hb8
    have b8 := b1.trans (hb8.mono b1.size)
    have HO := Lib.hid ((ht.put (a := w.heap.size + 1) (.slice A8 T.length c8) (by omega)).more (lo' := w.heap.size) (B' := (w8.setCell ⟨w.heap.size + 1, 0, none⟩ (.slice A8 T.length c8)).heap.size) (by omega) (by simp))
    have HB8 := Lib.hid (b8.setCell (p := ⟨w.heap.size + 1, 0, none⟩) (by simp) (.slice A8 T.length c8))
    obtain ⟨r8, rf8⟩ := R8.c1
    have Rl8 := R8.lt
    clear ht hb8 R8 b8 b1 R X x0 xf Xl
    go_wp2
    exact bodyPost_ret (v := .tuple #[.agg #[.slice A8 T.length c8], .bool false]) (by simp [results, Tryz.results14, go_sem, r8]) rfl (by
      rw [HE.out.1, HE.out.2]
      exact ⟨A8, c8, rfl, HO.out, HB8.out⟩)
theorem tcT_fit {T : TL} {key tid : Int} {wr : Bool} (h : TFit T) : TFit (tcT T key tid wr) := by
  unfold tcT
  split
  · exact lcT_fit h
  · exact h
end Go.Proofs.YtnnjhikfbpcmfaaGreat
