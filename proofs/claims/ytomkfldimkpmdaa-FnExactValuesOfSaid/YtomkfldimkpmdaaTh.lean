/- Two tables that read alike are the same: eqCell, eqCellS, eqTable. -/
import Derived.Test.YtomkfldimkpmdaaTg
import Derived.Test.YtomkfldimkpmdaaWUnp
namespace Go.Proofs.Ytomkfldimkpmdaa
open Go.RowKit

set_option maxHeartbeats 800000 in
set_option maxRecDepth 100000 in
theorem eqCell_same (c : CD) (q q' : Pl) (B B' : Nat) (w : World) (hn : c.hs.length ≤ maxLen) (hn' : c.ws.length ≤ maxLen) (h1 : LsAt w B c q) (h2 : LsAt w B' c q') (hB : B ≤ w.heap.size) (hB' : B' ≤ w.heap.size) :
    Calls Try.prog 101 #[cval c q, cval c q'] w fun e w' => e = .returned (.bool true) ∧ Below w.heap.size w w' := by
  unfold cval
  go_enter Try.func101, Try.ntmps101
  go_wp2_with fail
  have b := ((Below.refl w.heap.size w).alloc (Nat.le_refl _) (.cells #[.int .i64 c.v, .int .i64 c.e, .int .i64 c.s, .bool c.h, .slice q.G c.hs.length q.c, .slice q.G' c.ws.length q.c'] 83)).alloc (by simp) (.cells #[.int .i64 c.v, .int .i64 c.e, .int .i64 c.s, .bool c.h, .slice q'.G c.hs.length q'.c, .slice q'.G' c.ws.length q'.c'] 83)
  have X := (Box.new (w := w) (c := #[.int .i64 c.v, .int .i64 c.e, .int .i64 c.s, .bool c.h, .slice q.G c.hs.length q.c, .slice q.G' c.ws.length q.c']) (t := 83) rfl).alloc (.cells #[.int .i64 c.v, .int .i64 c.e, .int .i64 c.s, .bool c.h, .slice q'.G c.hs.length q'.c, .slice q'.G' c.ws.length q'.c'] 83)
  have Y := Box.new (w := w.alloc (.cells #[.int .i64 c.v, .int .i64 c.e, .int .i64 c.s, .bool c.h, .slice q.G c.hs.length q.c, .slice q.G' c.ws.length q.c'] 83)) (b := w.heap.size + 1) (c := #[.int .i64 c.v, .int .i64 c.e, .int .i64 c.s, .bool c.h, .slice q'.G c.hs.length q'.c, .slice q'.G' c.ws.length q'.c']) (t := 83) (by simp)
  generalize (w.alloc (.cells #[.int .i64 c.v, .int .i64 c.e, .int .i64 c.s, .bool c.h, .slice q.G c.hs.length q.c, .slice q.G' c.ws.length q.c'] 83)).alloc (.cells #[.int .i64 c.v, .int .i64 c.e, .int .i64 c.s, .bool c.h, .slice q'.G c.hs.length q'.c, .slice q'.G' c.ws.length q'.c'] 83) = w0 at b X Y ⊢
  refine (eqWord_same _ _ _ _).mono ?_; rintro e w1 ⟨rfl, hb1⟩
  have X := X.next hb1
  have Y := Y.next hb1
  have b := b.trans (hb1.mono b.size)
  obtain ⟨⟨_, _, _, _, x4, x5⟩, _⟩ := X.c6
  obtain ⟨⟨_, _, _, _, y4, y5⟩, _⟩ := Y.c6
  clear hb1
  go_wp2_with fail
  refine (eqLock_same _ _ _ _ _ _ _ _ B B' c.p _ hn hn' (LAt.keep h1 (b.mono (Nat.le_refl _)) hB) (LAt.keep h2 (b.mono (Nat.le_refl _)) hB')).mono ?_; rintro e w2 ⟨rfl, hb2⟩
  have b := b.trans (hb2.mono b.size)
  clear hb2
  go_wp2
  go_ret
  exact ⟨rfl, b⟩

set_option maxHeartbeats 800000 in
set_option maxRecDepth 100000 in
theorem eqCellS_same (A1 A2 : Option Addr) (c1 c2 B1 B2 : Nat) (T : TL) (w : World) (hm : TLen T) (h1 : TAt w B1 A1 T) (h2 : TAt w B2 A2 T) (hB1 : B1 ≤ w.heap.size) (hB2 : B2 ≤ w.heap.size) :
    Calls Try.prog 49 #[.slice A1 T.length c1, .slice A2 T.length c2] w fun e w' => e = .returned (.bool true) ∧ Below w.heap.size w w' := by
  obtain ⟨hm1, hm2⟩ := hm
  unfold maxLen at hm1
  go_enter Try.func49, Try.ntmps49
  go_wp2
  go_loopw [5] (fun i wr => ∃ k : Nat, k ≤ T.length ∧ i = .int .i64 k ∧ Below w.heap.size w wr) (fun i _ => T.length - (intOf i).toNat)
  case atStart => exact ⟨0, Nat.zero_le _, rfl, Below.refl _ _⟩
  case round =>
    obtain ⟨k, hk, rfl, hb⟩ := hrel
    by_cases hkn : k < T.length
    · obtain ⟨b, off, rfl, hB, q, hc⟩ := h1 (by omega)
      obtain ⟨b', off', rfl, hB', q', hc'⟩ := h2 (by omega)
      have hkz : (k : Int) < T.length := by omega
      obtain ⟨a0, a1, a2, a3, a4, a5⟩ := (hc k hkn).1.below hb (show b < w.heap.size by omega)
      obtain ⟨d0, d1, d2, d3, d4, d5⟩ := (hc' k hkn).1.below hb (show b' < w.heap.size by omega)
      have i1 := (hc k hkn).2
      have i2 := (hc' k hkn).2
      have hl := hm2 k hkn
      clear hc hc' h1 h2
      go_wp2_with fail
      go_still_tail 8, (by kernel_rfl)
      change wpList _ _ _ _ _ wr.drew
      have hb2 := hb.drew
      clear a0 a1 a2 a3 a4 a5 d0 d1 d2 d3 d4 d5
      generalize wr.drew = w2 at hb2 ⊢
      have hs2 := hb2.size
      go_wp2_with fail
      refine (eqCell_same (cd T k) (q k) (q' k) B1 B2 _ hl.1 hl.2 (LAt.keep i1 hb2 hB1) (LAt.keep i2 hb2 hB2) (by omega) (by omega)).mono ?_; rintro e w3 ⟨rfl, hb3⟩
      go_wp2
      exact ⟨⟨k + 1, by omega, by go_num, hb2.trans (hb3.mono hs2)⟩, by simp [intOf]; omega⟩
    · obtain rfl : k = T.length := by omega
      go_wp2
      go_ret
      exact ⟨rfl, hb⟩

theorem eqTable_same (A1 A2 : Option Addr) (c1 c2 B1 B2 : Nat) (T : TL) (w : World) (hm : TLen T) (h1 : TAt w B1 A1 T) (h2 : TAt w B2 A2 T) (hB1 : B1 ≤ w.heap.size) (hB2 : B2 ≤ w.heap.size) :
    Calls Try.prog 14 #[.agg #[.slice A1 T.length c1], .agg #[.slice A2 T.length c2]] w fun e w' => e = .returned (.bool true) ∧ Below w.heap.size w w' := by
  go_enter Try.func14, Try.ntmps14
  go_wp2_with fail
  have b := ((Below.refl w.heap.size w).alloc (Nat.le_refl _) (.cells #[.slice A1 T.length c1] 30)).alloc (by simp) (.cells #[.slice A2 T.length c2] 30)
  refine (eqCellS_same A1 A2 c1 c2 B1 B2 T _ hm (h1.keep b hB1) (h2.keep b hB2) (Nat.le_trans hB1 b.size) (Nat.le_trans hB2 b.size)).mono ?_; rintro e w1 ⟨rfl, hb1⟩
  have b := b.trans (hb1.mono b.size)
  clear hb1
  go_wp2
  go_ret
  exact ⟨rfl, b⟩
end Go.Proofs.Ytomkfldimkpmdaa
