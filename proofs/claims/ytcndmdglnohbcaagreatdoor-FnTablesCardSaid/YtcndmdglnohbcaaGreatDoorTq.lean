/- ReadCell, the model's and the program's. -/
import Derived.Test.YtcndmdglnohbcaaGreatDoorTt
import Derived.Test.YtcndmdglnohbcaaGreatDoorTv
namespace Go.Proofs.YtcndmdglnohbcaaGreatDoor
open Go.RowKit
open Go.Maps (Keyed)

theorem field_slots (a b : Option Nat) (w : World) : (Instr.field 57 (.agg #[.map a, .map b]) 0).run Tryz.prog w = .ok (.map a) w := by kernel_rfl
theorem field_locks (a b : Option Nat) (w : World) : (Instr.field 57 (.agg #[.map a, .map b]) 1).run Tryz.prog w = .ok (.map b) w := by kernel_rfl
/-- what ReadCell gives: the cell, or the zero cell -/
def rc (T : TL) (key : Int) : CD := if thereB T key then cAt T key else CD.zero
def rcv (c : CD) (ok : Bool) : Value := .tuple #[.int .i64 c.v, .agg #[.int .i64 c.e, .int .i64 c.s, .bool c.h], .bool ok]
set_option maxHeartbeats 800000 in
set_option maxRecDepth 100000 in
theorem implRead_any (A : Option Addr) (c B : Nat) (T : TL) (key : Int) (w : World) (hkey : keyOf Tryz.prog 3 (.int .i64 key) = some (.int .i64 key)) (hs : TFit T) (hB : B ≤ w.heap.size) (h : TAt w B A T) :
    Calls Tryz.prog 12 #[.agg #[.slice A T.length c], .int .i64 key] w fun e w' => e = .returned (rcv (rc T key) (thereB T key)) ∧ Below w.heap.size w w' := by
  go_enter Tryz.func12, Tryz.ntmps12
  go_wp2_with fail
  have b0 := ((Below.refl w.heap.size w).alloc (Nat.le_refl _) (.cells #[.slice A T.length c] 26)).alloc (by simp) (.cells #[.int .i64 0, .int .i64 0, .bool false] 37)
  have R := Box.new (w := w.alloc (.cells #[.slice A T.length c] 26)) (b := w.heap.size + 1) (c := #[.int .i64 0, .int .i64 0, .bool false]) (t := 37) (by simp)
  generalize (w.alloc (.cells #[.slice A T.length c] 26)).alloc (.cells #[.int .i64 0, .int .i64 0, .bool false] 37) = w0 at b0 R ⊢
  cases hT : tabOk T with
  | false =>
    have HE := Lib.hid (show rcv (rc T key) (thereB T key) = .tuple #[.int .i64 0, .agg #[.int .i64 0, .int .i64 0, .bool false], .bool false] by simp [rc, hT, rcv, CD.zero, thereB])
    refine (storeOf_bad A c B T _ hs (Nat.le_trans hB b0.size) (h.keep b0 hB) hT).mono ?_; rintro e w1 ⟨rfl, hb1⟩
    have R := R.next hb1
    have b1 := b0.trans (hb1.mono b0.size)
    have hlk := Go.Maps.look_nil (w := w1) true keyI Tryz.underlying54 (zeroSlot w1) hkey
    have hfl := field_slots none none w1
    obtain ⟨r0, r1, r2, rf⟩ := R.c3
    have rl := R.lt
    clear b0 hb1 hT
    go_wp2_with fail
    exact bodyPost_ret (v := .tuple #[.int .i64 0, .agg #[.int .i64 0, .int .i64 0, .bool false], .bool false]) (by simp [results, Tryz.results12, go_sem, r0, r1, r2, rl]) rfl ⟨by rw [HE.out], (((b1.setCell (p := ⟨w.heap.size + 1, 0, none⟩) (by simp) _).setCell (p := ⟨w.heap.size + 1, 1, none⟩) (by simp) _).setCell (p := ⟨w.heap.size + 1, 2, none⟩) (by simp) _).alloc (by have := b1.size; simpa [World.setCell] using this) _⟩
  | true =>
    have hl8 := tabOk_len hT
    have hTE : thereB T key = decide (0 ≤ key ∧ key < (T.length : Int)) := by
      rw [Bool.eq_iff_iff, there_iff, decide_eq_true_eq]
      constructor
      · rintro ⟨_, h1, h2⟩; omega
      · rintro ⟨h1, h2⟩; exact ⟨hT, h1, by omega⟩
    have HW := Lib.hid (fun k (hk : k < T.length) => tabOk_wordOk hT hk)
    obtain ⟨bb, off, rfl, hbB, q, hc⟩ := h (by omega)
    have hcl : TCl w B bb off T q := ⟨hbB, hc⟩
    have hcl0 : TCl w0 B bb off T q := ⟨hbB, fun j hj => ⟨(hcl.2 j hj).1.below b0 (by omega), LAt.keep (hcl.2 j hj).2 b0 hB⟩⟩
    refine (storeOf_ok bb off c B T q _ hs (Nat.le_trans hB b0.size) hcl0 hT).mono ?_; rintro e w1 ⟨m1, m2, mm, rfl, hne, hm1, hm2, M1, hmm, M2, hb1⟩
    have R := R.next hb1
    have b1 := b0.trans (hb1.mono b0.size)
    have hfl := field_slots (some m1) (some m2) w1
    obtain ⟨r0, r1, r2, rf⟩ := R.c3
    have rl := R.lt
    clear b0 hb1 hcl0 hcl hc hT
    by_cases hk : 0 ≤ key ∧ key < (T.length : Int)
    · have HE := Lib.hid (show rcv (rc T key) (thereB T key) = rcv (cAt T key) true by rw [hTE, decide_eq_true hk]; simp [rc, hTE, hk])
      have hkn : key.toNat < T.length := by omega
      have hwo := HW.out key.toNat hkn
      have HWo := Lib.hid hwo
      have hsl : slotsF T T.length key = some (.agg #[.int .i64 (pk (cAt T key).e (cAt T key).s (cAt T key).h), .int .i64 (cAt T key).v]) := by unfold slotsF; rw [if_pos hk]; rfl
      have HSl := Lib.hid hsl
      clear hsl hwo
      have hWo : wordOk (cAt T key).e (cAt T key).s = true := HWo.out
      have HWo := Lib.hid hWo
      clear hWo
      generalize cAt T key = C at HE HSl HWo
      clear hTE
      go_wp2_with (first | (at_lookup; refine wp_look_ok _ rfl _ _ rfl keyI Tryz.underlying54 (zeroSlot _) rfl M1 key rfl hkey (.agg #[.int .i64 (pk C.e C.s C.h), .int .i64 C.v]) (by rw [HSl.out]; rfl) true (by rw [HSl.out]; rfl) ?_) | fail)
      have hA := (Below.refl w1.heap.size w1).alloc (Nat.le_refl _) (.cells #[.int .i64 (pk C.e C.s C.h), .int .i64 C.v] 61)
      have D := Box.new (w := w1) (c := #[.int .i64 (pk C.e C.s C.h), .int .i64 C.v]) (t := 61) rfl
      have R := R.next hA
      have hs1 := b1.size
      have b2 := b1.trans (hA.mono b1.size)
      generalize w1.alloc (.cells #[.int .i64 (pk C.e C.s C.h), .int .i64 C.v] 61) = w3 at hA D R b2 ⊢
      have HD := Lib.hid D.drew
      have HR := Lib.hid R.drew
      have HB := Lib.hid b2.drew
      have hS0 := Lib.hid (And.intro D.drew.c2.1 D.drew.c2.2.1)
      clear r0 r1 r2 rf D R b1 b2 hA hfl
      go_region_held3 (fun W => W.cell? ⟨w1.heap.size, 0, none⟩ = some (.int .i64 (pk C.e C.s C.h)) ∧ W.cell? ⟨w1.heap.size, 1, none⟩ = some (.int .i64 C.v)) (first | exact hS0.out | exact hS5.out | exact hS6.out) ((go_at_call 32; refine (word_pk C.e C.s C.h HWo.out _).mono ?_; rintro o w5 ⟨rfl, hb5⟩; have hR5 := HR.out.next hb5; obtain ⟨r0, r1, r2, rf⟩ := hR5.c3; have rl5 := hR5.lt; have hS5 := Lib.hid (And.intro (HD.out.next hb5).c2.1 (HD.out.next hb5).c2.2.1); have hD6 := (((HD.out.next hb5).far (a := ⟨w.heap.size + 1, 0, none⟩) (.int .i64 C.e) (by simp; omega)).far (a := ⟨w.heap.size + 1, 1, none⟩) (.int .i64 C.s) (by simp; omega)).far (a := ⟨w.heap.size + 1, 2, none⟩) (.bool C.h) (by simp; omega); have hS6 := Lib.hid (And.intro hD6.c2.1 hD6.c2.2.1); have HB5 := Lib.hid (HB.out.trans (hb5.mono HB.out.size)); clear hb5 hR5 hD6))
      rename_i hS
      clear hS
      go_wp2
      exact bodyPost_ret (v := .tuple #[.int .i64 C.v, .agg #[.int .i64 C.e, .int .i64 C.s, .bool C.h], .bool true]) (by simp [results, Tryz.results12, go_sem, r0, r1, r2]) rfl ⟨by rw [HE.out]; rfl, ((HB5.out.setCell (p := ⟨w.heap.size + 1, 0, none⟩) (by simp) _).setCell (p := ⟨w.heap.size + 1, 1, none⟩) (by simp) _).setCell (p := ⟨w.heap.size + 1, 2, none⟩) (by simp) _⟩
    · have HE := Lib.hid (show rcv (rc T key) (thereB T key) = .tuple #[.int .i64 0, .agg #[.int .i64 0, .int .i64 0, .bool false], .bool false] by rw [hTE, decide_eq_false hk]; simp [rc, hTE, hk, rcv, CD.zero])
      have HSl := Lib.hid (show slotsF T T.length key = none by unfold slotsF; rw [if_neg hk])
      clear hTE hk
      go_wp2_with (first | (at_lookup; refine wp_look_ok _ rfl _ _ rfl keyI Tryz.underlying54 (zeroSlot _) rfl M1 key rfl hkey (.agg #[.int .i64 0, .int .i64 0]) (by rw [HSl.out]; rfl) false (by rw [HSl.out]; rfl) ?_) | fail)
      exact bodyPost_ret (v := .tuple #[.int .i64 0, .agg #[.int .i64 0, .int .i64 0, .bool false], .bool false]) (by simp [results, Tryz.results12, go_sem, r0, r1, r2, rl]) rfl ⟨by rw [HE.out], (((b1.setCell (p := ⟨w.heap.size + 1, 0, none⟩) (by simp) _).setCell (p := ⟨w.heap.size + 1, 1, none⟩) (by simp) _).setCell (p := ⟨w.heap.size + 1, 2, none⟩) (by simp) _).alloc (by have := b1.size; simpa [World.setCell] using this) _⟩
end Go.Proofs.YtcndmdglnohbcaaGreatDoor
