/- NextWord: the model's and the program's. -/
import Derived.Test.YtcndmdglnohbcaaGreatDoorWUnp
import Derived.Test.YtcndmdglnohbcaaGreatDoorErr
namespace Go.Proofs.YtcndmdglnohbcaaGreatDoor
open Go.RowKit

/-- errFull holds a pointer to an errors.errorString -/
def Full (w : World) (a : Addr) : Prop := w.cell? ⟨0, 0, none⟩ = some (.iface 165 (.pointer (some a)))
theorem Full.below {w w' : World} {a : Addr} (h : Full w a) (hb : Below w.heap.size w w') : Full w' a :=
  (hb.cell (p := ⟨0, 0, none⟩) (World.block_lt_of_cell? _ _ h)).trans h

theorem next_up (x ep : Int) (h0 : 0 ≤ x) (h1 : x ≤ 134217727) (h2 : x / 2 / 65536 < ep) (h3 : ep ≤ 1023) (w : World) :
    Calls Tryz.prog 57 #[.int .i64 x, .int .i64 ep] w fun o w' => o = .returned (.tuple #[.int .i64 (pk ep 0 false), .nilIface]) ∧ w = w' := by
  have h4 : 0 ≤ ep := by omega
  go_enter Tryz.func57, Tryz.ntmps57
  go_wp2_with (first | (go_at_call 59; refine (epoch_any _ h0 h1 _).mono ?_; rintro e w' ⟨rfl, rfl⟩) | (go_at_call 61; refine (freePacked_any _ _ h4 h3 (by decide) (by decide) _).mono ?_; rintro e w' ⟨rfl, rfl⟩))
  go_ret2
  exact ⟨rfl, rfl⟩
theorem next_full (x ep : Int) (h0 : 0 ≤ x) (h1 : x ≤ 134217727) (h2 : ep ≤ x / 2 / 65536) (h3 : x / 2 % 65536 = 65535) (a : Addr) (w : World) (hF : Full w a) :
    Calls Tryz.prog 57 #[.int .i64 x, .int .i64 ep] w fun o w' => o = .returned (.tuple #[.int .i64 0, .iface 165 (.pointer (some a))]) ∧ Below w.heap.size w w' := by
  have hF' : w.cell? ⟨0, 0, none⟩ = some (.iface 165 (.pointer (some a))) := hF
  clear hF
  have b1 : decide (x / 2 / 65536 < ep) = false := by simp; omega
  have b2 : (x / 2 % 65536 == 65535) = true := by rw [h3]; rfl
  clear h3
  go_enter Tryz.func57, Tryz.ntmps57
  go_wp2_with (first | (go_at_call 59; refine (epoch_any _ h0 h1 _).mono ?_; rintro e w' ⟨rfl, rfl⟩) | (go_at_call 60; refine (seq_any _ h0 h1 _).mono ?_; rintro e w' ⟨rfl, rfl⟩))
  go_quiet (fail)
  go_wp2
  go_ret2
  exact ⟨rfl, below_drewN (Below.refl _ _) _⟩
theorem next_on (x ep : Int) (h0 : 0 ≤ x) (h1 : x ≤ 134217727) (h2 : ep ≤ x / 2 / 65536) (h3 : ¬ x / 2 % 65536 = 65535) (w : World) :
    Calls Tryz.prog 57 #[.int .i64 x, .int .i64 ep] w fun o w' => o = .returned (.tuple #[.int .i64 (pk (x / 2 / 65536) (x / 2 % 65536 + 1) false), .nilIface]) ∧ w = w' := by
  have b1 : decide (x / 2 / 65536 < ep) = false := by simp; omega
  have b2 : (x / 2 % 65536 == 65535) = false := by simp [h3]
  go_enter Tryz.func57, Tryz.ntmps57
  go_wp2_with (first | (go_at_call 59; refine (epoch_any _ h0 h1 _).mono ?_; rintro e w' ⟨rfl, rfl⟩) | (go_at_call 60; refine (seq_any _ h0 h1 _).mono ?_; rintro e w' ⟨rfl, rfl⟩) | (go_at_call 61; refine (freePacked_any _ _ (by omega) (by omega) (by omega) (by omega) _).mono ?_; rintro e w' ⟨rfl, rfl⟩))
  go_ret2
  exact ⟨rfl, rfl⟩

theorem inW_iff {x lo hi : Int} : inW x lo hi = true ↔ lo ≤ x ∧ x ≤ hi := by simp [inW]

set_option maxHeartbeats 1600000 in
set_option maxRecDepth 100000 in
theorem implNext_bad (a b : Int) (h : Bool) (ep : Int) (ho : wordOk a b = false) (w : World) :
    Calls Tryz.prog 31 #[.agg #[.int .i64 a, .int .i64 b, .bool h], .int .i64 ep] w fun o w' => o = .returned (.tuple #[.agg #[.int .i64 0, .int .i64 0, .bool false], .bool false]) ∧ Below w.heap.size w w' := by
  go_enter Tryz.func31, Tryz.ntmps31
  go_wp2_with fail
  refine (implWordOk_any _ _ _ _).mono ?_; rintro o w1 ⟨rfl, hb1⟩; rw [ho]; obtain ⟨hc1, hf1⟩ := wcell hb1
  have hs1 : w.heap.size + 1 < w1.heap.size := by have := hb1.size; simp at this; omega
  have hB1 := (((Below.refl w.heap.size w).alloc (Nat.le_refl _) _).alloc (by simp) _).trans (hb1.mono (by simp; omega))
  have k0 : w1.cell? ⟨w.heap.size, 0, none⟩ = some (.int .i64 a) := by rw [hc1 _ _ (by first | (simp; done) | (simp; omega))]; go_simp
  have k1 : w1.cell? ⟨w.heap.size, 1, none⟩ = some (.int .i64 b) := by rw [hc1 _ _ (by first | (simp; done) | (simp; omega))]; go_simp
  have k2 : w1.cell? ⟨w.heap.size, 2, none⟩ = some (.bool h) := by rw [hc1 _ _ (by first | (simp; done) | (simp; omega))]; go_simp
  have z0 : w1.cell? ⟨w.heap.size + 1, 0, none⟩ = some (.int .i64 0) := by rw [hc1 _ _ (by first | (simp; done) | (simp; omega))]; go_simp
  have fz0 : w1.frozen? ⟨w.heap.size + 1, 0, none⟩ = false := by rw [hf1 _ _ (by first | (simp; done) | (simp; omega))]; go_simp
  have z1 : w1.cell? ⟨w.heap.size + 1, 1, none⟩ = some (.int .i64 0) := by rw [hc1 _ _ (by first | (simp; done) | (simp; omega))]; go_simp
  have fz1 : w1.frozen? ⟨w.heap.size + 1, 1, none⟩ = false := by rw [hf1 _ _ (by first | (simp; done) | (simp; omega))]; go_simp
  have z2 : w1.cell? ⟨w.heap.size + 1, 2, none⟩ = some (.bool false) := by rw [hc1 _ _ (by first | (simp; done) | (simp; omega))]; go_simp
  have fz2 : w1.frozen? ⟨w.heap.size + 1, 2, none⟩ = false := by rw [hf1 _ _ (by first | (simp; done) | (simp; omega))]; go_simp
  clear hb1 hc1 hf1
  clear ho
  go_wp2
  exact bodyPost_ret (v := .tuple #[.agg #[.int .i64 0, .int .i64 0, .bool false], .bool false]) (by simp [results, Tryz.results31, go_sem, z0, z1, z2]) rfl ⟨rfl, ((hB1.setCell (by simp) _).setCell (by simp) _).setCell (by simp) _⟩
set_option maxHeartbeats 1600000 in
set_option maxRecDepth 100000 in
theorem implNext_badE (a b : Int) (h : Bool) (ep : Int) (ho : wordOk a b = true) (he : inW ep 0 1023 = false) (w : World) :
    Calls Tryz.prog 31 #[.agg #[.int .i64 a, .int .i64 b, .bool h], .int .i64 ep] w fun o w' => o = .returned (.tuple #[.agg #[.int .i64 0, .int .i64 0, .bool false], .bool false]) ∧ Below w.heap.size w w' := by
  go_enter Tryz.func31, Tryz.ntmps31
  go_wp2_with fail
  refine (implWordOk_any _ _ _ _).mono ?_; rintro o w1 ⟨rfl, hb1⟩; rw [ho]; obtain ⟨hc1, hf1⟩ := wcell hb1
  have hs1 : w.heap.size + 1 < w1.heap.size := by have := hb1.size; simp at this; omega
  have hB1 := (((Below.refl w.heap.size w).alloc (Nat.le_refl _) _).alloc (by simp) _).trans (hb1.mono (by simp; omega))
  have k0 : w1.cell? ⟨w.heap.size, 0, none⟩ = some (.int .i64 a) := by rw [hc1 _ _ (by first | (simp; done) | (simp; omega))]; go_simp
  have k1 : w1.cell? ⟨w.heap.size, 1, none⟩ = some (.int .i64 b) := by rw [hc1 _ _ (by first | (simp; done) | (simp; omega))]; go_simp
  have k2 : w1.cell? ⟨w.heap.size, 2, none⟩ = some (.bool h) := by rw [hc1 _ _ (by first | (simp; done) | (simp; omega))]; go_simp
  have z0 : w1.cell? ⟨w.heap.size + 1, 0, none⟩ = some (.int .i64 0) := by rw [hc1 _ _ (by first | (simp; done) | (simp; omega))]; go_simp
  have fz0 : w1.frozen? ⟨w.heap.size + 1, 0, none⟩ = false := by rw [hf1 _ _ (by first | (simp; done) | (simp; omega))]; go_simp
  have z1 : w1.cell? ⟨w.heap.size + 1, 1, none⟩ = some (.int .i64 0) := by rw [hc1 _ _ (by first | (simp; done) | (simp; omega))]; go_simp
  have fz1 : w1.frozen? ⟨w.heap.size + 1, 1, none⟩ = false := by rw [hf1 _ _ (by first | (simp; done) | (simp; omega))]; go_simp
  have z2 : w1.cell? ⟨w.heap.size + 1, 2, none⟩ = some (.bool false) := by rw [hc1 _ _ (by first | (simp; done) | (simp; omega))]; go_simp
  have fz2 : w1.frozen? ⟨w.heap.size + 1, 2, none⟩ = false := by rw [hf1 _ _ (by first | (simp; done) | (simp; omega))]; go_simp
  clear hb1 hc1 hf1
  clear ho
  go_wp2_with fail
  refine (epochOk_any _ _).mono ?_; rintro o w' ⟨rfl, rfl⟩; rw [he]
  clear he
  go_wp2
  exact bodyPost_ret (v := .tuple #[.agg #[.int .i64 0, .int .i64 0, .bool false], .bool false]) (by simp [results, Tryz.results31, go_sem, z0, z1, z2]) rfl ⟨rfl, ((hB1.setCell (by simp) _).setCell (by simp) _).setCell (by simp) _⟩
set_option maxHeartbeats 1600000 in
set_option maxRecDepth 100000 in
theorem implNext_up (a b : Int) (h : Bool) (ep : Int) (ho : wordOk a b = true) (he : inW ep 0 1023 = true) (ad : Addr) (hlt : a < ep) (w : World) (hF : Full w ad) :
    Calls Tryz.prog 31 #[.agg #[.int .i64 a, .int .i64 b, .bool h], .int .i64 ep] w fun o w' => o = .returned (.tuple #[.agg #[.int .i64 ep, .int .i64 0, .bool false], .bool true]) ∧ Below w.heap.size w w' := by
  have HF0 := Lib.hid hF
  clear hF
  go_enter Tryz.func31, Tryz.ntmps31
  go_wp2_with fail
  refine (implWordOk_any _ _ _ _).mono ?_; rintro o w1 ⟨rfl, hb1⟩; rw [ho]; obtain ⟨hc1, hf1⟩ := wcell hb1
  have hs1 : w.heap.size + 1 < w1.heap.size := by have := hb1.size; simp at this; omega
  have hB1 := (((Below.refl w.heap.size w).alloc (Nat.le_refl _) _).alloc (by simp) _).trans (hb1.mono (by simp; omega))
  have k0 : w1.cell? ⟨w.heap.size, 0, none⟩ = some (.int .i64 a) := by rw [hc1 _ _ (by first | (simp; done) | (simp; omega))]; go_simp
  have k1 : w1.cell? ⟨w.heap.size, 1, none⟩ = some (.int .i64 b) := by rw [hc1 _ _ (by first | (simp; done) | (simp; omega))]; go_simp
  have k2 : w1.cell? ⟨w.heap.size, 2, none⟩ = some (.bool h) := by rw [hc1 _ _ (by first | (simp; done) | (simp; omega))]; go_simp
  have z0 : w1.cell? ⟨w.heap.size + 1, 0, none⟩ = some (.int .i64 0) := by rw [hc1 _ _ (by first | (simp; done) | (simp; omega))]; go_simp
  have fz0 : w1.frozen? ⟨w.heap.size + 1, 0, none⟩ = false := by rw [hf1 _ _ (by first | (simp; done) | (simp; omega))]; go_simp
  have z1 : w1.cell? ⟨w.heap.size + 1, 1, none⟩ = some (.int .i64 0) := by rw [hc1 _ _ (by first | (simp; done) | (simp; omega))]; go_simp
  have fz1 : w1.frozen? ⟨w.heap.size + 1, 1, none⟩ = false := by rw [hf1 _ _ (by first | (simp; done) | (simp; omega))]; go_simp
  have z2 : w1.cell? ⟨w.heap.size + 1, 2, none⟩ = some (.bool false) := by rw [hc1 _ _ (by first | (simp; done) | (simp; omega))]; go_simp
  have fz2 : w1.frozen? ⟨w.heap.size + 1, 2, none⟩ = false := by rw [hf1 _ _ (by first | (simp; done) | (simp; omega))]; go_simp
  have HF1 := Lib.hid (((HF0.out.below ((Below.refl _ _).alloc (Nat.le_refl _) _)).below ((Below.refl _ _).alloc (Nat.le_refl _) _)).below hb1)
  clear hb1 hc1 hf1 HF0
  have R := pk_range h ho
  obtain ⟨⟨a1, a2⟩, a3, a4⟩ := wordOk_iff.1 ho
  have hpe : pk a b h / 2 / 65536 = a := by rw [pk_half]; omega
  have hps : pk a b h / 2 % 65536 = b := by rw [pk_half]; omega
  have HPE := Lib.hid hpe
  have HPS := Lib.hid hps
  clear hpe hps ho
  go_wp2_with fail
  refine (epochOk_any _ _).mono ?_; rintro o w' ⟨rfl, rfl⟩; rw [he]
  have HE := Lib.hid he
  clear he
  go_wp2_with fail
  refine (packedOf_any _ _ _ a1 a2 a3 a4 _).mono ?_; rintro o w2 ⟨rfl, hb2⟩; obtain ⟨hc2, hf2⟩ := wcell hb2
  have hs2 : w.heap.size + 1 < w2.heap.size := Nat.lt_of_lt_of_le hs1 hb2.size
  have hB2 := hB1.trans (hb2.mono (by omega))
  have y0 : w2.cell? ⟨w.heap.size + 1, 0, none⟩ = some (.int .i64 0) := (hc2 _ _ hs1).trans z0
  have fy0 : w2.frozen? ⟨w.heap.size + 1, 0, none⟩ = false := (hf2 _ _ hs1).trans fz0
  have y1 : w2.cell? ⟨w.heap.size + 1, 1, none⟩ = some (.int .i64 0) := (hc2 _ _ hs1).trans z1
  have fy1 : w2.frozen? ⟨w.heap.size + 1, 1, none⟩ = false := (hf2 _ _ hs1).trans fz1
  have y2 : w2.cell? ⟨w.heap.size + 1, 2, none⟩ = some (.bool false) := (hc2 _ _ hs1).trans z2
  have fy2 : w2.frozen? ⟨w.heap.size + 1, 2, none⟩ = false := (hf2 _ _ hs1).trans fz2
  have HF2 := Lib.hid (HF1.out.below hb2)
  clear hb2 HF1
  clear z0 z1 z2 fz0 fz1 fz2 hc2 hf2 hB1 k0 k1 k2
  go_wp2_with fail
  refine (next_up _ _ R.1 R.2 (by rw [HPE.out]; exact hlt) (inW_iff.1 HE.out).2 _).mono ?_; rintro o w' ⟨rfl, rfl⟩
  have hg := HF2.out
  unfold Full at hg
  go_wp2_with fail
  refine (is_nil _ _).mono ?_; rintro o w' ⟨rfl, rfl⟩
  clear hg
  have R3 := pk_range (e := ep) (s := 0) false (wordOk_iff.2 ⟨inW_iff.1 HE.out, by decide, by decide⟩)
  go_wp2_with fail
  refine (word_any _ R3.1 R3.2 _).mono ?_; rintro o w4 ⟨rfl, hb4⟩; obtain ⟨hc4, hf4⟩ := wcell hb4
  have hB4 := hB2.trans (hb4.mono (by omega))
  have x0 : w4.cell? ⟨w.heap.size + 1, 0, none⟩ = some (.int .i64 0) := (hc4 _ _ hs2).trans y0
  have fx0 : w4.frozen? ⟨w.heap.size + 1, 0, none⟩ = false := (hf4 _ _ hs2).trans fy0
  have x1 : w4.cell? ⟨w.heap.size + 1, 1, none⟩ = some (.int .i64 0) := (hc4 _ _ hs2).trans y1
  have fx1 : w4.frozen? ⟨w.heap.size + 1, 1, none⟩ = false := (hf4 _ _ hs2).trans fy1
  have x2 : w4.cell? ⟨w.heap.size + 1, 2, none⟩ = some (.bool false) := (hc4 _ _ hs2).trans y2
  have fx2 : w4.frozen? ⟨w.heap.size + 1, 2, none⟩ = false := (hf4 _ _ hs2).trans fy2
  clear hc4 hf4 hb4
  go_wp2
  have e1 : pk ep 0 false / 2 / 65536 = ep := by rw [pk_half]; omega
  have e2 : pk ep 0 false / 2 % 65536 = 0 := by rw [pk_half]; omega
  have e3 : (pk ep 0 false % 2 == 1) = false := by simp [pk]
  rw [e1, e2, e3]
  exact bodyPost_ret (v := .tuple #[.agg #[.int .i64 ep, .int .i64 0, .bool false], .bool true]) (by simp [results, Tryz.results31, go_sem, x0, x1, x2]) rfl ⟨rfl, ((hB4.setCell (by simp) _).setCell (by simp) _).setCell (by simp) _⟩
set_option maxHeartbeats 1600000 in
set_option maxRecDepth 100000 in
theorem implNext_full (a b : Int) (h : Bool) (ep : Int) (ho : wordOk a b = true) (he : inW ep 0 1023 = true) (ad : Addr) (hle : ep ≤ a) (hb : b = 65535) (w : World) (hF : Full w ad) :
    Calls Tryz.prog 31 #[.agg #[.int .i64 a, .int .i64 b, .bool h], .int .i64 ep] w fun o w' => o = .returned (.tuple #[.agg #[.int .i64 0, .int .i64 0, .bool false], .bool false]) ∧ Below w.heap.size w w' := by
  have HBB := Lib.hid hb
  clear hb
  have HF0 := Lib.hid hF
  clear hF
  go_enter Tryz.func31, Tryz.ntmps31
  go_wp2_with fail
  refine (implWordOk_any _ _ _ _).mono ?_; rintro o w1 ⟨rfl, hb1⟩; rw [ho]; obtain ⟨hc1, hf1⟩ := wcell hb1
  have hs1 : w.heap.size + 1 < w1.heap.size := by have := hb1.size; simp at this; omega
  have hB1 := (((Below.refl w.heap.size w).alloc (Nat.le_refl _) _).alloc (by simp) _).trans (hb1.mono (by simp; omega))
  have k0 : w1.cell? ⟨w.heap.size, 0, none⟩ = some (.int .i64 a) := by rw [hc1 _ _ (by first | (simp; done) | (simp; omega))]; go_simp
  have k1 : w1.cell? ⟨w.heap.size, 1, none⟩ = some (.int .i64 b) := by rw [hc1 _ _ (by first | (simp; done) | (simp; omega))]; go_simp
  have k2 : w1.cell? ⟨w.heap.size, 2, none⟩ = some (.bool h) := by rw [hc1 _ _ (by first | (simp; done) | (simp; omega))]; go_simp
  have z0 : w1.cell? ⟨w.heap.size + 1, 0, none⟩ = some (.int .i64 0) := by rw [hc1 _ _ (by first | (simp; done) | (simp; omega))]; go_simp
  have fz0 : w1.frozen? ⟨w.heap.size + 1, 0, none⟩ = false := by rw [hf1 _ _ (by first | (simp; done) | (simp; omega))]; go_simp
  have z1 : w1.cell? ⟨w.heap.size + 1, 1, none⟩ = some (.int .i64 0) := by rw [hc1 _ _ (by first | (simp; done) | (simp; omega))]; go_simp
  have fz1 : w1.frozen? ⟨w.heap.size + 1, 1, none⟩ = false := by rw [hf1 _ _ (by first | (simp; done) | (simp; omega))]; go_simp
  have z2 : w1.cell? ⟨w.heap.size + 1, 2, none⟩ = some (.bool false) := by rw [hc1 _ _ (by first | (simp; done) | (simp; omega))]; go_simp
  have fz2 : w1.frozen? ⟨w.heap.size + 1, 2, none⟩ = false := by rw [hf1 _ _ (by first | (simp; done) | (simp; omega))]; go_simp
  have HF1 := Lib.hid (((HF0.out.below ((Below.refl _ _).alloc (Nat.le_refl _) _)).below ((Below.refl _ _).alloc (Nat.le_refl _) _)).below hb1)
  clear hb1 hc1 hf1 HF0
  have R := pk_range h ho
  obtain ⟨⟨a1, a2⟩, a3, a4⟩ := wordOk_iff.1 ho
  have hpe : pk a b h / 2 / 65536 = a := by rw [pk_half]; omega
  have hps : pk a b h / 2 % 65536 = b := by rw [pk_half]; omega
  have HPE := Lib.hid hpe
  have HPS := Lib.hid hps
  clear hpe hps ho
  go_wp2_with fail
  refine (epochOk_any _ _).mono ?_; rintro o w' ⟨rfl, rfl⟩; rw [he]
  clear he
  go_wp2_with fail
  refine (packedOf_any _ _ _ a1 a2 a3 a4 _).mono ?_; rintro o w2 ⟨rfl, hb2⟩; obtain ⟨hc2, hf2⟩ := wcell hb2
  have hs2 : w.heap.size + 1 < w2.heap.size := Nat.lt_of_lt_of_le hs1 hb2.size
  have hB2 := hB1.trans (hb2.mono (by omega))
  have y0 : w2.cell? ⟨w.heap.size + 1, 0, none⟩ = some (.int .i64 0) := (hc2 _ _ hs1).trans z0
  have fy0 : w2.frozen? ⟨w.heap.size + 1, 0, none⟩ = false := (hf2 _ _ hs1).trans fz0
  have y1 : w2.cell? ⟨w.heap.size + 1, 1, none⟩ = some (.int .i64 0) := (hc2 _ _ hs1).trans z1
  have fy1 : w2.frozen? ⟨w.heap.size + 1, 1, none⟩ = false := (hf2 _ _ hs1).trans fz1
  have y2 : w2.cell? ⟨w.heap.size + 1, 2, none⟩ = some (.bool false) := (hc2 _ _ hs1).trans z2
  have fy2 : w2.frozen? ⟨w.heap.size + 1, 2, none⟩ = false := (hf2 _ _ hs1).trans fz2
  have HF2 := Lib.hid (HF1.out.below hb2)
  clear hb2 HF1
  clear z0 z1 z2 fz0 fz1 fz2 hc2 hf2 hB1 k0 k1 k2
  go_wp2_with fail
  refine (next_full _ _ R.1 R.2 (by rw [HPE.out]; exact hle) (by rw [HPS.out]; exact HBB.out) ad _ HF2.out).mono ?_; rintro o w3 ⟨rfl, hb3⟩; obtain ⟨hc3, hf3⟩ := wcell hb3
  have hB3 := hB2.trans (hb3.mono (by omega))
  have HF3 := Lib.hid (HF2.out.below hb3)
  have x0 : w3.cell? ⟨w.heap.size + 1, 0, none⟩ = some (.int .i64 0) := (hc3 _ _ hs2).trans y0
  have fx0 : w3.frozen? ⟨w.heap.size + 1, 0, none⟩ = false := (hf3 _ _ hs2).trans fy0
  have x1 : w3.cell? ⟨w.heap.size + 1, 1, none⟩ = some (.int .i64 0) := (hc3 _ _ hs2).trans y1
  have fx1 : w3.frozen? ⟨w.heap.size + 1, 1, none⟩ = false := (hf3 _ _ hs2).trans fy1
  have x2 : w3.cell? ⟨w.heap.size + 1, 2, none⟩ = some (.bool false) := (hc3 _ _ hs2).trans y2
  have fx2 : w3.frozen? ⟨w.heap.size + 1, 2, none⟩ = false := (hf3 _ _ hs2).trans fy2
  clear hb3 hc3 hf3 HF2
  have hg := HF3.out
  unfold Full at hg
  go_wp2_with fail
  refine (is_same _ _).mono ?_; rintro o w' ⟨rfl, rfl⟩
  clear hg
  go_wp2
  exact bodyPost_ret (v := .tuple #[.agg #[.int .i64 0, .int .i64 0, .bool false], .bool false]) (by simp [results, Tryz.results31, go_sem, x0, x1, x2]) rfl ⟨rfl, ((hB3.setCell (by simp) _).setCell (by simp) _).setCell (by simp) _⟩
set_option maxHeartbeats 1600000 in
set_option maxRecDepth 100000 in
theorem implNext_on (a b : Int) (h : Bool) (ep : Int) (ho : wordOk a b = true) (he : inW ep 0 1023 = true) (ad : Addr) (hle : ep ≤ a) (hb : ¬ b = 65535) (w : World) (hF : Full w ad) :
    Calls Tryz.prog 31 #[.agg #[.int .i64 a, .int .i64 b, .bool h], .int .i64 ep] w fun o w' => o = .returned (.tuple #[.agg #[.int .i64 a, .int .i64 (b + 1), .bool false], .bool true]) ∧ Below w.heap.size w w' := by
  have HF0 := Lib.hid hF
  clear hF
  go_enter Tryz.func31, Tryz.ntmps31
  go_wp2_with fail
  refine (implWordOk_any _ _ _ _).mono ?_; rintro o w1 ⟨rfl, hb1⟩; rw [ho]; obtain ⟨hc1, hf1⟩ := wcell hb1
  have hs1 : w.heap.size + 1 < w1.heap.size := by have := hb1.size; simp at this; omega
  have hB1 := (((Below.refl w.heap.size w).alloc (Nat.le_refl _) _).alloc (by simp) _).trans (hb1.mono (by simp; omega))
  have k0 : w1.cell? ⟨w.heap.size, 0, none⟩ = some (.int .i64 a) := by rw [hc1 _ _ (by first | (simp; done) | (simp; omega))]; go_simp
  have k1 : w1.cell? ⟨w.heap.size, 1, none⟩ = some (.int .i64 b) := by rw [hc1 _ _ (by first | (simp; done) | (simp; omega))]; go_simp
  have k2 : w1.cell? ⟨w.heap.size, 2, none⟩ = some (.bool h) := by rw [hc1 _ _ (by first | (simp; done) | (simp; omega))]; go_simp
  have z0 : w1.cell? ⟨w.heap.size + 1, 0, none⟩ = some (.int .i64 0) := by rw [hc1 _ _ (by first | (simp; done) | (simp; omega))]; go_simp
  have fz0 : w1.frozen? ⟨w.heap.size + 1, 0, none⟩ = false := by rw [hf1 _ _ (by first | (simp; done) | (simp; omega))]; go_simp
  have z1 : w1.cell? ⟨w.heap.size + 1, 1, none⟩ = some (.int .i64 0) := by rw [hc1 _ _ (by first | (simp; done) | (simp; omega))]; go_simp
  have fz1 : w1.frozen? ⟨w.heap.size + 1, 1, none⟩ = false := by rw [hf1 _ _ (by first | (simp; done) | (simp; omega))]; go_simp
  have z2 : w1.cell? ⟨w.heap.size + 1, 2, none⟩ = some (.bool false) := by rw [hc1 _ _ (by first | (simp; done) | (simp; omega))]; go_simp
  have fz2 : w1.frozen? ⟨w.heap.size + 1, 2, none⟩ = false := by rw [hf1 _ _ (by first | (simp; done) | (simp; omega))]; go_simp
  have HF1 := Lib.hid (((HF0.out.below ((Below.refl _ _).alloc (Nat.le_refl _) _)).below ((Below.refl _ _).alloc (Nat.le_refl _) _)).below hb1)
  clear hb1 hc1 hf1 HF0
  have R := pk_range h ho
  obtain ⟨⟨a1, a2⟩, a3, a4⟩ := wordOk_iff.1 ho
  have hpe : pk a b h / 2 / 65536 = a := by rw [pk_half]; omega
  have hps : pk a b h / 2 % 65536 = b := by rw [pk_half]; omega
  have HPE := Lib.hid hpe
  have HPS := Lib.hid hps
  clear hpe hps ho
  go_wp2_with fail
  refine (epochOk_any _ _).mono ?_; rintro o w' ⟨rfl, rfl⟩; rw [he]
  clear he
  go_wp2_with fail
  refine (packedOf_any _ _ _ a1 a2 a3 a4 _).mono ?_; rintro o w2 ⟨rfl, hb2⟩; obtain ⟨hc2, hf2⟩ := wcell hb2
  have hs2 : w.heap.size + 1 < w2.heap.size := Nat.lt_of_lt_of_le hs1 hb2.size
  have hB2 := hB1.trans (hb2.mono (by omega))
  have y0 : w2.cell? ⟨w.heap.size + 1, 0, none⟩ = some (.int .i64 0) := (hc2 _ _ hs1).trans z0
  have fy0 : w2.frozen? ⟨w.heap.size + 1, 0, none⟩ = false := (hf2 _ _ hs1).trans fz0
  have y1 : w2.cell? ⟨w.heap.size + 1, 1, none⟩ = some (.int .i64 0) := (hc2 _ _ hs1).trans z1
  have fy1 : w2.frozen? ⟨w.heap.size + 1, 1, none⟩ = false := (hf2 _ _ hs1).trans fz1
  have y2 : w2.cell? ⟨w.heap.size + 1, 2, none⟩ = some (.bool false) := (hc2 _ _ hs1).trans z2
  have fy2 : w2.frozen? ⟨w.heap.size + 1, 2, none⟩ = false := (hf2 _ _ hs1).trans fz2
  have HF2 := Lib.hid (HF1.out.below hb2)
  clear hb2 HF1
  clear z0 z1 z2 fz0 fz1 fz2 hc2 hf2 hB1 k0 k1 k2
  have hlo : ep ≤ pk a b h / 2 / 65536 := by rw [HPE.out]; exact hle
  have hno : ¬ pk a b h / 2 % 65536 = 65535 := by rw [HPS.out]; exact hb
  go_wp2_with fail
  refine (next_on _ _ R.1 R.2 hlo hno _).mono ?_; rintro o w' ⟨rfl, rfl⟩
  rw [HPE.out, HPS.out]
  clear hlo hno
  have hg := HF2.out
  unfold Full at hg
  go_wp2_with fail
  refine (is_nil _ _).mono ?_; rintro o w' ⟨rfl, rfl⟩
  clear hg
  have R3 := pk_range (e := a) (s := b + 1) false (wordOk_iff.2 ⟨⟨a1, a2⟩, by omega, by omega⟩)
  go_wp2_with fail
  refine (word_any _ R3.1 R3.2 _).mono ?_; rintro o w4 ⟨rfl, hb4⟩; obtain ⟨hc4, hf4⟩ := wcell hb4
  have hB4 := hB2.trans (hb4.mono (by omega))
  have x0 : w4.cell? ⟨w.heap.size + 1, 0, none⟩ = some (.int .i64 0) := (hc4 _ _ hs2).trans y0
  have fx0 : w4.frozen? ⟨w.heap.size + 1, 0, none⟩ = false := (hf4 _ _ hs2).trans fy0
  have x1 : w4.cell? ⟨w.heap.size + 1, 1, none⟩ = some (.int .i64 0) := (hc4 _ _ hs2).trans y1
  have fx1 : w4.frozen? ⟨w.heap.size + 1, 1, none⟩ = false := (hf4 _ _ hs2).trans fy1
  have x2 : w4.cell? ⟨w.heap.size + 1, 2, none⟩ = some (.bool false) := (hc4 _ _ hs2).trans y2
  have fx2 : w4.frozen? ⟨w.heap.size + 1, 2, none⟩ = false := (hf4 _ _ hs2).trans fy2
  clear hc4 hf4 hb4
  go_wp2
  have e1 : pk a (b + 1) false / 2 / 65536 = a := by rw [pk_half]; omega
  have e2 : pk a (b + 1) false / 2 % 65536 = b + 1 := by rw [pk_half]; omega
  have e3 : (pk a (b + 1) false % 2 == 1) = false := by simp [pk]
  rw [e1, e2, e3]
  exact bodyPost_ret (v := .tuple #[.agg #[.int .i64 a, .int .i64 (b + 1), .bool false], .bool true]) (by simp [results, Tryz.results31, go_sem, x0, x1, x2]) rfl ⟨rfl, ((hB4.setCell (by simp) _).setCell (by simp) _).setCell (by simp) _⟩
end Go.Proofs.YtcndmdglnohbcaaGreatDoor
