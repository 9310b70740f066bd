/- ParseWord: the model's, and the law. -/
import Derived.Test.YtilgfcbjonalaabDoorWParse
import Derived.Deep.AppendLies
namespace Go.Proofs.YtilgfcbjonalaabDoor
open Go.RowKit

/-- (0, 0, h) lies in block B -/
def ZH (w : World) (B : Nat) (h : Bool) : Prop := (w.cell? ⟨B, 0, none⟩ = some (.int .i64 0) ∧ w.cell? ⟨B, 1, none⟩ = some (.int .i64 0) ∧ w.cell? ⟨B, 2, none⟩ = some (.bool h)) ∧
  (w.frozen? ⟨B, 0, none⟩ = false ∧ w.frozen? ⟨B, 1, none⟩ = false ∧ w.frozen? ⟨B, 2, none⟩ = false) ∧ B < w.heap.size
theorem ZH.made (w : World) (t : TypeId) (h : Bool) : ZH (w.alloc (.cells #[.int .i64 0, .int .i64 0, .bool h] t)) w.heap.size h := by
  refine ⟨⟨?_, ?_, ?_⟩, ⟨?_, ?_, ?_⟩, ?_⟩ <;> first | go_simp | skip
  all_goals simp
theorem ZH.below {w w' : World} {B : Nat} {h : Bool} (k : ZH w B h) (hb : Below w.heap.size w w') : ZH w' B h := by
  obtain ⟨⟨k1, k2, k3⟩, ⟨k4, k5, k6⟩, k7⟩ := k
  obtain ⟨hc, hf⟩ := wcell hb
  exact ⟨⟨(hc _ _ k7).trans k1, (hc _ _ k7).trans k2, (hc _ _ k7).trans k3⟩, ⟨(hf _ _ k7).trans k4, (hf _ _ k7).trans k5, (hf _ _ k7).trans k6⟩, Nat.lt_of_lt_of_le k7 hb.size⟩
theorem two_parts {D X Y : ByteArray} (h : parts D 46 = [X, Y]) : X.size ≤ D.size ∧ Y.size ≤ D.size := by
  have := parts_join D 46
  rw [show parts D (46 : UInt8).toNat = [X, Y] from h, List.map_cons, List.map_cons, List.map_nil, join_two _ _ _ (by simp), join_one] at this
  have := congrArg List.length this
  simp [bl_len] at this
  omega
theorem parts_two {D : ByteArray} (h : (parts D 46).length = 2) : ∃ X Y, parts D 46 = [X, Y] := by
  match hp : parts D 46, h with
  | [X, Y], _ => exact ⟨X, Y, rfl⟩
set_option maxHeartbeats 1600000 in
set_option maxRecDepth 100000 in
theorem specParse_big (s : ByteArray) (hs : 12 < s.size) (hs2 : s.size ≤ 1048576) (w : World) :
    Calls Tryd.prog 8 #[.string s] w (WordOut s w) := by
  have HN := Lib.hid (show ∀ a q h, ¬ wordIs s a q h from fun a q h hw => by have := wordIs_len hw; omega)
  go_enter Tryd.func8, Tryd.ntmps8
  go_wp2
  exact bodyPost_ret (v := .tuple #[.agg #[.int .i64 0, .int .i64 0, .bool false], .bool false]) (by simp [results, Tryd.results8, go_sem]) rfl ⟨.inr ⟨HN.out, rfl⟩, (Below.refl _ _).alloc (Nat.le_refl _) _⟩


set_option maxHeartbeats 3200000 in
set_option maxRecDepth 100000 in
theorem specParse_empty (s : ByteArray) (h0 : s.size = 0) (w : World) :
    Calls Tryd.prog 8 #[.string s] w (WordOut s w) := by
  have hb := body_plain (s := s) (fun h => by omega)
  have HH := Lib.hid hb.1
  have HV := Lib.hid hb.2
  clear hb
  go_enter Tryd.func8, Tryd.ntmps8
  go_wp2_with fail
  have ZA := ((Z3.made w 25).alloc (.cells #[.int .i64 0, .int .i64 0, .bool false] 25))
  have ZB : ZH ((w.alloc (.cells #[.int .i64 0, .int .i64 0, .bool false] 25)).alloc (.cells #[.int .i64 0, .int .i64 0, .bool false] 25)) (w.heap.size + 1) false := by
    have := ZH.made (w.alloc (.cells #[.int .i64 0, .int .i64 0, .bool false] 25)) 25 false
    rwa [show (w.alloc (.cells #[.int .i64 0, .int .i64 0, .bool false] 25)).heap.size = w.heap.size + 1 by simp] at this
  have hB0 := ((Below.refl w.heap.size w).alloc (Nat.le_refl _) (.cells #[.int .i64 0, .int .i64 0, .bool false] 25)).alloc (by simp) (.cells #[.int .i64 0, .int .i64 0, .bool false] 25)
  have HZA := Lib.hid ZA
  have HZB := Lib.hid ZB
  clear ZA ZB
  generalize (w.alloc (.cells #[.int .i64 0, .int .i64 0, .bool false] 25)).alloc (.cells #[.int .i64 0, .int .i64 0, .bool false] 25) = w0 at HZA HZB hB0 ⊢
  have hDs : s.size ≤ 1048576 := by omega
  refine (show Calls Tryd.prog 15 #[.string s, .int .u8 46] w0 _ from l01Parts_any s 46 w0 hDs).mono ?_; rintro e w1 ⟨v, rfl, hrow, hb1⟩
  have hB1 := hB0.trans (hb1.mono (Nat.le_of_lt HZA.out.2.2))
  have HZA1 := Lib.hid (HZA.out.below hb1)
  have HZB1 := Lib.hid (HZB.out.below hb1)
  have hn : (cutTo s 46 s.size).1.length + 1 = (parts s 46).length := by simp [parts]
  rw [hn] at hrow
  clear HZA HZB hB0 hn
  have hs1 := hb1.size
  obtain ⟨g, cap, rfl, hg⟩ : ∃ g cap, v = .slice (some ⟨g, 0, none⟩) (parts s 46).length cap ∧ g < w1.heap.size := by
    obtain ⟨g, cap, e1, _, e3⟩ := hrow.form (by simp [parts])
    exact ⟨g, cap, e1, e3⟩
  clear hb1 hs1
  by_cases h2 : (parts s 46).length = 2
  · obtain ⟨X, Y, hp⟩ := parts_two h2
    have hx : w1.cell? ⟨g, 0, none⟩ = some (.string X) := by rw [hrow.cellAt 0 (by rw [hp]; simp), hp]; rfl
    have hy : w1.cell? ⟨g, 1, none⟩ = some (.string Y) := by rw [hrow.cellAt 1 (by rw [hp]; simp), hp]; rfl
    obtain ⟨hXs, hYs⟩ := two_parts hp
    have HP := Lib.hid hp
    rw [h2]
    clear hrow h2 hp
    go_wp2_with fail
    refine (l01Read_any X (by omega) _).mono ?_; rintro e w2 ⟨a, b1, rfl, ha1, ha2, hb2⟩
    have hB2 := hB1.trans (hb2.mono (Nat.le_of_lt HZA1.out.2.2))
    have HZA2 := Lib.hid (HZA1.out.below hb2)
    have HZB2 := Lib.hid (HZB1.out.below hb2)
    have hy2 : w2.cell? ⟨g, 1, none⟩ = some (.string Y) := ((wcell hb2).1 _ _ hg).trans hy
    have HA1 := Lib.hid ha1
    have HA2 := Lib.hid ha2
    clear ha1 ha2 hb2 hx hy hB1 HZA1 HZB1
    go_wp2_with fail
    refine (l01Read_any Y (by omega) _).mono ?_; rintro e w3 ⟨q, b2, rfl, hq1, hq2, hb3⟩
    have hB3 := hB2.trans (hb3.mono (Nat.le_of_lt HZA2.out.2.2))
    have HZA3 := Lib.hid (HZA2.out.below hb3)
    have HZB3 := Lib.hid (HZB2.out.below hb3)
    have HQ1 := Lib.hid hq1
    have HQ2 := Lib.hid hq2
    clear hq1 hq2 hb3 hy2 hB2 HZA2 HZB2
    obtain ⟨⟨z1, z2, z3⟩, ⟨f1, f2, f3⟩, zl⟩ := HZA3.out
    obtain ⟨⟨y1, y2, y3⟩, ⟨g1, g2, g3⟩, yl⟩ := HZB3.out
    clear HZA3 HZB3
    cases b1
    · have HN := Lib.hid (show ∀ a q h, ¬ wordIs s a q h from fun a' q' h' hw => by
        have := (HA2.out a' (specWord_back HV.out HP.out hw).2.1).1
        cases this)
      go_wp2
      exact bodyPost_ret (v := .tuple #[.agg #[.int .i64 0, .int .i64 0, .bool false], .bool false]) (by simp [results, Tryd.results8, go_sem, z1, z2, z3]) rfl ⟨.inr ⟨HN.out, rfl⟩, (by (repeat' (refine Below.setCell ?_ (by simp) _)); exact hB3)⟩
    cases b2
    · have HN := Lib.hid (show ∀ a q h, ¬ wordIs s a q h from fun a' q' h' hw => by
        have := (HQ2.out q' (specWord_back HV.out HP.out hw).2.2).1
        cases this)
      go_wp2
      exact bodyPost_ret (v := .tuple #[.agg #[.int .i64 0, .int .i64 0, .bool false], .bool false]) (by simp [results, Tryd.results8, go_sem, z1, z2, z3]) rfl ⟨.inr ⟨HN.out, rfl⟩, (by (repeat' (refine Below.setCell ?_ (by simp) _)); exact hB3)⟩
    cases ho : wordOk a q
    · have HN := Lib.hid (show ∀ a q h, ¬ wordIs s a q h from fun a' q' h' hw => by
        obtain ⟨g0, g1, g2⟩ := specWord_back HV.out HP.out hw
        rw [(HA2.out a' g1).2, (HQ2.out q' g2).2, g0] at ho
        cases ho)
      go_wp2_with fail
      refine (specWordOk_any _ _ _ _).mono ?_; rintro o w4 ⟨rfl, hb4⟩; rw [ho]
      obtain ⟨hc4, hf4⟩ := wcell hb4
      have hz : ((w3.setCell ⟨w.heap.size + 1, 0, none⟩ (.int .i64 a)).setCell ⟨w.heap.size + 1, 1, none⟩ (.int .i64 q)).heap.size = w3.heap.size := by simp [World.setCell]
      have hB4 : Below w.heap.size w w4 := ((hB3.setCell (by simp) _).setCell (by simp) _).trans (hb4.mono (by rw [hz]; exact Nat.le_of_lt zl))
      have u0 : w4.cell? ⟨w.heap.size, 0, none⟩ = some (.int .i64 0) := by rw [hc4 _ _ (by rw [hz]; exact zl)]; go_simp
      have v0 : w4.frozen? ⟨w.heap.size, 0, none⟩ = false := by rw [hf4 _ _ (by rw [hz]; exact zl)]; go_simp
      have u1 : w4.cell? ⟨w.heap.size, 1, none⟩ = some (.int .i64 0) := by rw [hc4 _ _ (by rw [hz]; exact zl)]; go_simp
      have v1 : w4.frozen? ⟨w.heap.size, 1, none⟩ = false := by rw [hf4 _ _ (by rw [hz]; exact zl)]; go_simp
      have u2 : w4.cell? ⟨w.heap.size, 2, none⟩ = some (.bool false) := by rw [hc4 _ _ (by rw [hz]; exact zl)]; go_simp
      have v2 : w4.frozen? ⟨w.heap.size, 2, none⟩ = false := by rw [hf4 _ _ (by rw [hz]; exact zl)]; go_simp
      have x0 : w4.cell? ⟨w.heap.size + 1, 0, none⟩ = some (.int .i64 a) := by rw [hc4 _ _ (by rw [hz]; exact yl)]; go_simp
      have x1 : w4.cell? ⟨w.heap.size + 1, 1, none⟩ = some (.int .i64 q) := by rw [hc4 _ _ (by rw [hz]; exact yl)]; go_simp
      have x2 : w4.cell? ⟨w.heap.size + 1, 2, none⟩ = some (.bool false) := by rw [hc4 _ _ (by rw [hz]; exact yl)]; go_simp
      clear hc4 hf4 hz hb4 ho z1 z2 z3 f1 f2 f3 zl y1 y2 y3 g1 g2 g3 yl hB3
      go_wp2
      exact bodyPost_ret (v := .tuple #[.agg #[.int .i64 0, .int .i64 0, .bool false], .bool false]) (by simp [results, Tryd.results8, go_sem, u0, u1, u2]) rfl ⟨.inr ⟨HN.out, rfl⟩, ((hB4.setCell (by simp) _).setCell (by simp) _).setCell (by simp) _⟩
    · have HN := Lib.hid (specWord_yes HV.out HH.out HP.out (HA1.out rfl) (HQ1.out rfl) ho)
      go_wp2_with fail
      refine (specWordOk_any _ _ _ _).mono ?_; rintro o w4 ⟨rfl, hb4⟩; rw [ho]
      obtain ⟨hc4, hf4⟩ := wcell hb4
      have hz : ((w3.setCell ⟨w.heap.size + 1, 0, none⟩ (.int .i64 a)).setCell ⟨w.heap.size + 1, 1, none⟩ (.int .i64 q)).heap.size = w3.heap.size := by simp [World.setCell]
      have hB4 : Below w.heap.size w w4 := ((hB3.setCell (by simp) _).setCell (by simp) _).trans (hb4.mono (by rw [hz]; exact Nat.le_of_lt zl))
      have u0 : w4.cell? ⟨w.heap.size, 0, none⟩ = some (.int .i64 0) := by rw [hc4 _ _ (by rw [hz]; exact zl)]; go_simp
      have v0 : w4.frozen? ⟨w.heap.size, 0, none⟩ = false := by rw [hf4 _ _ (by rw [hz]; exact zl)]; go_simp
      have u1 : w4.cell? ⟨w.heap.size, 1, none⟩ = some (.int .i64 0) := by rw [hc4 _ _ (by rw [hz]; exact zl)]; go_simp
      have v1 : w4.frozen? ⟨w.heap.size, 1, none⟩ = false := by rw [hf4 _ _ (by rw [hz]; exact zl)]; go_simp
      have u2 : w4.cell? ⟨w.heap.size, 2, none⟩ = some (.bool false) := by rw [hc4 _ _ (by rw [hz]; exact zl)]; go_simp
      have v2 : w4.frozen? ⟨w.heap.size, 2, none⟩ = false := by rw [hf4 _ _ (by rw [hz]; exact zl)]; go_simp
      have x0 : w4.cell? ⟨w.heap.size + 1, 0, none⟩ = some (.int .i64 a) := by rw [hc4 _ _ (by rw [hz]; exact yl)]; go_simp
      have x1 : w4.cell? ⟨w.heap.size + 1, 1, none⟩ = some (.int .i64 q) := by rw [hc4 _ _ (by rw [hz]; exact yl)]; go_simp
      have x2 : w4.cell? ⟨w.heap.size + 1, 2, none⟩ = some (.bool false) := by rw [hc4 _ _ (by rw [hz]; exact yl)]; go_simp
      clear hc4 hf4 hz hb4 ho z1 z2 z3 f1 f2 f3 zl y1 y2 y3 g1 g2 g3 yl hB3
      go_wp2
      exact bodyPost_ret (v := .tuple #[.agg #[.int .i64 a, .int .i64 q, .bool false], .bool true]) (by simp [results, Tryd.results8, go_sem, u0, u1, u2]) rfl ⟨.inl ⟨a, q, false, HN.out, rfl⟩, ((hB4.setCell (by simp) _).setCell (by simp) _).setCell (by simp) _⟩
  · have HN := Lib.hid (specWord_no HV.out h2)
    have hne : (((parts s 46).length : Int) != 2) = true := by simp; omega
    obtain ⟨⟨z1, z2, z3⟩, ⟨f1, f2, f3⟩, zl⟩ := HZA1.out
    clear HZA1 HZB1 hrow h2
    generalize (parts s 46).length = N at hne ⊢
    go_wp2
    exact bodyPost_ret (v := .tuple #[.agg #[.int .i64 0, .int .i64 0, .bool false], .bool false]) (by simp [results, Tryd.results8, go_sem, z1, z2, z3]) rfl ⟨.inr ⟨HN.out, rfl⟩, ((hB1.setCell (by simp) _).setCell (by simp) _).setCell (by simp) _⟩

set_option maxHeartbeats 3200000 in
set_option maxRecDepth 100000 in
theorem specParse_star (s : ByteArray) (hs : s.size ≤ 12) (h0 : 0 < s.size) (hl : (s[s.size - 1]'(by omega)).toNat = 42) (w : World) :
    Calls Tryd.prog 8 #[.string s] w (WordOut s w) := by
  have hb := body_star h0 hl
  have HH := Lib.hid hb.1
  have HV := Lib.hid hb.2
  clear hb
  go_enter Tryd.func8, Tryd.ntmps8
  go_wp2_with fail
  generalize hDD : (s.extract 0 (s.size - 1)) = D at HV ⊢
  have hDz : D.size ≤ 1048576 := by rw [← hDD]; simp; omega
  clear hDD
  have ZA := ((Z3.made w 25).alloc (.cells #[.int .i64 0, .int .i64 0, .bool true] 25))
  have ZB : ZH ((w.alloc (.cells #[.int .i64 0, .int .i64 0, .bool false] 25)).alloc (.cells #[.int .i64 0, .int .i64 0, .bool true] 25)) (w.heap.size + 1) true := by
    have := ZH.made (w.alloc (.cells #[.int .i64 0, .int .i64 0, .bool false] 25)) 25 true
    rwa [show (w.alloc (.cells #[.int .i64 0, .int .i64 0, .bool false] 25)).heap.size = w.heap.size + 1 by simp] at this
  have hB0 := ((Below.refl w.heap.size w).alloc (Nat.le_refl _) (.cells #[.int .i64 0, .int .i64 0, .bool false] 25)).alloc (by simp) (.cells #[.int .i64 0, .int .i64 0, .bool true] 25)
  have HZA := Lib.hid ZA
  have HZB := Lib.hid ZB
  clear ZA ZB
  generalize (w.alloc (.cells #[.int .i64 0, .int .i64 0, .bool false] 25)).alloc (.cells #[.int .i64 0, .int .i64 0, .bool true] 25) = w0 at HZA HZB hB0 ⊢
  have hDs := hDz
  refine (show Calls Tryd.prog 15 #[.string D, .int .u8 46] w0 _ from l01Parts_any D 46 w0 hDs).mono ?_; rintro e w1 ⟨v, rfl, hrow, hb1⟩
  have hB1 := hB0.trans (hb1.mono (Nat.le_of_lt HZA.out.2.2))
  have HZA1 := Lib.hid (HZA.out.below hb1)
  have HZB1 := Lib.hid (HZB.out.below hb1)
  have hn : (cutTo D 46 D.size).1.length + 1 = (parts D 46).length := by simp [parts]
  rw [hn] at hrow
  clear HZA HZB hB0 hn
  have hs1 := hb1.size
  obtain ⟨g, cap, rfl, hg⟩ : ∃ g cap, v = .slice (some ⟨g, 0, none⟩) (parts D 46).length cap ∧ g < w1.heap.size := by
    obtain ⟨g, cap, e1, _, e3⟩ := hrow.form (by simp [parts])
    exact ⟨g, cap, e1, e3⟩
  clear hb1 hs1
  by_cases h2 : (parts D 46).length = 2
  · obtain ⟨X, Y, hp⟩ := parts_two h2
    have hx : w1.cell? ⟨g, 0, none⟩ = some (.string X) := by rw [hrow.cellAt 0 (by rw [hp]; simp), hp]; rfl
    have hy : w1.cell? ⟨g, 1, none⟩ = some (.string Y) := by rw [hrow.cellAt 1 (by rw [hp]; simp), hp]; rfl
    obtain ⟨hXs, hYs⟩ := two_parts hp
    have HP := Lib.hid hp
    rw [h2]
    clear hrow h2 hp
    go_wp2_with fail
    refine (l01Read_any X (by omega) _).mono ?_; rintro e w2 ⟨a, b1, rfl, ha1, ha2, hb2⟩
    have hB2 := hB1.trans (hb2.mono (Nat.le_of_lt HZA1.out.2.2))
    have HZA2 := Lib.hid (HZA1.out.below hb2)
    have HZB2 := Lib.hid (HZB1.out.below hb2)
    have hy2 : w2.cell? ⟨g, 1, none⟩ = some (.string Y) := ((wcell hb2).1 _ _ hg).trans hy
    have HA1 := Lib.hid ha1
    have HA2 := Lib.hid ha2
    clear ha1 ha2 hb2 hx hy hB1 HZA1 HZB1
    go_wp2_with fail
    refine (l01Read_any Y (by omega) _).mono ?_; rintro e w3 ⟨q, b2, rfl, hq1, hq2, hb3⟩
    have hB3 := hB2.trans (hb3.mono (Nat.le_of_lt HZA2.out.2.2))
    have HZA3 := Lib.hid (HZA2.out.below hb3)
    have HZB3 := Lib.hid (HZB2.out.below hb3)
    have HQ1 := Lib.hid hq1
    have HQ2 := Lib.hid hq2
    clear hq1 hq2 hb3 hy2 hB2 HZA2 HZB2
    obtain ⟨⟨z1, z2, z3⟩, ⟨f1, f2, f3⟩, zl⟩ := HZA3.out
    obtain ⟨⟨y1, y2, y3⟩, ⟨g1, g2, g3⟩, yl⟩ := HZB3.out
    clear HZA3 HZB3
    cases b1
    · have HN := Lib.hid (show ∀ a q h, ¬ wordIs s a q h from fun a' q' h' hw => by
        have := (HA2.out a' (specWord_back HV.out HP.out hw).2.1).1
        cases this)
      go_wp2
      exact bodyPost_ret (v := .tuple #[.agg #[.int .i64 0, .int .i64 0, .bool false], .bool false]) (by simp [results, Tryd.results8, go_sem, z1, z2, z3]) rfl ⟨.inr ⟨HN.out, rfl⟩, (by (repeat' (refine Below.setCell ?_ (by simp) _)); exact hB3)⟩
    cases b2
    · have HN := Lib.hid (show ∀ a q h, ¬ wordIs s a q h from fun a' q' h' hw => by
        have := (HQ2.out q' (specWord_back HV.out HP.out hw).2.2).1
        cases this)
      go_wp2
      exact bodyPost_ret (v := .tuple #[.agg #[.int .i64 0, .int .i64 0, .bool false], .bool false]) (by simp [results, Tryd.results8, go_sem, z1, z2, z3]) rfl ⟨.inr ⟨HN.out, rfl⟩, (by (repeat' (refine Below.setCell ?_ (by simp) _)); exact hB3)⟩
    cases ho : wordOk a q
    · have HN := Lib.hid (show ∀ a q h, ¬ wordIs s a q h from fun a' q' h' hw => by
        obtain ⟨g0, g1, g2⟩ := specWord_back HV.out HP.out hw
        rw [(HA2.out a' g1).2, (HQ2.out q' g2).2, g0] at ho
        cases ho)
      go_wp2_with fail
      refine (specWordOk_any _ _ _ _).mono ?_; rintro o w4 ⟨rfl, hb4⟩; rw [ho]
      obtain ⟨hc4, hf4⟩ := wcell hb4
      have hz : ((w3.setCell ⟨w.heap.size + 1, 0, none⟩ (.int .i64 a)).setCell ⟨w.heap.size + 1, 1, none⟩ (.int .i64 q)).heap.size = w3.heap.size := by simp [World.setCell]
      have hB4 : Below w.heap.size w w4 := ((hB3.setCell (by simp) _).setCell (by simp) _).trans (hb4.mono (by rw [hz]; exact Nat.le_of_lt zl))
      have u0 : w4.cell? ⟨w.heap.size, 0, none⟩ = some (.int .i64 0) := by rw [hc4 _ _ (by rw [hz]; exact zl)]; go_simp
      have v0 : w4.frozen? ⟨w.heap.size, 0, none⟩ = false := by rw [hf4 _ _ (by rw [hz]; exact zl)]; go_simp
      have u1 : w4.cell? ⟨w.heap.size, 1, none⟩ = some (.int .i64 0) := by rw [hc4 _ _ (by rw [hz]; exact zl)]; go_simp
      have v1 : w4.frozen? ⟨w.heap.size, 1, none⟩ = false := by rw [hf4 _ _ (by rw [hz]; exact zl)]; go_simp
      have u2 : w4.cell? ⟨w.heap.size, 2, none⟩ = some (.bool false) := by rw [hc4 _ _ (by rw [hz]; exact zl)]; go_simp
      have v2 : w4.frozen? ⟨w.heap.size, 2, none⟩ = false := by rw [hf4 _ _ (by rw [hz]; exact zl)]; go_simp
      have x0 : w4.cell? ⟨w.heap.size + 1, 0, none⟩ = some (.int .i64 a) := by rw [hc4 _ _ (by rw [hz]; exact yl)]; go_simp
      have x1 : w4.cell? ⟨w.heap.size + 1, 1, none⟩ = some (.int .i64 q) := by rw [hc4 _ _ (by rw [hz]; exact yl)]; go_simp
      have x2 : w4.cell? ⟨w.heap.size + 1, 2, none⟩ = some (.bool true) := by rw [hc4 _ _ (by rw [hz]; exact yl)]; go_simp
      clear hc4 hf4 hz hb4 ho z1 z2 z3 f1 f2 f3 zl y1 y2 y3 g1 g2 g3 yl hB3
      go_wp2
      exact bodyPost_ret (v := .tuple #[.agg #[.int .i64 0, .int .i64 0, .bool false], .bool false]) (by simp [results, Tryd.results8, go_sem, u0, u1, u2]) rfl ⟨.inr ⟨HN.out, rfl⟩, ((hB4.setCell (by simp) _).setCell (by simp) _).setCell (by simp) _⟩
    · have HN := Lib.hid (specWord_yes HV.out HH.out HP.out (HA1.out rfl) (HQ1.out rfl) ho)
      go_wp2_with fail
      refine (specWordOk_any _ _ _ _).mono ?_; rintro o w4 ⟨rfl, hb4⟩; rw [ho]
      obtain ⟨hc4, hf4⟩ := wcell hb4
      have hz : ((w3.setCell ⟨w.heap.size + 1, 0, none⟩ (.int .i64 a)).setCell ⟨w.heap.size + 1, 1, none⟩ (.int .i64 q)).heap.size = w3.heap.size := by simp [World.setCell]
      have hB4 : Below w.heap.size w w4 := ((hB3.setCell (by simp) _).setCell (by simp) _).trans (hb4.mono (by rw [hz]; exact Nat.le_of_lt zl))
      have u0 : w4.cell? ⟨w.heap.size, 0, none⟩ = some (.int .i64 0) := by rw [hc4 _ _ (by rw [hz]; exact zl)]; go_simp
      have v0 : w4.frozen? ⟨w.heap.size, 0, none⟩ = false := by rw [hf4 _ _ (by rw [hz]; exact zl)]; go_simp
      have u1 : w4.cell? ⟨w.heap.size, 1, none⟩ = some (.int .i64 0) := by rw [hc4 _ _ (by rw [hz]; exact zl)]; go_simp
      have v1 : w4.frozen? ⟨w.heap.size, 1, none⟩ = false := by rw [hf4 _ _ (by rw [hz]; exact zl)]; go_simp
      have u2 : w4.cell? ⟨w.heap.size, 2, none⟩ = some (.bool false) := by rw [hc4 _ _ (by rw [hz]; exact zl)]; go_simp
      have v2 : w4.frozen? ⟨w.heap.size, 2, none⟩ = false := by rw [hf4 _ _ (by rw [hz]; exact zl)]; go_simp
      have x0 : w4.cell? ⟨w.heap.size + 1, 0, none⟩ = some (.int .i64 a) := by rw [hc4 _ _ (by rw [hz]; exact yl)]; go_simp
      have x1 : w4.cell? ⟨w.heap.size + 1, 1, none⟩ = some (.int .i64 q) := by rw [hc4 _ _ (by rw [hz]; exact yl)]; go_simp
      have x2 : w4.cell? ⟨w.heap.size + 1, 2, none⟩ = some (.bool true) := by rw [hc4 _ _ (by rw [hz]; exact yl)]; go_simp
      clear hc4 hf4 hz hb4 ho z1 z2 z3 f1 f2 f3 zl y1 y2 y3 g1 g2 g3 yl hB3
      go_wp2
      exact bodyPost_ret (v := .tuple #[.agg #[.int .i64 a, .int .i64 q, .bool true], .bool true]) (by simp [results, Tryd.results8, go_sem, u0, u1, u2]) rfl ⟨.inl ⟨a, q, true, HN.out, rfl⟩, ((hB4.setCell (by simp) _).setCell (by simp) _).setCell (by simp) _⟩
  · have HN := Lib.hid (specWord_no HV.out h2)
    have hne : (((parts D 46).length : Int) != 2) = true := by simp; omega
    obtain ⟨⟨z1, z2, z3⟩, ⟨f1, f2, f3⟩, zl⟩ := HZA1.out
    clear HZA1 HZB1 hrow h2
    generalize (parts D 46).length = N at hne ⊢
    go_wp2
    exact bodyPost_ret (v := .tuple #[.agg #[.int .i64 0, .int .i64 0, .bool false], .bool false]) (by simp [results, Tryd.results8, go_sem, z1, z2, z3]) rfl ⟨.inr ⟨HN.out, rfl⟩, ((hB1.setCell (by simp) _).setCell (by simp) _).setCell (by simp) _⟩

set_option maxHeartbeats 3200000 in
set_option maxRecDepth 100000 in
theorem specParse_plain (s : ByteArray) (hs : s.size ≤ 12) (h0 : 0 < s.size) (hl : ¬ (s[s.size - 1]'(by omega)).toNat = 42) (w : World) :
    Calls Tryd.prog 8 #[.string s] w (WordOut s w) := by
  have hb := body_plain (s := s) (fun _ => hl)
  have HH := Lib.hid hb.1
  have HV := Lib.hid hb.2
  clear hb
  go_enter Tryd.func8, Tryd.ntmps8
  go_wp2_with fail
  have ZA := ((Z3.made w 25).alloc (.cells #[.int .i64 0, .int .i64 0, .bool false] 25))
  have ZB : ZH ((w.alloc (.cells #[.int .i64 0, .int .i64 0, .bool false] 25)).alloc (.cells #[.int .i64 0, .int .i64 0, .bool false] 25)) (w.heap.size + 1) false := by
    have := ZH.made (w.alloc (.cells #[.int .i64 0, .int .i64 0, .bool false] 25)) 25 false
    rwa [show (w.alloc (.cells #[.int .i64 0, .int .i64 0, .bool false] 25)).heap.size = w.heap.size + 1 by simp] at this
  have hB0 := ((Below.refl w.heap.size w).alloc (Nat.le_refl _) (.cells #[.int .i64 0, .int .i64 0, .bool false] 25)).alloc (by simp) (.cells #[.int .i64 0, .int .i64 0, .bool false] 25)
  have HZA := Lib.hid ZA
  have HZB := Lib.hid ZB
  clear ZA ZB
  generalize (w.alloc (.cells #[.int .i64 0, .int .i64 0, .bool false] 25)).alloc (.cells #[.int .i64 0, .int .i64 0, .bool false] 25) = w0 at HZA HZB hB0 ⊢
  have hDs : s.size ≤ 1048576 := by omega
  refine (show Calls Tryd.prog 15 #[.string s, .int .u8 46] w0 _ from l01Parts_any s 46 w0 hDs).mono ?_; rintro e w1 ⟨v, rfl, hrow, hb1⟩
  have hB1 := hB0.trans (hb1.mono (Nat.le_of_lt HZA.out.2.2))
  have HZA1 := Lib.hid (HZA.out.below hb1)
  have HZB1 := Lib.hid (HZB.out.below hb1)
  have hn : (cutTo s 46 s.size).1.length + 1 = (parts s 46).length := by simp [parts]
  rw [hn] at hrow
  clear HZA HZB hB0 hn
  have hs1 := hb1.size
  obtain ⟨g, cap, rfl, hg⟩ : ∃ g cap, v = .slice (some ⟨g, 0, none⟩) (parts s 46).length cap ∧ g < w1.heap.size := by
    obtain ⟨g, cap, e1, _, e3⟩ := hrow.form (by simp [parts])
    exact ⟨g, cap, e1, e3⟩
  clear hb1 hs1
  by_cases h2 : (parts s 46).length = 2
  · obtain ⟨X, Y, hp⟩ := parts_two h2
    have hx : w1.cell? ⟨g, 0, none⟩ = some (.string X) := by rw [hrow.cellAt 0 (by rw [hp]; simp), hp]; rfl
    have hy : w1.cell? ⟨g, 1, none⟩ = some (.string Y) := by rw [hrow.cellAt 1 (by rw [hp]; simp), hp]; rfl
    obtain ⟨hXs, hYs⟩ := two_parts hp
    have HP := Lib.hid hp
    rw [h2]
    clear hrow h2 hp
    go_wp2_with fail
    refine (l01Read_any X (by omega) _).mono ?_; rintro e w2 ⟨a, b1, rfl, ha1, ha2, hb2⟩
    have hB2 := hB1.trans (hb2.mono (Nat.le_of_lt HZA1.out.2.2))
    have HZA2 := Lib.hid (HZA1.out.below hb2)
    have HZB2 := Lib.hid (HZB1.out.below hb2)
    have hy2 : w2.cell? ⟨g, 1, none⟩ = some (.string Y) := ((wcell hb2).1 _ _ hg).trans hy
    have HA1 := Lib.hid ha1
    have HA2 := Lib.hid ha2
    clear ha1 ha2 hb2 hx hy hB1 HZA1 HZB1
    go_wp2_with fail
    refine (l01Read_any Y (by omega) _).mono ?_; rintro e w3 ⟨q, b2, rfl, hq1, hq2, hb3⟩
    have hB3 := hB2.trans (hb3.mono (Nat.le_of_lt HZA2.out.2.2))
    have HZA3 := Lib.hid (HZA2.out.below hb3)
    have HZB3 := Lib.hid (HZB2.out.below hb3)
    have HQ1 := Lib.hid hq1
    have HQ2 := Lib.hid hq2
    clear hq1 hq2 hb3 hy2 hB2 HZA2 HZB2
    obtain ⟨⟨z1, z2, z3⟩, ⟨f1, f2, f3⟩, zl⟩ := HZA3.out
    obtain ⟨⟨y1, y2, y3⟩, ⟨g1, g2, g3⟩, yl⟩ := HZB3.out
    clear HZA3 HZB3
    cases b1
    · have HN := Lib.hid (show ∀ a q h, ¬ wordIs s a q h from fun a' q' h' hw => by
        have := (HA2.out a' (specWord_back HV.out HP.out hw).2.1).1
        cases this)
      go_wp2
      exact bodyPost_ret (v := .tuple #[.agg #[.int .i64 0, .int .i64 0, .bool false], .bool false]) (by simp [results, Tryd.results8, go_sem, z1, z2, z3]) rfl ⟨.inr ⟨HN.out, rfl⟩, (by (repeat' (refine Below.setCell ?_ (by simp) _)); exact hB3)⟩
    cases b2
    · have HN := Lib.hid (show ∀ a q h, ¬ wordIs s a q h from fun a' q' h' hw => by
        have := (HQ2.out q' (specWord_back HV.out HP.out hw).2.2).1
        cases this)
      go_wp2
      exact bodyPost_ret (v := .tuple #[.agg #[.int .i64 0, .int .i64 0, .bool false], .bool false]) (by simp [results, Tryd.results8, go_sem, z1, z2, z3]) rfl ⟨.inr ⟨HN.out, rfl⟩, (by (repeat' (refine Below.setCell ?_ (by simp) _)); exact hB3)⟩
    cases ho : wordOk a q
    · have HN := Lib.hid (show ∀ a q h, ¬ wordIs s a q h from fun a' q' h' hw => by
        obtain ⟨g0, g1, g2⟩ := specWord_back HV.out HP.out hw
        rw [(HA2.out a' g1).2, (HQ2.out q' g2).2, g0] at ho
        cases ho)
      go_wp2_with fail
      refine (specWordOk_any _ _ _ _).mono ?_; rintro o w4 ⟨rfl, hb4⟩; rw [ho]
      obtain ⟨hc4, hf4⟩ := wcell hb4
      have hz : ((w3.setCell ⟨w.heap.size + 1, 0, none⟩ (.int .i64 a)).setCell ⟨w.heap.size + 1, 1, none⟩ (.int .i64 q)).heap.size = w3.heap.size := by simp [World.setCell]
      have hB4 : Below w.heap.size w w4 := ((hB3.setCell (by simp) _).setCell (by simp) _).trans (hb4.mono (by rw [hz]; exact Nat.le_of_lt zl))
      have u0 : w4.cell? ⟨w.heap.size, 0, none⟩ = some (.int .i64 0) := by rw [hc4 _ _ (by rw [hz]; exact zl)]; go_simp
      have v0 : w4.frozen? ⟨w.heap.size, 0, none⟩ = false := by rw [hf4 _ _ (by rw [hz]; exact zl)]; go_simp
      have u1 : w4.cell? ⟨w.heap.size, 1, none⟩ = some (.int .i64 0) := by rw [hc4 _ _ (by rw [hz]; exact zl)]; go_simp
      have v1 : w4.frozen? ⟨w.heap.size, 1, none⟩ = false := by rw [hf4 _ _ (by rw [hz]; exact zl)]; go_simp
      have u2 : w4.cell? ⟨w.heap.size, 2, none⟩ = some (.bool false) := by rw [hc4 _ _ (by rw [hz]; exact zl)]; go_simp
      have v2 : w4.frozen? ⟨w.heap.size, 2, none⟩ = false := by rw [hf4 _ _ (by rw [hz]; exact zl)]; go_simp
      have x0 : w4.cell? ⟨w.heap.size + 1, 0, none⟩ = some (.int .i64 a) := by rw [hc4 _ _ (by rw [hz]; exact yl)]; go_simp
      have x1 : w4.cell? ⟨w.heap.size + 1, 1, none⟩ = some (.int .i64 q) := by rw [hc4 _ _ (by rw [hz]; exact yl)]; go_simp
      have x2 : w4.cell? ⟨w.heap.size + 1, 2, none⟩ = some (.bool false) := by rw [hc4 _ _ (by rw [hz]; exact yl)]; go_simp
      clear hc4 hf4 hz hb4 ho z1 z2 z3 f1 f2 f3 zl y1 y2 y3 g1 g2 g3 yl hB3
      go_wp2
      exact bodyPost_ret (v := .tuple #[.agg #[.int .i64 0, .int .i64 0, .bool false], .bool false]) (by simp [results, Tryd.results8, go_sem, u0, u1, u2]) rfl ⟨.inr ⟨HN.out, rfl⟩, ((hB4.setCell (by simp) _).setCell (by simp) _).setCell (by simp) _⟩
    · have HN := Lib.hid (specWord_yes HV.out HH.out HP.out (HA1.out rfl) (HQ1.out rfl) ho)
      go_wp2_with fail
      refine (specWordOk_any _ _ _ _).mono ?_; rintro o w4 ⟨rfl, hb4⟩; rw [ho]
      obtain ⟨hc4, hf4⟩ := wcell hb4
      have hz : ((w3.setCell ⟨w.heap.size + 1, 0, none⟩ (.int .i64 a)).setCell ⟨w.heap.size + 1, 1, none⟩ (.int .i64 q)).heap.size = w3.heap.size := by simp [World.setCell]
      have hB4 : Below w.heap.size w w4 := ((hB3.setCell (by simp) _).setCell (by simp) _).trans (hb4.mono (by rw [hz]; exact Nat.le_of_lt zl))
      have u0 : w4.cell? ⟨w.heap.size, 0, none⟩ = some (.int .i64 0) := by rw [hc4 _ _ (by rw [hz]; exact zl)]; go_simp
      have v0 : w4.frozen? ⟨w.heap.size, 0, none⟩ = false := by rw [hf4 _ _ (by rw [hz]; exact zl)]; go_simp
      have u1 : w4.cell? ⟨w.heap.size, 1, none⟩ = some (.int .i64 0) := by rw [hc4 _ _ (by rw [hz]; exact zl)]; go_simp
      have v1 : w4.frozen? ⟨w.heap.size, 1, none⟩ = false := by rw [hf4 _ _ (by rw [hz]; exact zl)]; go_simp
      have u2 : w4.cell? ⟨w.heap.size, 2, none⟩ = some (.bool false) := by rw [hc4 _ _ (by rw [hz]; exact zl)]; go_simp
      have v2 : w4.frozen? ⟨w.heap.size, 2, none⟩ = false := by rw [hf4 _ _ (by rw [hz]; exact zl)]; go_simp
      have x0 : w4.cell? ⟨w.heap.size + 1, 0, none⟩ = some (.int .i64 a) := by rw [hc4 _ _ (by rw [hz]; exact yl)]; go_simp
      have x1 : w4.cell? ⟨w.heap.size + 1, 1, none⟩ = some (.int .i64 q) := by rw [hc4 _ _ (by rw [hz]; exact yl)]; go_simp
      have x2 : w4.cell? ⟨w.heap.size + 1, 2, none⟩ = some (.bool false) := by rw [hc4 _ _ (by rw [hz]; exact yl)]; go_simp
      clear hc4 hf4 hz hb4 ho z1 z2 z3 f1 f2 f3 zl y1 y2 y3 g1 g2 g3 yl hB3
      go_wp2
      exact bodyPost_ret (v := .tuple #[.agg #[.int .i64 a, .int .i64 q, .bool false], .bool true]) (by simp [results, Tryd.results8, go_sem, u0, u1, u2]) rfl ⟨.inl ⟨a, q, false, HN.out, rfl⟩, ((hB4.setCell (by simp) _).setCell (by simp) _).setCell (by simp) _⟩
  · have HN := Lib.hid (specWord_no HV.out h2)
    have hne : (((parts s 46).length : Int) != 2) = true := by simp; omega
    obtain ⟨⟨z1, z2, z3⟩, ⟨f1, f2, f3⟩, zl⟩ := HZA1.out
    clear HZA1 HZB1 hrow h2
    generalize (parts s 46).length = N at hne ⊢
    go_wp2
    exact bodyPost_ret (v := .tuple #[.agg #[.int .i64 0, .int .i64 0, .bool false], .bool false]) (by simp [results, Tryd.results8, go_sem, z1, z2, z3]) rfl ⟨.inr ⟨HN.out, rfl⟩, ((hB1.setCell (by simp) _).setCell (by simp) _).setCell (by simp) _⟩

theorem specParseWord_any (s : ByteArray) (hs : s.size ≤ 1048576) (w : World) :
    Calls Tryd.prog 8 #[.string s] w (WordOut s w) := by
  by_cases h12 : 12 < s.size
  · exact specParse_big s h12 hs w
  · by_cases h0 : s.size = 0
    · exact specParse_empty s h0 w
    · by_cases hl : (s[s.size - 1]'(by omega)).toNat = 42
      · exact specParse_star s (by omega) (by omega) hl w
      · exact specParse_plain s (by omega) (by omega) hl w

theorem dec_first (u : Nat) : ∃ c r, Lib.decDigits u = c :: r ∧ ¬ c = 45 := by
  cases h : Lib.decDigits u with
  | nil => exact absurd (by rw [Lib.itoa_nonneg]; exact h) (itoa_ne (u : Int))
  | cons c r =>
    refine ⟨c, r, rfl, fun e => ?_⟩
    have := (dec_digit u c (by rw [h]; simp)).1
    rw [e] at this
    exact absurd this (by decide)
theorem itoa_inj {a b : Int} (h : Lib.itoa a = Lib.itoa b) : a = b := by
  by_cases ha : 0 ≤ a
  · obtain ⟨m, rfl⟩ := Int.eq_ofNat_of_zero_le ha
    by_cases hb : 0 ≤ b
    · obtain ⟨n, rfl⟩ := Int.eq_ofNat_of_zero_le hb
      rw [Lib.itoa_nonneg, Lib.itoa_nonneg] at h
      have := congrArg worth h
      rw [worth_dec, worth_dec] at this
      rw [this]
    · obtain ⟨n, rfl⟩ : ∃ n : Nat, b = -(n : Int) := ⟨b.natAbs, by omega⟩
      rw [Lib.itoa_nonneg, Lib.itoa_neg n (by omega)] at h
      obtain ⟨c, r, e, hc⟩ := dec_first m
      rw [e] at h
      exact absurd (List.cons.inj h).1 hc
  · obtain ⟨m, rfl⟩ : ∃ m : Nat, a = -(m : Int) := ⟨a.natAbs, by omega⟩
    by_cases hb : 0 ≤ b
    · obtain ⟨n, rfl⟩ := Int.eq_ofNat_of_zero_le hb
      rw [Lib.itoa_nonneg, Lib.itoa_neg m (by omega)] at h
      obtain ⟨c, r, e, hc⟩ := dec_first n
      rw [e] at h
      exact absurd (List.cons.inj h).1.symm hc
    · obtain ⟨n, rfl⟩ : ∃ n : Nat, b = -(n : Int) := ⟨b.natAbs, by omega⟩
      rw [Lib.itoa_neg m (by omega), Lib.itoa_neg n (by omega)] at h
      have := congrArg worth (List.cons.inj h).2
      rw [worth_dec, worth_dec] at this
      rw [this]

theorem eqWord_same (a b : Int) (h : Bool) (w : World) :
    Calls Tryd.prog 10 #[.agg #[.int .i64 a, .int .i64 b, .bool h], .agg #[.int .i64 a, .int .i64 b, .bool h]] w fun o w' => o = .returned (.bool true) ∧ Below w.heap.size w w' := by
  cases h
  all_goals
    go_enter Tryd.func10, Tryd.ntmps10
    go_wp2
    go_ret
    exact ⟨rfl, ((Below.refl w.heap.size w).alloc (Nat.le_refl _) _).alloc (by simp) _⟩

/-- a text is the text of one word only -/
theorem wordIs_one {s : ByteArray} {a q a' q' : Int} {h h' : Bool} (h1 : wordIs s a q h) (h2 : wordIs s a' q' h') : a = a' ∧ q = q' ∧ h = h' := by
  obtain ⟨o1, e1, c1⟩ := (wordIs_iff s a q h).1 h1
  obtain ⟨o2, e2, c2⟩ := (wordIs_iff s a' q' h').1 h2
  have := (core_cut c1).symm.trans (core_cut c2)
  simp at this
  exact ⟨itoa_inj this.1, itoa_inj this.2, e1.trans e2.symm⟩

set_option maxHeartbeats 1600000 in
theorem exactParseWord_walk (s : ByteArray) (w : World) (ht : Tab w) (hM : MaxL w) :
    Calls Tryd.prog 4 #[.string s] w fun e w' => e = .returned (.bool true) ∧ Below w.heap.size w w' := by
  have HT := Lib.hid ht
  have HM := Lib.hid hM
  clear ht hM
  by_cases hs : 1048576 < s.size
  · go_enter Tryd.func4, Tryd.ntmps4
    go_wp2
    go_ret
    exact ⟨rfl, Below.refl _ _⟩
  · go_enter Tryd.func4, Tryd.ntmps4
    go_wp2_with fail
    refine (specParseWord_any s (by omega) _).mono ?_; rintro e w1 ⟨hout1, hb1⟩
    rcases hout1 with ⟨a, q, h, hw, rfl⟩ | ⟨hn, rfl⟩
    all_goals
      go_wp2_with fail
      refine (implParseWord_any s (by omega) _ (Tab.below (HT.out.below hb1) ((Below.refl _ _).alloc (Nat.le_refl _) _)) (MaxL.below (HM.out.below hb1) ((Below.refl _ _).alloc (Nat.le_refl _) _))).mono ?_; rintro e w2 ⟨hout2, hb2⟩; obtain ⟨hc2, hf2⟩ := wcell hb2
      have hz2 : w1.heap.size < w2.heap.size := by have := hb2.size; simp at this; omega
      have hz1 := hb1.size
      have hB2 : Below w.heap.size w w2 := (hb1.alloc hz1 _).trans (hb2.mono (by simp; omega))
      rcases hout2 with ⟨a', q', h', hw', rfl⟩ | ⟨hn', rfl⟩
    · obtain ⟨rfl, rfl, rfl⟩ := wordIs_one hw hw'
      go_wp2_with fail
      refine (eqWord_same _ _ _ _).mono ?_; rintro e w3 ⟨rfl, hb3⟩
      have hB3 := (hB2.alloc (by omega) _).trans (hb3.mono (by simp; omega))
      go_wp2
      go_ret
      exact ⟨rfl, hB3⟩
    · exact absurd hw (hn' _ _ _)
    · exact absurd hw' (hn _ _ _)
    · go_wp2_with fail
      refine (eqWord_same _ _ _ _).mono ?_; rintro e w3 ⟨rfl, hb3⟩
      have hB3 := (hB2.alloc (by omega) _).trans (hb3.mono (by simp; omega))
      go_wp2
      go_ret
      exact ⟨rfl, hB3⟩
end Go.Proofs.YtilgfcbjonalaabDoor
