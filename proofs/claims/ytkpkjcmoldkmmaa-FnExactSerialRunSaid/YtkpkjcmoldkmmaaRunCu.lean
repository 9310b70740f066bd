/- Contract of impl.RunSerial. -/
import Derived.Test.YtkpkjcmoldkmmaaRunBu
namespace Go.Proofs.Ytkpkjcmoldkmmaa
open Go.RowKit

theorem reports_get (y : Int) (w : World) : Calls Try.prog 121 #[.iface 169 (.agg #[.int .i64 y])] w fun e w' => e = .returned (.bool true) ∧ w = w' := by
  have h := ta_yes Try.underlying169
  go_enter Try.func121, Try.ntmps121
  go_wp2
  go_ret
  exact ⟨rfl, rfl⟩
theorem reports_put (y n : Int) (w : World) : Calls Try.prog 121 #[.iface 171 (.agg #[.int .i64 y, .int .i64 n])] w fun e w' => e = .returned (.bool false) ∧ w = w' := by
  have h := ta_no (t := 171) Try.underlying169 zGet (by decide)
  go_enter Try.func121, Try.ntmps121
  go_wp2
  go_ret
  exact ⟨rfl, rfl⟩
theorem reports_add (y n : Int) (w : World) : Calls Try.prog 121 #[.iface 172 (.agg #[.int .i64 y, .int .i64 n])] w fun e w' => e = .returned (.bool false) ∧ w = w' := by
  have h := ta_no (t := 172) Try.underlying169 zGet (by decide)
  go_enter Try.func121, Try.ntmps121
  go_wp2
  go_ret
  exact ⟨rfl, rfl⟩

theorem key_get (y : Int) (w : World) : Calls Try.prog 163 #[.agg #[.int .i64 y]] w fun e w' => e = .returned (.int .i64 y) ∧ Below w.heap.size w w' := by
  go_enter Try.func163, Try.ntmps163
  go_wp2
  go_ret
  exact ⟨rfl, (Below.refl _ _).alloc (Nat.le_refl _) _⟩
theorem key_put (y n : Int) (w : World) : Calls Try.prog 165 #[.agg #[.int .i64 y, .int .i64 n]] w fun e w' => e = .returned (.int .i64 y) ∧ Below w.heap.size w w' := by
  go_enter Try.func165, Try.ntmps165
  go_wp2
  go_ret
  exact ⟨rfl, (Below.refl _ _).alloc (Nat.le_refl _) _⟩
theorem key_add (y n : Int) (w : World) : Calls Try.prog 167 #[.agg #[.int .i64 y, .int .i64 n]] w fun e w' => e = .returned (.int .i64 y) ∧ Below w.heap.size w w' := by
  go_enter Try.func167, Try.ntmps167
  go_wp2
  go_ret
  exact ⟨rfl, (Below.refl _ _).alloc (Nat.le_refl _) _⟩
theorem after_get (y x : Int) (w : World) : Calls Try.prog 162 #[.agg #[.int .i64 y], .int .i64 x] w fun e w' => e = .returned (.int .i64 x) ∧ Below w.heap.size w w' := by
  go_enter Try.func162, Try.ntmps162
  go_wp2
  go_ret
  exact ⟨rfl, (Below.refl _ _).alloc (Nat.le_refl _) _⟩
theorem after_put (y n x : Int) (w : World) : Calls Try.prog 164 #[.agg #[.int .i64 y, .int .i64 n], .int .i64 x] w fun e w' => e = .returned (.int .i64 n) ∧ Below w.heap.size w w' := by
  go_enter Try.func164, Try.ntmps164
  go_wp2
  go_ret
  exact ⟨rfl, (Below.refl _ _).alloc (Nat.le_refl _) _⟩
theorem after_add (y n x : Int) (hx : -1000000 ≤ x ∧ x ≤ 1000000) (hn : -1000000 ≤ n ∧ n ≤ 1000000) (w : World) : Calls Try.prog 166 #[.agg #[.int .i64 y, .int .i64 n], .int .i64 x] w fun e w' => e = .returned (.int .i64 (cut (x + n))) ∧ Below w.heap.size w w' := by
  obtain ⟨x1, x2⟩ := hx
  obtain ⟨n1, n2⟩ := hn
  by_cases h : 1000000 < x + n
  · have h2 : ¬ x + n < -1000000 := by omega
    go_enter Try.func166, Try.ntmps166
    go_wp2
    go_ret
    exact ⟨ret_num (cut_hi h).symm, (Below.refl _ _).alloc (Nat.le_refl _) _⟩
  · by_cases h2 : x + n < -1000000
    · go_enter Try.func166, Try.ntmps166
      go_wp2
      go_ret
      exact ⟨ret_num (cut_lo (by omega) h2).symm, (Below.refl _ _).alloc (Nat.le_refl _) _⟩
    · go_enter Try.func166, Try.ntmps166
      go_wp2
      go_ret
      exact ⟨ret_num (cut_mid (by omega) (by omega)).symm, (Below.refl _ _).alloc (Nat.le_refl _) _⟩

theorem CellsI.grown {w w' : World} {g o L : Nat} {f : Nat → Int} {row : Option Nat} (h : CellsI w g o L f) (hg : w.grownBy w' row) (hB : g < w.heap.size) (hr : ∀ q, row = some q → g < q) : CellsI w' g o L f := fun j hj => by
  have hk := hg.block g hB (fun e => by have := hr g e.symm; omega)
  exact ⟨(World.cell?_of_block (a := ⟨g, o + j, none⟩) hk).trans (h j hj).1, (World.frozen?_of_block (a := ⟨g, o + j, none⟩) hk).trans (h j hj).2⟩
theorem cells_keep {w : World} {g o L k y : Nat} {f v : Nat → Int} (h : CellsI w g o L (runV f v k)) (h0 : f (k * 3) = 0) (hL : y < L) :
    CellsI (w.setCell ⟨g, o + y, none⟩ (.int .i64 (runV f v k y))) g o L (runV f v (k + 1)) :=
  (h.set hL (runV f v k y)).congr fun j _ => by
    rw [runV_succ, actV, h0]
    by_cases e : j = y
    · subst e; simp
    · rw [if_neg e]; simp

theorem mkey_get (k : Nat) (y : Int) (w : World) : (method (k + 1) 169 (.agg #[.int .i64 y]) "loop.example/g00771/impl.key").run Try.prog w = .ok (163, .agg #[.int .i64 y]) w := by kernel_rfl
theorem mkey_put (k : Nat) (y n : Int) (w : World) : (method (k + 1) 171 (.agg #[.int .i64 y, .int .i64 n]) "loop.example/g00771/impl.key").run Try.prog w = .ok (165, .agg #[.int .i64 y, .int .i64 n]) w := by kernel_rfl
theorem mkey_add (k : Nat) (y n : Int) (w : World) : (method (k + 1) 172 (.agg #[.int .i64 y, .int .i64 n]) "loop.example/g00771/impl.key").run Try.prog w = .ok (167, .agg #[.int .i64 y, .int .i64 n]) w := by kernel_rfl
theorem mafter_get (k : Nat) (y : Int) (w : World) : (method (k + 1) 169 (.agg #[.int .i64 y]) "loop.example/g00771/impl.after").run Try.prog w = .ok (162, .agg #[.int .i64 y]) w := by kernel_rfl
theorem mafter_put (k : Nat) (y n : Int) (w : World) : (method (k + 1) 171 (.agg #[.int .i64 y, .int .i64 n]) "loop.example/g00771/impl.after").run Try.prog w = .ok (164, .agg #[.int .i64 y, .int .i64 n]) w := by kernel_rfl
theorem mafter_add (k : Nat) (y n : Int) (w : World) : (method (k + 1) 172 (.agg #[.int .i64 y, .int .i64 n]) "loop.example/g00771/impl.after").run Try.prog w = .ok (166, .agg #[.int .i64 y, .int .i64 n]) w := by kernel_rfl

set_option maxHeartbeats 3200000 in
theorem implRun_any (A2 : Option Addr) (b1 off1 L n c1 c2 : Nat) (v f : Nat → Int) (w : World) (hL : L ≤ 1048576) (hB1 : b1 < w.heap.size) (hc1 : ∀ j, j < L → w.cell? ⟨b1, off1 + j, none⟩ = some (.int .i64 (v j))) (h2 : IntsAt w w.heap.size A2 (n * 3) f) :
    Calls Try.prog 79 #[.slice (some ⟨b1, off1, none⟩) L c1, .slice A2 n c2] w (RunOut w L (resV L v n f) (resT L v n f) (runOk L v n f)) := by
  have h1 : IntsAt w w.heap.size (some ⟨b1, off1, none⟩) L v := fun _ => ⟨b1, off1, rfl, hB1, hc1⟩
  cases hok : runOk L v n f with
  | false =>
    have HN := Lib.hid hok
    go_enter Try.func79, Try.ntmps79
    go_wp2_with fail
    refine (clone_any _ _ _ _ v _ hL hB1 hc1).mono ?_; rintro e w1 ⟨x, rfl, ho, hb1⟩
    obtain ⟨B1, d1, rfl, _, o1⟩ := OwnI.of_owns ho
    have o1 := own_first o1
    simp only [firstI_len]
    clear ho hc1
    have hs := hb1.size
    go_wp2_with fail
    refine (canRun_any _ _ _ _ _ _ v f _ hL (h1.below hb1 hs) (h2.below hb1 hs)).mono ?_; rintro e w2 ⟨rfl, hb2⟩
    rw [hok]
    clear hok
    go_wp2
    go_ret3
    have := res_no HN.out (own_more (c := d1) hs hb2.size (o1.below hb2 (Nat.le_refl _)) (hb1.trans (hb2.mono hs)))
    rwa [HN.out] at this
  | true =>
    obtain ⟨hL8, hV, hP, hK⟩ := runOk_parts hok
    have HOK := Lib.hid hok
    have HV := Lib.hid hV
    have HP := Lib.hid hP
    have HK := Lib.hid hK
    have h16 := prog_len hP
    obtain ⟨b2, off2, rfl, hB2, hc2⟩ := h2 (by omega)
    obtain ⟨i0, hi, hz0, hz1, hz2⟩ := info_parts infoInt
    have Hi := Lib.hid hi
    have Hz0 := Lib.hid hz0
    have Hz1 := Lib.hid hz1
    have Hz2 := Lib.hid hz2
    clear hi hz0 hz1 hz2 hV hP hK
    go_enter Try.func79, Try.ntmps79
    go_wp2_with fail
    refine (clone_any _ _ _ _ v _ hL hB1 hc1).mono ?_; rintro e w1 ⟨x, rfl, ho, hb1⟩
    obtain ⟨B1, d1, rfl, _, o1⟩ := OwnI.of_owns ho
    have o1 := own_first o1
    simp only [firstI_len]
    clear ho hc1
    have hs := hb1.size
    go_wp2_with fail
    refine (canRun_any _ _ _ _ _ _ v f _ hL (h1.below hb1 hs) (h2.below hb1 hs)).mono ?_; rintro e w2 ⟨rfl, hb2⟩
    rw [hok]
    clear hok
    have o2 := o1.below hb2 (Nat.le_refl _)
    have hb4 := hb1.trans (hb2.mono hs)
    have hs3 := hb2.size
    obtain ⟨g, o, rfl, hg1, hg2, hcg⟩ := o2 (by omega)
    have hcg : CellsI w2 g o L v := hcg
    clear h1 h2 o1
    go_wp2
    go_loopw [8, 22] (fun s i wr => ∃ m : Nat, m ≤ n ∧ i = .int .i64 m ∧ wr.ownsRow w1.heap.size 3 1 s (runT f v m).length ((runT f v m).map (.int .i64)) ∧ CellsI wr g o L (runV f v m) ∧ Below w.heap.size w wr ∧ w1.heap.size ≤ wr.heap.size) (fun _ i _ => n - (intOf i).toNat)
    case atStart => exact ⟨0, Nat.zero_le _, rfl, World.ownsRow_nil _ _ _ _, hcg, hb4, hs3⟩
    case round =>
      obtain ⟨m, hm, rfl, hT, hcv, hb, hz⟩ := hrel
      clear hcg
      by_cases hmn : m < n
      · have hmz : (m : Int) < n := by omega
        have hkr := key_range HP.out hmn
        have hkl := keysIn_get HK.out hmn
        obtain ⟨y, hy⟩ := Int.eq_ofNat_of_zero_le hkr.1
        have hs' := hb.size
        have hTl := runT_le f v m
        have hyk : y < L := by omega
        have hyz : (y : Int) < L := by omega
        have hgb : g < wr.heap.size := World.block_lt_of_cell? _ _ (hcv y hyk).1
        have d0 : wr.cell? ⟨b2, off2 + m * 3, none⟩ = some (.int .i64 (f (m * 3))) := (hb.cell (p := ⟨b2, off2 + m * 3, none⟩) hB2).trans (hc2 (m * 3) (by omega))
        have d1 : wr.cell? ⟨b2, off2 + m * 3 + 1, none⟩ = some (.int .i64 (y : Int)) := by rw [← hy]; exact (hb.cell (p := ⟨b2, off2 + m * 3 + 1, none⟩) hB2).trans (hc2 (m * 3 + 1) (by omega))
        have d2 : wr.cell? ⟨b2, off2 + m * 3 + 2, none⟩ = some (.int .i64 (f (m * 3 + 2))) := (hb.cell (p := ⟨b2, off2 + m * 3 + 2, none⟩) hB2).trans (hc2 (m * 3 + 2) (by omega))
        rcases kind3 HP.out hmn with h0 | h0 | h0
        · have HT := Lib.hid (runT_get (v := v) h0 hy)
          have H0 := Lib.hid h0
          rw [h0] at d0
          clear hc2 hkr hy h0 hkl
          have HCV := Lib.hid hcv
          have HTO := Lib.hid hT
          clear hcv hT
          go_wp2_with fail
          refine (actionOf_get _ _ _).mono ?_; rintro e w3 ⟨rfl, hb3⟩
          have hB := (hb.alloc hs' _).trans (hb3.mono (by simp; omega))
          have hsz3 : wr.heap.size < w3.heap.size := by have := hb3.size; simp at this; omega
          have hm1 := fun k => mkey_get k y
          have hm2 := fun k => mafter_get k y
          go_wp2_with fail
          refine (key_get _ _).mono ?_; rintro e w4 ⟨rfl, hb5⟩
          have hs4 := hb5.size
          have hcv4 := (((HCV.out.alloc hgb _).below hb3 (by simp; omega))).below hb5 (by omega)
          have hT4 := ownsRow_below (ownsRow_below (HTO.out.alloc _) hb3 (Nat.le_refl _)) hb5 (Nat.le_refl _)
          have e0 : w4.cell? ⟨g, o + y, none⟩ = some (.int .i64 (runV f v m y)) := (hcv4 y hyk).1
          have hB4 := hB.trans (hb5.mono (by omega))
          have HCV4 := Lib.hid hcv4
          clear hcv4
          go_wp2_with fail
          refine (reports_get _ _).mono ?_; rintro e w' ⟨rfl, rfl⟩
          go_wp2_with (at_builtin; refine wpList_append_own _ rfl _ _ 31 rfl w1.heap.size 3 i0 (.int .i64 0) 1 8 Try.underlying31 Hi.out Hz0.out Hz1.out Hz2.out rfl (by decide) _ _ _ rfl (hT4.alloc _) ⟨w4.heap.size, 0, none⟩ 1 1 [.int .i64 (runV f v m y)] rfl rfl ?c1 ?c2 ?c3 ?c4 ?c5 ?_)
          case c1 =>
            intro j u hj
            match j, hj with
            | 0, hj => simp at hj; subst hj; simp [Addr.add]
          case c2 => intro u hu; simp at hu; subst hu; rfl
          case c3 => unfold maxLen; omega
          case c4 => omega
          case c5 => simp; omega
          intro v' w6 hown' hgrow _
          have hb' := (hB4.alloc (by omega) _).grown hgrow (by simp; omega) (fun q hq => by have := (hT4.lt q hq).1; omega)
          have hT2 : w6.ownsRow w1.heap.size 3 1 v' (runT f v (m + 1)).length ((runT f v (m + 1)).map (.int .i64)) := by rw [HT.out]; simpa using hown'
          have hcv6 := (HCV4.out.alloc (by omega) _).grown hgrow (by simp; omega) (fun q hq => by have := (hT4.lt q hq).1; omega)
          have hz2 : w4.heap.size ≤ w6.heap.size := by have := hgrow.size; simp at this; omega
          have HT2 := Lib.hid hT2
          have HCV6 := Lib.hid hcv6
          clear hown' hgrow hT4 e0 hcv6 hT2
          go_wp2_with fail
          refine (key_get _ _).mono ?_; rintro e w7 ⟨rfl, hb7⟩
          go_wp2_with fail
          refine (after_get _ _ _).mono ?_; rintro e w8 ⟨rfl, hb8⟩
          have hs7 := hb7.size
          have hs8 := hb8.size
          have hcv8 := (HCV6.out.below hb7 (by omega)).below hb8 (by omega)
          have hT8 := ownsRow_below (ownsRow_below HT2.out hb7 (Nat.le_refl _)) hb8 (Nat.le_refl _)
          have e0 : w8.cell? ⟨g, o + y, none⟩ = some (.int .i64 (runV f v m y)) := (hcv8 y hyk).1
          have e1 : w8.frozen? ⟨g, o + y, none⟩ = false := (hcv8 y hyk).2
          have HC := Lib.hid (cells_keep hcv8 H0.out hyk)
          have hB8 := (hb'.trans (hb7.mono (by omega))).trans (hb8.mono (by omega))
          have HT8 := Lib.hid hT8
          clear hcv8 hT8
          go_wp2
          exact ⟨⟨m + 1, by omega, by go_num, ownsRow_setCell_below HT8.out (a := ⟨g, o + y, none⟩) hg2 _, HC.out, hB8.setCell hg1 _, by simp [World.setCell]; omega⟩, by simp [intOf]; omega⟩
        · have HT := Lib.hid (runT_not (v := v) (show ¬ f (m * 3) = 0 by omega))
          have H0 := Lib.hid h0
          have HY := Lib.hid hy
          rw [h0] at d0
          clear hc2 hkr hy h0 hkl
          have HCV := Lib.hid hcv
          have HTO := Lib.hid hT
          clear hcv hT
          go_wp2_with fail
          refine (actionOf_put _ _ _).mono ?_; rintro e w3 ⟨rfl, hb3⟩
          have hB := (hb.alloc hs' _).trans (hb3.mono (by simp; omega))
          have hsz3 : wr.heap.size < w3.heap.size := by have := hb3.size; simp at this; omega
          have hm1 := fun k => mkey_put k y (f (m * 3 + 2))
          have hm2 := fun k => mafter_put k y (f (m * 3 + 2))
          go_wp2_with fail
          refine (key_put _ _ _).mono ?_; rintro e w4 ⟨rfl, hb5⟩
          have hs4 := hb5.size
          have hcv4 := (((HCV.out.alloc hgb _).below hb3 (by simp; omega))).below hb5 (by omega)
          have hT4 := ownsRow_below (ownsRow_below (HTO.out.alloc _) hb3 (Nat.le_refl _)) hb5 (Nat.le_refl _)
          have e0 : w4.cell? ⟨g, o + y, none⟩ = some (.int .i64 (runV f v m y)) := (hcv4 y hyk).1
          have hB4 := hB.trans (hb5.mono (by omega))
          have HCV4 := Lib.hid hcv4
          clear hcv4
          go_wp2_with fail
          refine (reports_put _ _ _).mono ?_; rintro e w' ⟨rfl, rfl⟩
          clear e0
          have HT4 := Lib.hid hT4
          clear hT4
          go_wp2_with fail
          refine (key_put _ _ _).mono ?_; rintro e w7 ⟨rfl, hb7⟩
          go_wp2_with fail
          refine (after_put _ _ _ _).mono ?_; rintro e w8 ⟨rfl, hb8⟩
          have hs7 := hb7.size
          have hs8 := hb8.size
          have hcv8 := (HCV4.out.below hb7 (by omega)).below hb8 (by omega)
          have hT8 := ownsRow_below (ownsRow_below HT4.out hb7 (Nat.le_refl _)) hb8 (Nat.le_refl _)
          have e0 : w8.cell? ⟨g, o + y, none⟩ = some (.int .i64 (runV f v m y)) := (hcv8 y hyk).1
          have e1 : w8.frozen? ⟨g, o + y, none⟩ = false := (hcv8 y hyk).2
          have HC := Lib.hid (cells_put hcv8 H0.out HY.out hyk)
          have hB8 := (hB4.trans (hb7.mono (by omega))).trans (hb8.mono (by omega))
          have HT8 := Lib.hid hT8
          clear hcv8 hT8
          go_wp2
          exact ⟨⟨m + 1, by omega, by go_num, by rw [HT.out]; exact ownsRow_setCell_below HT8.out (a := ⟨g, o + y, none⟩) hg2 _, HC.out, hB8.setCell hg1 _, by simp [World.setCell]; omega⟩, by simp [intOf]; omega⟩
        · have HT := Lib.hid (runT_not (v := v) (show ¬ f (m * 3) = 0 by omega))
          have H0 := Lib.hid h0
          have HY := Lib.hid hy
          have HR1 := Lib.hid (runV_range HV.out HP.out m (by omega) y hyk)
          have HR2 := Lib.hid (num_range HP.out hmn)
          rw [h0] at d0
          clear hc2 hkr hy h0 hkl
          have HCV := Lib.hid hcv
          have HTO := Lib.hid hT
          clear hcv hT
          go_wp2_with fail
          refine (actionOf_add _ _ _).mono ?_; rintro e w3 ⟨rfl, hb3⟩
          have hB := (hb.alloc hs' _).trans (hb3.mono (by simp; omega))
          have hsz3 : wr.heap.size < w3.heap.size := by have := hb3.size; simp at this; omega
          have hm1 := fun k => mkey_add k y (f (m * 3 + 2))
          have hm2 := fun k => mafter_add k y (f (m * 3 + 2))
          go_wp2_with fail
          refine (key_add _ _ _).mono ?_; rintro e w4 ⟨rfl, hb5⟩
          have hs4 := hb5.size
          have hcv4 := (((HCV.out.alloc hgb _).below hb3 (by simp; omega))).below hb5 (by omega)
          have hT4 := ownsRow_below (ownsRow_below (HTO.out.alloc _) hb3 (Nat.le_refl _)) hb5 (Nat.le_refl _)
          have e0 : w4.cell? ⟨g, o + y, none⟩ = some (.int .i64 (runV f v m y)) := (hcv4 y hyk).1
          have hB4 := hB.trans (hb5.mono (by omega))
          have HCV4 := Lib.hid hcv4
          clear hcv4
          go_wp2_with fail
          refine (reports_add _ _ _).mono ?_; rintro e w' ⟨rfl, rfl⟩
          clear e0
          have HT4 := Lib.hid hT4
          clear hT4
          go_wp2_with fail
          refine (key_add _ _ _).mono ?_; rintro e w7 ⟨rfl, hb7⟩
          go_wp2_with fail
          refine (after_add _ _ _ HR1.out HR2.out _).mono ?_; rintro e w8 ⟨rfl, hb8⟩
          have hs7 := hb7.size
          have hs8 := hb8.size
          have hcv8 := (HCV4.out.below hb7 (by omega)).below hb8 (by omega)
          have hT8 := ownsRow_below (ownsRow_below HT4.out hb7 (Nat.le_refl _)) hb8 (Nat.le_refl _)
          have e0 : w8.cell? ⟨g, o + y, none⟩ = some (.int .i64 (runV f v m y)) := (hcv8 y hyk).1
          have e1 : w8.frozen? ⟨g, o + y, none⟩ = false := (hcv8 y hyk).2
          have HC := Lib.hid (cells_add hcv8 H0.out HY.out hyk)
          have hB8 := (hB4.trans (hb7.mono (by omega))).trans (hb8.mono (by omega))
          have HT8 := Lib.hid hT8
          clear hcv8 hT8
          go_wp2
          exact ⟨⟨m + 1, by omega, by go_num, by rw [HT.out]; exact ownsRow_setCell_below HT8.out (a := ⟨g, o + y, none⟩) hg2 _, HC.out, hB8.setCell hg1 _, by simp [World.setCell]; omega⟩, by simp [intOf]; omega⟩
      · obtain rfl : m = n := by omega
        go_wp2
        go_ret3
        obtain ⟨B5, d5, rfl, _, o5⟩ := OwnI.of_owns hT
        have hs' := hb.size
        have := res_yes HOK.out ⟨_, d1, B5, d5, w1.heap.size, rfl, hs, hz, fun _ => ⟨g, o, rfl, hg1, hg2, hcv⟩, o5, hb⟩
        rw [HOK.out] at this
        exact this
end Go.Proofs.Ytkpkjcmoldkmmaa
