/- FnWords: the drawn words and the law's walk. -/
import Derived.Test.YtilgfcbjonalaaaDoorWDraw
import Derived.Test.YtilgfcbjonalaaaDoorWNext
import Derived.Test.YtilgfcbjonalaaaDoorWParseM
import Derived.Test.YtilgfcbjonalaaaDoorWUnp
namespace Go.Proofs.YtilgfcbjonalaaaDoor
open Go.RowKit

theorem below_drew2 {B : Nat} {W w : World} (h : Below B W w) : Below B W w.drew := h.drew

theorem six1 {w v : World} (h : Below w.heap.size w v) (x0 x1 x2 x3 x4 x5 : Value) : Below w.heap.size w ((((((v.setCell ⟨w.heap.size, 0, none⟩ x0).setCell ⟨w.heap.size, 1, none⟩ x1).setCell ⟨w.heap.size, 2, none⟩ x2).setCell ⟨w.heap.size + 1, 0, none⟩ x3).setCell ⟨w.heap.size + 1, 1, none⟩ x4).setCell ⟨w.heap.size + 1, 2, none⟩ x5) :=
  (((((h.setCell (Nat.le_refl _) _).setCell (Nat.le_refl _) _).setCell (Nat.le_refl _) _).setCell (Nat.le_succ _) _).setCell (Nat.le_succ _) _).setCell (Nat.le_succ _) _
theorem six2 {w v : World} (h : Below w.heap.size w v) (x0 x1 x2 x3 x4 x5 : Value) : Below w.heap.size w ((((((v.setCell ⟨w.heap.size + 1, 0, none⟩ x0).setCell ⟨w.heap.size + 1, 1, none⟩ x1).setCell ⟨w.heap.size + 1, 2, none⟩ x2).setCell ⟨w.heap.size, 0, none⟩ x3).setCell ⟨w.heap.size, 1, none⟩ x4).setCell ⟨w.heap.size, 2, none⟩ x5) :=
  (((((h.setCell (Nat.le_succ _) _).setCell (Nat.le_succ _) _).setCell (Nat.le_succ _) _).setCell (Nat.le_refl _) _).setCell (Nat.le_refl _) _).setCell (Nat.le_refl _) _

theorem bigW_any (A : Option Addr) (n cap : Nat) (w : World) :
    Calls Tryd.prog 8 #[.slice A n cap] w fun e w' => e = .returned (.bool (decide ((1048576 : Int) < n))) ∧ w = w' := by
  go_enter Tryd.func8, Tryd.ntmps8
  go_wp2
  go_ret
  exact ⟨rfl, rfl⟩

theorem store_word {w : World} {B : Nat} {e s : Int} {h : Bool} (k : WC w B e s h) (x : Int) : WC (w.setCell ⟨B, 0, none⟩ (.int .i64 x)) B x s h := by
  obtain ⟨⟨k1, k2, k3⟩, ⟨k4, k5, k6⟩, k7⟩ := k
  refine ⟨⟨?_, ?_, ?_⟩, ⟨?_, ?_, ?_⟩, by simpa [World.setCell] using k7⟩ <;> go_simp
theorem store_word1 {w : World} {B : Nat} {e s : Int} {h : Bool} (k : WC w B e s h) (x : Int) : WC (w.setCell ⟨B, 1, none⟩ (.int .i64 x)) B e x h := by
  obtain ⟨⟨k1, k2, k3⟩, ⟨k4, k5, k6⟩, k7⟩ := k
  refine ⟨⟨?_, ?_, ?_⟩, ⟨?_, ?_, ?_⟩, by simpa [World.setCell] using k7⟩ <;> go_simp
theorem WC.other {w : World} {B C : Nat} {e s : Int} {h : Bool} (k : WC w B e s h) (hn : ¬ C = B) (o : Nat) (x : Value) : WC (w.setCell ⟨C, o, none⟩ x) B e s h := by
  obtain ⟨⟨k1, k2, k3⟩, ⟨k4, k5, k6⟩, k7⟩ := k
  refine ⟨⟨?_, ?_, ?_⟩, ⟨?_, ?_, ?_⟩, by simpa [World.setCell] using k7⟩ <;> go_simp
theorem St.set {w : World} {c n cp B : Nat} {A : Option Addr} {g : Nat → Int} (h : St w c n cp A g) (hB : c < B) (o : Nat) (x : Value) : St (w.setCell ⟨B, o, none⟩ x) c n cp A g :=
  h.below (B := B) ((Below.refl B w).setCell (Nat.le_refl _) _) hB

set_option maxHeartbeats 1200000 in
set_option maxRecDepth 100000 in
theorem DrawLaterWord_any (n cp : Nat) (A : Option Addr) (g : Nat → Int) (w : World) (hn : n ≤ 1048576) (hbs : BytesAt w w.heap.size A n g) :
    Calls Tryd.prog 21 #[.slice A n cp] w fun e w' => ∃ (a b c d : Int) (p q : Bool), e = .returned (.tuple #[.agg #[.int .i64 a, .int .i64 b, .bool p], .agg #[.int .i64 c, .int .i64 d, .bool q]]) ∧ Below w.heap.size w w' := by
  have HBS := Lib.hid hbs
  clear hbs
  go_enter Tryd.func21, Tryd.ntmps21
  go_wp2_with fail
  have HX := Lib.hid ((WC.made w 42 0 0 false).alloc (.cells #[.int .i64 0, .int .i64 0, .bool false] 42))
  have HY := Lib.hid (show WC ((w.alloc (.cells #[.int .i64 0, .int .i64 0, .bool false] 42)).alloc (.cells #[.int .i64 0, .int .i64 0, .bool false] 42)) (w.heap.size + 1) 0 0 false by
    have := WC.made (w.alloc (.cells #[.int .i64 0, .int .i64 0, .bool false] 42)) 42 0 0 false
    rwa [show (w.alloc (.cells #[.int .i64 0, .int .i64 0, .bool false] 42)).heap.size = w.heap.size + 1 by simp] at this)
  have hB0 := ((Below.refl w.heap.size w).alloc (Nat.le_refl _) (.cells #[.int .i64 0, .int .i64 0, .bool false] 42)).alloc (by simp) (.cells #[.int .i64 0, .int .i64 0, .bool false] 42)
  generalize (w.alloc (.cells #[.int .i64 0, .int .i64 0, .bool false] 42)).alloc (.cells #[.int .i64 0, .int .i64 0, .bool false] 42) = w0 at HX HY hB0 ⊢
  refine (l01New_any n cp A g _ hn (HBS.out.keep (fun k hk => hB0.block k hk) hB0.size)).mono ?_; rintro e w1 ⟨z, hz, rfl, hs1, hb1⟩
  have HX1 := Lib.hid (HX.out.below hb1)
  have HY1 := Lib.hid (HY.out.below hb1)
  have hB1 := hB0.trans (hb1.mono (Nat.le_of_lt HX.out.2.2))
  have hzx : w.heap.size + 1 < z := Nat.lt_of_lt_of_le HY.out.2.2 hz
  have nx : ¬ w.heap.size = z := by omega
  have ny : ¬ w.heap.size + 1 = z := by omega
  clear HX HY hB0 hb1 HBS hz
  go_wp2_with fail
  refine (l02DrawWord_any z n cp A g _ hn hs1).mono ?_; rintro e w2 ⟨a, b, p, rfl, hd2⟩
  have hs2 := (hs1.drawn hd2).alloc (.cells #[.int .i64 a, .int .i64 b, .bool p] 42)
  have HX2 := Lib.hid ((HX1.out.drawn hd2 nx).alloc (.cells #[.int .i64 a, .int .i64 b, .bool p] 42))
  have HY2 := Lib.hid ((HY1.out.drawn hd2 ny).alloc (.cells #[.int .i64 a, .int .i64 b, .bool p] 42))
  have HA2 := Lib.hid (WC.made w2 42 a b p)
  have hB2 := (hB1.trans (hd2.but.below (Nat.le_of_lt HX1.out.2.2) (by omega))).alloc (by have := hd2.but.size; have := HX1.out.2.2; omega) (.cells #[.int .i64 a, .int .i64 b, .bool p] 42)
  have ha2 : z < w2.heap.size := (hs1.drawn hd2).lt
  clear hs1 HX1 HY1 hB1 hd2
  go_wp2_with fail
  generalize hA : w2.heap.size = BA at HA2 ha2 ⊢
  generalize w2.alloc (.cells #[.int .i64 a, .int .i64 b, .bool p] 42) = w2a at hs2 HX2 HY2 HA2 hB2 ⊢
  clear hA
  refine (l02DrawWord_any z n cp A g _ hn hs2).mono ?_; rintro e w3 ⟨c, d, q, rfl, hd3⟩
  have na : ¬ BA = z := by omega
  have hs3 := (hs2.drawn hd3).alloc (.cells #[.int .i64 c, .int .i64 d, .bool q] 42)
  have HX3 := Lib.hid ((HX2.out.drawn hd3 nx).alloc (.cells #[.int .i64 c, .int .i64 d, .bool q] 42))
  have HY3 := Lib.hid ((HY2.out.drawn hd3 ny).alloc (.cells #[.int .i64 c, .int .i64 d, .bool q] 42))
  have HA3 := Lib.hid ((HA2.out.drawn hd3 na).alloc (.cells #[.int .i64 c, .int .i64 d, .bool q] 42))
  have HC3 := Lib.hid (WC.made w3 42 c d q)
  have hB3 := (hB2.trans (hd3.but.below (Nat.le_of_lt HX2.out.2.2) (by omega))).alloc (by have := hd3.but.size; have := HX2.out.2.2; omega) (.cells #[.int .i64 c, .int .i64 d, .bool q] 42)
  have hc3 : BA < w3.heap.size := Nat.lt_of_lt_of_le HA2.out.2.2 hd3.but.size
  clear hs2 HX2 HY2 HA2 hB2 hd3
  go_wp2_with fail
  generalize hC : w3.heap.size = BC at HC3 hc3 ⊢
  generalize w3.alloc (.cells #[.int .i64 c, .int .i64 d, .bool q] 42) = w3a at hs3 HX3 HY3 HA3 HC3 hB3 ⊢
  clear hC
  have nc : ¬ BC = z := by omega
  have nca : ¬ BC = BA := by omega
  have ncx : ¬ BC = w.heap.size := by omega
  have ncy : ¬ BC = w.heap.size + 1 := by omega
  refine (l01Once_any z n cp A g 3 (by decide) (by decide) _ hn hs3).mono ?_; rintro e w4 ⟨r, rfl, hd4⟩
  have hs4 := hs3.drawn hd4
  have HX4 := Lib.hid (HX3.out.drawn hd4 nx)
  have HY4 := Lib.hid (HY3.out.drawn hd4 ny)
  have HA4 := Lib.hid (HA3.out.drawn hd4 na)
  have HC4 := Lib.hid (HC3.out.drawn hd4 nc)
  have hB4 := hB3.trans (hd4.but.below (Nat.le_of_lt HX3.out.2.2) (by omega))
  clear hs3 HX3 HY3 HA3 HC3 hB3 hd4
  cases r
  · go_wp2_with fail
    have hs5 := hs4
    have HX5 := HX4
    have HY5 := HY4
    have HA5 := HA4
    have HC5 := HC4
    have hB5 := hB4
    clear hs4 HX4 HY4 HA4 HC4 hB4
    refine (l01Once_any z n cp A g 4 (by decide) (by decide) _ hn hs5).mono ?_; rintro e w6 ⟨r, rfl, hd6⟩
    have HX6 := Lib.hid (HX5.out.drawn hd6 nx)
    have HY6 := Lib.hid (HY5.out.drawn hd6 ny)
    have HA6 := Lib.hid (HA5.out.drawn hd6 na)
    have HC6 := Lib.hid (HC5.out.drawn hd6 nc)
    have hB6 := hB5.trans (hd6.but.below (Nat.le_of_lt HX5.out.2.2) (by omega))
    clear hs5 HX5 HY5 HA5 HC5 hB5 hd6
    obtain ⟨⟨x0, x1, x2⟩, ⟨fx0, fx1, fx2⟩, xl⟩ := HX6.out
    obtain ⟨⟨y0, y1, y2⟩, ⟨fy0, fy1, fy2⟩, yl⟩ := HY6.out
    obtain ⟨⟨a0, a1, a2⟩, ⟨fa0, fa1, fa2⟩, al⟩ := HA6.out
    obtain ⟨⟨c0, c1, c2⟩, ⟨fc0, fc1, fc2⟩, cl⟩ := HC6.out
    clear HX6 HY6 HA6 HC6
    have nax : ¬ BA = w.heap.size := by omega
    have nay : ¬ BA = w.heap.size + 1 := by omega
    cases r
    · go_wp2_with fail
      go_region_law (fail)
      all_goals
        go_wp2
        exact bodyPost_ret (v := .tuple #[.agg #[.int .i64 a, .int .i64 b, .bool p], .agg #[.int .i64 c, .int .i64 d, .bool q]]) (by simp [results, Tryd.results21, go_sem, x0, x1, x2, y0, y1, y2]) rfl ⟨a, b, c, d, p, q, rfl, (by refine Below.drew ?_; (repeat' (refine Below.setCell ?_ (by first | (simp; done) | (simp; omega)) _)); exact hB6)⟩
    · go_wp2_with fail
      go_region_law (fail)
      all_goals
        go_wp2
        exact bodyPost_ret (v := .tuple #[.agg #[.int .i64 a, .int .i64 b, .bool p], .agg #[.int .i64 c, .int .i64 b, .bool q]]) (by simp [results, Tryd.results21, go_sem, x0, x1, x2, y0, y1, y2]) rfl ⟨a, b, c, b, p, q, rfl, (by refine Below.drew ?_; (repeat' (refine Below.setCell ?_ (by first | (simp; done) | (simp; omega)) _)); exact hB6)⟩
  · have hs5 := hs4.set (B := BC) (by omega) 0 (.int .i64 a)
    have HX5 := Lib.hid (HX4.out.other ncx 0 (.int .i64 a))
    have HY5 := Lib.hid (HY4.out.other ncy 0 (.int .i64 a))
    have HA5 := Lib.hid (HA4.out.other nca 0 (.int .i64 a))
    have HC5 := Lib.hid (store_word HC4.out a)
    have hB5 := hB4.setCell (p := ⟨BC, 0, none⟩) (by show w.heap.size ≤ BC; omega) (.int .i64 a)
    obtain ⟨⟨a0, a1, a2⟩, ⟨fa0, fa1, fa2⟩, al⟩ := HA4.out
    obtain ⟨⟨c0, c1, c2⟩, ⟨fc0, fc1, fc2⟩, cl⟩ := HC4.out
    clear hs4 HX4 HY4 HA4 HC4 hB4
    go_wp2_with fail
    clear a0 a1 a2 fa0 fa1 fa2 al c0 c1 c2 fc0 fc1 fc2 cl
    generalize w4.setCell ⟨BC, 0, none⟩ (.int .i64 a) = w5 at hs5 HX5 HY5 HA5 HC5 hB5 ⊢
    refine (l01Once_any z n cp A g 4 (by decide) (by decide) _ hn hs5).mono ?_; rintro e w6 ⟨r, rfl, hd6⟩
    have HX6 := Lib.hid (HX5.out.drawn hd6 nx)
    have HY6 := Lib.hid (HY5.out.drawn hd6 ny)
    have HA6 := Lib.hid (HA5.out.drawn hd6 na)
    have HC6 := Lib.hid (HC5.out.drawn hd6 nc)
    have hB6 := hB5.trans (hd6.but.below (Nat.le_of_lt HX5.out.2.2) (by omega))
    clear hs5 HX5 HY5 HA5 HC5 hB5 hd6
    obtain ⟨⟨x0, x1, x2⟩, ⟨fx0, fx1, fx2⟩, xl⟩ := HX6.out
    obtain ⟨⟨y0, y1, y2⟩, ⟨fy0, fy1, fy2⟩, yl⟩ := HY6.out
    obtain ⟨⟨a0, a1, a2⟩, ⟨fa0, fa1, fa2⟩, al⟩ := HA6.out
    obtain ⟨⟨c0, c1, c2⟩, ⟨fc0, fc1, fc2⟩, cl⟩ := HC6.out
    clear HX6 HY6 HA6 HC6
    have nax : ¬ BA = w.heap.size := by omega
    have nay : ¬ BA = w.heap.size + 1 := by omega
    cases r
    · go_wp2_with fail
      go_region_law (fail)
      all_goals
        go_wp2
        exact bodyPost_ret (v := .tuple #[.agg #[.int .i64 a, .int .i64 b, .bool p], .agg #[.int .i64 a, .int .i64 d, .bool q]]) (by simp [results, Tryd.results21, go_sem, x0, x1, x2, y0, y1, y2]) rfl ⟨a, b, a, d, p, q, rfl, (by refine Below.drew ?_; (repeat' (refine Below.setCell ?_ (by first | (simp; done) | (simp; omega)) _)); exact hB6)⟩
    · go_wp2_with fail
      go_region_law (fail)
      all_goals
        go_wp2
        exact bodyPost_ret (v := .tuple #[.agg #[.int .i64 a, .int .i64 b, .bool p], .agg #[.int .i64 a, .int .i64 b, .bool q]]) (by simp [results, Tryd.results21, go_sem, x0, x1, x2, y0, y1, y2]) rfl ⟨a, b, a, b, p, q, rfl, (by refine Below.drew ?_; (repeat' (refine Below.setCell ?_ (by first | (simp; done) | (simp; omega)) _)); exact hB6)⟩
end Go.Proofs.YtilgfcbjonalaaaDoor
