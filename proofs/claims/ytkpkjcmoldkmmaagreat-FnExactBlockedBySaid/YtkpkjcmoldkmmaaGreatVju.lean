/- Heat lists: the model's HeatOk, the program's heats as an array. -/
import Derived.Test.YtkpkjcmoldkmmaaGreatViu
import Derived.Test.YtkpkjcmoldkmmaaGreatRunAu
import Derived.Lib.MinMax
import Derived.Laws.Cover3
import Derived.Laws.StructEq
import Derived.Deep.RegionLaw
namespace Go.Proofs.YtkpkjcmoldkmmaaGreat
open Go.RowKit

/-- the heats of a list, if it is one -/
def heatV (n : Nat) (f : Nat → Int) (j : Nat) : Int := if n = 8 then f j else 0
set_option maxHeartbeats 1600000 in
theorem heatFrom_any (A : Option Addr) (n cap B : Nat) (f : Nat → Int) (w : World) (hB : B ≤ w.heap.size) (hr : IntsAt w B A n f) :
    Calls Tryz.prog 141 #[.slice A n cap] w fun e w' => e = .returned (.tuple #[.agg #[.int .i64 (heatV n f 0), .int .i64 (heatV n f 1), .int .i64 (heatV n f 2), .int .i64 (heatV n f 3), .int .i64 (heatV n f 4), .int .i64 (heatV n f 5), .int .i64 (heatV n f 6), .int .i64 (heatV n f 7)], .bool (heatB n f)]) ∧ Below w.heap.size w w' := by
  by_cases h8 : n = 8
  · subst h8
    have hv : ∀ j, heatV 8 f j = f j := fun j => if_pos rfl
    simp only [hv]
    obtain ⟨b, off, rfl, hb, hc⟩ := hr (by omega)
    have hat : ∀ w, (Instr.arrayAt 201 (.slice (some ⟨b, off, none⟩) 8 cap)).run Tryz.prog w = .ok (.pointer (some ⟨b, off, none⟩)) w := fun w => run_arrayAt w 201 _ 8 _ 8 cap Tryz.underlying201 (Nat.le_refl _)
    have d0 : w.cell? ⟨b, off, none⟩ = some (.int .i64 (f 0)) := by simpa using hc 0 (by omega)
    have d1 : w.cell? ⟨b, off + 1, none⟩ = some (.int .i64 (f 1)) := hc 1 (by omega)
    have d2 : w.cell? ⟨b, off + 2, none⟩ = some (.int .i64 (f 2)) := hc 2 (by omega)
    have d3 : w.cell? ⟨b, off + 3, none⟩ = some (.int .i64 (f 3)) := hc 3 (by omega)
    have d4 : w.cell? ⟨b, off + 4, none⟩ = some (.int .i64 (f 4)) := hc 4 (by omega)
    have d5 : w.cell? ⟨b, off + 5, none⟩ = some (.int .i64 (f 5)) := hc 5 (by omega)
    have d6 : w.cell? ⟨b, off + 6, none⟩ = some (.int .i64 (f 6)) := hc 6 (by omega)
    have d7 : w.cell? ⟨b, off + 7, none⟩ = some (.int .i64 (f 7)) := hc 7 (by omega)
    have hbw : b < w.heap.size := by omega
    have heq := run_eql_heat f (fun j => lim (f j))
    have HE := Lib.hid (heat_eq f)
    generalize (first8 f == first8 (fun j => lim (f j))) = ans at heq HE
    clear hc hr
    go_enter Tryz.func141, Tryz.ntmps141
    go_wp2_with (simp only [hat])
    have bz := ((Below.refl w.heap.size w).alloc (Nat.le_refl _) (.cells #[.int .i64 0, .int .i64 0, .int .i64 0, .int .i64 0, .int .i64 0, .int .i64 0, .int .i64 0, .int .i64 0] 201)).alloc (by simp) (.cells #[.int .i64 (f 0), .int .i64 (f 1), .int .i64 (f 2), .int .i64 (f 3), .int .i64 (f 4), .int .i64 (f 5), .int .i64 (f 6), .int .i64 (f 7)] 201)
    have X := (Box.new (w := w) (c := #[.int .i64 0, .int .i64 0, .int .i64 0, .int .i64 0, .int .i64 0, .int .i64 0, .int .i64 0, .int .i64 0]) (t := 201) rfl).alloc (.cells #[.int .i64 (f 0), .int .i64 (f 1), .int .i64 (f 2), .int .i64 (f 3), .int .i64 (f 4), .int .i64 (f 5), .int .i64 (f 6), .int .i64 (f 7)] 201)
    have Y := Box.new (w := w.alloc (.cells #[.int .i64 0, .int .i64 0, .int .i64 0, .int .i64 0, .int .i64 0, .int .i64 0, .int .i64 0, .int .i64 0] 201)) (b := w.heap.size + 1) (c := #[.int .i64 (f 0), .int .i64 (f 1), .int .i64 (f 2), .int .i64 (f 3), .int .i64 (f 4), .int .i64 (f 5), .int .i64 (f 6), .int .i64 (f 7)]) (t := 201) (by simp)
    generalize ((w.alloc (.cells #[.int .i64 0, .int .i64 0, .int .i64 0, .int .i64 0, .int .i64 0, .int .i64 0, .int .i64 0, .int .i64 0] 201)).alloc (.cells #[.int .i64 (f 0), .int .i64 (f 1), .int .i64 (f 2), .int .i64 (f 3), .int .i64 (f 4), .int .i64 (f 5), .int .i64 (f 6), .int .i64 (f 7)] 201)) = wz at bz X Y ⊢
    have Xd := Lib.hid X.drew
    have Yd := Lib.hid Y.drew
    have Bd := Lib.hid bz.drew
    obtain ⟨x0, x1, x2, x3, x4, x5, x6, x7, xf, xl⟩ := X.c8
    obtain ⟨y0, y1, y2, y3, y4, y5, y6, y7, yf, yl⟩ := Y.c8
    clear X Y bz d0 d1 d2 d3 d4 d5 d6 d7 hat
    go_region_law (first | (go_simp; go_at_call 189; refine (within_any f _).mono ?_; rintro o w6 ⟨rfl, hb6⟩; obtain ⟨p0, p1, p2, p3, p4, p5, p6, p7, pf, pl⟩ := (Xd.out.next hb6).c8; obtain ⟨q0, q1, q2, q3, q4, q5, q6, q7, qf, ql⟩ := (Yd.out.next hb6).c8))
    all_goals
      have HB := Lib.hid (Bd.out.trans (hb6.mono Bd.out.size))
      clear hb6 Xd Yd Bd
      go_wp2
      refine bodyPost_ret (v := .tuple #[.agg #[.int .i64 (f 0), .int .i64 (f 1), .int .i64 (f 2), .int .i64 (f 3), .int .i64 (f 4), .int .i64 (f 5), .int .i64 (f 6), .int .i64 (f 7)], .bool ans]) (by simp [results, Tryz.results141, go_sem, p0, p1, p2, p3, p4, p5, p6, p7]) rfl ⟨by rw [HE.out], ?_⟩
      repeat' (refine Below.setCell ?_ (by simp) _)
      exact HB.out
  · have h8z : ¬ (n : Int) = 8 := by omega
    have hv : ∀ j, heatV n f j = 0 := fun j => if_neg h8
    simp only [hv]
    have HB := Lib.hid (heatB_no f h8)
    clear hv
    go_enter Tryz.func141, Tryz.ntmps141
    go_wp2
    refine bodyPost_ret (v := .tuple #[.agg #[.int .i64 0, .int .i64 0, .int .i64 0, .int .i64 0, .int .i64 0, .int .i64 0, .int .i64 0, .int .i64 0], .bool false]) ?_ rfl ⟨by rw [HB.out], ?_⟩
    · simp [results, Tryz.results141, go_sem]
    · repeat' (refine Below.setCell ?_ (by simp) _)
      exact (Below.refl _ _).alloc (Nat.le_refl _) _

theorem implHeat_any (A : Option Addr) (n cap B : Nat) (f : Nat → Int) (w : World) (hB : B ≤ w.heap.size) (hr : IntsAt w B A n f) :
    Calls Tryz.prog 88 #[.slice A n cap] w fun e w' => e = .returned (.bool (heatB n f)) ∧ Below w.heap.size w w' := by
  go_enter Tryz.func88, Tryz.ntmps88
  go_wp2_with fail
  refine (heatFrom_any A n cap B f _ hB hr).mono ?_; rintro e w1 ⟨rfl, hb⟩
  generalize hA : heatB n f = ans
  have HA := Lib.hid hA
  clear hA
  go_wp2
  go_ret
  refine ⟨ret_bool HA.out.symm, ?_⟩
  exact hb.alloc hb.size _
end Go.Proofs.YtkpkjcmoldkmmaaGreat
