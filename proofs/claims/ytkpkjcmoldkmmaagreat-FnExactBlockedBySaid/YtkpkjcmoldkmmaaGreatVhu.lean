/- Heat lists: the model's HeatOk, the program's heats as an array. -/
import Derived.Test.YtkpkjcmoldkmmaaGreatIntsu
import Derived.Test.YtkpkjcmoldkmmaaGreatRunAu
import Derived.Lib.MinMax
import Derived.Laws.Cover3
import Derived.Laws.StructEq
import Derived.Deep.RegionLaw
namespace Go.Proofs.YtkpkjcmoldkmmaaGreat
open Go.RowKit

theorem implKey_any (x : Int) (w : World) :
    Calls Tryz.prog 215 #[.int .i64 x] w fun e w' => e = .returned (.bool (inB x 0 7)) ∧ w = w' := by
  by_cases h1 : 0 ≤ x
  · by_cases h2 : x < 8
    · go_enter Tryz.func215, Tryz.ntmps215
      go_wp2
      go_ret
      exact ⟨ret_bool (by simp [inB, h1]; omega), rfl⟩
    · go_enter Tryz.func215, Tryz.ntmps215
      go_wp2
      go_ret
      exact ⟨ret_bool (by simp [inB]; omega), rfl⟩
  · go_enter Tryz.func215, Tryz.ntmps215
    go_wp2
    go_ret
    exact ⟨ret_bool (by simp [inB]; omega), rfl⟩

theorem implLevel_any (x : Int) (w : World) :
    Calls Tryz.prog 139 #[.int .i64 x] w fun e w' => e = .returned (.bool (inB x 0 20)) ∧ w = w' := by
  by_cases h1 : 0 ≤ x
  · by_cases h2 : x ≤ 20
    · go_enter Tryz.func139, Tryz.ntmps139
      go_wp2
      go_ret
      exact ⟨ret_bool (by simp [inB, h1, h2]), rfl⟩
    · go_enter Tryz.func139, Tryz.ntmps139
      go_wp2
      go_ret
      exact ⟨ret_bool (by simp [inB]; omega), rfl⟩
  · go_enter Tryz.func139, Tryz.ntmps139
    go_wp2
    go_ret
    exact ⟨ret_bool (by simp [inB]; omega), rfl⟩

theorem specKey_any (x : Int) (w : World) :
    Calls Tryz.prog 137 #[.int .i64 x] w fun e w' => e = .returned (.bool (inB x 0 7)) ∧ w = w' := by
  go_enter Tryz.func137, Tryz.ntmps137
  go_wp2_with (go_at_call 28; refine (l01In_any _ _ _ _).mono ?_; rintro e w' ⟨rfl, rfl⟩)
  go_ret
  exact ⟨rfl, rfl⟩

/-- a heat list is valid -/
def heatB (n : Nat) (f : Nat → Int) : Bool := decide (n = 8) && (List.range 8).all fun i => inB (f i) 0 20
theorem heatB_no {n : Nat} (f : Nat → Int) (h : ¬ n = 8) : heatB n f = false := by simp [heatB, h]
theorem heatB_yes {n : Nat} {f : Nat → Int} (h : n = 8) (h' : ∀ j, j < 8 → inB (f j) 0 20 = true) : heatB n f = true := by
  simp only [heatB, h, Bool.and_eq_true, List.all_eq_true, List.mem_range]
  exact ⟨rfl, h'⟩
theorem heatB_bad {n j : Nat} {f : Nat → Int} (hj : j < 8) (h : inB (f j) 0 20 = false) : heatB n f = false := by
  rw [Bool.eq_false_iff]
  intro hp
  simp only [heatB, Bool.and_eq_true, List.all_eq_true, List.mem_range] at hp
  rw [hp.2 j hj] at h
  cases h
theorem heatB_len {n : Nat} {f : Nat → Int} (h : heatB n f = true) : n = 8 := by
  simp only [heatB, Bool.and_eq_true, decide_eq_true_eq] at h
  exact h.1
theorem heatB_get {n j : Nat} {f : Nat → Int} (h : heatB n f = true) (hj : j < 8) : 0 ≤ f j ∧ f j ≤ 20 := by
  simp only [heatB, Bool.and_eq_true, List.all_eq_true, List.mem_range] at h
  have := h.2 j hj
  simpa [inB] using this

theorem specHeat_any (A : Option Addr) (n cap B : Nat) (f : Nat → Int) (w : World) (hn : n ≤ 1048576) (hr : IntsAt w B A n f) :
    Calls Tryz.prog 78 #[.slice A n cap] w fun e w' => e = .returned (.bool (heatB n f)) ∧ w = w' := by
  by_cases h8 : n = 8
  · subst h8
    go_enter Tryz.func78, Tryz.ntmps78
    go_wp2
    go_loop [3] (fun i => ∃ k : Nat, k ≤ 8 ∧ i = .int .i64 k ∧ ∀ j, j < k → inB (f j) 0 20 = true) (fun i => 8 - (intOf i).toNat)
    case atStart => exact ⟨0, Nat.zero_le _, rfl, fun j hj => absurd hj (by omega)⟩
    case round =>
      obtain ⟨k, hk, rfl, hall⟩ := hrel
      have Hall := Lib.hid hall
      clear hall
      by_cases hkn : k < 8
      · obtain ⟨b, off, rfl, hB, hc⟩ := hr (by omega)
        have hkz : (k : Int) < 8 := by omega
        have c0 : w.cell? ⟨b, off + k, none⟩ = some (.int .i64 (f k)) := hc _ (by omega)
        clear hc hr
        go_wp2_with fail
        refine (l01In_any _ _ _ _).mono ?_; rintro e w' ⟨rfl, rfl⟩
        cases hv : inB (f k) 0 20 with
        | true =>
          go_wp2
          exact ⟨⟨k + 1, by omega, by go_num, fun j hj => by
            by_cases e : j = k
            · subst e; exact hv
            · exact Hall.out j (by omega)⟩, by simp [intOf]; omega⟩
        | false =>
          go_wp2
          go_ret
          exact ⟨ret_bool (heatB_bad hkn hv).symm, rfl⟩
      · obtain rfl : k = 8 := by omega
        go_wp2
        go_ret
        exact ⟨ret_bool (heatB_yes rfl Hall.out).symm, rfl⟩
  · have h8z : ¬ (n : Int) = 8 := by omega
    have HB := Lib.hid (heatB_no f h8)
    go_enter Tryz.func78, Tryz.ntmps78
    go_wp2
    go_ret
    exact ⟨ret_bool HB.out.symm, rfl⟩


section
open Go.Instr
variable {P : Program} (w : World)
theorem all_get (xs ys : List Int) (h : xs.length = ys.length) : ((List.range xs.length).all fun i => xs.getD i 0 == ys.getD i 0) = (xs == ys) := by
  rw [Bool.eq_iff_iff]
  simp only [List.all_eq_true, List.mem_range, beq_iff_eq]
  constructor
  · intro hh
    apply List.ext_getElem h
    intro i h1 h2
    have := hh i h1
    simpa [List.getD_eq_getElem?_getD, h1, h2] using this
  · rintro rfl i _; rfl
theorem run_equalIn_ints (d : Nat) (t e : TypeId) (n : Nat) (ht : P.underlying t = some (.array n e)) (he : P.underlying e = some (.int .i64)) (hsz : ∀ w, (sizeOf e).run P w = .ok 1 w)
    (xs ys : List Int) (hx : xs.length = n) (hy : ys.length = n) :
    (Op.equalIn (d + 2) t (.agg (xs.map (Value.int .i64)).toArray) (.agg (ys.map (Value.int .i64)).toArray)).run P w = .ok (xs == ys) w := by
  rw [← all_get xs ys (hx.trans hy.symm), hx, List.range_eq_range', Op.equalIn]
  simp only [Sem.run_bind, run_underlying ht, Result.andThen_ok, hsz, Std.Legacy.Range.forIn_eq_forIn_range', Std.Legacy.Range.size, Nat.sub_zero, Nat.add_sub_cancel, Nat.div_one]
  have hl : ∀ i ∈ List.range' 0 n 1, i < n := fun i hi => by simpa using (List.mem_range'_1.1 hi).2
  generalize List.range' 0 n 1 = l at hl ⊢
  induction l with
  | nil => simp
  | cons i l ih =>
    have hi : i < n := hl i (by simp)
    have px : (part e (xs.map (Value.int .i64)).toArray (i * 1)).run P w = .ok (.int .i64 (xs.getD i 0)) w := by
      simp [part, isAgg, run_underlying he, List.getD, List.getElem?_eq_getElem (show i < xs.length by omega)]
    have py : (part e (ys.map (Value.int .i64)).toArray (i * 1)).run P w = .ok (.int .i64 (ys.getD i 0)) w := by
      simp [part, isAgg, run_underlying he, List.getD, List.getElem?_eq_getElem (show i < ys.length by omega)]
    have pe : (Op.equalIn (d + 1) e (.int .i64 (xs.getD i 0)) (.int .i64 (ys.getD i 0))).run P w = .ok (xs.getD i 0 == ys.getD i 0) w :=
      run_equalIn_int w d e .i64 .i64 _ _ he
    simp only [List.forIn_cons, Sem.run_bind, px, py, pe, Result.andThen_ok, List.all_cons]
    cases hb : (xs.getD i 0 == ys.getD i 0)
    · simp
    · simp only [Bool.not_true, Bool.false_eq_true, if_false, Sem.run_pure, Result.andThen_ok, Bool.true_and]
      exact ih fun j hj => hl j (by simp [hj])
theorem run_eql_ints (t e : TypeId) (n : Nat) (ht : P.underlying t = some (.array n e)) (he : P.underlying e = some (.int .i64)) (hsz : ∀ w, (sizeOf e).run P w = .ok 1 w)
    (xs ys : List Int) (hx : xs.length = n) (hy : ys.length = n) :
    (binOp .eql t (.agg (xs.map (Value.int .i64)).toArray) (.agg (ys.map (Value.int .i64)).toArray)).run P w = .ok (.bool (xs == ys)) w := by
  rw [run_eql_struct, run_equalIn_ints w 9998 t e n ht he hsz xs ys hx hy]
  rfl
end
theorem size_int (w : World) : (sizeOf 3).run Tryz.prog w = .ok 1 w := by
  obtain ⟨i0, hi, hz0, hz1, hz2⟩ := info_parts infoInt
  simp [sizeOf, typeInfo, hi, hz1]
def lim (x : Int) : Int := min (max x 0) 20
def first8 (f : Nat → Int) : List Int := [f 0, f 1, f 2, f 3, f 4, f 5, f 6, f 7]
set_option maxRecDepth 100000 in
theorem run_eql_heat (f g : Nat → Int) (w : World) : (binOp .eql 201 (.agg #[.int .i64 (f 0), .int .i64 (f 1), .int .i64 (f 2), .int .i64 (f 3), .int .i64 (f 4), .int .i64 (f 5), .int .i64 (f 6), .int .i64 (f 7)]) (.agg #[.int .i64 (g 0), .int .i64 (g 1), .int .i64 (g 2), .int .i64 (g 3), .int .i64 (g 4), .int .i64 (g 5), .int .i64 (g 6), .int .i64 (g 7)])).run Tryz.prog w = .ok (.bool (first8 f == first8 g)) w :=
  run_eql_ints w 201 3 8 Tryz.underlying201 Tryz.underlying3 size_int (first8 f) (first8 g) rfl rfl
theorem lim_in {x : Int} (h : inB x 0 20 = true) : lim x = x := by
  simp only [inB, Bool.and_eq_true, decide_eq_true_eq] at h
  unfold lim; omega
theorem lim_out {x : Int} (h : inB x 0 20 = false) : ¬ lim x = x := by
  simp only [inB, Bool.and_eq_false_iff, decide_eq_false_iff_not] at h
  unfold lim; omega
theorem heat_eq (f : Nat → Int) : (first8 f == first8 (fun j => lim (f j))) = heatB 8 f := by
  have h8 : ∀ i, i < 8 → (i = 0 ∨ i = 1 ∨ i = 2 ∨ i = 3 ∨ i = 4 ∨ i = 5 ∨ i = 6 ∨ i = 7) := by omega
  rw [Bool.eq_iff_iff]
  simp only [first8, beq_iff_eq, List.cons.injEq, and_true]
  constructor
  · rintro ⟨a0, a1, a2, a3, a4, a5, a6, a7⟩
    refine heatB_yes rfl fun j hj => ?_
    cases hv : inB (f j) 0 20 with
    | true => rfl
    | false =>
      exfalso
      have := lim_out hv
      rcases h8 j hj with rfl | rfl | rfl | rfl | rfl | rfl | rfl | rfl
      · exact this a0.symm
      · exact this a1.symm
      · exact this a2.symm
      · exact this a3.symm
      · exact this a4.symm
      · exact this a5.symm
      · exact this a6.symm
      · exact this a7.symm
  · intro h
    have hg : ∀ j, j < 8 → f j = lim (f j) := fun j hj => (lim_in (by
      have := heatB_get h hj
      simp [inB, this])).symm
    exact ⟨hg 0 (by omega), hg 1 (by omega), hg 2 (by omega), hg 3 (by omega), hg 4 (by omega), hg 5 (by omega), hg 6 (by omega), hg 7 (by omega)⟩
end Go.Proofs.YtkpkjcmoldkmmaaGreat
