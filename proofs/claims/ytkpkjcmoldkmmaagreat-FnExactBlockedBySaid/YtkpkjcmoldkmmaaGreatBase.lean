/- Contracts of the functions on one act: toAct, spec.ActOk, impl.ActOk and what they call. -/
import Derived.Test.YtkpkjcmoldkmmaaGreatCore
import Derived.WalkKit
import Derived.WalkSpells
import Derived.WalkLawsBesides
import Derived.ProofKit
import Derived.Below
import Derived.Outline
import Derived.Lib.Hide
import Derived.Deep.QuietTactic
import Derived.BigQuiet
import Derived.IntWalk
namespace Go.Proofs.YtkpkjcmoldkmmaaGreat
open Go.RowKit




/-- an act is valid -/
def actOk (k y n : Int) : Bool :=
  inB k 0 2 && inB y 0 7 && (if k = 0 then n == 0 else inB n (-1000000) 1000000)

theorem actOk_lo (k y n : Int) (h : y < 0) : actOk k y n = false := by
  have : inB y 0 7 = false := by simp [inB]; omega
  simp [actOk, this]
theorem actOk_hi (k y n : Int) (h : 8 ≤ y) : actOk k y n = false := by
  have : inB y 0 7 = false := by simp [inB]; omega
  simp [actOk, this]
theorem actOk_get (y n : Int) (h : 0 ≤ y) (h' : y < 8) : actOk 0 y n = (n == 0) := by
  have : inB y 0 7 = true := by simp [inB]; omega
  have h1 : inB 0 0 2 = true := by decide
  simp [actOk, this, h1]
theorem actOk_put (y n : Int) (h : 0 ≤ y) (h' : y < 8) : actOk 1 y n = inB n (-1000000) 1000000 := by
  have : inB y 0 7 = true := by simp [inB]; omega
  have h1 : inB 1 0 2 = true := by decide
  simp [actOk, this, h1]
theorem actOk_add (y n : Int) (h : 0 ≤ y) (h' : y < 8) : actOk 2 y n = inB n (-1000000) 1000000 := by
  have : inB y 0 7 = true := by simp [inB]; omega
  have h1 : inB 2 0 2 = true := by decide
  simp [actOk, this, h1]
theorem actOk_none (k y n : Int) (h0 : ¬ k = 0) (h1 : ¬ k = 1) (h2 : ¬ k = 2) : actOk k y n = false := by
  have : inB k 0 2 = false := by simp [inB]; omega
  simp [actOk, this]



theorem toAct_any (k y n : Int) (w : World) :
    Calls Tryz.prog 203 #[.agg #[.int .i64 k, .int .i64 y, .int .i64 n]] w fun e w' => e = .returned (.agg #[.int .i64 k, .int .i64 y, .int .i64 n]) ∧ Below w.heap.size w w' := by
  go_enter Tryz.func203, Tryz.ntmps203
  go_wp2
  exact bodyPost_ret (v := .agg #[.int .i64 k, .int .i64 y, .int .i64 n]) (by simp [results, Tryz.results203, go_sem]) rfl ⟨rfl, (((Below.refl _ _).alloc (Nat.le_refl _) _).alloc (by simp) _).alloc (by simp; omega) _⟩



theorem specValue_any (x : Int) (w : World) :
    Calls Tryz.prog 82 #[.int .i64 x] w fun e w' => e = .returned (.bool (inB x (-1000000) 1000000)) ∧ w = w' := by
  go_enter Tryz.func82, Tryz.ntmps82
  go_wp2_with (go_at_call 28; refine (l01In_any _ _ _ _).mono ?_; rintro e w' ⟨rfl, rfl⟩)
  go_ret
  exact ⟨rfl, rfl⟩

theorem implValue_any (x : Int) (w : World) :
    Calls Tryz.prog 185 #[.int .i64 x] w fun e w' => e = .returned (.bool (inB x (-1000000) 1000000)) ∧ w = w' := by
  by_cases h1 : -1000000 ≤ x
  · by_cases h2 : x ≤ 1000000
    · go_enter Tryz.func185, Tryz.ntmps185
      go_wp2
      go_ret
      exact ⟨ret_bool (by simp [inB, h1, h2]), rfl⟩
    · go_enter Tryz.func185, Tryz.ntmps185
      go_wp2
      go_ret
      exact ⟨ret_bool (by simp [inB]; omega), rfl⟩
  · go_enter Tryz.func185, Tryz.ntmps185
    go_wp2
    go_ret
    exact ⟨ret_bool (by simp [inB]; omega), rfl⟩

theorem specActOk_any (k y n : Int) (w : World) :
    Calls Tryz.prog 136 #[.agg #[.int .i64 k, .int .i64 y, .int .i64 n]] w fun e w' => e = .returned (.bool (actOk k y n)) ∧ Below w.heap.size w w' := by
  go_enter Tryz.func136, Tryz.ntmps136
  go_wp2_with (first | (go_at_call 28; refine (l01In_any _ _ _ _).mono ?_; rintro e w' ⟨rfl, rfl⟩) | (go_at_call 82; refine (specValue_any _ _).mono ?_; rintro e w' ⟨rfl, rfl⟩))
  all_goals
    go_ret
    exact ⟨ret_bool (by simp_all [actOk]), (Below.refl _ _).alloc (Nat.le_refl _) _⟩

section
variable {P : Program} {w : World} {t s xT : TypeId} {v z : Value} {fs : Array Field}
theorem ta_yes (hu : P.underlying t = some (.struct fs)) (v : Value) (xT : TypeId) (w : World) : (Instr.typeAssert (.iface t v) xT t true).run P w = .ok (.tuple #[v, .bool true]) w := by
  simp [Instr.typeAssert, run_underlying hu]
theorem ta_no (hu : P.underlying s = some (.struct fs)) (hz : (P.info? s).map (·.zero) = some (some z)) (hne : t ≠ s) (v : Value) (xT : TypeId) (w : World) :
    (Instr.typeAssert (.iface t v) xT s true).run P w = .ok (.tuple #[z, .bool false]) w := by
  obtain ⟨j, hj, hz'⟩ := Option.map_eq_some_iff.1 hz
  simp [Instr.typeAssert, run_underlying hu, hne, zeroValue, typeInfo, hj, hz']
theorem ta_nil (hu : P.underlying s = some (.struct fs)) (hz : (P.info? s).map (·.zero) = some (some z)) (xT : TypeId) (w : World) :
    (Instr.typeAssert .nilIface xT s true).run P w = .ok (.tuple #[z, .bool false]) w := by
  obtain ⟨j, hj, hz'⟩ := Option.map_eq_some_iff.1 hz
  simp [Instr.typeAssert, run_underlying hu, zeroValue, typeInfo, hj, hz']
end

theorem zGet : (Tryz.prog.info? 244).map (·.zero) = some (some (.agg #[.int .i64 0])) := by kernel_rfl
theorem zPut : (Tryz.prog.info? 246).map (·.zero) = some (some (.agg #[.int .i64 0, .int .i64 0])) := by kernel_rfl
theorem zAdd : (Tryz.prog.info? 247).map (·.zero) = some (some (.agg #[.int .i64 0, .int .i64 0])) := by kernel_rfl

theorem actionOf_get (y n : Int) (w : World) :
    Calls Tryz.prog 125 #[.agg #[.int .i64 0, .int .i64 y, .int .i64 n]] w fun e w' => e = .returned (.iface 244 (.agg #[.int .i64 y])) ∧ Below w.heap.size w w' := by
  go_enter Tryz.func125, Tryz.ntmps125
  go_wp2
  go_ret
  exact ⟨rfl, (Below.refl _ _).alloc (Nat.le_refl _) _⟩
theorem actionOf_put (y n : Int) (w : World) :
    Calls Tryz.prog 125 #[.agg #[.int .i64 1, .int .i64 y, .int .i64 n]] w fun e w' => e = .returned (.iface 246 (.agg #[.int .i64 y, .int .i64 n])) ∧ Below w.heap.size w w' := by
  go_enter Tryz.func125, Tryz.ntmps125
  go_wp2
  go_ret
  exact ⟨rfl, (Below.refl _ _).alloc (Nat.le_refl _) _⟩
theorem actionOf_add (y n : Int) (w : World) :
    Calls Tryz.prog 125 #[.agg #[.int .i64 2, .int .i64 y, .int .i64 n]] w fun e w' => e = .returned (.iface 247 (.agg #[.int .i64 y, .int .i64 n])) ∧ Below w.heap.size w w' := by
  go_enter Tryz.func125, Tryz.ntmps125
  go_wp2
  go_ret
  exact ⟨rfl, (Below.refl _ _).alloc (Nat.le_refl _) _⟩
theorem actionOf_none (k y n : Int) (h0 : ¬ k = 0) (h1 : ¬ k = 1) (h2 : ¬ k = 2) (w : World) :
    Calls Tryz.prog 125 #[.agg #[.int .i64 k, .int .i64 y, .int .i64 n]] w fun e w' => e = .returned .nilIface ∧ Below w.heap.size w w' := by
  have b0 : (k == 0) = false := by simpa using h0
  have b1 : (k == 1) = false := by simpa using h1
  have b2 : (k == 2) = false := by simpa using h2
  clear h0 h1 h2
  go_enter Tryz.func125, Tryz.ntmps125
  go_wp2
  go_ret
  exact ⟨rfl, (Below.refl _ _).alloc (Nat.le_refl _) _⟩

theorem implActOk_any (k y n : Int) (w : World) :
    Calls Tryz.prog 206 #[.agg #[.int .i64 k, .int .i64 y, .int .i64 n]] w fun e w' => e = .returned (.bool (actOk k y n)) ∧ Below w.heap.size w w' := by
  by_cases hy0 : y < 0
  · go_enter Tryz.func206, Tryz.ntmps206
    go_wp2
    go_ret
    exact ⟨ret_bool (actOk_lo k y n hy0).symm, (Below.refl _ _).alloc (Nat.le_refl _) _⟩
  by_cases hy8 : 8 ≤ y
  · go_enter Tryz.func206, Tryz.ntmps206
    go_wp2
    go_ret
    exact ⟨ret_bool (actOk_hi k y n (by omega)).symm, (Below.refl _ _).alloc (Nat.le_refl _) _⟩
  have ygg := ta_yes Tryz.underlying244
  have ypp := ta_yes Tryz.underlying246
  have yaa := ta_yes Tryz.underlying247
  have npg := ta_no (t := 246) Tryz.underlying244 zGet (by decide)
  have nag := ta_no (t := 247) Tryz.underlying244 zGet (by decide)
  have npa := ta_no (t := 246) Tryz.underlying247 zAdd (by decide)
  have nap := ta_no (t := 247) Tryz.underlying246 zPut (by decide)
  have ng := ta_nil Tryz.underlying244 zGet
  have np := ta_nil Tryz.underlying246 zPut
  have na := ta_nil Tryz.underlying247 zAdd
  by_cases h0 : k = 0
  · subst h0
    go_enter Tryz.func206, Tryz.ntmps206
    go_wp2_with (go_at_call 125; refine (actionOf_get _ _ _).mono ?_; rintro e w' ⟨rfl, hb⟩; obtain ⟨hc, hf⟩ := bcell hb)
    go_ret
    exact ⟨ret_bool ((actOk_get y n (by omega) (by omega)).symm), ((Below.refl _ _).alloc (Nat.le_refl _) _).trans (hb.mono (by simp))⟩
  by_cases h1 : k = 1
  · subst h1
    go_enter Tryz.func206, Tryz.ntmps206
    go_wp2_with (first | (go_at_call 125; refine (actionOf_put _ _ _).mono ?_; rintro e w' ⟨rfl, hb⟩; obtain ⟨hc, hf⟩ := bcell hb) | (go_at_call 185; refine (implValue_any _ _).mono ?_; rintro e w' ⟨rfl, rfl⟩))
    go_ret
    exact ⟨ret_bool ((actOk_put y n (by omega) (by omega)).symm), ((Below.refl _ _).alloc (Nat.le_refl _) _).trans (hb.mono (by simp))⟩
  by_cases h2 : k = 2
  · subst h2
    go_enter Tryz.func206, Tryz.ntmps206
    go_wp2_with (first | (go_at_call 125; refine (actionOf_add _ _ _).mono ?_; rintro e w' ⟨rfl, hb⟩; obtain ⟨hc, hf⟩ := bcell hb) | (go_at_call 185; refine (implValue_any _ _).mono ?_; rintro e w' ⟨rfl, rfl⟩))
    go_ret
    exact ⟨ret_bool ((actOk_add y n (by omega) (by omega)).symm), ((Below.refl _ _).alloc (Nat.le_refl _) _).trans (hb.mono (by simp))⟩
  · go_enter Tryz.func206, Tryz.ntmps206
    go_wp2_with (go_at_call 125; refine (actionOf_none _ _ _ h0 h1 h2 _).mono ?_; rintro e w' ⟨rfl, hb⟩; obtain ⟨hc, hf⟩ := bcell hb)
    go_ret
    exact ⟨ret_bool ((actOk_none k y n h0 h1 h2).symm), ((Below.refl _ _).alloc (Nat.le_refl _) _).trans (hb.mono (by simp))⟩
end Go.Proofs.YtkpkjcmoldkmmaaGreat
