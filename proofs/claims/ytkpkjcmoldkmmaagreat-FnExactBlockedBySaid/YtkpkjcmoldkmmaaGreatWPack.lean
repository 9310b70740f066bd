/- Contracts of the packed word: what its methods give, for a valid word. -/
import Derived.Test.YtkpkjcmoldkmmaaGreatWBase
namespace Go.Proofs.YtkpkjcmoldkmmaaGreat
open Go.RowKit

/-- a valid word in one integer -/
def pk (e s : Int) (h : Bool) : Int := (e * 65536 + s) * 2 + (if h then 1 else 0)

theorem wraps_w (n : Int) (h0 : 0 ≤ n) (h1 : n < 2 ^ 63) : IntKind.i64.wrap n = n := by rw [IntKind.wrap_i64]; omega
theorem bits_and1 (x : Int) (h0 : 0 ≤ x) (h1 : x ≤ 134217727) : bits .and .i64 x 1 = x % 2 := bits_mask .i64 63 (by decide) wraps_w 1 (by decide) x h0 (by omega)
theorem bits_or1 (e s : Int) (h1 : 0 ≤ e) (h2 : e ≤ 1023) (h3 : 0 ≤ s) (h4 : s ≤ 65535) : bits .or .i64 (pk e s false) 1 = pk e s true := by
  have := bits_join .i64 63 (by decide) wraps_w 1 (pk e s false) 1 (by simp [pk]; omega) (by simp [pk]) (by simp [pk]; omega) (by decide) (by decide) (by decide)
  rw [this]; simp [pk]

theorem pk_half (e s : Int) (h : Bool) : pk e s h / 2 = e * 65536 + s := by cases h <;> simp [pk] <;> omega
theorem pk_range {e s : Int} (h : Bool) (ho : wordOk e s = true) : 0 ≤ pk e s h ∧ pk e s h ≤ 134217727 := by
  obtain ⟨⟨h1, h2⟩, h3, h4⟩ := wordOk_iff.1 ho
  cases h <;> simp [pk] <;> omega

theorem freePacked_any (e s : Int) (h1 : 0 ≤ e) (h2 : e ≤ 1023) (h3 : 0 ≤ s) (h4 : s ≤ 65535) (w : World) :
    Calls Tryz.prog 216 #[.int .i64 e, .int .i64 s] w fun o w' => o = .returned (.int .i64 (pk e s false)) ∧ w = w' := by
  go_enter Tryz.func216, Tryz.ntmps216
  go_wp2
  go_ret
  exact ⟨wret_int (by simp [pk]), rfl⟩

theorem version_any (x : Int) (h0 : 0 ≤ x) (h1 : x ≤ 134217727) (w : World) :
    Calls Tryz.prog 230 #[.int .i64 x] w fun o w' => o = .returned (.int .i64 (x / 2)) ∧ w = w' := by
  go_enter Tryz.func230, Tryz.ntmps230
  go_wp2
  go_ret
  exact ⟨rfl, rfl⟩

theorem epoch_any (x : Int) (h0 : 0 ≤ x) (h1 : x ≤ 134217727) (w : World) :
    Calls Tryz.prog 226 #[.int .i64 x] w fun o w' => o = .returned (.int .i64 (x / 2 / 65536)) ∧ w = w' := by
  go_enter Tryz.func226, Tryz.ntmps226
  go_wp2_with (go_at_call 230; refine (version_any _ h0 h1 _).mono ?_; rintro e w' ⟨rfl, rfl⟩)
  go_ret
  exact ⟨rfl, rfl⟩

theorem seq_any (x : Int) (h0 : 0 ≤ x) (h1 : x ≤ 134217727) (w : World) :
    Calls Tryz.prog 227 #[.int .i64 x] w fun o w' => o = .returned (.int .i64 (x / 2 % 65536)) ∧ w = w' := by
  go_enter Tryz.func227, Tryz.ntmps227
  go_wp2_with (go_at_call 230; refine (version_any _ h0 h1 _).mono ?_; rintro e w' ⟨rfl, rfl⟩)
  go_ret
  exact ⟨rfl, rfl⟩

theorem held_any (x : Int) (h0 : 0 ≤ x) (h1 : x ≤ 134217727) (w : World) :
    Calls Tryz.prog 228 #[.int .i64 x] w fun o w' => o = .returned (.bool (x % 2 == 1)) ∧ w = w' := by
  go_enter Tryz.func228, Tryz.ntmps228
  go_wp2
  go_ret
  refine ⟨wret_bool ?_, rfl⟩
  rw [bits_and1 x h0 h1]
  rcases Int.emod_two_eq x with h | h <;> rw [h] <;> rfl

theorem word_any (x : Int) (h0 : 0 ≤ x) (h1 : x ≤ 134217727) (w : World) :
    Calls Tryz.prog 217 #[.int .i64 x] w fun o w' => o = .returned (.agg #[.int .i64 (x / 2 / 65536), .int .i64 (x / 2 % 65536), .bool (x % 2 == 1)]) ∧ Below w.heap.size w w' := by
  go_enter Tryz.func217, Tryz.ntmps217
  go_wp2_with (first | (go_at_call 226; refine (epoch_any _ h0 h1 _).mono ?_; rintro e w' ⟨rfl, rfl⟩) | (go_at_call 227; refine (seq_any _ h0 h1 _).mono ?_; rintro e w' ⟨rfl, rfl⟩) | (go_at_call 228; refine (held_any _ h0 h1 _).mono ?_; rintro e w' ⟨rfl, rfl⟩))
  exact bodyPost_ret (v := .agg #[.int .i64 (x / 2 / 65536), .int .i64 (x / 2 % 65536), .bool (x % 2 == 1)]) (by simp [results, Tryz.results217, go_sem]) rfl ⟨rfl, (Below.refl _ _).alloc (Nat.le_refl _) _⟩

theorem packedOf_any (e s : Int) (h : Bool) (h1 : 0 ≤ e) (h2 : e ≤ 1023) (h3 : 0 ≤ s) (h4 : s ≤ 65535) (w : World) :
    Calls Tryz.prog 192 #[.agg #[.int .i64 e, .int .i64 s, .bool h]] w fun o w' => o = .returned (.int .i64 (pk e s h)) ∧ Below w.heap.size w w' := by
  cases h
  · go_enter Tryz.func192, Tryz.ntmps192
    go_wp2_with (go_at_call 216; refine (freePacked_any _ _ h1 h2 h3 h4 _).mono ?_; rintro e w' ⟨rfl, rfl⟩)
    go_ret
    exact ⟨rfl, (Below.refl _ _).alloc (Nat.le_refl _) _⟩
  · go_enter Tryz.func192, Tryz.ntmps192
    go_wp2_with (go_at_call 216; refine (freePacked_any _ _ h1 h2 h3 h4 _).mono ?_; rintro e w' ⟨rfl, rfl⟩)
    go_ret
    exact ⟨wret_int (bits_or1 e s h1 h2 h3 h4), (Below.refl _ _).alloc (Nat.le_refl _) _⟩

end Go.Proofs.YtkpkjcmoldkmmaaGreat
