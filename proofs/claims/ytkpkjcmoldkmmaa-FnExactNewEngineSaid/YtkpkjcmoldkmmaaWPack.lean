/- Contracts of the packed word: what its methods give, for a valid word. -/
import Derived.Test.YtkpkjcmoldkmmaaWBase
namespace Go.Proofs.Ytkpkjcmoldkmmaa
open Go.RowKit

/-- a valid word in one integer -/
def pk (e s : Int) (h : Bool) : Int := (e * 65536 + s) * 2 + (if h then 1 else 0)

theorem wraps_w (n : Int) (h0 : 0 ≤ n) (h1 : n < 2 ^ 63) : IntKind.i64.wrap n = n := by rw [IntKind.wrap_i64]; omega
theorem bits_and1 (x : Int) (h0 : 0 ≤ x) (h1 : x ≤ 134217727) : bits .and .i64 x 1 = x % 2 := bits_mask .i64 63 (by decide) wraps_w 1 (by decide) x h0 (by omega)
theorem bits_or1 (e s : Int) (h1 : 0 ≤ e) (h2 : e ≤ 1023) (h3 : 0 ≤ s) (h4 : s ≤ 65535) : bits .or .i64 (pk e s false) 1 = pk e s true := by
  have := bits_join .i64 63 (by decide) wraps_w 1 (pk e s false) 1 (by simp [pk]; omega) (by simp [pk]) (by simp [pk]; omega) (by decide) (by decide) (by decide)
  rw [this]; simp [pk]

theorem pk_half (e s : Int) (h : Bool) : pk e s h / 2 = e * 65536 + s := by cases h <;> simp [pk] <;> omega
theorem pk_range {e s : Int} (h : Bool) (ho : wordOk e s = true) : 0 ≤ pk e s h ∧ pk e s h ≤ 134217727 := by
  obtain ⟨⟨h1, h2⟩, h3, h4⟩ := wordOk_iff.1 ho
  cases h <;> simp [pk] <;> omega

end Go.Proofs.Ytkpkjcmoldkmmaa
