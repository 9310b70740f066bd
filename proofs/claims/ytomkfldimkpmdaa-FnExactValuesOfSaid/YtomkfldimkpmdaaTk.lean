/- What a law over tables carries. -/
import Derived.Test.YtomkfldimkpmdaaTf
import Derived.Test.YtomkfldimkpmdaaTh
import Derived.Test.YtomkfldimkpmdaaTd
import Derived.Test.YtomkfldimkpmdaaLk3
namespace Go.Proofs.Ytomkfldimkpmdaa
open Go.RowKit
section
variable {w w' : World} {lo B lo' B' b : Nat} {A A' : Option Addr} {T : TL}
theorem TOwn.mark (k : TOwn w lo' B' A T) (h : MarkS lo B w w') (hs : B' ≤ w.heap.size) (hd : B' ≤ lo ∨ B ≤ lo') : TOwn w' lo' B' A T := by
  obtain ⟨v, h1, h2⟩ := h.mid
  exact (k.below h1 hs).onlys h2 hd
theorem TAt.mark (k : TAt w B' A T) (h : MarkS lo B w w') (hs : B' ≤ w.heap.size) (hd : B' ≤ lo) : TAt w' B' A T := by
  obtain ⟨v, h1, h2⟩ := h.mid
  exact (k.keep h1 hs).onlys h2 hd
end
set_option maxRecDepth 100000 in
theorem open_table {H : Type} {enc : TypeId × Value → H} {W : World} {base : Nat} {v : Value} {d : DataW H} {p : List MemPlace} (hv : Value.okWide Try.prog W .any base 24 v) (h : DataW.Trod enc Try.prog W 0 (fun _ => true) true 24 v d p) :
    ∃ (A : Option Addr) (c : Nat) (T : TL), v = .agg #[.slice A T.length c] ∧ TLen T ∧ TAt W W.heap.size A T := by
  obtain ⟨cs, rfl, hsz⟩ := Go.WideShapes.okWide_struct Try.underlying24 hv
  have hl : cs.toList.length = 1 := by rw [Array.length_toList, hsz]; exact cellsTableL
  obtain ⟨fuel, hf⟩ := h
  obtain ⟨y0, n, _, _, t0⟩ := Go.ChangeShapes.trod_struct1 Try.underlying24 hf
  match hc : cs.toList, hl with
  | [x], _ =>
    simp only [Value.cells, hc] at t0
    rw [cellsCellsL] at t0
    simp at t0
    obtain ⟨A, c, T, rfl, h1, h2⟩ := open_cells t0
    exact ⟨A, c, T, by rw [show cs = #[.slice A T.length c] from Array.toList_inj.1 hc], h1, h2⟩
end Go.Proofs.Ytomkfldimkpmdaa
