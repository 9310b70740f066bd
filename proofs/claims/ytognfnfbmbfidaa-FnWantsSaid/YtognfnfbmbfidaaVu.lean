/- A row of wants of the call's own that grows. -/
import Derived.Test.YtognfnfbmbfidaaVt
import Derived.Deep.AppendLies
import Derived.Deep.RegionLaw
import Derived.Test.YtognfnfbmbfidaaVp
namespace Go.Proofs.Ytognfnfbmbfidaa
open Go.RowKit

theorem hcs_take {l : HL} {k : Nat} (h : k < l.length) : hcs (l.take (k + 1)) = hcs (l.take k) ++ [.int .i64 (hT l k), .bool (hW l k)] := by
  rw [List.take_succ_eq_append_getElem h, hcs_append, ← hT_get h]; rfl
theorem ownsRow_block' {w w' : World} {base size n : Nat} {e : TypeId} {v : Value} {xs : List Value} (h : w.ownsRow base e size v n xs) (hb : ∀ k, k < w.heap.size → base ≤ k → w'.heap[k]? = w.heap[k]?) : w'.ownsRow base e size v n xs := by
  refine ⟨h.1, ?_⟩
  rcases h.2 with h' | ⟨g, cap, cur, h1, h2, h3, h4⟩
  · exact .inl h'
  · refine .inr ⟨g, cap, cur, h1, h2, ?_, h4⟩
    rw [hb g (Array.getElem?_eq_some_iff.1 h3).1 h2]
    exact h3
/-- a row that holds l and lies in block lo or from m on -/
def RowW (w : World) (lo m : Nat) (v : Value) (l : HL) : Prop := w.ownsRow lo 32 2 v l.length (hcs l) ∧ ∀ q, v.ownBlock = some q → q = lo ∨ m ≤ q
theorem RowW.next {w w' : World} {lo m : Nat} {v : Value} {l : HL} (h : RowW w lo m v l) (hb : Below w.heap.size w w') : RowW w' lo m v l := ⟨ownsRow_block' h.1 fun k hk _ => hb.block k hk, h.2⟩
theorem RowW.nil (w : World) (lo m : Nat) : RowW w lo m (.slice none 0 0) [] := ⟨World.ownsRow_nil _ _ _ _, fun q hq => by simp [Value.ownBlock] at hq⟩
theorem RowW.made (w : World) (t : TypeId) (m : Nat) (ht : t = 32) : RowW (w.alloc (.cells #[] t)) w.heap.size m (.slice (some ⟨w.heap.size, 0, none⟩) 0 0) [] := by
  subst ht
  refine ⟨World.ownsRow_made w #[] 0 (Nat.le_refl _) (Nat.zero_le _) rfl, fun q hq => ?_⟩
  simp [Value.ownBlock] at hq
  omega
theorem RowW.grown {w w' : World} {lo m g cap H : Nat} {v : Value} {l : HL} {x : Int} {y : Bool} (h : RowW w lo m v l) (hm : m ≤ H)
    (ho : w'.ownsRow lo 32 2 (.slice (some ⟨g, 0, none⟩) (l.length + 1) cap) (l.length + 1) (hcs l ++ [.int .i64 x, .bool y])) (hg : v.ownBlock = some g ∨ g = H) : RowW w' lo m (.slice (some ⟨g, 0, none⟩) (l.length + 1) cap) (l ++ [(x, y)]) := by
  refine ⟨?_, fun q hq => ?_⟩
  · rw [hcs_append, List.length_append]; exact ho
  · have hq : g = q := by simpa [Value.ownBlock] using hq
    subst hq
    rcases hg with hg | hg
    · exact h.2 _ hg
    · omega
theorem OwnI.grown {w w' : World} {lo B N : Nat} {A : Option Addr} {f : Nat → Int} {row : Option Nat} (h : OwnI w lo B A N f) (hg : w.grownBy w' row) (hB : B ≤ w.heap.size) (hr : ∀ q, row = some q → q < lo ∨ B ≤ q) : OwnI w' lo B A N f := fun hn => by
  obtain ⟨b, off, e, h1, h2, hc⟩ := h hn
  have hk := hg.block b (by omega) (fun e => by have := hr b e.symm; omega)
  exact ⟨b, off, e, h1, h2, fun j hj => ⟨(World.cell?_of_block (a := ⟨b, off + j, none⟩) hk).trans (hc j hj).1, (World.frozen?_of_block (a := ⟨b, off + j, none⟩) hk).trans (hc j hj).2⟩⟩
/-- an answer that is a list of wants of the call's own -/
def RetH (w : World) (l : HL) (mk : Value → Value) (e : Ending) (w' : World) : Prop := ∃ A c, e = .returned (mk (.slice A l.length c)) ∧ HOwn w' w.heap.size w'.heap.size A l ∧ Below w.heap.size w w'
theorem RowW.own {w : World} {lo m : Nat} {v : Value} {l : HL} (h : RowW w lo m v l) : ∃ A c, v = .slice A l.length c ∧ HOwn w lo w.heap.size A l := by
  obtain ⟨A, c, e, _, ho⟩ := HOwn.of_owns h.1
  exact ⟨A, c, e, ho⟩
theorem hcs_two (x : Int) (y : Bool) : ∀ u ∈ [Value.int .i64 x, Value.bool y], u.oneCell' = true := by
  intro u hu; simp at hu; rcases hu with rfl | rfl <;> rfl
theorem cells_two {w : World} {b : Nat} {x y : Value} (h : Box w b [x, y]) : ∀ j u, [x, y][j]? = some u → w.cell? ((⟨b, 0, none⟩ : Addr).add j) = some u := by
  intro j u hj
  match j, hj with
  | 0, hj => simp at hj; subst hj; simp [Addr.add]; exact h.c2.1
  | 1, hj => simp at hj; subst hj; simp [Addr.add]; exact h.c2.2.1
theorem markActS_int (A : Option Addr) (n cap lo B : Nat) (f : Nat → Int) (k0 : Int) (w : World) (hn : n ≤ 1073741824) (h0 : 0 ≤ k0) (hk0 : k0 ≤ 1073741824) (h : OwnI w lo B A (n * 3) f) :
    Calls Try.prog 45 #[.slice A n cap, .int .i64 k0] w fun e w' => e = .returned (.int .i64 (k0 + n * 3)) ∧ Onlys lo B w w' ∧ OwnI w' lo B A (n * 3) (fun j => k0 + j) := by
  obtain ⟨m, rfl⟩ := Int.eq_ofNat_of_zero_le h0
  exact markActS_any A n cap lo B f m w hn (by omega) h
end Go.Proofs.Ytognfnfbmbfidaa
