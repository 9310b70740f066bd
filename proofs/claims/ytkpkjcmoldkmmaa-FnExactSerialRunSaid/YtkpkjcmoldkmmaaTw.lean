/- The program's test of a table: writerHolds, cellOk, TableOk. -/
import Derived.Test.YtkpkjcmoldkmmaaRg
import Derived.Test.YtkpkjcmoldkmmaaTv
import Derived.Test.YtkpkjcmoldkmmaaLi2
namespace Go.Proofs.Ytkpkjcmoldkmmaa
open Go.RowKit

def NoWr (l : HL) (k : Nat) : Prop := ∀ j, j < k → hW l j = false
theorem NoWr.next {l : HL} {k : Nat} (h : NoWr l k) (e : hW l k = false) : NoWr l (k + 1) := fun j hj => by
  by_cases ej : j = k
  · subst ej; exact e
  · exact h j (by omega)
theorem wrote_yes {l : HL} {k : Nat} (hk : k < l.length) (e : hW l k = true) : wrote l = true := by
  obtain ⟨z, hz, ez⟩ := hW_mem hk
  exact List.any_eq_true.2 ⟨z, hz, by rw [ez]; exact e⟩
theorem wrote_no {l : HL} (h : NoWr l l.length) : wrote l = false := by
  rw [wrote, List.any_eq_false]
  intro z hz
  obtain ⟨k, hk, rfl⟩ := get_hW hz
  simp [h k hk]
def IdxW (w : World) (l : HL) (e : Ending) (w' : World) : Prop := ∃ z : Int, e = .returned (.int .i64 z) ∧ decide (0 ≤ z) = wrote l ∧ Below w.heap.size w w'
def EE (c : CD) : Prop := cellOk c = (((valB c.v && wordOk c.e c.s) && lockOk c.hs c.ws) && (c.h == wrote c.hs))
theorem cls6 {wr w1 : World} {x0 x1 x2 x3 x4 x5 : Value} (Y : Box w1 wr.heap.size [x0, x1, x2, x3, x4, x5]) (hb : Below wr.heap.size wr w1) :
    ∃ (I : Type) (F : I → World), Nonempty I ∧ (∃ n, w1.drew = F n) ∧ (∀ n w2, Below (F n).heap.size (F n) w2 → ∃ m, w2 = F m) ∧ (∀ n, Below wr.heap.size wr (F n)) ∧
      (∀ n, (F n).cell? ⟨wr.heap.size, 0, none⟩ = some x0) ∧ (∀ n, (F n).cell? ⟨wr.heap.size, 1, none⟩ = some x1) ∧ (∀ n, (F n).cell? ⟨wr.heap.size, 2, none⟩ = some x2) ∧
      (∀ n, (F n).cell? ⟨wr.heap.size, 3, none⟩ = some x3) ∧ (∀ n, (F n).cell? ⟨wr.heap.size, 4, none⟩ = some x4) ∧ (∀ n, (F n).cell? ⟨wr.heap.size, 5, none⟩ = some x5) := by
  obtain ⟨I, F, hI, hF0, hF, hFi⟩ := cls (S := fun W => Box W wr.heap.size [x0, x1, x2, x3, x4, x5] ∧ Below wr.heap.size wr W) ⟨Y.drew, hb.drew⟩
  exact ⟨I, F, hI, hF0, fun n w2 h => hFi w2 ⟨(hF n).1.next h, (hF n).2.trans (h.mono (hF n).2.size)⟩, fun n => (hF n).2, fun n => (hF n).1.c6.1.1, fun n => (hF n).1.c6.1.2.1, fun n => (hF n).1.c6.1.2.2.1, fun n => (hF n).1.c6.1.2.2.2.1, fun n => (hF n).1.c6.1.2.2.2.2.1, fun n => (hF n).1.c6.1.2.2.2.2.2⟩
theorem countOk_any (n : Int) (w : World) :
    Calls Try.prog 77 #[.int .i64 n] w fun e w' => e = .returned (.bool (inB n 1 8)) ∧ w = w' := by
  by_cases h1 : 1 ≤ n
  · by_cases h2 : n ≤ 8
    · go_enter Try.func77, Try.ntmps77
      go_wp2
      go_ret
      exact ⟨ret_bool (by simp [inB, h1, h2]), rfl⟩
    · go_enter Try.func77, Try.ntmps77
      go_wp2
      go_ret
      exact ⟨ret_bool (by simp [inB]; omega), rfl⟩
  · go_enter Try.func77, Try.ntmps77
    go_wp2
    go_ret
    exact ⟨ret_bool (by simp [inB]; omega), rfl⟩
end Go.Proofs.Ytkpkjcmoldkmmaa
