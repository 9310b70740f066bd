/- A list of lists of integers among the arguments, opened. -/
import Derived.Test.YtmdonjkkpkcpnaaLp7
import Derived.Test.YtmdonjkkpkcpnaaLo
import Derived.Test.YtmdonjkkpkcpnaaLk3
namespace Go.Proofs.Ytmdonjkkpkcpnaa
open Go.ChangeShapes Go.WideShapes Go.ChangeAt Go.RowKit Go.Joins Go.Deep

theorem cellsIntsL : Try.prog.cellsOf 29 = 1 := by kernel_rfl
section
variable {H : Type} {enc : TypeId × Value → H} {W : World}
/-- an int at every cell -/
theorem intsAt_of {A : Addr} {N : Nat} (h : ∀ j, j < N → ∃ v : Int, W.cell? (A.add j) = some (.int .i64 v)) : ∃ f : Nat → Int, IntsAt W W.heap.size (some A) N f := by
  have hex : ∀ j, ∃ v : Int, j < N → W.cell? (A.add j) = some (.int .i64 v) := fun j => by
    by_cases hj : j < N
    · obtain ⟨v, hv⟩ := h j hj
      exact ⟨v, fun _ => hv⟩
    · exact ⟨0, fun hj' => absurd hj' hj⟩
  refine ⟨fun j => Classical.choose (hex j), fun hN => ?_⟩
  have hc : ∀ j, j < N → W.cell? (A.add j) = some (.int .i64 (Classical.choose (hex j))) := fun j hj => Classical.choose_spec (hex j) hj
  obtain ⟨b, off, spot⟩ := A
  have h0 := hc 0 hN
  have hs : spot = none := by simpa [Addr.add] using World.cell?_spot h0
  subst hs
  refine ⟨b, off, rfl, by simpa [Addr.add] using World.block_lt_of_cell? _ _ h0, fun j hj => ?_⟩
  have := hc j hj
  by_cases hj0 : j = 0
  · subst hj0
    simpa [Addr.add] using this
  · simpa [Addr.add, hj0] using this


theorem open_intsL {cs : List Value} {y : DataW H × List MemPlace} {fuel : Nat} (hf : DataW.trod enc Try.prog W 0 (fun _ => true) true fuel 29 cs = some y) :
    ∃ (O : Option Addr) (cap : Nat) (l : List Int), cs = [.slice O l.length cap] ∧ l.length ≤ maxLen ∧ IntsAt W W.heap.size O l.length (fun i => l.getD i 0) := by
  rcases open_slice Try.underlying29 hf with ⟨hcs, _⟩ | ⟨a, len, cap', m, k, D, Pl, hcs, _, hl, hm, hmm, _, hi⟩
  · exact ⟨none, 0, [], hcs, Nat.zero_le _, fun h => absurd h (by simp)⟩
  · obtain ⟨f, hf'⟩ := intsAt_of (W := W) (A := a) (N := len) (fun j hj => by
      obtain ⟨cs', hc, ht⟩ := hi j (by rw [hmm]; simp; omega)
      rw [cellsIntL] at hc
      obtain ⟨_, hlen, hcell⟩ := World.cells?_some hc
      obtain ⟨v, e0, _, _⟩ := DataW.trod_int Try.underlying3 ht
      refine ⟨v, ?_⟩
      have := hcell 0 (by omega)
      rw [e0] at this
      simpa [add_add] using this)
    refine ⟨some a, cap', (List.range len).map f, by simpa using hcs, by simp; omega, ?_⟩
    have := hf'.congr (g := fun i => ((List.range len).map f).getD i 0) (fun j hj => by simp [hj])
    simpa using this
set_option maxRecDepth 100000 in
theorem open_ops {v : Value} {y : DataW H × List MemPlace} {fuel : Nat} (hf : DataW.trod enc Try.prog W 0 (fun _ => true) true fuel 24 [v] = some y) :
    ∃ (A : Option Addr) (cap : Nat) (ops : OL), v = .slice A ops.length cap ∧ LenOk ops ∧ OpsAt W W.heap.size A ops := by
  rcases open_slice Try.underlying24 hf with ⟨hcs, _⟩ | ⟨a, len, cap', m, k, D, Pl, hcs, _, hl, hm, hmm, _, hi⟩
  · simp at hcs
    subst hcs
    exact ⟨none, 0, [], rfl, ⟨Nat.zero_le _, fun j hj => absurd hj (by simp)⟩, fun h => absurd h (by simp)⟩
  · simp at hcs
    subst hcs
    have hex : ∀ j, ∃ q : (Option Addr × Nat) × List Int, j < len → W.cell? (a.add j) = some (.slice q.1.1 q.2.length q.1.2) ∧ q.2.length ≤ maxLen ∧ IntsAt W W.heap.size q.1.1 q.2.length (fun i => q.2.getD i 0) := fun j => by
      by_cases hj : j < len
      · obtain ⟨cs', hc, ht⟩ := hi j (by rw [hmm]; simp; omega)
        rw [cellsIntsL] at hc
        obtain ⟨_, hlen, hcell⟩ := World.cells?_some hc
        obtain ⟨O, cap, l, e0, h1, h2⟩ := open_intsL ht
        refine ⟨((O, cap), l), fun _ => ⟨?_, h1, h2⟩⟩
        have := hcell 0 (by omega)
        subst e0
        simpa [add_add] using this
      · exact ⟨((none, 0), []), fun h => absurd h hj⟩
    obtain ⟨q, hq⟩ := Classical.axiomOfChoice hex
    have hat : ∀ j, j < len → opAt ((List.range len).map fun j => (q j).2) j = (q j).2 := fun j hj => by simp [opAt, hj]
    refine ⟨some a, cap', (List.range len).map fun j => (q j).2, by simp, ⟨by simp; omega, fun j hj => ?_⟩, fun hN => ?_⟩
    · have hj : j < len := by simpa using hj
      rw [hat j hj]; exact (hq j hj).2.1
    · have hN : 0 < len := by simpa using hN
      have hadd : ∀ (b off k : Nat), (⟨b, off, none⟩ : Addr).add k = ⟨b, off + k, none⟩ := fun b off k => by
        by_cases e : k = 0
        · subst e; simp [Addr.add]
        · simp [Addr.add, e]
      obtain ⟨b, off, spot⟩ := a
      have h0 := (hq 0 hN).1
      have hs : spot = none := by simpa [Addr.add] using World.cell?_spot h0
      subst hs
      refine ⟨b, off, rfl, by simpa [Addr.add] using World.block_lt_of_cell? _ _ h0, fun j hj => ?_⟩
      have hj : j < len := by simpa using hj
      obtain ⟨h1, h2, h3⟩ := hq j hj
      rw [hadd] at h1
      refine ⟨(q j).1.1, (q j).1.2, ?_, ?_⟩
      · rw [hat j hj]; exact h1
      · have e : opF ((List.range len).map fun j => (q j).2) j = fun i => (q j).2.getD i 0 := by
          funext i
          show (opAt _ j).getD i 0 = _
          rw [hat j hj]
        rw [e, hat j hj]
        exact h3
end
end Go.Proofs.Ytmdonjkkpkcpnaa
