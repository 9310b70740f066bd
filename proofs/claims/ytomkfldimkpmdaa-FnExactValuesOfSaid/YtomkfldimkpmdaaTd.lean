/- A table among the arguments, opened. -/
import Derived.Test.YtomkfldimkpmdaaTa
import Derived.Test.YtomkfldimkpmdaaLo
namespace Go.Proofs.Ytomkfldimkpmdaa
open Go.ChangeShapes Go.WideShapes Go.ChangeAt Go.RowKit Go.Joins Go.Deep

theorem cellsCellL : Try.prog.cellsOf 151 = 6 := by kernel_rfl
theorem cellsWordL : Try.prog.cellsOf 146 = 3 := by kernel_rfl
theorem cellsTableL : Try.prog.cellsOf 24 = 1 := by kernel_rfl
theorem cellsHoldsL : Try.prog.cellsOf 147 = 1 := by kernel_rfl
theorem cellsCellsL : Try.prog.cellsOf 22 = 1 := by kernel_rfl

theorem list6 {l : List Value} (h : l.length = 6) : ∃ a b c d e f, l = [a, b, c, d, e, f] := by
  match l, h with
  | [a, b, c, d, e, f], _ => exact ⟨a, b, c, d, e, f, rfl⟩
theorem list3 {l : List Value} (h : l.length = 3) : ∃ a b c, l = [a, b, c] := by
  match l, h with
  | [a, b, c], _ => exact ⟨a, b, c, rfl⟩
section
variable {H : Type} {enc : TypeId × Value → H} {W : World}

theorem open_word {a b c : Value} {y : DataW H × List MemPlace} {fuel : Nat} (hf : DataW.trod enc Try.prog W 0 (fun _ => true) true fuel 146 [a, b, c] = some y) :
    ∃ (e s : Int) (h : Bool), a = .int .i64 e ∧ b = .int .i64 s ∧ c = .bool h := by
  obtain ⟨y0, y1, y2, n, _, _, t0, t1, t2⟩ := trod_struct3 Try.underlying146 hf
  obtain ⟨x0, e0, _, _⟩ := DataW.trod_int Try.underlying3 t0
  obtain ⟨x1, e1, _, _⟩ := DataW.trod_int Try.underlying3 t1
  obtain ⟨x2, e2, _⟩ := DataW.trod_bool Try.underlying4 t2
  rw [cellsIntL] at e0 e1
  rw [cellsBoolL] at e2
  simp at e0 e1 e2
  exact ⟨x0, x1, x2, e0, e1, e2⟩
theorem open_lock {a b : Value} {y : DataW H × List MemPlace} {fuel : Nat} (hf : DataW.trod enc Try.prog W 0 (fun _ => true) true fuel 149 [a, b] = some y) :
    ∃ (A : Option Addr) (c : Nat) (hs : HL) (A' : Option Addr) (c' : Nat) (ws : HL), a = .slice A hs.length c ∧ b = .slice A' ws.length c' ∧ hs.length ≤ maxLen ∧ ws.length ≤ maxLen ∧ LAt W W.heap.size A A' (hs, ws) := by
  obtain ⟨y0, y1, n, _, _, t0, t1⟩ := trod_struct2 Try.underlying149 hf
  rw [cellsHoldsL] at t0 t1
  simp at t0 t1
  obtain ⟨A, c, hs, e0, h1, h2⟩ := open_holds t0
  obtain ⟨A', c', ws, e1, h3, h4⟩ := open_holds t1
  exact ⟨A, c, hs, A', c', ws, e0, e1, h1, h3, h2, h4⟩
theorem open_cell {cs : List Value} {y : DataW H × List MemPlace} {fuel : Nat} (hl : cs.length = 6) (hf : DataW.trod enc Try.prog W 0 (fun _ => true) true fuel 151 cs = some y) :
    ∃ (c : CD) (q : Pl), cs = cvs c q ∧ c.hs.length ≤ maxLen ∧ c.ws.length ≤ maxLen ∧ LsAt W W.heap.size c q := by
  obtain ⟨y0, y1, y2, n, _, _, t0, t1, t2⟩ := trod_struct3 Try.underlying151 hf
  obtain ⟨a, b, c, d, e, f, rfl⟩ := list6 hl
  rw [cellsIntL] at t0
  rw [cellsWordL] at t1
  rw [cellsLockL] at t2
  simp at t0 t1 t2
  obtain ⟨v, e0, _, _⟩ := DataW.trod_int Try.underlying3 t0
  simp at e0
  obtain ⟨ep, s, h, rfl, rfl, rfl⟩ := open_word t1
  obtain ⟨A, cp, hs, A', cp', ws, rfl, rfl, h1, h2, h3⟩ := open_lock t2
  subst e0
  exact ⟨⟨v, ep, s, h, hs, ws⟩, ⟨A, cp, A', cp'⟩, rfl, h1, h2, h3⟩

theorem addr_add (b off k : Nat) : (⟨b, off, none⟩ : Addr).add k = ⟨b, off + k, none⟩ := by
  by_cases e : k = 0
  · subst e; simp [Addr.add]
  · simp [Addr.add, e]
set_option maxRecDepth 100000 in
theorem open_cells {v : Value} {y : DataW H × List MemPlace} {fuel : Nat} (hf : DataW.trod enc Try.prog W 0 (fun _ => true) true fuel 22 [v] = some y) :
    ∃ (A : Option Addr) (cap : Nat) (T : TL), v = .slice A T.length cap ∧ TLen T ∧ TAt W W.heap.size A T := by
  rcases open_slice Try.underlying22 hf with ⟨hcs, _⟩ | ⟨a, len, cap', m, k, D, Pl', hcs, _, hl, hm, hmm, _, hi⟩
  · simp at hcs
    subst hcs
    exact ⟨none, 0, [], rfl, ⟨Nat.zero_le _, fun j hj => absurd hj (by simp)⟩, fun h => absurd h (by simp)⟩
  · simp at hcs
    subst hcs
    have hex : ∀ j, ∃ z : CD × Pl, j < len → (∀ i u, (cvs z.1 z.2)[i]? = some u → W.cell? (a.add (j * 6 + i)) = some u) ∧ z.1.hs.length ≤ maxLen ∧ z.1.ws.length ≤ maxLen ∧ LsAt W W.heap.size z.1 z.2 := fun j => by
      by_cases hj : j < len
      · obtain ⟨cs', hc, ht⟩ := hi j (by rw [hmm]; simp; omega)
        rw [cellsCellL] at hc
        obtain ⟨_, hlen, hcell⟩ := World.cells?_some hc
        obtain ⟨c, q, e0, h1, h2, h3⟩ := open_cell hlen ht
        refine ⟨(c, q), fun _ => ⟨fun i u hu => ?_, h1, h2, h3⟩⟩
        subst e0
        have hi6 : i < 6 := by
          have := (List.getElem?_eq_some_iff.1 hu).1
          simpa [cvs] using this
        have := hcell i (by omega)
        rw [add_add] at this
        rw [this]
        exact hu
      · exact ⟨(CD.zero, ⟨none, 0, none, 0⟩), fun h => absurd h hj⟩
    obtain ⟨z, hz⟩ := Classical.axiomOfChoice hex
    have hat : ∀ j, j < len → cd ((List.range len).map fun j => (z j).1) j = (z j).1 := fun j hj => by simp [cd, hj]
    refine ⟨some a, cap', (List.range len).map fun j => (z j).1, by simp, ⟨by simp; omega, fun j hj => ?_⟩, fun hN => ?_⟩
    · have hj : j < len := by simpa using hj
      rw [hat j hj]; exact ⟨(hz j hj).2.1, (hz j hj).2.2.1⟩
    · have hN : 0 < len := by simpa using hN
      obtain ⟨b, off, spot⟩ := a
      have h0 := (hz 0 hN).1 0 _ rfl
      have hs : spot = none := by simpa [Addr.add] using World.cell?_spot h0
      subst hs
      refine ⟨b, off, rfl, by simpa [Addr.add] using World.block_lt_of_cell? _ _ h0, fun j => (z j).2, fun j hj => ?_⟩
      have hj : j < len := by simpa using hj
      obtain ⟨h1, _, _, h3⟩ := hz j hj
      rw [hat j hj]
      have hc : ∀ i u, (cvs (z j).1 (z j).2)[i]? = some u → W.cell? ⟨b, off + j * 6 + i, none⟩ = some u := fun i u hu => by
        have := h1 i u hu
        rw [addr_add, ← Nat.add_assoc] at this
        exact this
      exact ⟨⟨hc 0 _ rfl, hc 1 _ rfl, hc 2 _ rfl, hc 3 _ rfl, hc 4 _ rfl, hc 5 _ rfl⟩, h3⟩
end
end Go.Proofs.Ytomkfldimkpmdaa
