/- FnLocks: through drawn operations a lock stays valid, a writer holds it alone, nobody who arrived after a waiting writer holds it before that writer, and who has left occurs nowhere, whatever the bytes that the case is drawn from. No condition. -/
import Derived.Test.YtmdonjkkpkcpnaaLwLk
import Derived.Test.YtmdonjkkpkcpnaaLo
namespace Go.Proofs.Ytmdonjkkpkcpnaa
open Go.ChangeShapes Go.WideShapes Go.ChangeAt Go.RowKit Go.Joins Go.Deep

theorem cellsU8 : Try.prog.cellsOf 5 = 1 := by kernel_rfl

section
variable {H : Type} {enc : TypeId × Value → H} {W : World}

/-- a byte at every cell -/
theorem bytesAt_of {A : Addr} {N : Nat} (h : ∀ j, j < N → ∃ v : Int, (0 ≤ v ∧ v ≤ 255) ∧ W.cell? (A.add j) = some (.int .u8 v)) : ∃ g : Nat → Int, BytesAt W W.heap.size (some A) N g := by
  have hex : ∀ j, ∃ v : Int, (0 ≤ v ∧ v ≤ 255) ∧ (j < N → W.cell? (A.add j) = some (.int .u8 v)) := fun j => by
    by_cases hj : j < N
    · obtain ⟨v, hr, hv⟩ := h j hj
      exact ⟨v, hr, fun _ => hv⟩
    · exact ⟨0, ⟨by omega, by omega⟩, fun hj' => absurd hj' hj⟩
  refine ⟨fun j => Classical.choose (hex j), fun j => (Classical.choose_spec (hex j)).1, fun hN => ?_⟩
  have hc : ∀ j, j < N → W.cell? (A.add j) = some (.int .u8 (Classical.choose (hex j))) := fun j hj => (Classical.choose_spec (hex j)).2 hj
  obtain ⟨b, off, spot⟩ := A
  have h0 := hc 0 hN
  have hs : spot = none := by simpa [Addr.add] using World.cell?_spot h0
  subst hs
  refine ⟨b, off, rfl, by simpa [Addr.add] using World.block_lt_of_cell? _ _ h0, fun j hj => ?_⟩
  have := hc j hj
  by_cases hj0 : j = 0
  · subst hj0
    simpa [Addr.add] using this
  · simpa [Addr.add, hj0] using this

theorem open_bytesAt {A : Option Addr} {n cap : Nat} {d : DataW H} {p : List MemPlace} (h : DataW.Trod enc Try.prog W 0 (fun _ => true) true 22 (.slice A n cap) d p) :
    ∃ g : Nat → Int, BytesAt W W.heap.size A n g := by
  obtain ⟨fuel, hf⟩ := h
  rcases open_slice Try.underlying22 hf with ⟨hcs, _⟩ | ⟨a, len, cap', m, k, D, Pl, hcs, _, hl, hm, hmm, _, hi⟩
  · simp [Value.cells] at hcs
    obtain ⟨rfl, rfl, rfl⟩ := hcs
    exact ⟨fun _ => 0, fun _ => ⟨Int.le_refl 0, (by decide : (0 : Int) ≤ 255)⟩, fun h => absurd h (by omega)⟩
  · simp [Value.cells] at hcs
    obtain ⟨rfl, rfl, rfl⟩ := hcs
    exact bytesAt_of (W := W) (A := a) (N := n) (fun j hj => by
      obtain ⟨cs', hc, ht⟩ := hi j (by rw [hmm]; simp; omega)
      rw [cellsU8] at hc
      obtain ⟨_, hlen, hcell⟩ := World.cells?_some hc
      obtain ⟨v, e0, _, hwf⟩ := DataW.trod_int Try.underlying5 ht
      have hr : IntKind.u8.min ≤ v ∧ v ≤ IntKind.u8.max := by simpa [Lit.wf] using hwf
      refine ⟨v, ⟨hr.1, hr.2⟩, ?_⟩
      have := hcell 0 (by omega)
      rw [e0] at this
      simpa [add_add] using this)
end

set_option maxRecDepth 100000 in
theorem fnLocks_lifted (os : Os) (started : os.Started) (H : Type) (enc : TypeId × Value → H) :
    ReturnsInHanded {} Try.checked os 3 .any (Rows.fnLocksSpec.pre6 enc Try.prog Try.f3 Rows.fnLocksRow.domain false) (Rows.fnLocksSpec.post enc Try.prog Try.f3 false true false false) := by
  refine returnsInHanded_of_change (C := Try.checked) own started (by kernel_rfl) Try.func3
    (ChangeSpec.witness6 (enc := enc) (C := Try.checked) false ⟨#[], #[.slice none 0 0], []⟩ 8 (by kernel_rfl) (by kernel_rfl) (by kernel_rfl) (by kernel_rfl)) ?_
  intro W base args ds gs before hval0 hW _ _
  have hval : ∀ (j : Nat) t v, Try.f3.params[j]? = some t → args[j]? = some v → Value.okWide Try.prog W .any base t v := hval0
  have hW' := hW
  obtain ⟨p, q, hA0, hV, rfl, _, _⟩ := hW
  have hA : DataW.TrodAll enc Try.prog W 0 (fun _ => true) true Try.f3.params.toList args.toList ds p := hA0
  rw [Try.params3] at hA hval
  obtain ⟨v0, vs0, d0, ds0, p0, q0, hargs, rfl, rfl, h0, rr0⟩ := trodAll_cons hA
  obtain ⟨rfl, rfl, rfl⟩ := trodAll_nil rr0
  obtain rfl : args = #[v0] := by cases args; simp_all
  obtain ⟨rfl, rfl⟩ := trodVars_none hV
  have k0 := h0
  have lt0 : ∀ x ∈ p0, x.block < W.heap.size := by obtain ⟨m, hm⟩ := k0; exact DataW.trod_lt m _ _ _ hm
  obtain ⟨A0, n0, c0, rfl⟩ := okWide_slice Try.underlying22 (hval 0 22 v0 rfl rfl)
  obtain ⟨g0, r0⟩ := open_bytesAt h0
  clear hA0 hval0
  refine (fnLocks_walk A0 n0 c0 g0 W r0).mono fun e W' ⟨he, bel⟩ => ?_
  subst he
  exact ⟨_, rfl, _, _, _, [], _, [], hW', trodAll_mk1 (shut_bool Try.underlying4 _), (trodAll_cons_mk (Below.trod laidOut (by kernel_rfl) (of_decide_eq_true (by kernel_rfl)) k0 bel lt0) (trodAll_mk0)), rfl, bel.frame _, fun h => by cases h⟩

/-- FnLocks -/
theorem fnLocks_holds : Rows.FnLocksSaid :=
  OpenClaim.holds_of_wide 3 Try.f3 rfl rfl rfl rfl rfl rfl rfl ⟨rfl, rfl, rfl, rfl, rfl⟩ rfl rfl rfl rfl rfl (by kernel_rfl) Try.func3 (by kernel_rfl)
    (of_decide_eq_true (by kernel_rfl)) (by unfold Func.isWrapper; first | (rw [if_pos (by decide +kernel)]; kernel_rfl) | (rw [if_neg (by decide +kernel)]; exact ⟨rfl, rfl⟩))
    (fun os started H enc _ => fnLocks_lifted os started H enc)
#print axioms fnLocks_holds
end Go.Proofs.Ytmdonjkkpkcpnaa
