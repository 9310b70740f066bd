/- Marking a lock and finding the marks: markHoldS, markLock, heldLock. -/
import Derived.Test.YtcndmdglnohbcaaGreatDoorLh
namespace Go.Proofs.YtcndmdglnohbcaaGreatDoor
open Go.RowKit

def CellsH (w : World) (b off n : Nat) (t : Nat → Int) (v : Nat → Bool) : Prop := ∀ j, j < n → w.cell? ⟨b, off + j * 2, none⟩ = some (.int .i64 (t j)) ∧ w.cell? ⟨b, off + j * 2 + 1, none⟩ = some (.bool (v j))
theorem CellsH.set {w : World} {b off n k : Nat} {t t' : Nat → Int} {v v' : Nat → Bool} (h : CellsH w b off n t v) (hk : k < n) (x : Int) (y : Bool) (e0 : t' k = x) (e1 : v' k = y) (e2 : ∀ j, ¬ j = k → t' j = t j) (e3 : ∀ j, ¬ j = k → v' j = v j) :
    CellsH ((w.setCell ⟨b, off + k * 2, none⟩ (.int .i64 x)).setCell ⟨b, off + k * 2 + 1, none⟩ (.bool y)) b off n t' v' := fun j hj => by
  by_cases e : j = k
  · subst e
    refine ⟨?_, ?_⟩
    · rw [World.cell?_setCell_other _ _ _ _ (by intro h'; injection h' with _ h' _; omega), World.cell?_setCell_same _ _ _ (h j hk).1, e0]
    · rw [World.cell?_setCell_same (u := .bool (v j)), e1]
      rw [World.cell?_setCell_other _ _ _ _ (by intro h'; injection h' with _ h' _; omega)]
      exact (h j hk).2
  · refine ⟨?_, ?_⟩
    · rw [World.cell?_setCell_other _ _ _ _ (by intro h'; injection h' with _ h' _; omega), World.cell?_setCell_other _ _ _ _ (by intro h'; injection h' with _ h' _; omega), (h j hj).1, e2 j e]
    · rw [World.cell?_setCell_other _ _ _ _ (by intro h'; injection h' with _ h' _; omega), World.cell?_setCell_other _ _ _ _ (by intro h'; injection h' with _ h' _; omega), (h j hj).2, e3 j e]

def mT (k0 : Int) (l : HL) (k j : Nat) : Int := if j < k then k0 + j * 2 else hT l j
def mW (k0 : Int) (l : HL) (k j : Nat) : Bool := if j < k then decide ((k0 + j * 2 + 1) % 3 = 0) else hW l j
def Free (w : World) (b : Nat) : Prop := ∀ o, w.frozen? ⟨b, o, none⟩ = false

theorem HOwn.one {w : World} {lo B : Nat} {A : Option Addr} {l : HL} (h : HOwn w lo B A l) (hl : 0 < l.length) : ∃ a, A = some a ∧ lo ≤ a.block ∧ a.block < B ∧ HOwn w a.block (a.block + 1) A l := by
  obtain ⟨b, off, e, h1, h2, hc⟩ := h hl
  exact ⟨_, e, h1, h2, fun _ => ⟨b, off, e, Nat.le_refl _, Nat.lt_succ_self _, hc⟩⟩
theorem HOwn.none {w : World} {lo B : Nat} {A : Option Addr} {l : HL} (h : l.length = 0) : HOwn w lo B A l := fun hn => absurd hn (by omega)

end Go.Proofs.YtcndmdglnohbcaaGreatDoor
