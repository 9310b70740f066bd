/- A play of operations: what it leaves, and lists of lists in memory. -/
import Derived.Deep.AppendLies
import Derived.Test.YtmdonjkkpkcpnaaLp2
namespace Go.Proofs.Ytmdonjkkpkcpnaa
open Go.RowKit

abbrev OL := List (List Int)
def opAt (ops : OL) (k : Nat) : List Int := ops.getD k []
def opF (ops : OL) (k : Nat) (j : Nat) : Int := (opAt ops k).getD j 0
/-- the cells from the slice's address on hold the slices of ops, which lie below B -/
def OpsAt (w : World) (B : Nat) (A : Option Addr) (ops : OL) : Prop :=
  0 < ops.length → ∃ b off, A = some ⟨b, off, none⟩ ∧ b < B ∧ ∀ j, j < ops.length → ∃ O c, w.cell? ⟨b, off + j, none⟩ = some (.slice O (opAt ops j).length c) ∧ IntsAt w B O (opAt ops j).length (opF ops j)
theorem OpsAt.below {w w' : World} {B B' : Nat} {A : Option Addr} {ops : OL} (h : OpsAt w B A ops) (hb : Below B w w') (hB : B ≤ B') : OpsAt w' B' A ops := fun hn => by
  obtain ⟨b, off, e, hlt, hc⟩ := h hn
  refine ⟨b, off, e, by omega, fun j hj => ?_⟩
  obtain ⟨O, c, h1, h2⟩ := hc j hj
  exact ⟨O, c, (hb.cell (p := ⟨b, off + j, none⟩) hlt).trans h1, h2.below hb hB⟩
def stP (ops : OL) : Nat → HL × HL
  | 0 => ([], [])
  | k + 1 => (playS (stP ops k) (opAt ops k).length (opF ops k)).1
def cdP (ops : OL) : Nat → List Int
  | 0 => []
  | k + 1 => cdP ops k ++ [(playS (stP ops k) (opAt ops k).length (opF ops k)).2]
theorem stP_len (ops : OL) (k : Nat) : (stP ops k).1.length + (stP ops k).2.length ≤ k := by
  induction k with
  | zero => simp [stP]
  | succ k ih =>
    have := playS_len (stP ops k) (opAt ops k).length (opF ops k)
    show (playS (stP ops k) (opAt ops k).length (opF ops k)).1.1.length + (playS (stP ops k) (opAt ops k).length (opF ops k)).1.2.length ≤ k + 1
    omega
theorem cdP_len (ops : OL) (k : Nat) : (cdP ops k).length = k := by
  induction k with
  | zero => rfl
  | succ k ih => simp [cdP, ih]
def playL (ops : OL) : HL × HL := if ops.length ≤ 300 then stP ops ops.length else ([], [])
def playC (ops : OL) : List Int := if ops.length ≤ 300 then cdP ops ops.length else []
theorem playL_yes {ops : OL} (h : ops.length ≤ 300) : playL ops = stP ops ops.length := if_pos h
theorem playC_yes {ops : OL} (h : ops.length ≤ 300) : playC ops = cdP ops ops.length := if_pos h
theorem playL_no {ops : OL} (h : ¬ ops.length ≤ 300) : playL ops = ([], []) := if_neg h
theorem playC_no {ops : OL} (h : ¬ ops.length ≤ 300) : playC ops = [] := if_neg h
theorem playL_len (ops : OL) : (playL ops).1.length + (playL ops).2.length ≤ 300 := by
  unfold playL
  split
  · have := stP_len ops ops.length; omega
  · simp
theorem playC_len (ops : OL) : (playC ops).length ≤ 300 := by
  unfold playC
  split
  · rw [cdP_len]; assumption
  · simp

/-- block q holds neither list of a lock -/
def Off (A A' : Option Addr) (p : HL × HL) (q : Nat) : Prop := (0 < p.1.length → ∀ a, A = some a → ¬ a.block = q) ∧ (0 < p.2.length → ∀ a, A' = some a → ¬ a.block = q)
theorem Off.out {w : World} {lo B q : Nat} {A A' : Option Addr} {p : HL × HL} (h : LOwn w lo B A A' p) (hq : q < lo ∨ B ≤ q) : Off A A' p q := by
  refine ⟨fun hl a ha => ?_, fun hl a ha => ?_⟩
  · obtain ⟨b, off, e, h1, h2, _⟩ := h.1 hl
    rw [ha] at e; injection e with e; subst e
    show ¬ b = q
    omega
  · obtain ⟨b, off, e, h1, h2, _⟩ := h.2.1 hl
    rw [ha] at e; injection e with e; subst e
    show ¬ b = q
    omega
theorem HOwn.grownOff {w w' : World} {lo B : Nat} {A : Option Addr} {l : HL} {row : Option Nat} (h : HOwn w lo B A l) (hg : w.grownBy w' row) (hB : B ≤ w.heap.size) (ho : ∀ q, row = some q → 0 < l.length → ∀ a, A = some a → ¬ a.block = q) : HOwn w' lo B A l := fun hn => by
  obtain ⟨b, off, e, h1, h2, hc⟩ := h hn
  have hk := hg.block b (by omega) (fun er => ho b er.symm hn _ e rfl)
  exact ⟨b, off, e, h1, h2, fun j hj => ⟨⟨(World.cell?_of_block (a := ⟨b, _, Option.none⟩) hk).trans (hc j hj).1.1, (World.cell?_of_block (a := ⟨b, _, Option.none⟩) hk).trans (hc j hj).1.2⟩, fun o => (World.frozen?_of_block (a := ⟨b, o, Option.none⟩) hk).trans ((hc j hj).2 o)⟩⟩
theorem LOwn.grownOff {w w' : World} {lo B : Nat} {A A' : Option Addr} {p : HL × HL} {row : Option Nat} (h : LOwn w lo B A A' p) (hg : w.grownBy w' row) (hB : B ≤ w.heap.size) (ho : ∀ q, row = some q → Off A A' p q) : LOwn w' lo B A A' p :=
  ⟨h.1.grownOff hg hB (fun q hq => (ho q hq).1), h.2.1.grownOff hg hB (fun q hq => (ho q hq).2), h.2.2⟩
theorem OwnI.far {w : World} {lo B N : Nat} {A : Option Addr} {f : Nat → Int} {a : Addr} (h : OwnI w lo B A N f) (v : Value) (hd : a.block < lo ∨ B ≤ a.block) : OwnI (w.setCell a v) lo B A N f := fun hn => by
  obtain ⟨b, off, e, h1, h2, hc⟩ := h hn
  have hne : ∀ o, a ≠ ⟨b, o, Option.none⟩ := fun o e => by subst e; simp at hd; omega
  exact ⟨b, off, e, h1, h2, fun j hj => ⟨by rw [World.cell?_setCell_other _ _ _ _ (hne _)]; exact (hc j hj).1, by rw [World.frozen?_setCell]; exact (hc j hj).2⟩⟩
theorem OwnI.set2 {w : World} {lo B N q : Nat} {A : Option Addr} {f : Nat → Int} (h : OwnI w lo B A N f) (hq : q < lo) (u v : Value) : OwnI ((w.setCell ⟨q, 0, none⟩ u).setCell ⟨q, 1, none⟩ v) lo B A N f :=
  (h.far u (.inl hq)).far v (.inl hq)
/-- what a play answers -/
def RetPlay (w : World) (ops : OL) (e : Ending) (w' : World) : Prop := ∃ A c A' c' G gc, e = .returned (.tuple #[.agg #[.slice A (playL ops).1.length c, .slice A' (playL ops).2.length c'], .slice G (playC ops).length gc]) ∧ LOwn w' w.heap.size w'.heap.size A A' (playL ops) ∧ OwnI w' w.heap.size w'.heap.size G (playC ops).length (fun j => (playC ops).getD j 0) ∧ (∀ a, G = some a → 0 < (playC ops).length → Off A A' (playL ops) a.block) ∧ Below w.heap.size w w'
theorem LOwn.nil (w : World) (lo B : Nat) (A A' : Option Addr) : LOwn w lo B A A' ([], []) := ⟨fun h => absurd h (by simp), fun h => absurd h (by simp), fun h => absurd h (by simp)⟩
theorem Off.nil (A A' : Option Addr) (q : Nat) : Off A A' ([], []) q := ⟨fun h => absurd h (by simp), fun h => absurd h (by simp)⟩
/-- the row of answers told so far -/
def Told (w : World) (lo : Nat) (v : Value) (l : List Int) (A A' : Option Addr) (p : HL × HL) : Prop := w.ownsRow lo 3 1 v l.length (l.map (.int .i64)) ∧ ∀ q, v.ownBlock = some q → Off A A' p q
theorem OwnI.of_told {w : World} {lo : Nat} {v : Value} {l : List Int} {A A' : Option Addr} {p : HL × HL} (h : Told w lo v l A A' p) : ∃ G gc, v = .slice G l.length gc ∧ OwnI w lo w.heap.size G l.length (fun j => l.getD j 0) ∧ (∀ a, G = some a → 0 < l.length → Off A A' p a.block) := by
  obtain ⟨G, gc, rfl, _, hO⟩ := OwnI.of_owns h.1
  refine ⟨G, gc, rfl, hO, fun a ha hl => ?_⟩
  subst ha
  exact h.2 _ rfl
end Go.Proofs.Ytmdonjkkpkcpnaa
