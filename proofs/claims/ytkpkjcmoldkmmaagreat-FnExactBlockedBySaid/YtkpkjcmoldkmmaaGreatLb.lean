/- Integers in memory: what reads as integers, what is owned; eqIntS, markIntS, heldIntS (for a seat without acts). -/
import Derived.Test.YtkpkjcmoldkmmaaGreatCore
import Derived.WalkKit
import Derived.WalkSpells
import Derived.WalkLawsBesides
import Derived.ProofKit
import Derived.Below
import Derived.Outline
import Derived.Lib.Hide
import Derived.Deep.QuietTactic
import Derived.BigQuiet
import Derived.IntWalk
import Derived.Deep.LoopGhost
import Derived.Deep.OwnRows
import Derived.Deep.RegionHeld3
import Derived.Deep.DeepCutAuto
import Derived.Deep.Light
import Derived.Deep.AppendLies
import Derived.StillTailTactics
namespace Go.Proofs.YtkpkjcmoldkmmaaGreat
open Go.RowKit

/-- the N cells from the slice's address on hold the integers f 0, f 1, .. -/
def IntsAt (w : World) (B : Nat) (A : Option Addr) (N : Nat) (f : Nat → Int) : Prop :=
  0 < N → ∃ b off, A = some ⟨b, off, none⟩ ∧ b < B ∧ ∀ j, j < N → w.cell? ⟨b, off + j, none⟩ = some (.int .i64 (f j))

theorem IntsAt.below {w w' : World} {B B' : Nat} {A : Option Addr} {N : Nat} {f : Nat → Int} (h : IntsAt w B A N f) (hb : Below B w w') (hB : B ≤ B') : IntsAt w' B' A N f := fun hn => by
  obtain ⟨b, off, e, hlt, hc⟩ := h hn
  exact ⟨b, off, e, by omega, fun j hj => (hb.cell (p := ⟨b, off + j, none⟩) hlt).trans (hc j hj)⟩
theorem IntsAt.of_row {w : World} {g t N B : Nat} {f : Nat → Int} (h : w.rowIs g t N (fun j => .int .i64 (f j))) (hB : g < B) : IntsAt w B (some ⟨g, 0, none⟩) N f := fun _ =>
  ⟨g, 0, rfl, hB, fun j hj => by rw [Nat.zero_add]; exact h.cell hj⟩
theorem IntsAt.congr {w : World} {B : Nat} {A : Option Addr} {N : Nat} {f g : Nat → Int} (h : IntsAt w B A N f) (e : ∀ j, j < N → f j = g j) : IntsAt w B A N g := fun hn => by
  obtain ⟨b, off, ea, hlt, hc⟩ := h hn
  exact ⟨b, off, ea, hlt, fun j hj => by rw [hc j hj, e j hj]⟩
theorem rowIs_below {w w' : World} {B g t N : Nat} {f : Nat → Value} (h : w.rowIs g t N f) (hb : Below B w w') (hg : g < B) : w'.rowIs g t N f := h.of_block (hb.block g hg)

def szOf (left : Int) (n : Nat) : Int := if left < n then -1 else left - n

/-- only blocks from lo on and below B may have turned; no block is new -/
structure Onlys (lo B : Nat) (w w' : World) : Prop where
  os : w'.os = w.os
  tape : w'.tape = w.tape
  output : w'.output = w.output
  size : w'.heap.size = w.heap.size
  block : ∀ k, (k < lo ∨ B ≤ k) → w'.heap[k]? = w.heap[k]?

theorem Onlys.refl (lo B : Nat) (w : World) : Onlys lo B w w := ⟨rfl, rfl, rfl, rfl, fun _ _ => rfl⟩
theorem Onlys.trans {lo B : Nat} {a b c : World} (h : Onlys lo B a b) (k : Onlys lo B b c) : Onlys lo B a c :=
  ⟨k.os.trans h.os, k.tape.trans h.tape, k.output.trans h.output, k.size.trans h.size, fun i hi => (k.block i hi).trans (h.block i hi)⟩
theorem Onlys.setCell {lo B : Nat} {a w : World} (h : Onlys lo B a w) {p : Addr} (h1 : lo ≤ p.block) (h2 : p.block < B) (u : Value) : Onlys lo B a (w.setCell p u) :=
  h.trans ⟨rfl, rfl, rfl, by simp [World.setCell], fun k hk => Below.heap_setCell _ _ _ _ (by omega)⟩
theorem Onlys.below {lo B L : Nat} {w w' : World} (h : Onlys lo B w w') (hL : L ≤ lo) : Below L w w' :=
  ⟨h.os, h.tape, h.output, by rw [h.size]; exact Nat.le_refl _, fun k hk => h.block k (.inl (by omega))⟩

/-- N cells of the call's own, in a block from lo on and below B, hold the integers f 0, f 1, .. and may be written -/
def OwnI (w : World) (lo B : Nat) (A : Option Addr) (N : Nat) (f : Nat → Int) : Prop :=
  0 < N → ∃ b off, A = some ⟨b, off, none⟩ ∧ lo ≤ b ∧ b < B ∧ ∀ j, j < N → w.cell? ⟨b, off + j, none⟩ = some (.int .i64 (f j)) ∧ w.frozen? ⟨b, off + j, none⟩ = false

section
variable {w w' : World} {lo B lo' B' N : Nat} {A : Option Addr} {f g : Nat → Int}
theorem OwnI.at_ (h : OwnI w lo B A N f) : IntsAt w B A N f := fun hn => by
  obtain ⟨b, off, e, _, h2, hc⟩ := h hn
  exact ⟨b, off, e, h2, fun j hj => (hc j hj).1⟩
theorem OwnI.below (h : OwnI w lo B A N f) (hb : Below B' w w') (hB : B ≤ B') : OwnI w' lo B A N f := fun hn => by
  obtain ⟨b, off, e, h1, h2, hc⟩ := h hn
  exact ⟨b, off, e, h1, h2, fun j hj => ⟨(hb.cell (p := ⟨b, off + j, none⟩) (show b < B' by omega)).trans (hc j hj).1, (hb.frozen (p := ⟨b, off + j, none⟩) (show b < B' by omega)).trans (hc j hj).2⟩⟩
theorem OwnI.more (h : OwnI w lo B A N f) (hl : lo' ≤ lo) (hB : B ≤ B') : OwnI w lo' B' A N f := fun hn => by
  obtain ⟨b, off, e, h1, h2, hc⟩ := h hn
  exact ⟨b, off, e, by omega, by omega, hc⟩
theorem OwnI.congr (h : OwnI w lo B A N f) (e : ∀ j, j < N → f j = g j) : OwnI w lo B A N g := fun hn => by
  obtain ⟨b, off, ea, h1, h2, hc⟩ := h hn
  exact ⟨b, off, ea, h1, h2, fun j hj => ⟨by rw [(hc j hj).1, e j hj], (hc j hj).2⟩⟩
theorem OwnI.onlys (h : OwnI w lo B A N f) (ho : Onlys lo' B' w w') (hd : B ≤ lo' ∨ B' ≤ lo) : OwnI w' lo B A N f := fun hn => by
  obtain ⟨b, off, e, h1, h2, hc⟩ := h hn
  have hk := ho.block b (by omega)
  exact ⟨b, off, e, h1, h2, fun j hj => ⟨(World.cell?_of_block (a := ⟨b, off + j, none⟩) hk).trans (hc j hj).1, (World.frozen?_of_block (a := ⟨b, off + j, none⟩) hk).trans (hc j hj).2⟩⟩
theorem IntsAt.onlys (h : IntsAt w B A N f) (ho : Onlys lo' B' w w') (hd : B ≤ lo') : IntsAt w' B A N f := h.below (ho.below hd) (Nat.le_refl _)
theorem OwnI.of_row {t : Nat} {b : Nat} (h : w.rowIs b t N (fun j => .int .i64 (f j))) (h1 : lo ≤ b) (h2 : b < B) : OwnI w lo B (some ⟨b, 0, none⟩) N f := fun _ =>
  ⟨b, 0, rfl, h1, h2, fun j hj => by rw [Nat.zero_add]; exact ⟨h.cell hj, h.frozen j⟩⟩
theorem OwnI.of_owns {e : TypeId} {v : Value} {n : Nat} {l : List Int} (h : w.ownsRow lo e 1 v n (l.map (.int .i64))) : ∃ A cap, v = .slice A n cap ∧ n ≤ maxLen ∧ OwnI w lo w.heap.size A n (fun j => l.getD j 0) := by
  have hl : l.length = n := by simpa using h.1
  rcases h.2 with ⟨rfl, rfl⟩ | ⟨g, cap, cur, rfl, hg, hh, hn, hm, hs, ht⟩
  · exact ⟨none, 0, rfl, Nat.zero_le _, fun hn => absurd hn (by omega)⟩
  · refine ⟨_, cap, rfl, by omega, fun _ => ⟨g, 0, rfl, hg, (Array.getElem?_eq_some_iff.1 hh).1, fun j hj => ⟨?_, ?_⟩⟩⟩
    · rw [Nat.zero_add, h.cellAt j (by omega)]
      simp [List.getElem?_map, List.getElem?_eq_getElem (show j < l.length by omega)]
    · rw [Nat.zero_add]; exact h.frozenAt j
end

/-- n cells from off on in block b -/
def CellsI (w : World) (b off n : Nat) (f : Nat → Int) : Prop := ∀ j, j < n → w.cell? ⟨b, off + j, none⟩ = some (.int .i64 (f j)) ∧ w.frozen? ⟨b, off + j, none⟩ = false
theorem CellsI.at_ {w : World} {b off n k : Nat} {f : Nat → Int} {v : Int} (h : CellsI w b off n f) (hk : k < n) (e : f k = v) : w.cell? ⟨b, off + k, none⟩ = some (.int .i64 v) := by rw [(h k hk).1, e]
theorem CellsI.set {w : World} {b off n k : Nat} {f : Nat → Int} (h : CellsI w b off n f) (hk : k < n) (v : Int) : CellsI (w.setCell ⟨b, off + k, none⟩ (.int .i64 v)) b off n (fun j => if j = k then v else f j) := fun j hj => by
  refine ⟨?_, by rw [World.frozen?_setCell]; exact (h j hj).2⟩
  by_cases e : j = k
  · subst e
    rw [World.cell?_setCell_same _ _ _ (h j hj).1]
    simp
  · rw [World.cell?_setCell_other _ _ _ _ (by intro h'; injection h' with _ h' _; omega), (h j hj).1]
    simp [e]
theorem CellsI.congr {w : World} {b off n : Nat} {f g : Nat → Int} (h : CellsI w b off n f) (e : ∀ j, j < n → f j = g j) : CellsI w b off n g := fun j hj => ⟨by rw [(h j hj).1, e j hj], (h j hj).2⟩

theorem eqIntS_same (A1 A2 : Option Addr) (n c1 c2 B1 B2 : Nat) (f : Nat → Int) (w : World) (hn : n ≤ maxLen) (h1 : IntsAt w B1 A1 n f) (h2 : IntsAt w B2 A2 n f) :
    Calls Tryz.prog 19 #[.slice A1 n c1, .slice A2 n c2] w fun e w' => e = .returned (.bool true) ∧ Below w.heap.size w w' := by
  unfold maxLen at hn
  go_enter Tryz.func19, Tryz.ntmps19
  go_wp2
  go_loopw [5] (fun i wr => ∃ k : Nat, k ≤ n ∧ i = .int .i64 k ∧ ∃ m, wr = w.drewN m) (fun i _ => n - (intOf i).toNat)
  case atStart => exact ⟨0, Nat.zero_le _, rfl, 0, rfl⟩
  case round =>
    obtain ⟨k, hk, rfl, m, rfl⟩ := hrel
    by_cases hkn : k < n
    · obtain ⟨b, off, rfl, _, hc⟩ := h1 (by omega)
      obtain ⟨b', off', rfl, _, hc'⟩ := h2 (by omega)
      have hkz : (k : Int) < n := by omega
      have d0 : w.cell? ⟨b, off + k, none⟩ = some (.int .i64 (f k)) := hc _ hkn
      have d0' : w.cell? ⟨b', off' + k, none⟩ = some (.int .i64 (f k)) := hc' _ hkn
      clear hc hc' h1 h2
      go_wp2_with fail
      go_quiet (fail)
      go_wp2
      exact ⟨⟨k + 1, by omega, by go_num, _, rfl⟩, by simp [intOf]; omega⟩
    · obtain rfl : k = n := by omega
      go_wp2
      go_ret
      exact ⟨rfl, ⟨rfl, rfl, rfl, Nat.le_refl _, fun _ _ => rfl⟩⟩

theorem heldIntS_any (A : Option Addr) (n cap B : Nat) (k0 : Nat) (w : World) (hn : n ≤ 1073741824) (hk0 : k0 ≤ 1073741824) (h : IntsAt w B A n (fun j => (k0 : Int) + j)) :
    Calls Tryz.prog 21 #[.slice A n cap, .int .i64 k0] w fun e w' => e = .returned (.int .i64 (k0 + n)) ∧ w = w' := by
  go_enter Tryz.func21, Tryz.ntmps21
  go_wp2
  go_loop [1, 5] (fun s i => ∃ k : Nat, k ≤ n ∧ i = .int .i64 k ∧ s = .int .i64 (k0 + k)) (fun _ i => n - (intOf i).toNat)
  case atStart => exact ⟨0, Nat.zero_le _, rfl, by simp⟩
  case round =>
    obtain ⟨k, hk, rfl, rfl⟩ := hrel
    by_cases hkn : k < n
    · obtain ⟨b, off, rfl, _, hc⟩ := h (by omega)
      have hkz : (k : Int) < n := by omega
      have d0 : w.cell? ⟨b, off + k, none⟩ = some (.int .i64 (k0 + k)) := hc _ hkn
      clear hc h
      go_wp2
      exact ⟨⟨k + 1, by omega, by go_num, by go_num⟩, by simp [intOf]; omega⟩
    · obtain rfl : k = n := by omega
      go_wp2
      go_ret
      exact ⟨rfl, rfl⟩

theorem markIntS_any (A : Option Addr) (n cap lo B : Nat) (f : Nat → Int) (k0 : Nat) (w : World) (hn : n ≤ 1073741824) (hk0 : k0 ≤ 1073741824) (h : OwnI w lo B A n f) :
    Calls Tryz.prog 20 #[.slice A n cap, .int .i64 k0] w fun e w' => e = .returned (.int .i64 (k0 + n)) ∧ Onlys lo B w w' ∧ OwnI w' lo B A n (fun j => (k0 : Int) + j) := by
  rcases Nat.eq_zero_or_pos n with rfl | hpos
  · go_enter Tryz.func20, Tryz.ntmps20
    go_wp2
    refine wp_loop_rounds 1 ?_; rw [rounds_succ]
    go_wp2
    go_ret
    exact ⟨by simp, Onlys.refl _ _ _, fun h => absurd h (by omega)⟩
  obtain ⟨b, off, rfl, hb1, hb2, hc⟩ := h hpos
  have hc : CellsI w b off n f := hc
  clear h
  go_enter Tryz.func20, Tryz.ntmps20
  go_wp2
  go_loopw [1, 5] (fun s i wr => ∃ k : Nat, k ≤ n ∧ i = .int .i64 k ∧ s = .int .i64 (k0 + k) ∧ Onlys lo B w wr ∧ CellsI wr b off n (fun j => if j < k then (k0 : Int) + j else f j)) (fun _ i _ => n - (intOf i).toNat)
  case atStart => exact ⟨0, Nat.zero_le _, rfl, by simp, Onlys.refl _ _ _, hc.congr (fun j _ => by simp)⟩
  case round =>
    obtain ⟨k, hk, rfl, rfl, ho, hcr⟩ := hrel
    clear hc
    by_cases hkn : k < n
    · have hkz : (k : Int) < n := by omega
      have d0 : wr.cell? ⟨b, off + k, none⟩ = some (.int .i64 (f k)) := hcr.at_ hkn (if_neg (by omega))
      have d1 : wr.frozen? ⟨b, off + k, none⟩ = false := (hcr k hkn).2
      go_wp2
      exact ⟨⟨k + 1, by omega, by go_num, by go_num, ho.setCell hb1 hb2 _, (hcr.set hkn _).congr (fun j _ => by
        by_cases e : j = k
        · subst e; rw [if_pos rfl, if_pos (by omega)]
        · rw [if_neg e]
          by_cases hlt : j < k
          · rw [if_pos hlt, if_pos (by omega)]
          · rw [if_neg hlt, if_neg (by omega)])⟩, by simp [intOf]; omega⟩
    · obtain rfl : k = n := by omega
      go_wp2
      go_ret
      exact ⟨rfl, ho, fun _ => ⟨b, off, rfl, hb1, hb2, hcr.congr (fun j hj => by rw [if_pos hj])⟩⟩

end Go.Proofs.YtkpkjcmoldkmmaaGreat
