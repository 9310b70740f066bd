/- Marking a lock and finding the marks: markHoldS, markLock, heldLock. -/
import Derived.Test.YtkpkjcmoldkmmaaGreatLh
namespace Go.Proofs.YtkpkjcmoldkmmaaGreat
open Go.RowKit

def CellsH (w : World) (b off n : Nat) (t : Nat → Int) (v : Nat → Bool) : Prop := ∀ j, j < n → w.cell? ⟨b, off + j * 2, none⟩ = some (.int .i64 (t j)) ∧ w.cell? ⟨b, off + j * 2 + 1, none⟩ = some (.bool (v j))
theorem CellsH.set {w : World} {b off n k : Nat} {t t' : Nat → Int} {v v' : Nat → Bool} (h : CellsH w b off n t v) (hk : k < n) (x : Int) (y : Bool) (e0 : t' k = x) (e1 : v' k = y) (e2 : ∀ j, ¬ j = k → t' j = t j) (e3 : ∀ j, ¬ j = k → v' j = v j) :
    CellsH ((w.setCell ⟨b, off + k * 2, none⟩ (.int .i64 x)).setCell ⟨b, off + k * 2 + 1, none⟩ (.bool y)) b off n t' v' := fun j hj => by
  by_cases e : j = k
  · subst e
    refine ⟨?_, ?_⟩
    · rw [World.cell?_setCell_other _ _ _ _ (by intro h'; injection h' with _ h' _; omega), World.cell?_setCell_same _ _ _ (h j hk).1, e0]
    · rw [World.cell?_setCell_same (u := .bool (v j)), e1]
      rw [World.cell?_setCell_other _ _ _ _ (by intro h'; injection h' with _ h' _; omega)]
      exact (h j hk).2
  · refine ⟨?_, ?_⟩
    · rw [World.cell?_setCell_other _ _ _ _ (by intro h'; injection h' with _ h' _; omega), World.cell?_setCell_other _ _ _ _ (by intro h'; injection h' with _ h' _; omega), (h j hj).1, e2 j e]
    · rw [World.cell?_setCell_other _ _ _ _ (by intro h'; injection h' with _ h' _; omega), World.cell?_setCell_other _ _ _ _ (by intro h'; injection h' with _ h' _; omega), (h j hj).2, e3 j e]

def mT (k0 : Int) (l : HL) (k j : Nat) : Int := if j < k then k0 + j * 2 else hT l j
def mW (k0 : Int) (l : HL) (k j : Nat) : Bool := if j < k then decide ((k0 + j * 2 + 1) % 3 = 0) else hW l j
def Free (w : World) (b : Nat) : Prop := ∀ o, w.frozen? ⟨b, o, none⟩ = false

theorem markHoldS_any (A : Option Addr) (cap lo B : Nat) (l : HL) (k0 : Int) (w : World) (hn : l.length ≤ 1073741824) (h0 : 0 ≤ k0) (hk0 : k0 ≤ 1073741824) (h : HOwn w lo B A l) :
    Calls Tryz.prog 160 #[.slice A l.length cap, .int .i64 k0] w fun e w' => e = .returned (.int .i64 (k0 + l.length * 2)) ∧ Onlys lo B w w' ∧ HOwn w' lo B A (marks k0 l.length) := by
  rcases Nat.eq_zero_or_pos l.length with hz | hpos
  · rw [hz]
    go_enter Tryz.func160, Tryz.ntmps160
    go_wp2
    refine wp_loop_rounds 1 ?_; rw [rounds_succ]
    go_wp2
    go_ret
    exact ⟨by simp, Onlys.refl _ _ _, fun h => absurd h (by rw [marks_len]; omega)⟩
  obtain ⟨b, off, rfl, hb1, hb2, hc⟩ := h hpos
  have hf := (hc 0 hpos).2
  have hc : CellsH w b off l.length (hT l) (hW l) := fun j hj => (hc j hj).1
  clear h
  generalize hL : l.length = n at hn hpos hc ⊢
  clear hL
  go_enter Tryz.func160, Tryz.ntmps160
  go_wp2
  go_loopw [1, 5] (fun s i wr => ∃ k : Nat, k ≤ n ∧ i = .int .i64 k ∧ s = .int .i64 (k0 + k * 2) ∧ Onlys lo B w wr ∧ CellsH wr b off n (mT k0 l k) (mW k0 l k) ∧ Free wr b) (fun _ i _ => n - (intOf i).toNat)
  case atStart => exact ⟨0, Nat.zero_le _, rfl, by simp, Onlys.refl _ _ _, fun j hj => by simpa [mT, mW] using hc j hj, hf⟩
  case round =>
    obtain ⟨k, hk, rfl, rfl, ho, hcr, fr⟩ := hrel
    clear hc
    by_cases hkn : k < n
    · have hkz : (k : Int) < n := by omega
      have d0 : wr.cell? ⟨b, off + k * 2, none⟩ = some (.int .i64 (hT l k)) := by rw [(hcr k hkn).1, mT, if_neg (by omega)]
      have d1 : wr.cell? ⟨b, off + k * 2 + 1, none⟩ = some (.bool (hW l k)) := by rw [(hcr k hkn).2, mW, if_neg (by omega)]
      have r0 : wr.frozen? ⟨b, off + k * 2, none⟩ = false := fr _
      have r1 : wr.frozen? ⟨b, off + k * 2 + 1, none⟩ = false := fr _
      go_wp2
      exact ⟨⟨k + 1, by omega, by go_num, by go_num, (ho.setCell hb1 hb2 _).setCell hb1 hb2 _, hcr.set hkn _ _ (by unfold mT; rw [if_pos (by omega)]) (by unfold mW; rw [if_pos (by omega), Bool.eq_iff_iff]; simp) (fun j hj => by
        unfold mT
        by_cases e : j < k
        · rw [if_pos e, if_pos (by omega)]
        · rw [if_neg e, if_neg (by omega)]) (fun j hj => by
        unfold mW
        by_cases e : j < k
        · rw [if_pos e, if_pos (by omega)]
        · rw [if_neg e, if_neg (by omega)]), fun o => by simpa using fr o⟩, by simp [intOf]; omega⟩
    · obtain rfl : k = n := by omega
      go_wp2
      go_ret
      exact ⟨rfl, ho, fun _ => ⟨b, off, rfl, hb1, hb2, fun j hj => by
        rw [marks_len] at hj
        refine ⟨⟨?_, ?_⟩, fr⟩
        · rw [(hcr j hj).1, mT, if_pos hj, (marks_get hj).1]
        · rw [(hcr j hj).2, mW, if_pos hj, (marks_get hj).2]⟩⟩

theorem HOwn.one {w : World} {lo B : Nat} {A : Option Addr} {l : HL} (h : HOwn w lo B A l) (hl : 0 < l.length) : ∃ a, A = some a ∧ lo ≤ a.block ∧ a.block < B ∧ HOwn w a.block (a.block + 1) A l := by
  obtain ⟨b, off, e, h1, h2, hc⟩ := h hl
  exact ⟨_, e, h1, h2, fun _ => ⟨b, off, e, Nat.le_refl _, Nat.lt_succ_self _, hc⟩⟩
theorem HOwn.none {w : World} {lo B : Nat} {A : Option Addr} {l : HL} (h : l.length = 0) : HOwn w lo B A l := fun hn => absurd hn (by omega)

/-- marking one of two rows that lie apart -/
theorem markHoldS_apart (A A' : Option Addr) (cap lo B : Nat) (l l' : HL) (k0 : Int) (w : World) (hn : l.length ≤ 1073741824) (h0 : 0 ≤ k0) (hk0 : k0 ≤ 1073741824) (h : HOwn w lo B A l) (h' : HOwn w lo B A' l')
    (ha : 0 < l.length → 0 < l'.length → ∀ a a', A = some a → A' = some a' → ¬ a.block = a'.block) :
    Calls Tryz.prog 160 #[.slice A l.length cap, .int .i64 k0] w fun e w' => e = .returned (.int .i64 (k0 + l.length * 2)) ∧ Onlys lo B w w' ∧ HOwn w' lo B A (marks k0 l.length) ∧ HOwn w' lo B A' l' := by
  rcases Nat.eq_zero_or_pos l'.length with hz | hpos'
  · refine (markHoldS_any A cap lo B l k0 w hn h0 hk0 h).mono ?_
    rintro e w' ⟨h1, h2, h3⟩
    exact ⟨h1, h2, h3, HOwn.none hz⟩
  rcases Nat.eq_zero_or_pos l.length with hz | hpos
  · refine (markHoldS_any A cap 0 0 l k0 w hn h0 hk0 (HOwn.none hz)).mono ?_
    rintro e w' ⟨h1, h2, h3⟩
    have ho : Onlys lo B w w' := ⟨h2.os, h2.tape, h2.output, h2.size, fun k _ => h2.block k (.inr (Nat.zero_le _))⟩
    exact ⟨h1, ho, HOwn.none (by rw [marks_len]; exact hz), h'.onlys h2 (.inr (Nat.zero_le _))⟩
  obtain ⟨a, ea, a1, a2, h1⟩ := h.one hpos
  obtain ⟨a', ea', b1, b2, h2⟩ := h'.one hpos'
  have hne := ha hpos hpos' a a' ea ea'
  refine (markHoldS_any A cap a.block (a.block + 1) l k0 w hn h0 hk0 h1).mono ?_
  rintro e w' ⟨h3, h4, h5⟩
  exact ⟨h3, h4.more a1 (by omega), h5.more a1 (by omega), (h2.onlys h4 (by omega)).more b1 (by omega)⟩

end Go.Proofs.YtkpkjcmoldkmmaaGreat
