/- What the program's table functions share. -/
import Derived.Test.YtcndmdglnohbcaaGreatDoorUb
import Derived.Test.YtcndmdglnohbcaaGreatDoorTz
import Derived.Test.YtcndmdglnohbcaaGreatDoorTq
import Derived.Test.YtcndmdglnohbcaaGreatDoorTv
namespace Go.Proofs.YtcndmdglnohbcaaGreatDoor
open Go.RowKit
open Go.Maps (Keyed)

/-- a table of the call's own making, to be read -/
def RetTA (w : World) (T : TL) (F : Value → Value) (e : Ending) (w' : World) : Prop := ∃ A c, e = .returned (F (.agg #[.slice A T.length c])) ∧ TLo w' w.heap.size A T ∧ Below w.heap.size w w'
theorem cells_lens {T : TL} (h : tabOk T = true) (j : Nat) (hj : j < T.length) : (cd T j).hs.length + (cd T j).ws.length ≤ 8 := ((lockOk_iff _ _).1 (tabOk_lockOk h hj)).1.len
theorem tot_le {T : TL} {n : Nat} (h : ∀ j, j < n → (cd T j).hs.length + (cd T j).ws.length ≤ 8) : totT T n ≤ n * 8 := by
  induction n with
  | zero => exact Nat.le_refl _
  | succ n ih =>
    have h1 := ih (fun j hj => h j (by omega))
    have h2 := h n (by omega)
    rw [totT_succ]; omega
theorem tab_fit {T : TL} (h : tabOk T = true) : TFit T := by
  have h1 := tabOk_len h
  have h2 := tot_le (cells_lens h)
  unfold TFit; omega
/-- a valid lock in cell k: the table stays valid -/
theorem put_ok {T : TL} {k : Nat} {m : HL × HL} (h : tabOk T = true) (hk : k < T.length) (hm : lockOk m.1 m.2 = true) : tabOk (putT T k (lockC (cd T k) m)) = true := by
  have h1 := tabOk_len h
  unfold tabOk
  rw [Bool.and_eq_true]
  refine ⟨?_, all_yes (fun j hj => ?_)⟩
  · rw [putT_len]; unfold inB; simp; omega
  · rw [putT_len] at hj
    rw [putT_at _ _ _ _ hj]
    by_cases e : j = k
    · subst e
      rw [if_pos rfl]
      obtain ⟨p1, p2, p3, p4⟩ := cellOk_parts (tabOk_at h hj)
      unfold cellOk lockC
      simp [p1, p2, hm]
    · rw [if_neg e]; exact tabOk_at h hj
/-- the lock that the store has for cell k -/
def lkP (T : TL) (q : Nat → Pl) (j : Nat) : Pl := if (cd T j).hs.length = 0 then Pl.zero else q j
theorem lock_empty {hs ws : HL} (h : lockOk hs ws = true) (h0 : hs.length = 0) : hs = [] ∧ ws = [] := by
  have e : hs = [] := List.length_eq_zero_iff.1 h0
  have hb := ((lockOk_iff _ _).1 h).2
  rw [e] at hb
  refine ⟨e, ?_⟩
  cases hw : ws with
  | nil => rfl
  | cons a l => rw [hw] at hb; simp [blocked, canJoin] at hb
theorem locks_get {T : TL} {q : Nat → Pl} (h : tabOk T = true) {j : Nat} (hj : j < T.length) : (locksF T q T.length (j : Int)).getD (.agg #[.slice none 0 0, .slice none 0 0]) = lkq (cd T j) (lkP T q j) := by
  unfold locksF lkP
  by_cases h0 : (cd T j).hs.length = 0
  · have hc : ci T (j : Int) = cd T j := rfl
    rw [if_neg (by rw [hc]; omega), if_pos h0]
    obtain ⟨e1, e2⟩ := lock_empty (tabOk_lockOk h hj) h0
    simp [lkq, lkv, e1, e2, Pl.zero]
  · have hc : ci T (j : Int) = cd T j := rfl
    rw [if_pos ⟨by omega, by rw [hc]; exact h0⟩, if_neg h0]
    rfl
theorem locks_at {w : World} {B : Nat} {T : TL} {q : Nat → Pl} (h : tabOk T = true) {j : Nat} (hj : j < T.length) (hl : LsAt w B (cd T j) (q j)) : LsAt w B (cd T j) (lkP T q j) := by
  unfold lkP
  by_cases h0 : (cd T j).hs.length = 0
  · rw [if_pos h0]
    obtain ⟨e1, e2⟩ := lock_empty (tabOk_lockOk h hj) h0
    exact ⟨fun hn => absurd hn (by simp [CD.p, e1]), fun hn => absurd hn (by simp [CD.p, e2])⟩
  · rw [if_neg h0]; exact hl
/-- the two maps behind setLock are those of the new table -/
theorem slots_put {T : TL} {k : Nat} (hk : k < T.length) (m : HL × HL) (j : Int) : upd (slotsF T T.length) (k : Int) (some (sv (pk (cd T k).e (cd T k).s (wrote m.1)) (cd T k).v)) j = slotsF (putT T k (lockC (cd T k) m)) (putT T k (lockC (cd T k) m)).length j := by
  unfold upd slotsF
  rw [putT_len]
  by_cases hj : 0 ≤ j ∧ j < (T.length : Int)
  · obtain ⟨i, rfl⟩ := Int.eq_ofNat_of_zero_le hj.1
    have hi : i < T.length := by omega
    have hc : ci (putT T k (lockC (cd T k) m)) (i : Int) = if i = k then lockC (cd T k) m else cd T i := putT_at _ _ _ _ hi
    rw [if_pos hj, if_pos hj, hc]
    by_cases e : i = k
    · subst e; simp [lockC]
    · have e' : ¬ ((i : Int) = (k : Int)) := by omega
      rw [if_neg e', if_neg e]; rfl
  · have e' : ¬ (j = (k : Int)) := by omega
    rw [if_neg e', if_neg hj, if_neg hj]
def putP (T : TL) (q : Nat → Pl) (k : Nat) (m : HL × HL) (P : Pl) (j : Nat) : Pl := if j = k then (if m.1.length = 0 then Pl.zero else P) else lkP T q j
theorem locks_put {T : TL} {q : Nat → Pl} {k : Nat} (h : tabOk T = true) (m : HL × HL) (hm : lockOk m.1 m.2 = true) (P : Pl) {j : Nat} (hj : j < T.length) :
    (upd (locksF T q T.length) (k : Int) (if m.1.length = 0 then none else some (lkv P.G m.1.length P.c P.G' m.2.length P.c')) (j : Int)).getD (.agg #[.slice none 0 0, .slice none 0 0]) = lkq (cd (putT T k (lockC (cd T k) m)) j) (putP T q k m P j) := by
  rw [putT_at _ _ _ _ hj]
  unfold upd putP
  by_cases e : j = k
  · subst e
    rw [if_pos rfl, if_pos rfl, if_pos rfl]
    by_cases h0 : m.1.length = 0
    · rw [if_pos h0, if_pos h0]
      obtain ⟨e1, e2⟩ := lock_empty hm h0
      simp [lkq, lkv, lockC, e1, e2, Pl.zero]
    · rw [if_neg h0, if_neg h0]; rfl
  · have e' : ¬ ((j : Int) = (k : Int)) := by omega
    rw [if_neg e', if_neg e, if_neg e]
    exact locks_get h hj
theorem putP_at {w : World} {B : Nat} {T : TL} {q : Nat → Pl} {k : Nat} (h : tabOk T = true) {m : HL × HL} (hm : lockOk m.1 m.2 = true) {P : Pl} (hP : LAt w B P.G P.G' m) (hl : ∀ j, j < T.length → LsAt w B (cd T j) (q j)) {j : Nat} (hj : j < T.length) :
    LsAt w B (cd (putT T k (lockC (cd T k) m)) j) (putP T q k m P j) := by
  rw [putT_at _ _ _ _ hj]
  unfold putP
  by_cases e : j = k
  · rw [if_pos e, if_pos e]
    by_cases h0 : m.1.length = 0
    · rw [if_pos h0]
      obtain ⟨e1, e2⟩ := lock_empty hm h0
      exact ⟨fun hn => absurd hn (by simp [CD.p, lockC, e1]), fun hn => absurd hn (by simp [CD.p, lockC, e2])⟩
    · rw [if_neg h0]; exact hP
  · rw [if_neg e, if_neg e]
    exact locks_at h hj (hl j hj)
theorem hown_but2 {w w' : World} {b1 b2 lo B : Nat} {A : Option Addr} {l : HL} (h : HOwn w lo B A l) (hU : But2 b1 b2 w w') (h1 : b1 < lo) (h2 : b2 < lo) (hB : B ≤ w.heap.size) : HOwn w' lo B A l := fun hn => by
  obtain ⟨b, off, e, k1, k2, hc⟩ := h hn
  have hk := hU.block b (by omega) (by omega) (by omega)
  exact ⟨b, off, e, k1, k2, fun j hj => ⟨⟨(World.cell?_of_block (a := ⟨b, _, none⟩) hk).trans (hc j hj).1.1, (World.cell?_of_block (a := ⟨b, _, none⟩) hk).trans (hc j hj).1.2⟩, fun o => (World.frozen?_of_block (a := ⟨b, o, none⟩) hk).trans ((hc j hj).2 o)⟩⟩
theorem lown_but2 {w w' : World} {b1 b2 lo B : Nat} {A A' : Option Addr} {p : HL × HL} (h : LOwn w lo B A A' p) (hU : But2 b1 b2 w w') (h1 : b1 < lo) (h2 : b2 < lo) (hB : B ≤ w.heap.size) : LOwn w' lo B A A' p := ⟨hown_but2 h.1 hU h1 h2 hB, hown_but2 h.2.1 hU h1 h2 hB, h.2.2⟩
theorem TOwn.put {w : World} {lo B a : Nat} {A : Option Addr} {T : TL} (h : TOwn w lo B A T) (v : Value) (hl : a + 1 ≤ lo) : TOwn (w.setCell ⟨a, 0, none⟩ v) lo B A T := h.onlys (onlys_set w a 0 v) (.inr hl)
theorem fit_len {T : TL} (h : TFit T) : TLen T :=
  ⟨by have := h.len; unfold maxLen; omega, fun j hj => by have := h.at_ hj; unfold maxLen; omega⟩
theorem capl_far {w : World} {lo B : Nat} {A : Option Addr} {T : TL} (ho : TOwn w lo B A T) (h : TCapL w A T) {a : Addr} (v : Value) (hd : a.block < lo) : TCapL (w.setCell a v) A T := fun b off e j hj => by
  subst e
  obtain ⟨b', off', e, q, L, H, hr⟩ := ho (by omega)
  injection e with e
  injection e with e1 _ _
  subst e1
  have := hr.rlo
  exact h.far v (by omega) b off rfl j hj
end Go.Proofs.YtcndmdglnohbcaaGreatDoor
