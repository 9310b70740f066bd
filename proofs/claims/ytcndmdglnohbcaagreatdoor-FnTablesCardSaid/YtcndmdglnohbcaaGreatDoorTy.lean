/- The model's copy of a table: l05Copy. -/
import Derived.Test.YtcndmdglnohbcaaGreatDoorTg
import Derived.Test.YtcndmdglnohbcaaGreatDoorLs4
import Derived.Test.YtcndmdglnohbcaaGreatDoorLa
import Derived.Deep.RegionHeldLaw
import Derived.Deep.AppendLies
namespace Go.Proofs.YtcndmdglnohbcaaGreatDoor
open Go.RowKit

section
variable {w w' : World} {b1 b2 s1 s2 n1 n2 k : Nat} {e1 e2 : TypeId} {v1 v2 : Value} {x1 x2 : List Value}
/-- a row stays while its own block does -/
theorem ownsRow_own (h : w.ownsRow b1 e1 s1 v1 n1 x1) (hb : ∀ k, v1.ownBlock = some k → w'.heap[k]? = w.heap[k]?) : w'.ownsRow b1 e1 s1 v1 n1 x1 := by
  refine ⟨h.1, ?_⟩
  rcases h.2 with h' | ⟨g, cap, cur, h1, h2, h3, h4⟩
  · exact .inl h'
  · exact .inr ⟨g, cap, cur, h1, h2, (hb g (by rw [h1]; rfl)).trans h3, h4⟩
/-- rows of two types lie in two blocks -/
theorem ownsRow_ne (h : w.ownsRow b1 e1 s1 v1 n1 x1) (h' : w.ownsRow b2 e2 s2 v2 n2 x2) (hne : ¬ e1 = e2) (hk : v1.ownBlock = some k) : ¬ v2.ownBlock = some k := by
  intro hk'
  rcases h.2 with ⟨rfl, _⟩ | ⟨g, cap, cur, rfl, _, hh, _⟩
  · cases hk
  · rcases h'.2 with ⟨rfl, _⟩ | ⟨g', cap', cur', rfl, _, hh', _⟩
    · cases hk'
    · injection hk with hk; injection hk' with hk'
      simp only at hk hk'
      subst hk hk'
      have := hh.symm.trans hh'
      injection this with this
      injection this with _ e _
      exact hne e
end
/-- the cells of the first k cells of a table -/
def ccs (T : TL) (q : Nat → Pl) : Nat → List Value
  | 0 => []
  | k + 1 => ccs T q k ++ cvs (cd T k) (q k)
theorem ccs_len (T : TL) (q : Nat → Pl) (k : Nat) : (ccs T q k).length = k * 6 := by
  induction k with
  | zero => rfl
  | succ k ih => simp [ccs, ih, cvs]; omega
theorem ccs_congr {T : TL} {q q' : Nat → Pl} {k : Nat} (h : ∀ j, j < k → q j = q' j) : ccs T q k = ccs T q' k := by
  induction k with
  | zero => rfl
  | succ k ih => simp only [ccs]; rw [ih (fun j hj => h j (by omega)), h k (by omega)]
theorem ccs_get (T : TL) (q : Nat → Pl) {k j i : Nat} (hj : j < k) (hi : i < 6) : (ccs T q k)[j * 6 + i]? = (cvs (cd T j) (q j))[i]? := by
  induction k with
  | zero => omega
  | succ k ih =>
    simp only [ccs]
    by_cases e : j = k
    · subst e
      rw [List.getElem?_append_right (by rw [ccs_len]; omega), ccs_len]
      congr 1; omega
    · rw [List.getElem?_append_left (by rw [ccs_len]; omega)]
      exact ih (by omega)
/-- the two lists of a cell, each the call's own -/
def LsRow (w : World) (lo : Nat) (c : CD) (q : Pl) : Prop := OwnH w lo (.slice q.G c.hs.length q.c) c.hs ∧ OwnH w lo (.slice q.G' c.ws.length q.c') c.ws
/-- the copy so far -/
structure CopyTo (wr : World) (lo : Nat) (T : TL) (k : Nat) (v : Value) (q : Nat → Pl) : Prop where
  row : wr.ownsRow lo 42 6 v k (ccs T q k)
  own : ∀ j, j < k → LsRow wr lo (cd T j) (q j)
theorem LsRow.own_ {w w' : World} {lo : Nat} {c : CD} {q : Pl} (h : LsRow w lo c q) (hb : ∀ k, (Value.slice q.G c.hs.length q.c).ownBlock = some k ∨ (Value.slice q.G' c.ws.length q.c').ownBlock = some k → w'.heap[k]? = w.heap[k]?) : LsRow w' lo c q :=
  ⟨ownsRow_own h.1 (fun k hk => hb k (.inl hk)), ownsRow_own h.2 (fun k hk => hb k (.inr hk))⟩
theorem LsRow.next {w w' : World} {lo : Nat} {c : CD} {q : Pl} (h : LsRow w lo c q) (hb : Below w.heap.size w w') : LsRow w' lo c q := ⟨h.1.next hb, h.2.next hb⟩
theorem LsRow.less {w : World} {lo lo' : Nat} {c : CD} {q : Pl} (h : LsRow w lo c q) (hl : lo' ≤ lo) : LsRow w lo' c q := ⟨h.1.less hl, h.2.less hl⟩
theorem LsRow.at_ {w : World} {lo : Nat} {c : CD} {q : Pl} (h : LsRow w lo c q) : LsAt w w.heap.size c q := by
  obtain ⟨A, cap, e, h1⟩ := h.1.own
  obtain ⟨A', cap', e', h2⟩ := h.2.own
  injection e with e1 _ _
  injection e' with e2 _ _
  exact ⟨by rw [e1]; exact h1.at_, by rw [e2]; exact h2.at_⟩
theorem CopyTo.next {wr w' : World} {lo : Nat} {T : TL} {k : Nat} {v : Value} {q : Nat → Pl} (h : CopyTo wr lo T k v q) (hb : Below wr.heap.size wr w') : CopyTo w' lo T k v q :=
  ⟨ownsRow_block' h.row (fun k hk _ => hb.block k hk), fun j hj => (h.own j hj).next hb⟩
/-- a row grown: the lists of the cells before stay -/
theorem CopyTo.grown {wr w' : World} {lo : Nat} {T : TL} {k : Nat} {v : Value} {q : Nat → Pl} (h : CopyTo wr lo T k v q) (hg : wr.grownBy w' v.ownBlock) (j : Nat) (hj : j < k) : LsRow w' lo (cd T j) (q j) := by
  have ho := h.own j hj
  refine ho.own_ (fun b hb => hg.block b ?_ (fun e => ?_))
  · rcases hb with hb | hb
    · exact (ho.1.lt b hb).2
    · exact (ho.2.lt b hb).2
  · rcases hb with hb | hb
    · exact ownsRow_ne ho.1 h.row (by decide) hb e.symm
    · exact ownsRow_ne ho.2 h.row (by decide) hb e.symm
theorem CopyTo.tab {wr : World} {lo : Nat} {T : TL} {v : Value} {q : Nat → Pl} (h : CopyTo wr lo T T.length v q) : ∃ A c, v = .slice A T.length c ∧ TAt wr wr.heap.size A T := by
  rcases h.row.2 with ⟨rfl, e⟩ | ⟨g, cap, cur, rfl, hg, hh, hn, hm, hs, ht⟩
  · have hz : T.length = 0 := by
      have := h.row.1
      rw [e] at this; simp at this; omega
    exact ⟨none, 0, by rw [hz], fun hn => absurd hn (by omega)⟩
  · refine ⟨_, cap, rfl, fun hn => ⟨g, 0, rfl, (Array.getElem?_eq_some_iff.1 hh).1, q, fun j hj => ?_⟩⟩
    refine ⟨?_, (h.own j hj).at_⟩
    have e : ∀ i, i < 6 → wr.cell? ⟨g, 0 + j * 6 + i, none⟩ = (cvs (cd T j) (q j))[i]? := fun i hi => by
      rw [Nat.zero_add, h.row.cellAt _ (by omega), ccs_get T q hj hi]
    exact ⟨e 0 (by omega), e 1 (by omega), e 2 (by omega), e 3 (by omega), e 4 (by omega), e 5 (by omega)⟩
theorem CopyTo.far {wr : World} {lo : Nat} {T : TL} {k : Nat} {v : Value} {q : Nat → Pl} {a : Addr} (h : CopyTo wr lo T k v q) (u : Value) (hd : a.block < lo) : CopyTo (wr.setCell a u) lo T k v q :=
  ⟨ownsRow_block' h.row (fun b _ hb => Below.heap_setCell _ _ _ _ (by omega)), fun j hj => ⟨(h.own j hj).1.far u hd, (h.own j hj).2.far u hd⟩⟩
theorem ownsRow_less {w : World} {lo lo' s n : Nat} {e : TypeId} {v : Value} {xs : List Value} (h : w.ownsRow lo e s v n xs) (hl : lo' ≤ lo) : w.ownsRow lo' e s v n xs := by
  refine ⟨h.1, ?_⟩
  rcases h.2 with h' | ⟨g, cap, cur, h1, h2, h3⟩
  · exact .inl h'
  · exact .inr ⟨g, cap, cur, h1, by omega, h3⟩
theorem CopyTo.less {wr : World} {lo lo' : Nat} {T : TL} {k : Nat} {v : Value} {q : Nat → Pl} (h : CopyTo wr lo T k v q) (hl : lo' ≤ lo) : CopyTo wr lo' T k v q :=
  ⟨ownsRow_less h.row hl, fun j hj => (h.own j hj).less hl⟩
/-- one cell more -/
theorem CopyTo.step {w5 w6 : World} {lo : Nat} {T : TL} {k : Nat} {v v' : Value} {q : Nat → Pl} {p : Pl} (h : CopyTo w5 lo T k v q) (hp : LsRow w5 lo (cd T k) p) (hg : w5.grownBy w6 v.ownBlock)
    (hr : w6.ownsRow lo 42 6 v' (k + 1) (ccs T q k ++ cvs (cd T k) p)) : CopyTo w6 lo T (k + 1) v' (fun j => if j = k then p else q j) := by
  refine ⟨?_, fun j hj => ?_⟩
  · have e : ccs T (fun j => if j = k then p else q j) (k + 1) = ccs T q k ++ cvs (cd T k) p := by
      simp only [ccs, if_true]
      rw [ccs_congr (fun j hj => by rw [if_neg (by omega)])]
    rw [e]; exact hr
  · by_cases e : j = k
    · subst e
      simp only [if_true]
      refine hp.own_ (fun b hb => hg.block b ?_ (fun e => ?_))
      · rcases hb with hb | hb
        · exact (hp.1.lt b hb).2
        · exact (hp.2.lt b hb).2
      · rcases hb with hb | hb
        · exact ownsRow_ne hp.1 h.row (by decide) hb e.symm
        · exact ownsRow_ne hp.2 h.row (by decide) hb e.symm
    · simp only [if_neg e]
      exact h.grown hg j (by omega)
theorem cells_six {w : World} {b : Nat} {x0 x1 x2 x3 x4 x5 : Value} (h : Box w b [x0, x1, x2, x3, x4, x5]) : ∀ j u, [x0, x1, x2, x3, x4, x5][j]? = some u → w.cell? ((⟨b, 0, none⟩ : Addr).add j) = some u := by
  intro j u hj
  obtain ⟨d0, d1, d2, d3, d4, d5⟩ := h.c6.1
  match j, hj with
  | 0, hj => simp at hj; subst hj; simp [Addr.add]; exact d0
  | 1, hj => simp at hj; subst hj; simp [Addr.add]; exact d1
  | 2, hj => simp at hj; subst hj; simp [Addr.add]; exact d2
  | 3, hj => simp at hj; subst hj; simp [Addr.add]; exact d3
  | 4, hj => simp at hj; subst hj; simp [Addr.add]; exact d4
  | 5, hj => simp at hj; subst hj; simp [Addr.add]; exact d5
theorem one_six (c : CD) (q : Pl) : ∀ u ∈ cvs c q, u.oneCell' = true := by
  intro u hu
  simp [cvs] at hu
  rcases hu with rfl | rfl | rfl | rfl | rfl | rfl <;> rfl
/-- the copy -/
def RetCopy (w : World) (T : TL) (e : Ending) (w' : World) : Prop := ∃ v q, e = .returned (.agg #[v]) ∧ CopyTo w' w.heap.size T T.length v q ∧ Below w.heap.size w w'
theorem CCells.and6 {w : World} {b o : Nat} {c : CD} {q : Pl} (h : CCells w b o c q) : w.cell? ⟨b, o, none⟩ = some (.int .i64 c.v) ∧ w.cell? ⟨b, o + 1, none⟩ = some (.int .i64 c.e) ∧ w.cell? ⟨b, o + 2, none⟩ = some (.int .i64 c.s) ∧ w.cell? ⟨b, o + 3, none⟩ = some (.bool c.h) ∧ w.cell? ⟨b, o + 4, none⟩ = some (.slice q.G c.hs.length q.c) ∧ w.cell? ⟨b, o + 5, none⟩ = some (.slice q.G' c.ws.length q.c') :=
  ⟨h.c0, h.c1, h.c2, h.c3, h.c4, h.c5⟩
end Go.Proofs.YtcndmdglnohbcaaGreatDoor
