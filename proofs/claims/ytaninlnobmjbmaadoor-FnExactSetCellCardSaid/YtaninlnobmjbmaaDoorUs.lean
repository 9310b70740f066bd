/- SetCell: the mathematics. -/
import Derived.Test.YtaninlnobmjbmaaDoorUg
import Derived.Test.YtaninlnobmjbmaaDoorWNext
namespace Go.Proofs.YtaninlnobmjbmaaDoor
open Go.RowKit
open Go.Maps (Keyed)

/-- the next word -/
def nwB (e s ep : Int) : Bool := inW ep 0 1023 && (decide (e < ep) || decide (s < 65535))
def nwE (e ep : Int) : Int := if e < ep then ep else e
def nwS (e s ep : Int) : Int := if e < ep then 0 else s + 1
def nwV (e s ep : Int) : Value := if nwB e s ep then .agg #[.int .i64 (nwE e ep), .int .i64 (nwS e s ep), .bool false] else .agg #[.int .i64 0, .int .i64 0, .bool false]
theorem nw_no {e s ep : Int} (h : nwB e s ep = false) : nwV e s ep = .agg #[.int .i64 0, .int .i64 0, .bool false] := by simp [nwV, h]
theorem nw_yes {e s ep : Int} (h : nwB e s ep = true) : nwV e s ep = .agg #[.int .i64 (nwE e ep), .int .i64 (nwS e s ep), .bool false] := by simp [nwV, h]
theorem nw_badE {e s ep : Int} (h : inW ep 0 1023 = false) : nwB e s ep = false := by simp [nwB, h]
theorem nw_up {e s ep : Int} (h : inW ep 0 1023 = true) (hl : e < ep) : nwB e s ep = true ∧ nwE e ep = ep ∧ nwS e s ep = 0 := by simp [nwB, nwE, nwS, h, hl]
theorem nw_full {e s ep : Int} (hl : ep ≤ e) (hs : s = 65535) : nwB e s ep = false := by
  have : ¬ e < ep := by omega
  simp [nwB, this, hs]
theorem nw_on {e s ep : Int} (h : inW ep 0 1023 = true) (ho : wordOk e s = true) (hl : ep ≤ e) (hs : ¬ s = 65535) : nwB e s ep = true ∧ nwE e ep = e ∧ nwS e s ep = s + 1 := by
  have h1 : ¬ e < ep := by omega
  have h2 := wordOk_iff.1 ho
  have h3 : s < 65535 := by omega
  simp [nwB, nwE, nwS, h, h1, h3]
theorem nw_ok {e s ep : Int} (h : nwB e s ep = true) (ho : wordOk e s = true) : wordOk (nwE e ep) (nwS e s ep) = true := by
  simp only [nwB, Bool.and_eq_true, Bool.or_eq_true, decide_eq_true_eq, inW] at h
  have h2 := wordOk_iff.1 ho
  rw [wordOk_iff]
  unfold nwE nwS
  split
  · omega
  · omega
theorem specNextW_any (e s : Int) (h : Bool) (ep : Int) (ho : wordOk e s = true) (w : World) :
    Calls Tryd.prog 28 #[.agg #[.int .i64 e, .int .i64 s, .bool h], .int .i64 ep] w fun o w' => o = .returned (.tuple #[nwV e s ep, .bool (nwB e s ep)]) ∧ Below w.heap.size w w' := by
  cases he : inW ep 0 1023 with
  | false => rw [nw_no (nw_badE he), nw_badE he]; exact specNext_badE e s h ep ho he w
  | true =>
    by_cases hl : e < ep
    · obtain ⟨h1, h2, h3⟩ := nw_up (s := s) he hl
      rw [nw_yes h1, h1, h2, h3]; exact specNext_up e s h ep ho he hl w
    · by_cases hs : s = 65535
      · have h1 := nw_full (e := e) (ep := ep) (by omega) hs
        rw [nw_no h1, h1]; exact specNext_full e s h ep ho he (by omega) hs w
      · obtain ⟨h1, h2, h3⟩ := nw_on he ho (by omega) hs
        rw [nw_yes h1, h1, h2, h3]; exact specNext_on e s h ep ho he (by omega) hs w
theorem implNextW_any (e s : Int) (h : Bool) (ep : Int) (ho : wordOk e s = true) (ad : Addr) (w : World) (hF : Full w ad) :
    Calls Tryd.prog 34 #[.agg #[.int .i64 e, .int .i64 s, .bool h], .int .i64 ep] w fun o w' => o = .returned (.tuple #[nwV e s ep, .bool (nwB e s ep)]) ∧ Below w.heap.size w w' := by
  cases he : inW ep 0 1023 with
  | false => rw [nw_no (nw_badE he), nw_badE he]; exact implNext_badE e s h ep ho he w
  | true =>
    by_cases hl : e < ep
    · obtain ⟨h1, h2, h3⟩ := nw_up (s := s) he hl
      rw [nw_yes h1, h1, h2, h3]; exact implNext_up e s h ep ho he ad hl w hF
    · by_cases hs : s = 65535
      · have h1 := nw_full (e := e) (ep := ep) (by omega) hs
        rw [nw_no h1, h1]; exact implNext_full e s h ep ho he ad (by omega) hs w hF
      · obtain ⟨h1, h2, h3⟩ := nw_on he ho (by omega) hs
        rw [nw_yes h1, h1, h2, h3]; exact implNext_on e s h ep ho he ad (by omega) hs w hF

/-- a cell with another value and word -/
def valC (c : CD) (v e s : Int) : CD := ⟨v, e, s, true, c.hs, c.ws⟩
def scK (T : TL) (k : Nat) (tid v ep : Int) : Bool := (decide (stands T tid k = 2) && valB v) && nwB (cd T k).e (cd T k).s ep
def scB (T : TL) (key tid v ep : Int) : Bool := thereB T key && scK T key.toNat tid v ep
def scT (T : TL) (key tid v ep : Int) : TL := if scB T key tid v ep then putT T key.toNat (valC (cAt T key) v (nwE (cAt T key).e ep) (nwS (cAt T key).e (cAt T key).s ep)) else T
theorem sc_not {T : TL} {key tid v ep : Int} (h : thereB T key = false) : scB T key tid v ep = false ∧ scT T key tid v ep = T := by
  have : scB T key tid v ep = false := by simp [scB, h]
  simp [scT, this]
theorem sc_no {T : TL} {k : Nat} {tid v ep : Int} (h : scK T k tid v ep = false) : scB T k tid v ep = false ∧ scT T k tid v ep = T := by
  have : scB T k tid v ep = false := by simp [scB, h]
  simp [scT, this]
theorem sc_yes {T : TL} {k : Nat} {tid v ep : Int} (ht : thereB T (k : Int) = true) (h : scK T k tid v ep = true) : scB T k tid v ep = true ∧ scT T k tid v ep = putT T k (valC (cd T k) v (nwE (cd T k).e ep) (nwS (cd T k).e (cd T k).s ep)) := by
  have : scB T k tid v ep = true := by simp [scB, ht, h]
  simp [scT, this, cAt]
theorem sc_k1 {T : TL} {k : Nat} {tid v ep : Int} (h : ¬ stands T tid k = 2) : scK T k tid v ep = false := by simp [scK, h]
theorem sc_k2 {T : TL} {k : Nat} {tid v ep : Int} (h : valB v = false) : scK T k tid v ep = false := by simp [scK, h]
theorem sc_k3 {T : TL} {k : Nat} {tid v ep : Int} (h : nwB (cd T k).e (cd T k).s ep = false) : scK T k tid v ep = false := by simp [scK, h]
theorem sc_k4 {T : TL} {k : Nat} {tid v ep : Int} (h : stands T tid k = 2) (h2 : valB v = true) (h3 : nwB (cd T k).e (cd T k).s ep = true) : scK T k tid v ep = true := by simp [scK, h, h2, h3]
theorem writes_two {hs ws : HL} {t : Int} (h : holdsL hs ws t = 2) : wrote hs = true := by
  unfold holdsL holdsAt at h
  split at h
  · split at h
    · rename_i x hx
      split at h
      · rename_i hw
        exact List.any_eq_true.2 ⟨x, List.mem_of_find?_eq_some hx, hw⟩
      · omega
    · split at h <;> omega
  · omega
theorem putV_ok {T : TL} {k : Nat} {tid v ep : Int} (h : tabOk T = true) (hk : k < T.length) (h1 : stands T tid k = 2) (h2 : valB v = true) (h3 : nwB (cd T k).e (cd T k).s ep = true) :
    tabOk (putT T k (valC (cd T k) v (nwE (cd T k).e ep) (nwS (cd T k).e (cd T k).s ep))) = true := by
  have hl := tabOk_len h
  unfold tabOk
  rw [Bool.and_eq_true]
  refine ⟨?_, all_yes (fun j hj => ?_)⟩
  · rw [putT_len]; unfold inB; simp; omega
  · rw [putT_len] at hj
    rw [putT_at _ _ _ _ hj]
    by_cases e : j = k
    · subst e
      rw [if_pos rfl]
      obtain ⟨p1, p2, p3, p4⟩ := cellOk_parts (tabOk_at h hj)
      have hw := writes_two h1
      have ho := nw_ok h3 p2
      unfold cellOk valC
      simp [h2, ho, p3, hw]
    · rw [if_neg e]; exact tabOk_at h hj
theorem scT_fit {T : TL} {key tid v ep : Int} (h : TFit T) : TFit (scT T key tid v ep) := by
  unfold scT
  split
  · rename_i hb
    simp only [scB, scK, Bool.and_eq_true, decide_eq_true_eq] at hb
    obtain ⟨ht, ⟨h1, h2⟩, h3⟩ := hb
    obtain ⟨h4, _, h5⟩ := there_iff.1 ht
    unfold cAt
    exact tab_fit (putV_ok h4 h5 h1 h2 h3)
  · exact h
/-- the maps behind the store -/
theorem slots_val {T : TL} {k : Nat} (hk : k < T.length) (v e s : Int) (j : Int) : upd (slotsF T T.length) (k : Int) (some (sv (pk e s true) v)) j = slotsF (putT T k (valC (cd T k) v e s)) (putT T k (valC (cd T k) v e s)).length j := by
  unfold upd slotsF
  rw [putT_len]
  by_cases hj : 0 ≤ j ∧ j < (T.length : Int)
  · obtain ⟨i, rfl⟩ := Int.eq_ofNat_of_zero_le hj.1
    have hi : i < T.length := by omega
    have hc : ci (putT T k (valC (cd T k) v e s)) (i : Int) = if i = k then valC (cd T k) v e s else cd T i := putT_at _ _ _ _ hi
    rw [if_pos hj, if_pos hj, hc]
    by_cases e' : i = k
    · subst e'; simp [valC]
    · have e2 : ¬ ((i : Int) = (k : Int)) := by omega
      rw [if_neg e2, if_neg e']; rfl
  · have e' : ¬ (j = (k : Int)) := by omega
    rw [if_neg e', if_neg hj, if_neg hj]
theorem locks_val {T : TL} {q : Nat → Pl} {k : Nat} (h : tabOk T = true) (v e s : Int) {j : Nat} (hj : j < T.length) :
    (locksF T q T.length (j : Int)).getD (.agg #[.slice none 0 0, .slice none 0 0]) = lkq (cd (putT T k (valC (cd T k) v e s)) j) (lkP T q j) := by
  rw [putT_at _ _ _ _ hj, locks_get h hj]
  by_cases e' : j = k
  · subst e'; rw [if_pos rfl]; rfl
  · rw [if_neg e']
theorem lists_val {w : World} {B : Nat} {T : TL} {q : Nat → Pl} {k : Nat} (h : tabOk T = true) (v e s : Int) (hl : ∀ j, j < T.length → LsAt w B (cd T j) (q j)) {j : Nat} (hj : j < T.length) :
    LsAt w B (cd (putT T k (valC (cd T k) v e s)) j) (lkP T q j) := by
  rw [putT_at _ _ _ _ hj]
  by_cases e' : j = k
  · subst e'; rw [if_pos rfl]; exact locks_at h hj (hl j hj)
  · rw [if_neg e']; exact locks_at h hj (hl j hj)
/-- one cell of a copied table written -/
theorem TG.store {w : World} {lo g n : Nat} {f : Nat → CD} {q : Nat → Pl} (h : TG w lo g n f q) {k i : Nat} (hk : k < n) (hi : i < 6) (u : Value) {c' : CD} (hc : CCells (w.setCell ⟨g, k * 6 + i, none⟩ u) g (k * 6) c' (q k)) (h1 : c'.hs = (f k).hs) (h2 : c'.ws = (f k).ws) :
    TG (w.setCell ⟨g, k * 6 + i, none⟩ u) lo g n (fun j => if j = k then c' else f j) q := by
  refine ⟨h.low, by simpa [World.setCell] using h.lt, fun o => by rw [World.frozen?_setCell]; exact h.free o, fun j hj => ?_, fun j hj => ?_, fun j hj => ?_⟩
  · by_cases e : j = k
    · subst e; simpa using hc
    · simp only [if_neg e]
      exact (h.cell j hj).far _ (fun i' hi' e' => by injection e' with _ e' _; omega)
  · by_cases e : j = k
    · subst e; simp only [if_true]; rw [h1]; exact (h.hs j hj).far _ (.inr rfl)
    · simp only [if_neg e]; exact (h.hs j hj).far _ (.inr rfl)
  · by_cases e : j = k
    · subst e; simp only [if_true]; rw [h2]; exact (h.ws j hj).far _ (.inr rfl)
    · simp only [if_neg e]; exact (h.ws j hj).far _ (.inr rfl)
/-- value and word of cell k written -/
theorem TG.val {w : World} {lo g : Nat} {T : TL} {q : Nat → Pl} (h : TG w lo g T.length (cd T) q) {k : Nat} (hk : k < T.length) (v e s : Int) :
    TG ((((w.setCell ⟨g, k * 6, none⟩ (.int .i64 v)).setCell ⟨g, k * 6 + 1, none⟩ (.int .i64 e)).setCell ⟨g, k * 6 + 2, none⟩ (.int .i64 s)).setCell ⟨g, k * 6 + 3, none⟩ (.bool true)) lo g (putT T k (valC (cd T k) v e s)).length (cd (putT T k (valC (cd T k) v e s))) q := by
  have t1 := h.store (i := 0) hk (by omega) (.int .i64 v) ((h.cell k hk).setv v) rfl rfl
  have c1 := t1.cell k hk
  simp only [if_true] at c1
  have t2 := t1.store (i := 1) hk (by omega) (.int .i64 e) (c1.sete e) (by simp) (by simp)
  have c2 := t2.cell k hk
  simp only [if_true] at c2
  have t3 := t2.store (i := 2) hk (by omega) (.int .i64 s) (c2.sets s) (by simp) (by simp)
  have c3 := t3.cell k hk
  simp only [if_true] at c3
  have t4 := t3.store (i := 3) hk (by omega) (.bool true) (c3.seth true) (by simp) (by simp)
  rw [putT_len]
  exact t4.congr fun j hj => by
    rw [putT_at _ _ _ _ hj]
    by_cases e' : j = k
    · subst e'; simp [valC]
    · simp [e']
end Go.Proofs.YtaninlnobmjbmaaDoor
