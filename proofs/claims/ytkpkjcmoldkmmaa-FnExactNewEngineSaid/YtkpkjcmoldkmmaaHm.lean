/- Histories: the mathematics of IdsOk, OncePer, TriesOf; rows of ints of the call's own. -/
import Derived.Test.YtkpkjcmoldkmmaaGe
import Derived.Laws.OwnMore
import Derived.Deep.AppendLies
import Derived.Lib.SmallJoins
namespace Go.Proofs.Ytkpkjcmoldkmmaa
open Go.RowKit

theorem rg_true {n : Nat} {p : Nat → Bool} (h : ∀ j, j < n → p j = true) : (List.range n).all p = true := by
  rw [List.all_eq_true]
  intro j hj
  exact h j (List.mem_range.1 hj)
theorem rg_false {n k : Nat} {p : Nat → Bool} (hk : k < n) (hp : p k = false) : (List.range n).all p = false := by
  rw [Bool.eq_false_iff]
  intro ha
  rw [List.all_eq_true] at ha
  rw [ha k (List.mem_range.2 hk)] at hp
  cases hp
def idsRowOk (l : List DCommit) : Bool := (List.range l.length).all fun j => (l[j]?).any fun c => decide (c.2.2.1 = (j : Int) + 1)
theorem idsRowOk_true {l : List DCommit} (h : ∀ j d, j < l.length → l[j]? = some d → d.2.2.1 = (j : Int) + 1) : idsRowOk l = true :=
  rg_true fun j hj => by
    have hg : l[j]? = some l[j] := List.getElem?_eq_getElem hj
    rw [hg]
    simpa using h j _ hj hg
theorem idsRowOk_false {l : List DCommit} {k : Nat} {d : DCommit} (hg : l[k]? = some d) (h : ¬ d.2.2.1 = (k : Int) + 1) : idsRowOk l = false :=
  rg_false (get_lt hg) (by rw [hg]; simpa using h)

def seenOf (l : List DCommit) (k : Nat) (x : Int) : Nat := (l.take k).countP fun c => decide (c.1 = x)
theorem seenOf_zero {l : List DCommit} {x : Int} : seenOf l 0 x = 0 := by simp [seenOf]
theorem seenOf_succ {l : List DCommit} {k : Nat} {d : DCommit} (hg : l[k]? = some d) (x : Int) : seenOf l (k + 1) x = seenOf l k x + if d.1 = x then 1 else 0 := by
  unfold seenOf
  rw [List.take_add_one, hg]
  simp [List.countP_append, List.countP_cons]
theorem seenOf_le (l : List DCommit) (k : Nat) (x : Int) : seenOf l k x ≤ k := by
  unfold seenOf
  refine Nat.le_trans (List.countP_le_length) ?_
  rw [List.length_take]
  omega
def onceOk (l : List DCommit) : Bool := (List.range l.length).all fun j => (l[j]?).any fun c => decide (c.2.1 = (seenOf l j c.1 : Int))
theorem onceOk_true {l : List DCommit} (h : ∀ j d, j < l.length → l[j]? = some d → d.2.1 = (seenOf l j d.1 : Int)) : onceOk l = true :=
  rg_true fun j hj => by
    have hg : l[j]? = some l[j] := List.getElem?_eq_getElem hj
    rw [hg]
    simpa using h j _ hj hg
theorem onceOk_false {l : List DCommit} {k : Nat} {d : DCommit} (hg : l[k]? = some d) (h : ¬ d.2.1 = (seenOf l k d.1 : Int)) : onceOk l = false :=
  rg_false (get_lt hg) (by rw [hg]; simpa using h)

/-! TriesOf -/
def inT (x : Int) : Bool := decide (0 ≤ x ∧ x ≤ 300)
def mostOf (l : List DCommit) (k : Nat) : Int := (l.take k).foldl (fun m c => max m c.2.2.2.1) (-1)
theorem mostOf_zero {l : List DCommit} : mostOf l 0 = -1 := by simp [mostOf]
theorem mostOf_succ {l : List DCommit} {k : Nat} {d : DCommit} (hg : l[k]? = some d) : mostOf l (k + 1) = max (mostOf l k) d.2.2.2.1 := by
  unfold mostOf
  rw [List.take_add_one, hg]
  simp [List.foldl_append]
def timesOf (l : List DCommit) (k : Nat) (t : Int) : Nat := (l.take k).countP fun c => decide (c.2.2.2.1 = t)
theorem timesOf_zero {l : List DCommit} {t : Int} : timesOf l 0 t = 0 := by simp [timesOf]
theorem timesOf_succ {l : List DCommit} {k : Nat} {d : DCommit} (hg : l[k]? = some d) (t : Int) : timesOf l (k + 1) t = timesOf l k t + if d.2.2.2.1 = t then 1 else 0 := by
  unfold timesOf
  rw [List.take_add_one, hg]
  simp [List.countP_append, List.countP_cons]
theorem timesOf_le (l : List DCommit) (k : Nat) (t : Int) : timesOf l k t ≤ k := by
  unfold timesOf
  refine Nat.le_trans (List.countP_le_length) ?_
  rw [List.length_take]
  omega
theorem timesOf_over {l : List DCommit} : ∀ {k : Nat} {t : Int}, mostOf l k < t → timesOf l k t = 0
  | 0, _, _ => timesOf_zero
  | k + 1, t, h => by
    cases hg : l[k]? with
    | none =>
      have e1 : mostOf l (k + 1) = mostOf l k := by
        unfold mostOf
        rw [List.take_add_one, hg]
        simp
      have e2 : timesOf l (k + 1) t = timesOf l k t := by
        unfold timesOf
        rw [List.take_add_one, hg]
        simp
      rw [e2]
      exact timesOf_over (by rw [← e1]; exact h)
    | some d =>
      rw [mostOf_succ hg] at h
      rw [timesOf_succ hg, timesOf_over (by omega), if_neg (by omega)]
/-- how many of the first k commits have 0, 1, .., n - 1 tries -/
def trow (l : List DCommit) (k n : Nat) : List Int := (List.range n).map fun (t : Nat) => (timesOf l k (t : Int) : Int)
theorem trow_len (l : List DCommit) (k n : Nat) : (trow l k n).length = n := by simp [trow]
theorem trow_get {l : List DCommit} {k n t : Nat} (h : t < n) : (trow l k n)[t]? = some (timesOf l k (t : Int) : Int) := by simp [trow, h]
theorem trow_app {l : List DCommit} {k n : Nat} (h : mostOf l k < n) : trow l k (n + 1) = trow l k n ++ [0] := by
  unfold trow
  rw [List.range_succ, List.map_append, List.map_cons, List.map_nil, timesOf_over h]
  rfl
theorem trow_put {l : List DCommit} {k n t : Nat} {d : DCommit} (hg : l[k]? = some d) (hd : d.2.2.2.1 = (t : Int)) (ht : t < n) : (trow l k n).set t ((timesOf l k (t : Int) : Int) + 1) = trow l (k + 1) n := by
  apply List.ext_getElem?
  intro j
  by_cases hj : j < n
  · rw [trow_get hj, timesOf_succ hg, hd]
    by_cases e : j = t
    · subst e
      rw [List.getElem?_set_self (by rw [trow_len]; exact hj), if_pos rfl]
      simp
    · rw [List.getElem?_set_ne (by omega), trow_get hj, if_neg (by omega)]
      simp
  · rw [List.getElem?_eq_none (by rw [List.length_set, trow_len]; omega), List.getElem?_eq_none (by rw [trow_len]; omega)]
def triesFit (l : List DCommit) : Bool := l.all fun c => inT c.2.2.2.1
def triesOf (l : List DCommit) : List Int := if triesFit l then trow l l.length (mostOf l l.length + 1).toNat else []
theorem fit_get {l : List DCommit} {k : Nat} {d : DCommit} (h : triesFit l = true) (hg : l[k]? = some d) : 0 ≤ d.2.2.2.1 ∧ d.2.2.2.1 ≤ 300 := by
  unfold triesFit at h
  rw [List.all_eq_true] at h
  have := h d (List.mem_of_getElem? hg)
  simpa [inT] using this
theorem fit_no {l : List DCommit} {k : Nat} {d : DCommit} (hg : l[k]? = some d) (h : ¬ (0 ≤ d.2.2.2.1 ∧ d.2.2.2.1 ≤ 300)) : triesOf l = [] := by
  unfold triesOf
  rw [if_neg]
  intro hf
  exact h (fit_get hf hg)
theorem fit_yes {l : List DCommit} (h : ∀ j d, j < l.length → l[j]? = some d → 0 ≤ d.2.2.2.1 ∧ d.2.2.2.1 ≤ 300) : triesOf l = trow l l.length (mostOf l l.length + 1).toNat := by
  unfold triesOf
  rw [if_pos]
  unfold triesFit
  rw [List.all_eq_true]
  intro a ha
  obtain ⟨j, hj⟩ := List.getElem?_of_mem ha
  simpa [inT] using h j a (get_lt hj) hj
theorem most_bounds {l : List DCommit} : ∀ {k : Nat}, (∀ j d, j < k → l[j]? = some d → 0 ≤ d.2.2.2.1 ∧ d.2.2.2.1 ≤ 300) → k ≤ l.length → -1 ≤ mostOf l k ∧ mostOf l k ≤ 300
  | 0, _, _ => by rw [mostOf_zero]; omega
  | k + 1, h, hk => by
    have hg : l[k]? = some l[k] := List.getElem?_eq_getElem (by omega)
    have h1 := most_bounds (k := k) (fun j d hj => h j d (by omega)) (by omega)
    have h2 := h k _ (by omega) hg
    rw [mostOf_succ hg]
    omega
theorem most_mono {l : List DCommit} : ∀ {k m : Nat}, mostOf l k ≤ mostOf l (k + m)
  | _, 0 => Int.le_refl _
  | k, m + 1 => by
    have h := most_mono (l := l) (k := k) (m := m)
    cases hg : l[k + m]? with
    | none =>
      have e1 : mostOf l (k + m + 1) = mostOf l (k + m) := by
        unfold mostOf
        rw [List.take_add_one, hg]
        simp
      rw [← Nat.add_assoc, e1]
      exact h
    | some d =>
      rw [← Nat.add_assoc, mostOf_succ hg]
      omega
theorem most_le {l : List DCommit} {j : Nat} {d : DCommit} (hg : l[j]? = some d) : d.2.2.2.1 ≤ mostOf l l.length := by
  have h1 := mostOf_succ hg
  have h2 := most_mono (l := l) (k := j + 1) (m := l.length - (j + 1))
  rw [show j + 1 + (l.length - (j + 1)) = l.length by have := get_lt hg; omega] at h2
  omega
theorem trow_zero {l : List DCommit} {n : Nat} : trow l 0 n = List.replicate n 0 := by
  apply List.ext_getElem?
  intro j
  by_cases hj : j < n
  · rw [trow_get hj, timesOf_zero]
    simp [hj]
  · rw [List.getElem?_eq_none (by rw [trow_len]; omega), List.getElem?_eq_none (by simp; omega)]
theorem int_eqH {a b : Int} (h : a = b) : Value.int .i64 a = .int .i64 b := by rw [h]
theorem triesOf_len (l : List DCommit) : (triesOf l).length ≤ 301 := by
  by_cases h : triesFit l = true
  · have h1 := most_bounds (l := l) (k := l.length) (fun j d _ hg => fit_get h hg) (Nat.le_refl _)
    unfold triesOf
    rw [if_pos h, trow_len]
    omega
  · unfold triesOf
    rw [if_neg h]
    simp

theorem cm_addr {w : World} {B : Nat} {A : Option Addr} {l : List DCommit} (r : RAt fCommit w B A l) (h : 0 < l.length) : ∃ b off, A = some ⟨b, off, none⟩ ∧ b < B := by
  obtain ⟨b, off, e, hb, _⟩ := r.2 h
  exact ⟨b, off, e, hb⟩
theorem cm_at {w wr : World} {B b off k : Nat} {l : List DCommit} {d : DCommit} (r : RAt fCommit w B (some ⟨b, off, none⟩) l) (hb : Below w.heap.size w wr) (hB : B ≤ w.heap.size) (h : l[k]? = some d) :
    ∃ A4 c4 A5 c5, wr.cell? ⟨b, off + k * 6, none⟩ = some (.int .i64 d.1) ∧ wr.cell? ⟨b, off + k * 6 + 1, none⟩ = some (.int .i64 d.2.1) ∧ wr.cell? ⟨b, off + k * 6 + 2, none⟩ = some (.int .i64 d.2.2.1) ∧ wr.cell? ⟨b, off + k * 6 + 3, none⟩ = some (.int .i64 d.2.2.2.1)
      ∧ wr.cell? ⟨b, off + k * 6 + 4, none⟩ = some (.slice A4 (d.2.2.2.2.1).length c4) ∧ wr.cell? ⟨b, off + k * 6 + 5, none⟩ = some (.slice A5 (d.2.2.2.2.2).length c5) ∧ RAt intF wr B A4 d.2.2.2.2.1 ∧ RAt fPut wr B A5 d.2.2.2.2.2 := by
  obtain ⟨b', off', e, hlt, hc⟩ := r.2 (by have := get_lt h; omega)
  injection e with e
  injection e with e1 e2 _
  subst e1 e2
  obtain ⟨v, hv0, hat0⟩ := hc k _ h
  have hat := fCommit.at_same hat0 (.of hb hB)
  have hv := hv0.below hb (show b < w.heap.size by omega)
  rw [show fCommit.n = 6 from rfl] at hv
  obtain ⟨A4, c4, A5, c5, rfl, r4, r5⟩ := at_Commit hat
  obtain ⟨a0, a1, a2, a3, a4, a5⟩ := hv.c6
  exact ⟨A4, c4, A5, c5, a0, a1, a2, a3, a4, a5, r4, r5⟩
/-! a record of the call's own whose block is known whole -/
theorem kn_cell {w : World} {b j : Nat} {c : Array Value} {t : TypeId} {v : Value} (h : w.heap[b]? = some (.cells c t)) (hj : c[j]? = some v) : w.cell? ⟨b, j, none⟩ = some v := by
  rw [cell_of_row w b j c t (0, 0) h, hj]
theorem sl_form {w : World} {base size n : Nat} {e : TypeId} {v : Value} {xs : List Value} (h : w.ownsRow base e size v n xs) : ∃ X C, v = .slice X n C := by
  rcases Go.Joins.ownsRow_forms h with ⟨rfl, h0⟩ | ⟨g, cap, rfl⟩
  · subst h0
    exact ⟨_, _, rfl⟩
  · exact ⟨_, _, rfl⟩
def lenV : Value → Nat
  | .slice _ n _ => n
  | _ => 0
/-! rows of ints of the call's own -/
theorem rown_ints {w : World} {base : Nat} {t : TypeId} {v : Value} {l : List Int} (h : w.ownsRow base t 1 v l.length (l.map (.int .i64))) (hm : l.length ≤ maxLen) :
    ∃ A c, v = .slice A l.length c ∧ ROwn intF w base w.heap.size A l := by
  have hlt := h.lt
  rcases Go.Joins.ownsRow_forms h with ⟨rfl, h0⟩ | ⟨g, cap, rfl⟩
  · rw [h0]
    exact ⟨none, 0, rfl, hm, fun hp => absurd hp (by omega)⟩
  · have hg := hlt g rfl
    refine ⟨_, _, rfl, hm, fun _ => ⟨g, 0, rfl, fun j => [.int .i64 (l.getD j 0)], fun _ => base, fun _ => base, hg.1, hg.2, fun o => h.frozenAt o, fun j hj => ?_, fun i j _ _ _ => .inl (Nat.le_refl _), fun j hj => ?_, fun j a ha => ?_⟩⟩
    · exact ⟨Nat.le_refl _, Nat.le_of_lt (Nat.lt_of_le_of_lt hg.1 hg.2), .inr hg.1⟩
    · intro i u hu
      cases i with
      | zero =>
        simp at hu
        subst hu
        rw [show (intF : Fm Int).n = 1 from rfl, Nat.mul_one, Nat.zero_add, Nat.add_zero, h.cellAt j (by omega)]
        simp [hj]
      | succ i => simp at hu
    · show [Value.int .i64 (l.getD j 0)] = [.int .i64 a]
      rw [List.getD_eq_getElem?_getD, ha]
      rfl
/-- answers a new row of the data l -/
def RetF {α : Type} (F : Fm α) (w : World) (l : List α) (e : Ending) (w' : World) : Prop := ∃ A c, e = .returned (.slice A l.length c) ∧ Below w.heap.size w w' ∧ ROwn F w' w.heap.size w'.heap.size A l
theorem RetF.nil {α : Type} {F : Fm α} {w w' : World} (b : Below w.heap.size w w') : RetF F w [] (.returned (.slice none 0 0)) w' := ⟨none, 0, rfl, b, ROwn.nil⟩
end Go.Proofs.Ytkpkjcmoldkmmaa
