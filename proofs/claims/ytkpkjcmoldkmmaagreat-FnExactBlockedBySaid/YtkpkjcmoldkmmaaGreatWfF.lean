/- Wait graphs: whom a worker waits for at the Gate, of the program. -/
import Derived.Test.YtkpkjcmoldkmmaaGreatGe
import Derived.Laws.OwnMore
import Derived.Deep.AppendLies
import Derived.Lib.SmallJoins
import Derived.Test.YtkpkjcmoldkmmaaGreatWfD
import Derived.Test.YtkpkjcmoldkmmaaGreatWfE
import Derived.Test.YtkpkjcmoldkmmaaGreatKxu
import Derived.Test.YtkpkjcmoldkmmaaGreatVmu
import Derived.Test.YtkpkjcmoldkmmaaGreatEa
namespace Go.Proofs.YtkpkjcmoldkmmaaGreat
open Go.RowKit

theorem rg_true {n : Nat} {p : Nat → Bool} (h : ∀ j, j < n → p j = true) : (List.range n).all p = true := by
  rw [List.all_eq_true]
  intro j hj
  exact h j (List.mem_range.1 hj)
theorem rg_false {n k : Nat} {p : Nat → Bool} (hk : k < n) (hp : p k = false) : (List.range n).all p = false := by
  rw [Bool.eq_false_iff]
  intro ha
  rw [List.all_eq_true] at ha
  rw [ha k (List.mem_range.2 hk)] at hp
  cases hp
def idsRowOk (l : List DCommit) : Bool := (List.range l.length).all fun j => (l[j]?).any fun c => decide (c.2.2.1 = (j : Int) + 1)
theorem idsRowOk_true {l : List DCommit} (h : ∀ j d, j < l.length → l[j]? = some d → d.2.2.1 = (j : Int) + 1) : idsRowOk l = true :=
  rg_true fun j hj => by
    have hg : l[j]? = some l[j] := List.getElem?_eq_getElem hj
    rw [hg]
    simpa using h j _ hj hg
theorem idsRowOk_false {l : List DCommit} {k : Nat} {d : DCommit} (hg : l[k]? = some d) (h : ¬ d.2.2.1 = (k : Int) + 1) : idsRowOk l = false :=
  rg_false (get_lt hg) (by rw [hg]; simpa using h)

def seenOf (l : List DCommit) (k : Nat) (x : Int) : Nat := (l.take k).countP fun c => decide (c.1 = x)
theorem seenOf_zero {l : List DCommit} {x : Int} : seenOf l 0 x = 0 := by simp [seenOf]
theorem seenOf_succ {l : List DCommit} {k : Nat} {d : DCommit} (hg : l[k]? = some d) (x : Int) : seenOf l (k + 1) x = seenOf l k x + if d.1 = x then 1 else 0 := by
  unfold seenOf
  rw [List.take_add_one, hg]
  simp [List.countP_append, List.countP_cons]
theorem seenOf_le (l : List DCommit) (k : Nat) (x : Int) : seenOf l k x ≤ k := by
  unfold seenOf
  refine Nat.le_trans (List.countP_le_length) ?_
  rw [List.length_take]
  omega
def onceOk (l : List DCommit) : Bool := (List.range l.length).all fun j => (l[j]?).any fun c => decide (c.2.1 = (seenOf l j c.1 : Int))
theorem onceOk_true {l : List DCommit} (h : ∀ j d, j < l.length → l[j]? = some d → d.2.1 = (seenOf l j d.1 : Int)) : onceOk l = true :=
  rg_true fun j hj => by
    have hg : l[j]? = some l[j] := List.getElem?_eq_getElem hj
    rw [hg]
    simpa using h j _ hj hg
theorem onceOk_false {l : List DCommit} {k : Nat} {d : DCommit} (hg : l[k]? = some d) (h : ¬ d.2.1 = (seenOf l k d.1 : Int)) : onceOk l = false :=
  rg_false (get_lt hg) (by rw [hg]; simpa using h)

/-! TriesOf -/
def inT (x : Int) : Bool := decide (0 ≤ x ∧ x ≤ 300)
def mostOf (l : List DCommit) (k : Nat) : Int := (l.take k).foldl (fun m c => max m c.2.2.2.1) (-1)
theorem mostOf_zero {l : List DCommit} : mostOf l 0 = -1 := by simp [mostOf]
theorem mostOf_succ {l : List DCommit} {k : Nat} {d : DCommit} (hg : l[k]? = some d) : mostOf l (k + 1) = max (mostOf l k) d.2.2.2.1 := by
  unfold mostOf
  rw [List.take_add_one, hg]
  simp [List.foldl_append]
def timesOf (l : List DCommit) (k : Nat) (t : Int) : Nat := (l.take k).countP fun c => decide (c.2.2.2.1 = t)
theorem timesOf_zero {l : List DCommit} {t : Int} : timesOf l 0 t = 0 := by simp [timesOf]
theorem timesOf_succ {l : List DCommit} {k : Nat} {d : DCommit} (hg : l[k]? = some d) (t : Int) : timesOf l (k + 1) t = timesOf l k t + if d.2.2.2.1 = t then 1 else 0 := by
  unfold timesOf
  rw [List.take_add_one, hg]
  simp [List.countP_append, List.countP_cons]
theorem timesOf_le (l : List DCommit) (k : Nat) (t : Int) : timesOf l k t ≤ k := by
  unfold timesOf
  refine Nat.le_trans (List.countP_le_length) ?_
  rw [List.length_take]
  omega
theorem timesOf_over {l : List DCommit} : ∀ {k : Nat} {t : Int}, mostOf l k < t → timesOf l k t = 0
  | 0, _, _ => timesOf_zero
  | k + 1, t, h => by
    cases hg : l[k]? with
    | none =>
      have e1 : mostOf l (k + 1) = mostOf l k := by
        unfold mostOf
        rw [List.take_add_one, hg]
        simp
      have e2 : timesOf l (k + 1) t = timesOf l k t := by
        unfold timesOf
        rw [List.take_add_one, hg]
        simp
      rw [e2]
      exact timesOf_over (by rw [← e1]; exact h)
    | some d =>
      rw [mostOf_succ hg] at h
      rw [timesOf_succ hg, timesOf_over (by omega), if_neg (by omega)]
/-- how many of the first k commits have 0, 1, .., n - 1 tries -/
def trow (l : List DCommit) (k n : Nat) : List Int := (List.range n).map fun (t : Nat) => (timesOf l k (t : Int) : Int)
theorem trow_len (l : List DCommit) (k n : Nat) : (trow l k n).length = n := by simp [trow]
theorem trow_get {l : List DCommit} {k n t : Nat} (h : t < n) : (trow l k n)[t]? = some (timesOf l k (t : Int) : Int) := by simp [trow, h]
theorem trow_app {l : List DCommit} {k n : Nat} (h : mostOf l k < n) : trow l k (n + 1) = trow l k n ++ [0] := by
  unfold trow
  rw [List.range_succ, List.map_append, List.map_cons, List.map_nil, timesOf_over h]
  rfl
theorem trow_put {l : List DCommit} {k n t : Nat} {d : DCommit} (hg : l[k]? = some d) (hd : d.2.2.2.1 = (t : Int)) (ht : t < n) : (trow l k n).set t ((timesOf l k (t : Int) : Int) + 1) = trow l (k + 1) n := by
  apply List.ext_getElem?
  intro j
  by_cases hj : j < n
  · rw [trow_get hj, timesOf_succ hg, hd]
    by_cases e : j = t
    · subst e
      rw [List.getElem?_set_self (by rw [trow_len]; exact hj), if_pos rfl]
      simp
    · rw [List.getElem?_set_ne (by omega), trow_get hj, if_neg (by omega)]
      simp
  · rw [List.getElem?_eq_none (by rw [List.length_set, trow_len]; omega), List.getElem?_eq_none (by rw [trow_len]; omega)]
def triesFit (l : List DCommit) : Bool := l.all fun c => inT c.2.2.2.1
def triesOf (l : List DCommit) : List Int := if triesFit l then trow l l.length (mostOf l l.length + 1).toNat else []
theorem fit_get {l : List DCommit} {k : Nat} {d : DCommit} (h : triesFit l = true) (hg : l[k]? = some d) : 0 ≤ d.2.2.2.1 ∧ d.2.2.2.1 ≤ 300 := by
  unfold triesFit at h
  rw [List.all_eq_true] at h
  have := h d (List.mem_of_getElem? hg)
  simpa [inT] using this
theorem fit_no {l : List DCommit} {k : Nat} {d : DCommit} (hg : l[k]? = some d) (h : ¬ (0 ≤ d.2.2.2.1 ∧ d.2.2.2.1 ≤ 300)) : triesOf l = [] := by
  unfold triesOf
  rw [if_neg]
  intro hf
  exact h (fit_get hf hg)
theorem fit_yes {l : List DCommit} (h : ∀ j d, j < l.length → l[j]? = some d → 0 ≤ d.2.2.2.1 ∧ d.2.2.2.1 ≤ 300) : triesOf l = trow l l.length (mostOf l l.length + 1).toNat := by
  unfold triesOf
  rw [if_pos]
  unfold triesFit
  rw [List.all_eq_true]
  intro a ha
  obtain ⟨j, hj⟩ := List.getElem?_of_mem ha
  simpa [inT] using h j a (get_lt hj) hj
theorem most_bounds {l : List DCommit} : ∀ {k : Nat}, (∀ j d, j < k → l[j]? = some d → 0 ≤ d.2.2.2.1 ∧ d.2.2.2.1 ≤ 300) → k ≤ l.length → -1 ≤ mostOf l k ∧ mostOf l k ≤ 300
  | 0, _, _ => by rw [mostOf_zero]; omega
  | k + 1, h, hk => by
    have hg : l[k]? = some l[k] := List.getElem?_eq_getElem (by omega)
    have h1 := most_bounds (k := k) (fun j d hj => h j d (by omega)) (by omega)
    have h2 := h k _ (by omega) hg
    rw [mostOf_succ hg]
    omega
theorem most_mono {l : List DCommit} : ∀ {k m : Nat}, mostOf l k ≤ mostOf l (k + m)
  | _, 0 => Int.le_refl _
  | k, m + 1 => by
    have h := most_mono (l := l) (k := k) (m := m)
    cases hg : l[k + m]? with
    | none =>
      have e1 : mostOf l (k + m + 1) = mostOf l (k + m) := by
        unfold mostOf
        rw [List.take_add_one, hg]
        simp
      rw [← Nat.add_assoc, e1]
      exact h
    | some d =>
      rw [← Nat.add_assoc, mostOf_succ hg]
      omega
theorem most_le {l : List DCommit} {j : Nat} {d : DCommit} (hg : l[j]? = some d) : d.2.2.2.1 ≤ mostOf l l.length := by
  have h1 := mostOf_succ hg
  have h2 := most_mono (l := l) (k := j + 1) (m := l.length - (j + 1))
  rw [show j + 1 + (l.length - (j + 1)) = l.length by have := get_lt hg; omega] at h2
  omega
theorem trow_zero {l : List DCommit} {n : Nat} : trow l 0 n = List.replicate n 0 := by
  apply List.ext_getElem?
  intro j
  by_cases hj : j < n
  · rw [trow_get hj, timesOf_zero]
    simp [hj]
  · rw [List.getElem?_eq_none (by rw [trow_len]; omega), List.getElem?_eq_none (by simp; omega)]
theorem int_eqH {a b : Int} (h : a = b) : Value.int .i64 a = .int .i64 b := by rw [h]
theorem triesOf_len (l : List DCommit) : (triesOf l).length ≤ 301 := by
  by_cases h : triesFit l = true
  · have h1 := most_bounds (l := l) (k := l.length) (fun j d _ hg => fit_get h hg) (Nat.le_refl _)
    unfold triesOf
    rw [if_pos h, trow_len]
    omega
  · unfold triesOf
    rw [if_neg h]
    simp

theorem cm_addr {w : World} {B : Nat} {A : Option Addr} {l : List DCommit} (r : RAt fCommit w B A l) (h : 0 < l.length) : ∃ b off, A = some ⟨b, off, none⟩ ∧ b < B := by
  obtain ⟨b, off, e, hb, _⟩ := r.2 h
  exact ⟨b, off, e, hb⟩
theorem cm_at {w wr : World} {B b off k : Nat} {l : List DCommit} {d : DCommit} (r : RAt fCommit w B (some ⟨b, off, none⟩) l) (hb : Below w.heap.size w wr) (hB : B ≤ w.heap.size) (h : l[k]? = some d) :
    ∃ A4 c4 A5 c5, wr.cell? ⟨b, off + k * 6, none⟩ = some (.int .i64 d.1) ∧ wr.cell? ⟨b, off + k * 6 + 1, none⟩ = some (.int .i64 d.2.1) ∧ wr.cell? ⟨b, off + k * 6 + 2, none⟩ = some (.int .i64 d.2.2.1) ∧ wr.cell? ⟨b, off + k * 6 + 3, none⟩ = some (.int .i64 d.2.2.2.1)
      ∧ wr.cell? ⟨b, off + k * 6 + 4, none⟩ = some (.slice A4 (d.2.2.2.2.1).length c4) ∧ wr.cell? ⟨b, off + k * 6 + 5, none⟩ = some (.slice A5 (d.2.2.2.2.2).length c5) ∧ RAt intF wr B A4 d.2.2.2.2.1 ∧ RAt fPut wr B A5 d.2.2.2.2.2 := by
  obtain ⟨b', off', e, hlt, hc⟩ := r.2 (by have := get_lt h; omega)
  injection e with e
  injection e with e1 e2 _
  subst e1 e2
  obtain ⟨v, hv0, hat0⟩ := hc k _ h
  have hat := fCommit.at_same hat0 (.of hb hB)
  have hv := hv0.below hb (show b < w.heap.size by omega)
  rw [show fCommit.n = 6 from rfl] at hv
  obtain ⟨A4, c4, A5, c5, rfl, r4, r5⟩ := at_Commit hat
  obtain ⟨a0, a1, a2, a3, a4, a5⟩ := hv.c6
  exact ⟨A4, c4, A5, c5, a0, a1, a2, a3, a4, a5, r4, r5⟩
/-! a record of the call's own whose block is known whole -/
theorem kn_cell {w : World} {b j : Nat} {c : Array Value} {t : TypeId} {v : Value} (h : w.heap[b]? = some (.cells c t)) (hj : c[j]? = some v) : w.cell? ⟨b, j, none⟩ = some v := by
  rw [cell_of_row w b j c t (0, 0) h, hj]
theorem sl_form {w : World} {base size n : Nat} {e : TypeId} {v : Value} {xs : List Value} (h : w.ownsRow base e size v n xs) : ∃ X C, v = .slice X n C := by
  rcases Go.Joins.ownsRow_forms h with ⟨rfl, h0⟩ | ⟨g, cap, rfl⟩
  · subst h0
    exact ⟨_, _, rfl⟩
  · exact ⟨_, _, rfl⟩
def lenV : Value → Nat
  | .slice _ n _ => n
  | _ => 0
/-! rows of ints of the call's own -/
theorem rown_ints {w : World} {base : Nat} {t : TypeId} {v : Value} {l : List Int} (h : w.ownsRow base t 1 v l.length (l.map (.int .i64))) (hm : l.length ≤ maxLen) :
    ∃ A c, v = .slice A l.length c ∧ ROwn intF w base w.heap.size A l := by
  have hlt := h.lt
  rcases Go.Joins.ownsRow_forms h with ⟨rfl, h0⟩ | ⟨g, cap, rfl⟩
  · rw [h0]
    exact ⟨none, 0, rfl, hm, fun hp => absurd hp (by omega)⟩
  · have hg := hlt g rfl
    refine ⟨_, _, rfl, hm, fun _ => ⟨g, 0, rfl, fun j => [.int .i64 (l.getD j 0)], fun _ => base, fun _ => base, hg.1, hg.2, fun o => h.frozenAt o, fun j hj => ?_, fun i j _ _ _ => .inl (Nat.le_refl _), fun j hj => ?_, fun j a ha => ?_⟩⟩
    · exact ⟨Nat.le_refl _, Nat.le_of_lt (Nat.lt_of_le_of_lt hg.1 hg.2), .inr hg.1⟩
    · intro i u hu
      cases i with
      | zero =>
        simp at hu
        subst hu
        rw [show (intF : Fm Int).n = 1 from rfl, Nat.mul_one, Nat.zero_add, Nat.add_zero, h.cellAt j (by omega)]
        simp [hj]
      | succ i => simp at hu
    · show [Value.int .i64 (l.getD j 0)] = [.int .i64 a]
      rw [List.getD_eq_getElem?_getD, ha]
      rfl
/-- answers a new row of the data l -/
def RetF {α : Type} (F : Fm α) (w : World) (l : List α) (e : Ending) (w' : World) : Prop := ∃ A c, e = .returned (.slice A l.length c) ∧ Below w.heap.size w w' ∧ ROwn F w' w.heap.size w'.heap.size A l
theorem RetF.nil {α : Type} {F : Fm α} {w w' : World} (b : Below w.heap.size w w') : RetF F w [] (.returned (.slice none 0 0)) w' := ⟨none, 0, rfl, b, ROwn.nil⟩
end Go.Proofs.YtkpkjcmoldkmmaaGreat

namespace Go.Proofs.YtkpkjcmoldkmmaaGreat
open Go.RowKit

def okAt (T : TL) (tid : Int) : Bool := decide (waitK T tid < 0) || belowB (heldL T tid).length (fun i => (heldL T tid).getD i 0) (waitK T tid)
def orderB (d : DEngine) : Bool := engOk d && (List.range d.2.2.1.length).all fun j => okAt (toT d.2.1) ((j : Int) + 1)
theorem order_no {d : DEngine} (h : engOk d = false) : orderB d = false := by simp [orderB, h]
theorem order_yes {d : DEngine} (h : engOk d = true) (ha : ∀ j, j < d.2.2.1.length → okAt (toT d.2.1) ((j : Int) + 1) = true) : orderB d = true := by
  unfold orderB
  rw [h, Bool.true_and, List.all_eq_true]
  intro j hj
  exact ha j (List.mem_range.1 hj)
theorem order_bad {d : DEngine} {k : Nat} (hk : k < d.2.2.1.length) (h : okAt (toT d.2.1) ((k : Int) + 1) = false) : orderB d = false := by
  unfold orderB
  rw [Bool.and_eq_false_iff]
  refine .inr ?_
  rw [Bool.eq_false_iff]
  intro ha
  rw [List.all_eq_true] at ha
  rw [ha k (List.mem_range.2 hk)] at h
  cases h
theorem implWaitsD (A : Option Addr) (c B : Nat) (l : List DCell) (tid : Int) (w : World) (hs : (rowF fCell).cnt l ≤ 1048576) (hB : B ≤ w.heap.size) (r : RAt fCell w B A l) :
    Calls Tryz.prog 91 #[.agg #[.slice A l.length c], .int .i64 tid] w fun e w' => e = .returned (.int .i64 (waitK (toT l) tid)) ∧ Below w.heap.size w w' := by
  have h := implWaits_any A c B (toT l) tid w (tab_fit hs) hB (tab_at r)
  rwa [toT_len] at h
theorem specWaitsD (A : Option Addr) (c B : Nat) (l : List DCell) (tid : Int) (w : World) (hs : (rowF fCell).cnt l ≤ 1048576) (hB : B ≤ w.heap.size) (r : RAt fCell w B A l) :
    Calls Tryz.prog 84 #[.agg #[.slice A l.length c], .int .i64 tid] w fun e w' => e = .returned (.int .i64 (waitK (toT l) tid)) ∧ Below w.heap.size w w' := by
  have h := specWaits_any A c B (toT l) tid w (tab_fit hs) hB (tab_at r)
  rwa [toT_len] at h
end Go.Proofs.YtkpkjcmoldkmmaaGreat

namespace Go.Proofs.YtkpkjcmoldkmmaaGreat
open Go.RowKit

def actB (x : DWorker) : Bool := !doneW x && decide (0 < x.2.2.1)
def actAt (l : List DWorker) (j : Nat) : Bool := match l[j]? with
  | some x => actB x
  | none => false
def lkAt (T : TL) (tid : Int) : Bool := decide ((heldL T tid).length = 0) && decide (waitK T tid < 0)
def cleanAt (d : DEngine) (j : Nat) : Bool := actAt d.2.2.1 j || lkAt (toT d.2.1) ((j : Int) + 1)
def cleanB (d : DEngine) : Bool := engOk d && (List.range 8).all (cleanAt d)
theorem clean_no {d : DEngine} (h : engOk d = false) : cleanB d = false := by simp [cleanB, h]
theorem clean_yes {d : DEngine} (h : engOk d = true) (ha : ∀ j, j < 8 → cleanAt d j = true) : cleanB d = true := by
  unfold cleanB
  rw [h, Bool.true_and, List.all_eq_true]
  intro j hj
  exact ha j (List.mem_range.1 hj)
theorem clean_bad {d : DEngine} {k : Nat} (hk : k < 8) (h : cleanAt d k = false) : cleanB d = false := by
  unfold cleanB
  rw [Bool.and_eq_false_iff]
  refine .inr ?_
  rw [Bool.eq_false_iff]
  intro ha
  rw [List.all_eq_true] at ha
  rw [ha k (List.mem_range.2 hk)] at h
  cases h
theorem act_some {l : List DWorker} {k : Nat} {x : DWorker} (h : l[k]? = some x) : actAt l k = actB x := by unfold actAt; rw [h]
theorem act_none {l : List DWorker} {k : Nat} (h : l.length ≤ k) : actAt l k = false := by unfold actAt; rw [List.getElem?_eq_none h]
theorem up_contains (l : List DWorker) (k : Nat) : (keysUp (actAt l) l.length).contains (k : Int) = actAt l k := by
  rw [Bool.eq_iff_iff, List.contains_iff_mem]
  unfold keysUp
  simp only [List.mem_map, List.mem_filter, List.mem_range]
  constructor
  · rintro ⟨j, ⟨_, h2⟩, e⟩
    have : j = k := by injection e
    exact this ▸ h2
  · intro h
    refine ⟨k, ⟨?_, h⟩, rfl⟩
    by_cases hk : k < l.length
    · exact hk
    · rw [act_none (by omega)] at h; cases h
theorem own_neL {v : Value} : v.ownBlock = none ∨ v.ownBlock ≠ none := by cases v.ownBlock <;> simp
theorem sl_formL {w : World} {base size n : Nat} {e : TypeId} {v : Value} {xs : List Value} (h : w.ownsRow base e size v n xs) : ∃ X C, v = .slice X n C := by
  rcases Go.Joins.ownsRow_forms h with ⟨rfl, rfl⟩ | ⟨g, cap, rfl⟩
  · exact ⟨none, 0, rfl⟩
  · exact ⟨_, cap, rfl⟩
theorem specActive_any (x : DWorker) (B : Nat) (vs : List Value) (w : World) (hB : B ≤ w.heap.size) (h : fWorker.At w B x vs) : Calls Tryz.prog 85 #[.agg vs.toArray] w fun e w' => e = .returned (.bool (actB x)) ∧ Below w.heap.size w w' := by
  have HAT := Lib.hid h
  obtain ⟨A0w, c0w, A5w, c5w, A6w, c6w, A7w, c7w, A8w, c8w, rfl, _, _, _, _, _⟩ := at_Worker h
  clear h
  go_enter Tryz.func85, Tryz.ntmps85
  go_wp2_with fail
  have b := (Below.refl w.heap.size w).alloc (Nat.le_refl _) (.cells #[.slice A0w (x.1).length c0w, .int .i64 x.2.1, .int .i64 x.2.2.1, .int .i64 x.2.2.2.1, .int .i64 x.2.2.2.2.1, .slice A5w (x.2.2.2.2.2.1).length c5w, .slice A6w (x.2.2.2.2.2.2.1).length c6w, .slice A7w (x.2.2.2.2.2.2.2.1).length c7w, .slice A8w (x.2.2.2.2.2.2.2.2).length c8w] 73)
  have X := Bx.new (w := w) (c := #[.slice A0w (x.1).length c0w, .int .i64 x.2.1, .int .i64 x.2.2.1, .int .i64 x.2.2.2.1, .int .i64 x.2.2.2.2.1, .slice A5w (x.2.2.2.2.2.1).length c5w, .slice A6w (x.2.2.2.2.2.2.1).length c6w, .slice A7w (x.2.2.2.2.2.2.2.1).length c7w, .slice A8w (x.2.2.2.2.2.2.2.2).length c8w]) (t := 73) rfl
  generalize w.alloc (.cells #[.slice A0w (x.1).length c0w, .int .i64 x.2.1, .int .i64 x.2.2.1, .int .i64 x.2.2.2.1, .int .i64 x.2.2.2.2.1, .slice A5w (x.2.2.2.2.2.1).length c5w, .slice A6w (x.2.2.2.2.2.2.1).length c6w, .slice A7w (x.2.2.2.2.2.2.2.1).length c7w, .slice A8w (x.2.2.2.2.2.2.2.2).length c8w] 73) = w1 at b X ⊢
  (with_reducible refine (specDone_any x B _ _ (fWorker.at_same HAT.out (.of b hB))).mono ?_); rintro o w2 ⟨rfl, hb⟩
  have X := X.next hb
  have b := b.trans (hb.mono b.size)
  clear hb
  obtain ⟨⟨a0, a1, a2, a3, a4, a5, a6, a7, a8⟩, _⟩ := X.c9
  cases hd : doneW x with
  | true =>
    have HE := Lib.hid (show actB x = false by unfold actB; rw [hd]; rfl)
    go_wp2
    go_ret
    exact ⟨ret_bool HE.out.symm, b⟩
  | false =>
    have HE := Lib.hid (show actB x = decide (0 < x.2.2.1) by unfold actB; rw [hd]; simp)
    go_wp2
    go_ret
    exact ⟨ret_bool HE.out.symm, b⟩
set_option maxHeartbeats 3200000 in
set_option maxRecDepth 100000 in
theorem underWay_any (A : Option Addr) (c B : Nat) (l : List DWorker) (w : World) (hn : l.length ≤ 1048576) (hB : B ≤ w.heap.size) (r : RAt fWorker w B A l) :
    Calls Tryz.prog 95 #[.slice A l.length c] w (RetI w (keysUp (actAt l) l.length)) := by
  obtain ⟨i0, hi, hz0, hz1, hz2⟩ := info_parts infoInt
  have Hi := Lib.hid hi
  have Hz0 := Lib.hid hz0
  have Hz1 := Lib.hid hz1
  have Hz2 := Lib.hid hz2
  clear hi hz0 hz1 hz2
  go_enter Tryz.func95, Tryz.ntmps95
  go_wp2
  go_loopw [3, 8] (fun v i wr => ∃ k : Nat, k ≤ l.length ∧ i = .int .i64 k ∧ wr.ownsRow w.heap.size 3 1 v (keysUp (actAt l) k).length ((keysUp (actAt l) k).map (.int .i64)) ∧ Below w.heap.size w wr) (fun _ i _ => l.length - (intOf i).toNat)
  case atStart => exact ⟨0, Nat.zero_le _, rfl, World.ownsRow_nil _ _ _ _, Below.refl _ _⟩
  case round =>
    obtain ⟨k, hk, rfl, hown, b⟩ := hrel
    have hsz := b.size
    by_cases hkn : k < l.length
    · obtain ⟨bb, off, hA6, hbB, hc⟩ := r.2 (by omega)
      have hkz : (k : Int) < l.length := by omega
      have hget : l[k]? = some l[k] := List.getElem?_eq_getElem hkn
      obtain ⟨v, hv0, hat0⟩ := hc k _ hget
      have hat := fWorker.at_same hat0 (.of b hB)
      have hv := hv0.below b (show bb < w.heap.size by omega)
      rw [show fWorker.n = 9 from rfl] at hv
      clear hv0 hat0
      generalize hx : l[k] = x at hget hat
      have HAT := Lib.hid hat
      have HAC := Lib.hid (act_some hget)
      obtain ⟨A0w, c0w, A5w, c5w, A6w, c6w, A7w, c7w, A8w, c8w, rfl, _, _, _, _, _⟩ := at_Worker hat
      subst hA6
      obtain ⟨a0, a1, a2, a3, a4, a5, a6, a7, a8⟩ := hv.c9
      have hA := (Below.refl wr.heap.size wr).alloc (Nat.le_refl _) (.cells #[.slice A0w (x.1).length c0w, .int .i64 x.2.1, .int .i64 x.2.2.1, .int .i64 x.2.2.2.1, .int .i64 x.2.2.2.2.1, .slice A5w (x.2.2.2.2.2.1).length c5w, .slice A6w (x.2.2.2.2.2.2.1).length c6w, .slice A7w (x.2.2.2.2.2.2.2.1).length c7w, .slice A8w (x.2.2.2.2.2.2.2.2).length c8w] 73)
      have X := Bx.new (w := wr) (c := #[.slice A0w (x.1).length c0w, .int .i64 x.2.1, .int .i64 x.2.2.1, .int .i64 x.2.2.2.1, .int .i64 x.2.2.2.2.1, .slice A5w (x.2.2.2.2.2.1).length c5w, .slice A6w (x.2.2.2.2.2.2.1).length c6w, .slice A7w (x.2.2.2.2.2.2.2.1).length c7w, .slice A8w (x.2.2.2.2.2.2.2.2).length c8w]) (t := 73) rfl
      have hat2 := fWorker.at_same HAT.out (.of hA (by omega))
      have b := b.trans (hA.mono hsz)
      have hown := hown.kept ⟨hA.os, hA.tape, hA.output, hA.size, fun k hk _ => hA.block k hk⟩ own_neL
      have hsz2 := hA.size
      have hkl := keysUp_le (actAt l) k
      have HY := Lib.hid (keysUp_yes (M := actAt l) (m := k))
      have HN := Lib.hid (keysUp_no (M := actAt l) (m := k))
      clear hc hv hx hat hget hA
      obtain ⟨X0, C0, rfl⟩ := sl_formL hown
      go_wp2_with fail
      clear a0 a1 a2 a3 a4 a5 a6 a7 a8
      generalize wr.alloc (.cells #[.slice A0w (x.1).length c0w, .int .i64 x.2.1, .int .i64 x.2.2.1, .int .i64 x.2.2.2.1, .int .i64 x.2.2.2.2.1, .slice A5w (x.2.2.2.2.2.1).length c5w, .slice A6w (x.2.2.2.2.2.2.1).length c6w, .slice A7w (x.2.2.2.2.2.2.2.1).length c7w, .slice A8w (x.2.2.2.2.2.2.2.2).length c8w] 73) = w1 at X hat2 b hown hsz2 ⊢
      generalize keysUp (actAt l) k = K at hown hkl HY HN
      (with_reducible refine (implDone_any x B _ _ hat2).mono ?_); rintro o w2 ⟨rfl, hb⟩
      have X := X.next hb
      have hsz3 := hb.size
      have hown := hown.kept ⟨hb.os, hb.tape, hb.output, hb.size, fun k hk _ => hb.block k hk⟩ own_neL
      have b := b.trans (hb.mono b.size)
      clear hb hat2
      obtain ⟨⟨a0, a1, a2, a3, a4, a5, a6, a7, a8⟩, _⟩ := X.c9
      have Xl := X.lt
      cases hd : doneW x with
      | true =>
        have HE := Lib.hid (HN.out (by rw [HAC.out]; unfold actB; rw [hd]; rfl))
        have HO := Lib.hid hown
        clear hown
        go_wp2
        exact ⟨⟨k + 1, by omega, by go_num, by rw [HE.out]; exact HO.out, b⟩, by simp [intOf]; omega⟩
      | false =>
        by_cases hp : 0 < x.2.2.1
        · have HE := Lib.hid (HY.out (by rw [HAC.out]; unfold actB; rw [hd]; simpa using hp))
          have hbz := b.size
          go_wp2_with (at_builtin; refine wpList_append_own _ rfl _ _ 28 rfl w.heap.size 3 i0 (.int .i64 0) 1 8 Tryz.underlying28 Hi.out Hz0.out Hz1.out Hz2.out rfl (by decide) _ _ _ rfl (hown.alloc _) ⟨w2.heap.size, 0, none⟩ 1 1 [.int .i64 k] rfl rfl ?c1 ?c2 ?c3 ?c4 ?c5 ?_)
          case c1 =>
            intro j u hj
            match j, hj with
            | 0, hj => simp at hj; subst hj; simp [Addr.add]
          case c2 => intro u hu; simp at hu; subst hu; rfl
          case c3 => unfold maxLen; omega
          case c4 => omega
          case c5 => simp; omega
          intro v' w3 hown' hgrow _
          have hb3 := (b.alloc hbz (.cells #[.int .i64 k] 3)).grown hgrow (by simp; omega) (fun q hq => (hown.lt q hq).1)
          have hown3 : w3.ownsRow w.heap.size 3 1 v' (keysUp (actAt l) (k + 1)).length ((keysUp (actAt l) (k + 1)).map (.int .i64)) := by rw [HE.out]; simpa using hown'
          clear hown' hgrow hown b a0 a1 a2 a3 a4 a5 a6 a7 a8 X
          go_wp2
          exact ⟨⟨k + 1, by omega, by go_num, hown3, hb3⟩, by simp [intOf]; omega⟩
        · have HE := Lib.hid (HN.out (by rw [HAC.out]; unfold actB; simp; intro _; omega))
          have HO := Lib.hid hown
          clear hown
          go_wp2
          exact ⟨⟨k + 1, by omega, by go_num, by rw [HE.out]; exact HO.out, b⟩, by simp [intOf]; omega⟩
    · obtain rfl : k = l.length := by omega
      have HO := Lib.hid hown
      clear hown
      go_wp2
      go_ret
      exact RetI.of HO.out (Nat.le_refl _) b
end Go.Proofs.YtkpkjcmoldkmmaaGreat

namespace Go.Proofs.YtkpkjcmoldkmmaaGreat
open Go.RowKit

def gateL (d : DEngine) (k : Nat) (x : DWorker) : List Int :=
  if (doneW x || decide (¬ x.2.2.1 = 0)) = true then [] else if d.2.2.2.2.2.1 = -1 then [] else if d.2.2.2.2.2.1 = (k : Int) then keysUp (actAt d.2.2.1) d.2.2.1.length else [d.2.2.2.2.2.1]
theorem gateL_done {d : DEngine} {k : Nat} {x : DWorker} (h : doneW x = true) : gateL d k x = [] := by unfold gateL; rw [h]; rfl
theorem gateL_phase {d : DEngine} {k : Nat} {x : DWorker} (h : ¬ x.2.2.1 = 0) : gateL d k x = [] := by unfold gateL; rw [if_pos]; simp [h]
theorem gateL_open {d : DEngine} {k : Nat} {x : DWorker} (h : d.2.2.2.2.2.1 = -1) : gateL d k x = [] := by
  unfold gateL
  by_cases h2 : (doneW x || decide (¬ x.2.2.1 = 0)) = true
  · rw [if_pos h2]
  · rw [if_neg h2, if_pos h]
theorem gateL_self {d : DEngine} {k : Nat} {x : DWorker} (h0 : doneW x = false) (h1 : x.2.2.1 = 0) (h : d.2.2.2.2.2.1 = (k : Int)) : gateL d k x = keysUp (actAt d.2.2.1) d.2.2.1.length := by
  unfold gateL
  rw [if_neg (by simp [h0, h1]), if_neg (by omega), if_pos h]
theorem gateL_other {d : DEngine} {k : Nat} {x : DWorker} (h0 : doneW x = false) (h1 : x.2.2.1 = 0) (h2 : ¬ d.2.2.2.2.2.1 = -1) (h : ¬ d.2.2.2.2.2.1 = (k : Int)) : gateL d k x = [d.2.2.2.2.2.1] := by
  unfold gateL
  rw [if_neg (by simp [h0, h1]), if_neg h2, if_neg h]
theorem one_own {w : World} (z : Int) : OwnI (w.alloc (.cells #[.int .i64 z] 3)) w.heap.size (w.alloc (.cells #[.int .i64 z] 3)).heap.size (some ⟨w.heap.size, 0, none⟩) [z].length (fun j => [z].getD j 0) := fun _ => ⟨w.heap.size, 0, rfl, Nat.le_refl _, by simp, fun j hj => by
  have : j = 0 := by simp at hj; omega
  subst this
  simp⟩
set_option maxHeartbeats 6400000 in
set_option maxRecDepth 100000 in
theorem gate_any (d : DEngine) (k : Nat) (x : DWorker) (B : Nat) (vs : List Value) (w : World) (hs : fEngine.cnt d ≤ 1048576) (hB : B ≤ w.heap.size) (h : fEngine.At w B d vs) (hget : d.2.2.1[k]? = some x) :
    Calls Tryz.prog 47 #[.agg vs.toArray, .int .i64 k] w (RetI w (gateL d k x)) := by
  obtain ⟨A5, c5, A6, c6, A7, c7, A10, c10, rfl, r5, r6, r7, r10⟩ := at_Engine h
  have hmx := r6.1
  unfold maxLen at hmx
  clear h
  have hkw := get_lt hget
  have hwl : d.2.2.1.length ≤ 1048576 := by have := hs; have h2 := cnt_Engine d; rw [row_cnt] at h2; omega
  obtain ⟨bb, off, hA6, hbB, hc⟩ := r6.2 (by omega)
  obtain ⟨v, hv0, hat0⟩ := hc k _ hget
  have R6 := Lib.hid r6
  have HV0 := Lib.hid hv0
  have b := (Below.refl w.heap.size w).alloc (Nat.le_refl _) (.cells #[.int .i64 d.1.1, .int .i64 d.1.2.1, .int .i64 d.1.2.2.1, .bool d.1.2.2.2.1, .int .i64 d.1.2.2.2.2, .slice A5 (d.2.1).length c5, .slice A6 (d.2.2.1).length c6, .slice A7 (d.2.2.2.1).length c7, .int .i64 d.2.2.2.2.1, .int .i64 d.2.2.2.2.2.1, .slice A10 (d.2.2.2.2.2.2.1).length c10, .int .i64 d.2.2.2.2.2.2.2.1, .int .i64 d.2.2.2.2.2.2.2.2] 41)
  have X := Bx.new (w := w) (c := #[.int .i64 d.1.1, .int .i64 d.1.2.1, .int .i64 d.1.2.2.1, .bool d.1.2.2.2.1, .int .i64 d.1.2.2.2.2, .slice A5 (d.2.1).length c5, .slice A6 (d.2.2.1).length c6, .slice A7 (d.2.2.2.1).length c7, .int .i64 d.2.2.2.2.1, .int .i64 d.2.2.2.2.2.1, .slice A10 (d.2.2.2.2.2.2.1).length c10, .int .i64 d.2.2.2.2.2.2.2.1, .int .i64 d.2.2.2.2.2.2.2.2]) (t := 41) rfl
  have hsz := b.size
  have hkz : (k : Int) < d.2.2.1.length := by omega
  have hat := fWorker.at_same hat0 (.of b hB)
  have hv := hv0.below b (show bb < w.heap.size by omega)
  rw [show fWorker.n = 9 from rfl] at hv HV0
  have HATW := Lib.hid hat
  obtain ⟨A0w, c0w, A5w, c5w, A6w, c6w, A7w, c7w, A8w, c8w, rfl, _, _, _, _, _⟩ := at_Worker hat
  subst hA6
  have HV := Lib.hid hv
  clear hc hv hat hv0 hat0 r6
  go_enter Tryz.func47, Tryz.ntmps47
  go_upto_region 0 with (fail)
  go_upto_region 1 with (fail)
  generalize w.alloc (.cells #[.int .i64 d.1.1, .int .i64 d.1.2.1, .int .i64 d.1.2.2.1, .bool d.1.2.2.2.1, .int .i64 d.1.2.2.2.2, .slice A5 (d.2.1).length c5, .slice (some ⟨bb, off, none⟩) (d.2.2.1).length c6, .slice A7 (d.2.2.2.1).length c7, .int .i64 d.2.2.2.2.1, .int .i64 d.2.2.2.2.2.1, .slice A10 (d.2.2.2.2.2.2.1).length c10, .int .i64 d.2.2.2.2.2.2.2.1, .int .i64 d.2.2.2.2.2.2.2.2] 41) = w1 at b X hsz HV HATW ⊢
  obtain ⟨⟨x0, x1, x2, x3, x4, x5, x6, x7, x8, x9, x10, x11, x12⟩, _⟩ := X.c13
  have Xl := X.lt
  obtain ⟨a0, a1, a2, a3, a4, a5, a6, a7, a8⟩ := HV.out.c9
  go_wp2_with fail
  (with_reducible refine (implDone_any x B _ _ HATW.out).mono ?_); rintro o w2 ⟨rfl, hb⟩
  clear x0 x1 x2 x3 x4 x5 x6 x7 x8 x9 x10 x11 x12 Xl a0 a1 a2 a3 a4 a5 a6 a7 a8
  have X := X.next hb
  have b := b.trans (hb.mono b.size)
  clear hb HATW
  obtain ⟨⟨x0, x1, x2, x3, x4, x5, x6, x7, x8, x9, x10, x11, x12⟩, _⟩ := X.c13
  have Xl := X.lt
  have hv := HV0.out.below b (show bb < w.heap.size by omega)
  obtain ⟨a0, a1, a2, a3, a4, a5, a6, a7, a8⟩ := hv.c9
  clear hv
  cases hd : doneW x with
  | true =>
    have HE := Lib.hid (gateL_done (d := d) (k := k) hd)
    go_wp2
    go_ret
    rw [HE.out]
    exact RetI.nil b
  | false =>
    have HD := Lib.hid hd
    clear hd
    by_cases hp : x.2.2.1 = 0
    · have HP := Lib.hid hp
      have hp' : (x.2.2.1 != 0) = false := by simpa using hp
      clear hp
      by_cases hg : d.2.2.2.2.2.1 = -1
      · have HE := Lib.hid (gateL_open (d := d) (k := k) (x := x) hg)
        have hg' : (d.2.2.2.2.2.1 == -1) = true := by simpa using hg
        clear hg
        go_wp2
        go_ret
        rw [HE.out]
        exact RetI.nil b
      · have HG := Lib.hid hg
        have hg' : (d.2.2.2.2.2.1 == -1) = false := by simpa using hg
        clear hg
        by_cases hq : d.2.2.2.2.2.1 = (k : Int)
        · have HE := Lib.hid (gateL_self HD.out HP.out hq)
          have hq' : (d.2.2.2.2.2.1 == (k : Int)) = true := by simpa using hq
          clear hq
          go_wp2_with fail
          (with_reducible refine (underWay_any (some ⟨bb, off, none⟩) c6 B d.2.2.1 _ hwl (Nat.le_trans hB b.size) (R6.out.keep b hB)).mono ?_); rintro o w3 ⟨Au, cu, rfl, OU, hb⟩
          have b := b.trans (hb.mono b.size)
          have OU := Lib.hid (OU.more (show w.heap.size ≤ w2.heap.size by have := hsz; omega) (Nat.le_refl _))
          clear hb x0 x1 x2 x3 x4 x5 x6 x7 x8 x9 x10 x11 x12 Xl a0 a1 a2 a3 a4 a5 a6 a7 a8
          go_wp2
          go_ret
          rw [HE.out]
          exact ⟨Au, cu, rfl, OU.out, b⟩
        · have HE := Lib.hid (gateL_other HD.out HP.out HG.out hq)
          have hq' : (d.2.2.2.2.2.1 == (k : Int)) = false := by simpa using hq
          clear hq
          have hb := (Below.refl w2.heap.size w2).alloc (Nat.le_refl _) (.cells #[.int .i64 d.2.2.2.2.2.1] 3)
          have O := Lib.hid ((one_own (w := w2) d.2.2.2.2.2.1).more (show w.heap.size ≤ w2.heap.size by omega) (Nat.le_refl _))
          have b2 := Lib.hid (b.trans (hb.mono b.size))
          clear hb
          go_wp2
          go_ret
          rw [HE.out]
          exact ⟨_, _, rfl, O.out, b2.out⟩
    · have HE := Lib.hid (gateL_phase (d := d) (k := k) hp)
      have hp' : (x.2.2.1 != 0) = true := by simpa using hp
      clear hp
      go_wp2
      go_ret
      rw [HE.out]
      exact RetI.nil b
end Go.Proofs.YtkpkjcmoldkmmaaGreat
