/- Rows in the making by append: the data laid so far, each with memory of its own; rows copied shallow. -/
import Derived.Test.YtkpkjcmoldkmmaaGb
import Derived.Laws.OwnMore
import Derived.Deep.AppendLies
import Derived.Lib.SmallJoins
namespace Go.Proofs.Ytkpkjcmoldkmmaa
open Go.RowKit

def catC (vs : Nat → List Value) : Nat → List Value
  | 0 => []
  | k + 1 => catC vs k ++ vs k
theorem catC_len {vs : Nat → List Value} {n : Nat} : ∀ {k : Nat}, (∀ j, j < k → (vs j).length = n) → (catC vs k).length = k * n
  | 0, _ => by simp [catC]
  | k + 1, h => by rw [catC, List.length_append, catC_len (fun j hj => h j (by omega)), h k (by omega), Nat.succ_mul]
theorem catC_get {vs : Nat → List Value} {n : Nat} : ∀ {k j i : Nat}, (∀ j, j < k → (vs j).length = n) → j < k → i < n → (catC vs k)[j * n + i]? = (vs j)[i]?
  | 0, _, _, _, hj, _ => absurd hj (by omega)
  | k + 1, j, i, h, hj, hi => by
    have hl := catC_len (vs := vs) (n := n) (k := k) (fun j hj => h j (by omega))
    rw [catC]
    by_cases e : j = k
    · subst e
      rw [List.getElem?_append_right (by omega), hl, show j * n + i - j * n = i by omega]
    · have hm : (j + 1) * n ≤ k * n := Nat.mul_le_mul_right _ (by omega)
      rw [Nat.succ_mul] at hm
      rw [List.getElem?_append_left (by omega)]
      exact catC_get (fun j hj => h j (by omega)) (by omega) hi
theorem catC_congr {vs us : Nat → List Value} : ∀ {k : Nat}, (∀ j, j < k → vs j = us j) → catC vs k = catC us k
  | 0, _ => rfl
  | k + 1, h => by rw [catC, catC, catC_congr (fun j hj => h j (by omega)), h k (by omega)]
theorem catC_mem {vs : Nat → List Value} {u : Value} : ∀ {k : Nat}, u ∈ catC vs k → ∃ j, j < k ∧ u ∈ vs j
  | 0, h => by cases h
  | k + 1, h => by
    rw [catC, List.mem_append] at h
    rcases h with h | h
    · obtain ⟨j, h1, h2⟩ := catC_mem h
      exact ⟨j, by omega, h2⟩
    · exact ⟨k, by omega, h⟩
def upd {β : Type} (f : Nat → β) (k : Nat) (x : β) (j : Nat) : β := if j = k then x else f j
theorem upd_same {β : Type} {f : Nat → β} {k : Nat} {x : β} : upd f k x k = x := if_pos rfl
theorem upd_other {β : Type} {f : Nat → β} {k j : Nat} {x : β} (h : ¬ j = k) : upd f k x j = f j := if_neg h
theorem cell_addr (b off k : Nat) : (⟨b, off, none⟩ : Addr).add k = ⟨b, off + k, none⟩ := by unfold Addr.add; split <;> simp_all

/-- the data of l in the row v that appends have made from base on, each with memory of its own apart from the row -/
structure Grow {α : Type} (F : Fm α) (e : TypeId) (base : Nat) (w : World) (v : Value) (l : List α) (vs : Nat → List Value) (L H : Nat → Nat) : Prop where
  row : w.ownsRow base e F.n v l.length (catC vs l.length)
  own : ∀ j a, l[j]? = some a → base ≤ L j ∧ H j ≤ w.heap.size ∧ F.Own w (L j) (H j) a (vs j)
  part : ∀ i j, i < j → j < l.length → H i ≤ L j
  far : ∀ g, v.ownBlock = some g → ∀ j, j < l.length → g < L j ∨ H j ≤ g
theorem own_neG {v : Value} : v.ownBlock = none ∨ v.ownBlock ≠ none := by cases v.ownBlock <;> simp
section
variable {α : Type} {F : Fm α} {e : TypeId} {base : Nat} {w w' : World} {v : Value} {l : List α} {vs : Nat → List Value} {L H : Nat → Nat}
theorem Grow.of_row (h : w.ownsRow base e F.n v 0 []) : Grow F e base w v [] (fun _ => []) (fun _ => 0) (fun _ => 0) :=
  ⟨h, fun j a hj => by simp at hj, fun i j _ hj => absurd hj (by simp), fun g _ j hj => absurd hj (by simp)⟩
theorem Grow.nil : Grow F e base w (.slice none 0 0) [] (fun _ => []) (fun _ => 0) (fun _ => 0) := .of_row (World.ownsRow_nil _ _ _ _)
theorem Grow.next (h : Grow F e base w v l vs L H) (hb : Below w.heap.size w w') : Grow F e base w' v l vs L H :=
  ⟨h.row.kept ⟨hb.os, hb.tape, hb.output, hb.size, fun k hk _ => hb.block k hk⟩ own_neG,
    fun j a hj => ⟨(h.own j a hj).1, Nat.le_trans (h.own j a hj).2.1 hb.size, F.own_same (h.own j a hj).2.2 (.of hb (h.own j a hj).2.1)⟩, h.part, h.far⟩
theorem Grow.len (h : Grow F e base w v l vs L H) {j : Nat} (hj : j < l.length) : (vs j).length = F.n := F.len (F.own_at (h.own j _ (List.getElem?_eq_getElem hj)).2.2)
theorem Grow.form (h : Grow F e base w v l vs L H) : ∃ X c, v = .slice X l.length c := by
  rcases Go.Joins.ownsRow_forms h.row with ⟨rfl, e⟩ | ⟨g, cap, rfl⟩
  · exact ⟨none, 0, by rw [e]⟩
  · exact ⟨_, cap, rfl⟩
theorem Grow.top (h : Grow F e base w v l vs L H) : ∀ j, j < l.length → H j ≤ w.heap.size := fun j hj => (h.own j _ (List.getElem?_eq_getElem hj)).2.1
/-- a datum appended: its own memory lies in [s, t) -/
theorem Grow.push {w2 : World} {g cap s t : Nat} {a : α} {nv : List Value} (h : Grow F e base w v l vs L H)
    (hown : w2.ownsRow base e F.n (.slice (some ⟨g, 0, none⟩) (l.length + 1) cap) (l.length + 1) (catC vs l.length ++ nv)) (hgrow : w.grownBy w2 v.ownBlock) (hat : v.ownBlock = some g ∨ g = w.heap.size)
    (ha : F.Own w s t a nv) (hs : base ≤ s) (ht : t ≤ w.heap.size) (hH : ∀ j, j < l.length → H j ≤ s) (hv : ∀ q, v.ownBlock = some q → q < s) :
    Grow F e base w2 (.slice (some ⟨g, 0, none⟩) (l.length + 1) cap) (l ++ [a]) (upd vs l.length nv) (upd L l.length s) (upd H l.length t) := by
  have hlen : (l ++ [a]).length = l.length + 1 := by simp
  have hrow : ∀ L0 H0, H0 ≤ w.heap.size → (∀ q, v.ownBlock = some q → q < L0 ∨ H0 ≤ q) → SameI L0 H0 w w2 := fun L0 H0 hH0 hq k h1 h2 =>
    hgrow.block k (by omega) (fun e => by have := hq k e.symm; omega)
  have hcat : catC (upd vs l.length nv) (l.length + 1) = catC vs l.length ++ nv := by
    rw [catC, upd_same, catC_congr (fun j hj => upd_other (by omega))]
  refine ⟨?_, fun j b hj => ?_, fun i j hij hj => ?_, fun q hq j hj => ?_⟩
  · rw [hlen, hcat]; exact hown
  · by_cases ej : j = l.length
    · subst ej
      rw [upd_same, upd_same, upd_same]
      have eb : b = a := by simpa using hj.symm
      subst eb
      exact ⟨hs, Nat.le_trans ht hgrow.size, F.own_same ha (hrow s t ht (fun q hq => .inl (hv q hq)))⟩
    · have hjl : j < l.length := by
        have := get_lt hj
        rw [hlen] at this
        omega
      rw [List.getElem?_append_left hjl] at hj
      rw [upd_other ej, upd_other ej, upd_other ej]
      have h1 := h.own j b hj
      exact ⟨h1.1, Nat.le_trans h1.2.1 hgrow.size, F.own_same h1.2.2 (hrow _ _ h1.2.1 (fun q hq => h.far q hq j hjl))⟩
  · rw [hlen] at hj
    rw [upd_other (show ¬ i = l.length by omega)]
    by_cases ej : j = l.length
    · subst ej
      rw [upd_same]
      exact hH i (by omega)
    · rw [upd_other ej]
      exact h.part i j hij (by omega)
  · rw [hlen] at hj
    have eq : q = g := by simpa [Value.ownBlock] using hq.symm
    subst eq
    by_cases ej : j = l.length
    · subst ej
      rw [upd_same, upd_same]
      rcases hat with hat | hat
      · exact .inl (hv _ hat)
      · exact .inr (by omega)
    · have hjl : j < l.length := by omega
      rw [upd_other ej, upd_other ej]
      rcases hat with hat | hat
      · exact h.far _ hat j hjl
      · exact .inr (by have := h.top j hjl; omega)
theorem Grow.done (h : Grow F e base w v l vs L H) : ∃ A c, v = .slice A l.length c ∧ ROwn F w base w.heap.size A l := by
  rcases h.row.2 with ⟨rfl, hn⟩ | ⟨g, cap, cur, rfl, hg, hh, hn, hm, hs, ht⟩
  · exact ⟨none, 0, by rw [hn], by omega, fun h0 => absurd h0 (by omega)⟩
  · refine ⟨_, cap, rfl, by omega, fun _ => ⟨g, 0, rfl, vs, L, H, hg, (Array.getElem?_eq_some_iff.1 hh).1, fun o => h.row.frozenAt o, fun j hj => ?_, fun i j hi hj hne => ?_, fun j hj i u hu => ?_, fun j a ha => (h.own j a ha).2.2⟩⟩
    · have h1 := h.own j _ (List.getElem?_eq_getElem hj)
      exact ⟨h1.1, h1.2.1, h.far g rfl j hj⟩
    · rcases Nat.lt_or_gt_of_ne hne with hlt | hgt
      · exact .inl (h.part i j hlt hj)
      · exact .inr (h.part j i hgt hi)
    · have hi : i < F.n := by
        have := (List.getElem?_eq_some_iff.1 hu).1
        rwa [h.len hj] at this
      have hm2 : (j + 1) * F.n ≤ l.length * F.n := Nat.mul_le_mul_right _ (by omega)
      rw [Nat.succ_mul] at hm2
      rw [Nat.zero_add, h.row.cellAt _ (by omega), catC_get (fun j hj => h.len hj) hj hi, hu]
theorem Grow.cast {l' : List α} (h : Grow F e base w v l vs L H) (e' : l = l') : Grow F e base w v l' vs L H := e' ▸ h
/-- two rows of data with memory of their own, one behind the other -/
theorem Grow.congr {us : Nat → List Value} (h : Grow F e base w v l vs L H) (hu : ∀ j, j < l.length → us j = vs j) : Grow F e base w v l us L H :=
  ⟨by rw [catC_congr hu]; exact h.row, fun j a hj => by rw [hu j (get_lt hj)]; exact h.own j a hj, h.part, h.far⟩
end

/-! a row's cells as what an append takes -/
theorem src_cells {α : Type} {F : Fm α} {w : World} {B : Nat} {l : List α} {ad : Addr} (r : RAt F w B (some ad) l) (one : ∀ a vs, F.At w B a vs → ∀ u ∈ vs, u.oneCell' = true) :
    ∃ vs : Nat → List Value, (catC vs l.length).length = l.length * F.n ∧ (∀ j u, (catC vs l.length)[j]? = some u → w.cell? (ad.add j) = some u) ∧ (∀ u ∈ catC vs l.length, u.oneCell' = true) ∧ ∀ j a, l[j]? = some a → (vs j).length = F.n ∧ F.At w B a (vs j) := by
  by_cases hl : 0 < l.length
  · obtain ⟨b, off, e, _, hc⟩ := r.2 hl
    injection e with e
    subst e
    obtain ⟨vs, hvs⟩ := Classical.axiomOfChoice (r := fun (j : Nat) (v : List Value) => ∀ a, l[j]? = some a → RCells w b (off + j * F.n) v ∧ F.At w B a v) (fun j => by
      cases hj : l[j]? with
      | none => exact ⟨[], fun a ha => by cases ha⟩
      | some a =>
        obtain ⟨v, h1, h2⟩ := hc j a hj
        exact ⟨v, fun a' ha => by cases ha; exact ⟨h1, h2⟩⟩)
    have hlen : ∀ j, j < l.length → (vs j).length = F.n := fun j hj => F.len (hvs j _ (List.getElem?_eq_getElem hj)).2
    refine ⟨vs, catC_len hlen, fun j u hu => ?_, fun u hu => ?_, fun j a hj => ⟨hlen j (get_lt hj), (hvs j a hj).2⟩⟩
    · have hj := (List.getElem?_eq_some_iff.1 hu).1
      rw [catC_len hlen] at hj
      have hn : 0 < F.n := by
        rcases Nat.eq_zero_or_pos F.n with h0 | h0
        · rw [h0, Nat.mul_zero] at hj; omega
        · exact h0
      have hd : j / F.n < l.length := (Nat.div_lt_iff_lt_mul hn).2 hj
      have hm : j % F.n < F.n := Nat.mod_lt _ hn
      have hjm : j / F.n * F.n + j % F.n = j := by rw [Nat.mul_comm]; exact Nat.div_add_mod j F.n
      have h1 := catC_get (vs := vs) (n := F.n) hlen hd hm
      rw [hjm, hu] at h1
      have h2 := (hvs _ _ (List.getElem?_eq_getElem hd)).1 _ u h1.symm
      rw [cell_addr, show off + j = off + j / F.n * F.n + j % F.n by omega]
      exact h2
    · obtain ⟨j, hj, hu⟩ := catC_mem hu
      exact one _ _ (hvs j _ (List.getElem?_eq_getElem hj)).2 u hu
  · have h0 : l.length = 0 := by omega
    refine ⟨fun _ => [], by rw [h0]; simp [catC], fun j u hu => ?_, fun u hu => ?_, fun j a hj => ?_⟩
    · rw [h0] at hu; simp [catC] at hu
    · rw [h0] at hu; simp [catC] at hu
    · have := get_lt hj; omega
/-- a row copied: new cells, the elements' own memory shared -/
def Shal {α : Type} (F : Fm α) (w : World) (B : Nat) (w' : World) (A' : Option Addr) (l : List α) : Prop :=
  0 < l.length → ∃ (g : Nat) (vs : Nat → List Value), A' = some ⟨g, 0, none⟩ ∧ w.heap.size ≤ g ∧ g < w'.heap.size ∧ (∀ o, w'.frozen? ⟨g, o, none⟩ = false) ∧ ∀ j a, l[j]? = some a → RCells w' g (j * F.n) (vs j) ∧ F.At w B a (vs j)
theorem Shal.of_row {α : Type} {F : Fm α} {w w' : World} {B : Nat} {l : List α} {e : TypeId} {v : Value} {vs : Nat → List Value} (hown : w'.ownsRow w.heap.size e F.n v l.length (catC vs l.length)) (h : ∀ j a, l[j]? = some a → (vs j).length = F.n ∧ F.At w B a (vs j)) :
    ∃ A' c', v = .slice A' l.length c' ∧ Shal F w B w' A' l := by
  rcases hown.2 with ⟨rfl, hn⟩ | ⟨g, cap, cur, rfl, hg, hh, hn, hm, hs, ht⟩
  · exact ⟨none, 0, by rw [hn], fun h0 => absurd h0 (by omega)⟩
  · refine ⟨_, cap, rfl, fun _ => ⟨g, vs, rfl, hg, (Array.getElem?_eq_some_iff.1 hh).1, fun o => hown.frozenAt o, fun j a ha => ⟨fun i u hu => ?_, (h j a ha).2⟩⟩⟩
    have hj := get_lt ha
    have hi : i < F.n := by
      have := (List.getElem?_eq_some_iff.1 hu).1
      rwa [(h j a ha).1] at this
    have hm2 : (j + 1) * F.n ≤ l.length * F.n := Nat.mul_le_mul_right _ (by omega)
    rw [Nat.succ_mul] at hm2
    rw [hown.cellAt _ (by omega), catC_get (fun j hj => (h j _ (List.getElem?_eq_getElem hj)).1) hj hi, hu]
theorem Shal.own {α : Type} {F : Fm α} {w w' : World} {B : Nat} {A' : Option Addr} {l : List α} (h : Shal F w B w' A' l) (hl : l.length ≤ maxLen) (flat : ∀ a vs, F.At w B a vs → F.Own w' w'.heap.size w'.heap.size a vs) : ROwn F w' w.heap.size w'.heap.size A' l :=
  ⟨hl, fun h0 => by
    obtain ⟨g, vs, rfl, hg, hlt, hf, hc⟩ := h h0
    exact ⟨g, 0, rfl, vs, fun _ => w'.heap.size, fun _ => w'.heap.size, hg, hlt, hf, fun j _ => ⟨by omega, Nat.le_refl _, .inl hlt⟩, fun _ _ _ _ _ => .inl (Nat.le_refl _),
      fun j hj => by rw [Nat.zero_add]; exact (hc j _ (List.getElem?_eq_getElem hj)).1, fun j a ha => flat a _ (hc j a ha).2⟩⟩

/-! a shallow copy whose elements are made anew, one after the other -/
/-- the first k data laid in row g, the cells behind them as zs says -/
structure LaidV {α : Type} (F : Fm α) (g : Nat) (zs : Nat → List Value) (l : List α) (wr : World) (k : Nat) (vs : Nat → List Value) (L H : Nat → Nat) : Prop where
  lt : g < wr.heap.size
  free : ∀ o, wr.frozen? ⟨g, o, none⟩ = false
  cell : ∀ j, j < l.length → RCells wr g (j * F.n) (if j < k then vs j else zs j)
  own : ∀ j a, j < k → l[j]? = some a → g < L j ∧ H j ≤ wr.heap.size ∧ F.Own wr (L j) (H j) a (vs j)
  part : ∀ i j, i < j → j < k → H i ≤ L j
section
variable {α : Type} {F : Fm α} {g : Nat} {zs : Nat → List Value} {l : List α} {wr w1 : World} {k : Nat} {vs : Nat → List Value} {L H : Nat → Nat}
theorem LaidV.start (hg : g < wr.heap.size) (hf : ∀ o, wr.frozen? ⟨g, o, none⟩ = false) (hc : ∀ j, j < l.length → RCells wr g (j * F.n) (zs j)) : LaidV F g zs l wr 0 (fun _ => []) (fun _ => 0) (fun _ => 0) :=
  ⟨hg, hf, fun j hj => by rw [if_neg (by omega)]; exact hc j hj, fun j a hj => absurd hj (by omega), fun i j _ hj => absurd hj (by omega)⟩
theorem LaidV.next (h : LaidV F g zs l wr k vs L H) (hb : Below wr.heap.size wr w1) : LaidV F g zs l w1 k vs L H :=
  ⟨Nat.lt_of_lt_of_le h.lt hb.size, fun o => (hb.frozen (p := ⟨g, o, none⟩) h.lt).trans (h.free o), fun j hj => (h.cell j hj).below hb h.lt,
    fun j a hj ha => ⟨(h.own j a hj ha).1, Nat.le_trans (h.own j a hj ha).2.1 hb.size, F.own_same (h.own j a hj ha).2.2 (.of hb (h.own j a hj ha).2.1)⟩, h.part⟩
theorem LaidV.here (h : LaidV F g zs l wr k vs L H) (hk : k < l.length) : RCells wr g (k * F.n) (zs k) := by
  have := h.cell k hk
  rwa [if_neg (Nat.lt_irrefl k)] at this
theorem LaidV.step (h : LaidV F g zs l w1 k vs L H) (hk : k < l.length) {a : α} (ha : l[k]? = some a) {v : List Value} {s : Nat} (hv : v.length = F.n) (hz : ∀ j, j < l.length → (zs j).length = F.n) (hg : g < s) (hH : ∀ j, j < k → H j ≤ s) (ho : F.Own w1 s w1.heap.size a v) :
    LaidV F g zs l (storeRec w1 g (k * F.n) v) (k + 1) (fun j => if j = k then v else vs j) (fun j => if j = k then s else L j) (fun j => if j = k then w1.heap.size else H j) := by
  have hon := storeRec_only g v w1 (k * F.n)
  refine ⟨by rw [hon.size]; exact h.lt, fun o => by rw [storeRec_frozen]; exact h.free o, fun j hj => ?_, fun j b hj hb => ?_, fun i j hij hj => ?_⟩
  · by_cases e : j = k
    · subst e
      simp only [if_true, if_pos (show j < j + 1 by omega)]
      exact storeRec_near g v (zs j) _ _ (by rw [hz j hj, hv]) (h.here hk)
    · have h1 := h.cell j hj
      have hlen : (if j < k then vs j else zs j).length = F.n := by
        by_cases hjk : j < k
        · rw [if_pos hjk]
          exact F.len (F.own_at (h.own j _ hjk (List.getElem?_eq_getElem hj)).2.2)
        · rw [if_neg hjk]; exact hz j hj
      have hsame : (if j < k + 1 then (if j = k then v else vs j) else zs j) = if j < k then vs j else zs j := by
        by_cases hjk : j < k
        · rw [if_pos hjk, if_pos (by omega), if_neg e]
        · rw [if_neg hjk, if_neg (by omega)]
      rw [hsame]
      intro i u hu
      have hi : i < F.n := by
        have := (List.getElem?_eq_some_iff.1 hu).1
        rwa [hlen] at this
      rw [storeRec_far g v _ _ _ (by
        rw [hv]
        rcases Nat.lt_or_gt_of_ne e with hlt | hgt
        · have : (j + 1) * F.n ≤ k * F.n := Nat.mul_le_mul_right _ (by omega)
          rw [Nat.succ_mul] at this
          exact .inl (by omega)
        · have : (k + 1) * F.n ≤ j * F.n := Nat.mul_le_mul_right _ (by omega)
          rw [Nat.succ_mul] at this
          exact .inr (by omega))]
      exact h1 i u hu
  · by_cases e : j = k
    · subst e
      have e2 : a = b := Option.some.inj (ha.symm.trans hb)
      subst e2
      simp only [if_true]
      exact ⟨hg, by rw [hon.size]; exact Nat.le_refl _, F.own_same ho (.only hon (.inr (by omega)))⟩
    · simp only [if_neg e]
      have h1 := h.own j b (by omega) hb
      exact ⟨h1.1, by rw [hon.size]; exact h1.2.1, F.own_same h1.2.2 (.only hon (.inr (by omega)))⟩
  · have ei : ¬ i = k := by omega
    by_cases e : j = k
    · subst e
      simp only [if_true, if_neg ei]
      exact hH i (by omega)
    · simp only [if_neg ei, if_neg e]
      exact h.part i j hij (by omega)
theorem LaidV.done {lo B : Nat} (h : LaidV F g zs l wr l.length vs L H) (hl : l.length ≤ maxLen) (hlo : lo ≤ g) (hB : wr.heap.size ≤ B) : ROwn F wr lo B (some ⟨g, 0, none⟩) l := ⟨hl, fun _ => ⟨g, 0, rfl, vs, L, H, hlo, by have := h.lt; omega, h.free,
  fun j hj => by have := h.own j _ hj (List.getElem?_eq_getElem hj); omega,
  fun i j hi hj hne => by
    rcases Nat.lt_or_gt_of_ne hne with hlt | hgt
    · exact .inl (h.part i j hlt hj)
    · exact .inr (h.part j i hgt hi),
  fun j hj => by
    have := h.cell j hj
    rw [if_pos hj] at this
    rwa [Nat.zero_add],
  fun j a ha => (h.own j a (get_lt ha) ha).2.2⟩⟩
theorem LaidV.top (h : LaidV F g zs l wr k vs L H) (hk : k ≤ l.length) : ∀ j, j < k → H j ≤ wr.heap.size := fun j hj => (h.own j _ hj (List.getElem?_eq_getElem (by omega))).2.1
end
end Go.Proofs.Ytkpkjcmoldkmmaa
