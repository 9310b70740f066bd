/- Wait graphs: whom a worker waits for at a lock, of the program. -/
import Derived.Test.YtkpkjcmoldkmmaaGreatGb
import Derived.Laws.OwnMore
import Derived.Deep.AppendLies
import Derived.Lib.SmallJoins
import Derived.Test.YtkpkjcmoldkmmaaGreatGe
import Derived.Test.YtkpkjcmoldkmmaaGreatGd
import Derived.Test.YtkpkjcmoldkmmaaGreatWfF
import Derived.Lib.AppendZeros
import Derived.Test.YtkpkjcmoldkmmaaGreatWfG
import Derived.Test.YtkpkjcmoldkmmaaGreatLi3
namespace Go.Proofs.YtkpkjcmoldkmmaaGreat
open Go.RowKit

def catC (vs : Nat → List Value) : Nat → List Value
  | 0 => []
  | k + 1 => catC vs k ++ vs k
theorem catC_len {vs : Nat → List Value} {n : Nat} : ∀ {k : Nat}, (∀ j, j < k → (vs j).length = n) → (catC vs k).length = k * n
  | 0, _ => by simp [catC]
  | k + 1, h => by rw [catC, List.length_append, catC_len (fun j hj => h j (by omega)), h k (by omega), Nat.succ_mul]
theorem catC_get {vs : Nat → List Value} {n : Nat} : ∀ {k j i : Nat}, (∀ j, j < k → (vs j).length = n) → j < k → i < n → (catC vs k)[j * n + i]? = (vs j)[i]?
  | 0, _, _, _, hj, _ => absurd hj (by omega)
  | k + 1, j, i, h, hj, hi => by
    have hl := catC_len (vs := vs) (n := n) (k := k) (fun j hj => h j (by omega))
    rw [catC]
    by_cases e : j = k
    · subst e
      rw [List.getElem?_append_right (by omega), hl, show j * n + i - j * n = i by omega]
    · have hm : (j + 1) * n ≤ k * n := Nat.mul_le_mul_right _ (by omega)
      rw [Nat.succ_mul] at hm
      rw [List.getElem?_append_left (by omega)]
      exact catC_get (fun j hj => h j (by omega)) (by omega) hi
theorem catC_congr {vs us : Nat → List Value} : ∀ {k : Nat}, (∀ j, j < k → vs j = us j) → catC vs k = catC us k
  | 0, _ => rfl
  | k + 1, h => by rw [catC, catC, catC_congr (fun j hj => h j (by omega)), h k (by omega)]
theorem catC_mem {vs : Nat → List Value} {u : Value} : ∀ {k : Nat}, u ∈ catC vs k → ∃ j, j < k ∧ u ∈ vs j
  | 0, h => by cases h
  | k + 1, h => by
    rw [catC, List.mem_append] at h
    rcases h with h | h
    · obtain ⟨j, h1, h2⟩ := catC_mem h
      exact ⟨j, by omega, h2⟩
    · exact ⟨k, by omega, h⟩
def updV {β : Type} (f : Nat → β) (k : Nat) (x : β) (j : Nat) : β := if j = k then x else f j
theorem updV_same {β : Type} {f : Nat → β} {k : Nat} {x : β} : updV f k x k = x := if_pos rfl
theorem updV_other {β : Type} {f : Nat → β} {k j : Nat} {x : β} (h : ¬ j = k) : updV f k x j = f j := if_neg h
theorem cell_addr (b off k : Nat) : (⟨b, off, none⟩ : Addr).add k = ⟨b, off + k, none⟩ := by unfold Addr.add; split <;> simp_all

/-- the data of l in the row v that appends have made from base on, each with memory of its own apart from the row -/
structure Grow {α : Type} (F : Fm α) (e : TypeId) (base : Nat) (w : World) (v : Value) (l : List α) (vs : Nat → List Value) (L H : Nat → Nat) : Prop where
  row : w.ownsRow base e F.n v l.length (catC vs l.length)
  own : ∀ j a, l[j]? = some a → base ≤ L j ∧ H j ≤ w.heap.size ∧ F.Own w (L j) (H j) a (vs j)
  part : ∀ i j, i < j → j < l.length → H i ≤ L j
  far : ∀ g, v.ownBlock = some g → ∀ j, j < l.length → g < L j ∨ H j ≤ g
theorem own_neG {v : Value} : v.ownBlock = none ∨ v.ownBlock ≠ none := by cases v.ownBlock <;> simp
section
variable {α : Type} {F : Fm α} {e : TypeId} {base : Nat} {w w' : World} {v : Value} {l : List α} {vs : Nat → List Value} {L H : Nat → Nat}
theorem Grow.of_row (h : w.ownsRow base e F.n v 0 []) : Grow F e base w v [] (fun _ => []) (fun _ => 0) (fun _ => 0) :=
  ⟨h, fun j a hj => by simp at hj, fun i j _ hj => absurd hj (by simp), fun g _ j hj => absurd hj (by simp)⟩
theorem Grow.nil : Grow F e base w (.slice none 0 0) [] (fun _ => []) (fun _ => 0) (fun _ => 0) := .of_row (World.ownsRow_nil _ _ _ _)
theorem Grow.next (h : Grow F e base w v l vs L H) (hb : Below w.heap.size w w') : Grow F e base w' v l vs L H :=
  ⟨h.row.kept ⟨hb.os, hb.tape, hb.output, hb.size, fun k hk _ => hb.block k hk⟩ own_neG,
    fun j a hj => ⟨(h.own j a hj).1, Nat.le_trans (h.own j a hj).2.1 hb.size, F.own_same (h.own j a hj).2.2 (.of hb (h.own j a hj).2.1)⟩, h.part, h.far⟩
theorem Grow.len (h : Grow F e base w v l vs L H) {j : Nat} (hj : j < l.length) : (vs j).length = F.n := F.len (F.own_at (h.own j _ (List.getElem?_eq_getElem hj)).2.2)
theorem Grow.form (h : Grow F e base w v l vs L H) : ∃ X c, v = .slice X l.length c := by
  rcases Go.Joins.ownsRow_forms h.row with ⟨rfl, e⟩ | ⟨g, cap, rfl⟩
  · exact ⟨none, 0, by rw [e]⟩
  · exact ⟨_, cap, rfl⟩
theorem Grow.top (h : Grow F e base w v l vs L H) : ∀ j, j < l.length → H j ≤ w.heap.size := fun j hj => (h.own j _ (List.getElem?_eq_getElem hj)).2.1
/-- a datum appended: its own memory lies in [s, t) -/
theorem Grow.push {w2 : World} {g cap s t : Nat} {a : α} {nv : List Value} (h : Grow F e base w v l vs L H)
    (hown : w2.ownsRow base e F.n (.slice (some ⟨g, 0, none⟩) (l.length + 1) cap) (l.length + 1) (catC vs l.length ++ nv)) (hgrow : w.grownBy w2 v.ownBlock) (hat : v.ownBlock = some g ∨ g = w.heap.size)
    (ha : F.Own w s t a nv) (hs : base ≤ s) (ht : t ≤ w.heap.size) (hH : ∀ j, j < l.length → H j ≤ s) (hv : ∀ q, v.ownBlock = some q → q < s) :
    Grow F e base w2 (.slice (some ⟨g, 0, none⟩) (l.length + 1) cap) (l ++ [a]) (updV vs l.length nv) (updV L l.length s) (updV H l.length t) := by
  have hlen : (l ++ [a]).length = l.length + 1 := by simp
  have hrow : ∀ L0 H0, H0 ≤ w.heap.size → (∀ q, v.ownBlock = some q → q < L0 ∨ H0 ≤ q) → SameI L0 H0 w w2 := fun L0 H0 hH0 hq k h1 h2 =>
    hgrow.block k (by omega) (fun e => by have := hq k e.symm; omega)
  have hcat : catC (updV vs l.length nv) (l.length + 1) = catC vs l.length ++ nv := by
    rw [catC, updV_same, catC_congr (fun j hj => updV_other (by omega))]
  refine ⟨?_, fun j b hj => ?_, fun i j hij hj => ?_, fun q hq j hj => ?_⟩
  · rw [hlen, hcat]; exact hown
  · by_cases ej : j = l.length
    · subst ej
      rw [updV_same, updV_same, updV_same]
      have eb : b = a := by simpa using hj.symm
      subst eb
      exact ⟨hs, Nat.le_trans ht hgrow.size, F.own_same ha (hrow s t ht (fun q hq => .inl (hv q hq)))⟩
    · have hjl : j < l.length := by
        have := get_lt hj
        rw [hlen] at this
        omega
      rw [List.getElem?_append_left hjl] at hj
      rw [updV_other ej, updV_other ej, updV_other ej]
      have h1 := h.own j b hj
      exact ⟨h1.1, Nat.le_trans h1.2.1 hgrow.size, F.own_same h1.2.2 (hrow _ _ h1.2.1 (fun q hq => h.far q hq j hjl))⟩
  · rw [hlen] at hj
    rw [updV_other (show ¬ i = l.length by omega)]
    by_cases ej : j = l.length
    · subst ej
      rw [updV_same]
      exact hH i (by omega)
    · rw [updV_other ej]
      exact h.part i j hij (by omega)
  · rw [hlen] at hj
    have eq : q = g := by simpa [Value.ownBlock] using hq.symm
    subst eq
    by_cases ej : j = l.length
    · subst ej
      rw [updV_same, updV_same]
      rcases hat with hat | hat
      · exact .inl (hv _ hat)
      · exact .inr (by omega)
    · have hjl : j < l.length := by omega
      rw [updV_other ej, updV_other ej]
      rcases hat with hat | hat
      · exact h.far _ hat j hjl
      · exact .inr (by have := h.top j hjl; omega)
theorem Grow.done (h : Grow F e base w v l vs L H) : ∃ A c, v = .slice A l.length c ∧ ROwn F w base w.heap.size A l := by
  rcases h.row.2 with ⟨rfl, hn⟩ | ⟨g, cap, cur, rfl, hg, hh, hn, hm, hs, ht⟩
  · exact ⟨none, 0, by rw [hn], by omega, fun h0 => absurd h0 (by omega)⟩
  · refine ⟨_, cap, rfl, by omega, fun _ => ⟨g, 0, rfl, vs, L, H, hg, (Array.getElem?_eq_some_iff.1 hh).1, fun o => h.row.frozenAt o, fun j hj => ?_, fun i j hi hj hne => ?_, fun j hj i u hu => ?_, fun j a ha => (h.own j a ha).2.2⟩⟩
    · have h1 := h.own j _ (List.getElem?_eq_getElem hj)
      exact ⟨h1.1, h1.2.1, h.far g rfl j hj⟩
    · rcases Nat.lt_or_gt_of_ne hne with hlt | hgt
      · exact .inl (h.part i j hlt hj)
      · exact .inr (h.part j i hgt hi)
    · have hi : i < F.n := by
        have := (List.getElem?_eq_some_iff.1 hu).1
        rwa [h.len hj] at this
      have hm2 : (j + 1) * F.n ≤ l.length * F.n := Nat.mul_le_mul_right _ (by omega)
      rw [Nat.succ_mul] at hm2
      rw [Nat.zero_add, h.row.cellAt _ (by omega), catC_get (fun j hj => h.len hj) hj hi, hu]
theorem Grow.cast {l' : List α} (h : Grow F e base w v l vs L H) (e' : l = l') : Grow F e base w v l' vs L H := e' ▸ h
/-- two rows of data with memory of their own, one behind the other -/
theorem Grow.congr {us : Nat → List Value} (h : Grow F e base w v l vs L H) (hu : ∀ j, j < l.length → us j = vs j) : Grow F e base w v l us L H :=
  ⟨by rw [catC_congr hu]; exact h.row, fun j a hj => by rw [hu j (get_lt hj)]; exact h.own j a hj, h.part, h.far⟩
end

/-! a row's cells as what an append takes -/
theorem src_cells {α : Type} {F : Fm α} {w : World} {B : Nat} {l : List α} {ad : Addr} (r : RAt F w B (some ad) l) (one : ∀ a vs, F.At w B a vs → ∀ u ∈ vs, u.oneCell' = true) :
    ∃ vs : Nat → List Value, (catC vs l.length).length = l.length * F.n ∧ (∀ j u, (catC vs l.length)[j]? = some u → w.cell? (ad.add j) = some u) ∧ (∀ u ∈ catC vs l.length, u.oneCell' = true) ∧ ∀ j a, l[j]? = some a → (vs j).length = F.n ∧ F.At w B a (vs j) := by
  by_cases hl : 0 < l.length
  · obtain ⟨b, off, e, _, hc⟩ := r.2 hl
    injection e with e
    subst e
    obtain ⟨vs, hvs⟩ := Classical.axiomOfChoice (r := fun (j : Nat) (v : List Value) => ∀ a, l[j]? = some a → RCells w b (off + j * F.n) v ∧ F.At w B a v) (fun j => by
      cases hj : l[j]? with
      | none => exact ⟨[], fun a ha => by cases ha⟩
      | some a =>
        obtain ⟨v, h1, h2⟩ := hc j a hj
        exact ⟨v, fun a' ha => by cases ha; exact ⟨h1, h2⟩⟩)
    have hlen : ∀ j, j < l.length → (vs j).length = F.n := fun j hj => F.len (hvs j _ (List.getElem?_eq_getElem hj)).2
    refine ⟨vs, catC_len hlen, fun j u hu => ?_, fun u hu => ?_, fun j a hj => ⟨hlen j (get_lt hj), (hvs j a hj).2⟩⟩
    · have hj := (List.getElem?_eq_some_iff.1 hu).1
      rw [catC_len hlen] at hj
      have hn : 0 < F.n := by
        rcases Nat.eq_zero_or_pos F.n with h0 | h0
        · rw [h0, Nat.mul_zero] at hj; omega
        · exact h0
      have hd : j / F.n < l.length := (Nat.div_lt_iff_lt_mul hn).2 hj
      have hm : j % F.n < F.n := Nat.mod_lt _ hn
      have hjm : j / F.n * F.n + j % F.n = j := by rw [Nat.mul_comm]; exact Nat.div_add_mod j F.n
      have h1 := catC_get (vs := vs) (n := F.n) hlen hd hm
      rw [hjm, hu] at h1
      have h2 := (hvs _ _ (List.getElem?_eq_getElem hd)).1 _ u h1.symm
      rw [cell_addr, show off + j = off + j / F.n * F.n + j % F.n by omega]
      exact h2
    · obtain ⟨j, hj, hu⟩ := catC_mem hu
      exact one _ _ (hvs j _ (List.getElem?_eq_getElem hj)).2 u hu
  · have h0 : l.length = 0 := by omega
    refine ⟨fun _ => [], by rw [h0]; simp [catC], fun j u hu => ?_, fun u hu => ?_, fun j a hj => ?_⟩
    · rw [h0] at hu; simp [catC] at hu
    · rw [h0] at hu; simp [catC] at hu
    · have := get_lt hj; omega
/-- a row copied: new cells, the elements' own memory shared -/
def Shal {α : Type} (F : Fm α) (w : World) (B : Nat) (w' : World) (A' : Option Addr) (l : List α) : Prop :=
  0 < l.length → ∃ (g : Nat) (vs : Nat → List Value), A' = some ⟨g, 0, none⟩ ∧ w.heap.size ≤ g ∧ g < w'.heap.size ∧ (∀ o, w'.frozen? ⟨g, o, none⟩ = false) ∧ ∀ j a, l[j]? = some a → RCells w' g (j * F.n) (vs j) ∧ F.At w B a (vs j)
theorem Shal.of_row {α : Type} {F : Fm α} {w w' : World} {B : Nat} {l : List α} {e : TypeId} {v : Value} {vs : Nat → List Value} (hown : w'.ownsRow w.heap.size e F.n v l.length (catC vs l.length)) (h : ∀ j a, l[j]? = some a → (vs j).length = F.n ∧ F.At w B a (vs j)) :
    ∃ A' c', v = .slice A' l.length c' ∧ Shal F w B w' A' l := by
  rcases hown.2 with ⟨rfl, hn⟩ | ⟨g, cap, cur, rfl, hg, hh, hn, hm, hs, ht⟩
  · exact ⟨none, 0, by rw [hn], fun h0 => absurd h0 (by omega)⟩
  · refine ⟨_, cap, rfl, fun _ => ⟨g, vs, rfl, hg, (Array.getElem?_eq_some_iff.1 hh).1, fun o => hown.frozenAt o, fun j a ha => ⟨fun i u hu => ?_, (h j a ha).2⟩⟩⟩
    have hj := get_lt ha
    have hi : i < F.n := by
      have := (List.getElem?_eq_some_iff.1 hu).1
      rwa [(h j a ha).1] at this
    have hm2 : (j + 1) * F.n ≤ l.length * F.n := Nat.mul_le_mul_right _ (by omega)
    rw [Nat.succ_mul] at hm2
    rw [hown.cellAt _ (by omega), catC_get (fun j hj => (h j _ (List.getElem?_eq_getElem hj)).1) hj hi, hu]
theorem Shal.own {α : Type} {F : Fm α} {w w' : World} {B : Nat} {A' : Option Addr} {l : List α} (h : Shal F w B w' A' l) (hl : l.length ≤ maxLen) (flat : ∀ a vs, F.At w B a vs → F.Own w' w'.heap.size w'.heap.size a vs) : ROwn F w' w.heap.size w'.heap.size A' l :=
  ⟨hl, fun h0 => by
    obtain ⟨g, vs, rfl, hg, hlt, hf, hc⟩ := h h0
    exact ⟨g, 0, rfl, vs, fun _ => w'.heap.size, fun _ => w'.heap.size, hg, hlt, hf, fun j _ => ⟨by omega, Nat.le_refl _, .inl hlt⟩, fun _ _ _ _ _ => .inl (Nat.le_refl _),
      fun j hj => by rw [Nat.zero_add]; exact (hc j _ (List.getElem?_eq_getElem hj)).1, fun j a ha => flat a _ (hc j a ha).2⟩⟩

/-! a shallow copy whose elements are made anew, one after the other -/
/-- the first k data laid in row g, the cells behind them as zs says -/
structure LaidV {α : Type} (F : Fm α) (g : Nat) (zs : Nat → List Value) (l : List α) (wr : World) (k : Nat) (vs : Nat → List Value) (L H : Nat → Nat) : Prop where
  lt : g < wr.heap.size
  free : ∀ o, wr.frozen? ⟨g, o, none⟩ = false
  cell : ∀ j, j < l.length → RCells wr g (j * F.n) (if j < k then vs j else zs j)
  own : ∀ j a, j < k → l[j]? = some a → g < L j ∧ H j ≤ wr.heap.size ∧ F.Own wr (L j) (H j) a (vs j)
  part : ∀ i j, i < j → j < k → H i ≤ L j
section
variable {α : Type} {F : Fm α} {g : Nat} {zs : Nat → List Value} {l : List α} {wr w1 : World} {k : Nat} {vs : Nat → List Value} {L H : Nat → Nat}
theorem LaidV.start (hg : g < wr.heap.size) (hf : ∀ o, wr.frozen? ⟨g, o, none⟩ = false) (hc : ∀ j, j < l.length → RCells wr g (j * F.n) (zs j)) : LaidV F g zs l wr 0 (fun _ => []) (fun _ => 0) (fun _ => 0) :=
  ⟨hg, hf, fun j hj => by rw [if_neg (by omega)]; exact hc j hj, fun j a hj => absurd hj (by omega), fun i j _ hj => absurd hj (by omega)⟩
theorem LaidV.next (h : LaidV F g zs l wr k vs L H) (hb : Below wr.heap.size wr w1) : LaidV F g zs l w1 k vs L H :=
  ⟨Nat.lt_of_lt_of_le h.lt hb.size, fun o => (hb.frozen (p := ⟨g, o, none⟩) h.lt).trans (h.free o), fun j hj => (h.cell j hj).below hb h.lt,
    fun j a hj ha => ⟨(h.own j a hj ha).1, Nat.le_trans (h.own j a hj ha).2.1 hb.size, F.own_same (h.own j a hj ha).2.2 (.of hb (h.own j a hj ha).2.1)⟩, h.part⟩
theorem LaidV.here (h : LaidV F g zs l wr k vs L H) (hk : k < l.length) : RCells wr g (k * F.n) (zs k) := by
  have := h.cell k hk
  rwa [if_neg (Nat.lt_irrefl k)] at this
theorem LaidV.step (h : LaidV F g zs l w1 k vs L H) (hk : k < l.length) {a : α} (ha : l[k]? = some a) {v : List Value} {s : Nat} (hv : v.length = F.n) (hz : ∀ j, j < l.length → (zs j).length = F.n) (hg : g < s) (hH : ∀ j, j < k → H j ≤ s) (ho : F.Own w1 s w1.heap.size a v) :
    LaidV F g zs l (storeRec w1 g (k * F.n) v) (k + 1) (fun j => if j = k then v else vs j) (fun j => if j = k then s else L j) (fun j => if j = k then w1.heap.size else H j) := by
  have hon := storeRec_only g v w1 (k * F.n)
  refine ⟨by rw [hon.size]; exact h.lt, fun o => by rw [storeRec_frozen]; exact h.free o, fun j hj => ?_, fun j b hj hb => ?_, fun i j hij hj => ?_⟩
  · by_cases e : j = k
    · subst e
      simp only [if_true, if_pos (show j < j + 1 by omega)]
      exact storeRec_near g v (zs j) _ _ (by rw [hz j hj, hv]) (h.here hk)
    · have h1 := h.cell j hj
      have hlen : (if j < k then vs j else zs j).length = F.n := by
        by_cases hjk : j < k
        · rw [if_pos hjk]
          exact F.len (F.own_at (h.own j _ hjk (List.getElem?_eq_getElem hj)).2.2)
        · rw [if_neg hjk]; exact hz j hj
      have hsame : (if j < k + 1 then (if j = k then v else vs j) else zs j) = if j < k then vs j else zs j := by
        by_cases hjk : j < k
        · rw [if_pos hjk, if_pos (by omega), if_neg e]
        · rw [if_neg hjk, if_neg (by omega)]
      rw [hsame]
      intro i u hu
      have hi : i < F.n := by
        have := (List.getElem?_eq_some_iff.1 hu).1
        rwa [hlen] at this
      rw [storeRec_far g v _ _ _ (by
        rw [hv]
        rcases Nat.lt_or_gt_of_ne e with hlt | hgt
        · have : (j + 1) * F.n ≤ k * F.n := Nat.mul_le_mul_right _ (by omega)
          rw [Nat.succ_mul] at this
          exact .inl (by omega)
        · have : (k + 1) * F.n ≤ j * F.n := Nat.mul_le_mul_right _ (by omega)
          rw [Nat.succ_mul] at this
          exact .inr (by omega))]
      exact h1 i u hu
  · by_cases e : j = k
    · subst e
      have e2 : a = b := Option.some.inj (ha.symm.trans hb)
      subst e2
      simp only [if_true]
      exact ⟨hg, by rw [hon.size]; exact Nat.le_refl _, F.own_same ho (.only hon (.inr (by omega)))⟩
    · simp only [if_neg e]
      have h1 := h.own j b (by omega) hb
      exact ⟨h1.1, by rw [hon.size]; exact h1.2.1, F.own_same h1.2.2 (.only hon (.inr (by omega)))⟩
  · have ei : ¬ i = k := by omega
    by_cases e : j = k
    · subst e
      simp only [if_true, if_neg ei]
      exact hH i (by omega)
    · simp only [if_neg ei, if_neg e]
      exact h.part i j hij (by omega)
theorem LaidV.done {lo B : Nat} (h : LaidV F g zs l wr l.length vs L H) (hl : l.length ≤ maxLen) (hlo : lo ≤ g) (hB : wr.heap.size ≤ B) : ROwn F wr lo B (some ⟨g, 0, none⟩) l := ⟨hl, fun _ => ⟨g, 0, rfl, vs, L, H, hlo, by have := h.lt; omega, h.free,
  fun j hj => by have := h.own j _ hj (List.getElem?_eq_getElem hj); omega,
  fun i j hi hj hne => by
    rcases Nat.lt_or_gt_of_ne hne with hlt | hgt
    · exact .inl (h.part i j hlt hj)
    · exact .inr (h.part j i hgt hi),
  fun j hj => by
    have := h.cell j hj
    rw [if_pos hj] at this
    rwa [Nat.zero_add],
  fun j a ha => (h.own j a (get_lt ha) ha).2.2⟩⟩
theorem LaidV.top (h : LaidV F g zs l wr k vs L H) (hk : k ≤ l.length) : ∀ j, j < k → H j ≤ wr.heap.size := fun j hj => (h.own j _ hj (List.getElem?_eq_getElem (by omega))).2.1
end
end Go.Proofs.YtkpkjcmoldkmmaaGreat

namespace Go.Proofs.YtkpkjcmoldkmmaaGreat
open Go.RowKit

theorem infoC_Act : (Tryz.prog.info? 174).map (fun i => (i.zero, i.size, i.bytes)) = some (some (.agg #[.int .i64 0, .int .i64 0, .int .i64 0]), 3, 24) := by kernel_rfl
theorem one_Act {w : World} {B : Nat} : ∀ a vs, fAct.At w B a vs → ∀ u ∈ vs, u.oneCell' = true := fun a vs h => by have := at_Act h; subst this; simp [Value.oneCell']
theorem infoC_ActS : (Tryz.prog.info? 111).map (fun i => (i.zero, i.size, i.bytes)) = some (some (.slice none 0 0), 1, 24) := by kernel_rfl
theorem one_ActS {w : World} {B : Nat} : ∀ a vs, (rowF fAct).At w B a vs → ∀ u ∈ vs, u.oneCell' = true := fun a vs h => by obtain ⟨A, cap, rfl, _⟩ := h; simp [Value.oneCell']
theorem infoC_Int : (Tryz.prog.info? 3).map (fun i => (i.zero, i.size, i.bytes)) = some (some (.int .i64 0), 1, 8) := by kernel_rfl
theorem one_Int {w : World} {B : Nat} : ∀ a vs, intF.At w B a vs → ∀ u ∈ vs, u.oneCell' = true := fun a vs h => by cases h; simp [Value.oneCell']
set_option maxHeartbeats 800000 in
set_option maxRecDepth 100000 in
theorem clone_Int (A : Option Addr) (c B : Nat) (l : List (Int)) (w : World) (hn : l.length ≤ 1048576) (r : RAt intF w B A l) (hB : B ≤ w.heap.size) :
    Calls Tryz.prog 123 #[.slice A l.length c] w fun e w' => ∃ A' c', e = .returned (.slice A' l.length c') ∧ Below w.heap.size w w' ∧ Shal intF w B w' A' l := by
  cases A with
  | none =>
    have h0 : l.length = 0 := by
      rcases Nat.eq_zero_or_pos l.length with h | h
      · exact h
      · obtain ⟨b, off, e, _⟩ := r.2 h
        cases e
    have hnil := fun w => Lib.run_eql_slice_nil (P := Tryz.prog) w 28 3 none 0 c 0 0 Tryz.underlying28
    rw [h0]
    go_enter Tryz.func123, Tryz.ntmps123
    go_wp2
    go_ret
    exact ⟨none, 0, rfl, Below.refl _ _, fun h => absurd h (by omega)⟩
  | some ad =>
    obtain ⟨i0, hi, hzz⟩ := Option.map_eq_some_iff.1 infoC_Int
    injection hzz with hz0 hz12
    injection hz12 with hz1 hz2
    have hown := World.ownsRow_made (base := w.heap.size) (size := 1) (e := 3) w #[] 0 (Nat.le_refl _) (Nat.zero_le _) rfl
    have hb0 := (Below.refl w.heap.size w).alloc (Nat.le_refl _) (.cells #[] 3)
    obtain ⟨vs, hl, hc, ho, ha⟩ := src_cells (r.keep hb0 hB) one_Int
    have HC := Lib.hid hc
    have HL := Lib.hid hl
    have HO := Lib.hid ho
    have HA := Lib.hid (show ∀ j a, l[j]? = some a → (vs j).length = intF.n ∧ intF.At w B a (vs j) from fun j a hj => ⟨(ha j a hj).1, intF.at_same (ha j a hj).2 (fun k hk => (hb0.block k (by omega)).symm)⟩)
    have Hi := Lib.hid hi
    have Hz0 := Lib.hid hz0
    have Hz1 := Lib.hid hz1
    have Hz2 := Lib.hid hz2
    have HW := Lib.hid hown
    have HR := Lib.hid r
    have hnil := fun w => Lib.run_eql_slice_nil (P := Tryz.prog) w 28 3 (some ad) l.length c 0 0 Tryz.underlying28
    clear hi hz0 hz1 hz2 hown hc hl ho ha r
    go_enter Tryz.func123, Tryz.ntmps123
    go_wp2_with (at_builtin; refine wpList_append_own _ rfl _ _ 28 rfl w.heap.size 3 i0 (.int .i64 0) 1 8 Tryz.underlying28 Hi.out Hz0.out Hz1.out Hz2.out rfl (by decide) _ _ _ rfl HW.out ad l.length c (catC vs l.length) rfl HL.out HC.out HO.out ?c3 ?c4 ?c5 ?_)
    case c3 => unfold maxLen; omega
    case c4 => omega
    case c5 => simp
    intro v' w3 hown' hgrow _
    have hb3 := hb0.grown hgrow (by simp) (fun p hp => (HW.out.lt p hp).1)
    have HOW := Lib.hid (show w3.ownsRow w.heap.size 3 intF.n v' l.length (catC vs l.length) by rw [show intF.n = 1 from rfl]; simpa using hown')
    clear hown' hgrow
    go_wp2
    go_ret
    obtain ⟨A', c', rfl, hS⟩ := Shal.of_row (F := intF) (B := B) HOW.out HA.out
    exact ⟨A', c', rfl, hb3, hS⟩
theorem infoC_Put : (Tryz.prog.info? 75).map (fun i => (i.zero, i.size, i.bytes)) = some (some (.agg #[.int .i64 0, .int .i64 0]), 2, 16) := by kernel_rfl
theorem one_Put {w : World} {B : Nat} : ∀ a vs, fPut.At w B a vs → ∀ u ∈ vs, u.oneCell' = true := fun a vs h => by have := at_Put h; subst this; simp [Value.oneCell']
theorem infoC_Commit : (Tryz.prog.info? 115).map (fun i => (i.zero, i.size, i.bytes)) = some (some (.agg #[.int .i64 0, .int .i64 0, .int .i64 0, .int .i64 0, .slice none 0 0, .slice none 0 0]), 6, 80) := by kernel_rfl
theorem one_Commit {w : World} {B : Nat} : ∀ a vs, fCommit.At w B a vs → ∀ u ∈ vs, u.oneCell' = true := fun a vs h => by obtain ⟨A4, c4, A5, c5, rfl, _⟩ := at_Commit h; simp [Value.oneCell']
set_option maxHeartbeats 800000 in
set_option maxRecDepth 100000 in
theorem clone_Commit (A : Option Addr) (c B : Nat) (l : List (DCommit)) (w : World) (hn : l.length ≤ 1048576) (r : RAt fCommit w B A l) (hB : B ≤ w.heap.size) :
    Calls Tryz.prog 119 #[.slice A l.length c] w fun e w' => ∃ A' c', e = .returned (.slice A' l.length c') ∧ Below w.heap.size w w' ∧ Shal fCommit w B w' A' l := by
  cases A with
  | none =>
    have h0 : l.length = 0 := by
      rcases Nat.eq_zero_or_pos l.length with h | h
      · exact h
      · obtain ⟨b, off, e, _⟩ := r.2 h
        cases e
    have hnil := fun w => Lib.run_eql_slice_nil (P := Tryz.prog) w 39 115 none 0 c 0 0 Tryz.underlying39
    rw [h0]
    go_enter Tryz.func119, Tryz.ntmps119
    go_wp2
    go_ret
    exact ⟨none, 0, rfl, Below.refl _ _, fun h => absurd h (by omega)⟩
  | some ad =>
    obtain ⟨i0, hi, hzz⟩ := Option.map_eq_some_iff.1 infoC_Commit
    injection hzz with hz0 hz12
    injection hz12 with hz1 hz2
    have hown := World.ownsRow_made (base := w.heap.size) (size := 6) (e := 115) w #[] 0 (Nat.le_refl _) (Nat.zero_le _) rfl
    have hb0 := (Below.refl w.heap.size w).alloc (Nat.le_refl _) (.cells #[] 115)
    obtain ⟨vs, hl, hc, ho, ha⟩ := src_cells (r.keep hb0 hB) one_Commit
    have HC := Lib.hid hc
    have HL := Lib.hid hl
    have HO := Lib.hid ho
    have HA := Lib.hid (show ∀ j a, l[j]? = some a → (vs j).length = fCommit.n ∧ fCommit.At w B a (vs j) from fun j a hj => ⟨(ha j a hj).1, fCommit.at_same (ha j a hj).2 (fun k hk => (hb0.block k (by omega)).symm)⟩)
    have Hi := Lib.hid hi
    have Hz0 := Lib.hid hz0
    have Hz1 := Lib.hid hz1
    have Hz2 := Lib.hid hz2
    have HW := Lib.hid hown
    have HR := Lib.hid r
    have hnil := fun w => Lib.run_eql_slice_nil (P := Tryz.prog) w 39 115 (some ad) l.length c 0 0 Tryz.underlying39
    clear hi hz0 hz1 hz2 hown hc hl ho ha r
    go_enter Tryz.func119, Tryz.ntmps119
    go_wp2_with (at_builtin; refine wpList_append_own _ rfl _ _ 39 rfl w.heap.size 115 i0 (.agg #[.int .i64 0, .int .i64 0, .int .i64 0, .int .i64 0, .slice none 0 0, .slice none 0 0]) 6 80 Tryz.underlying39 Hi.out Hz0.out Hz1.out Hz2.out rfl (by decide) _ _ _ rfl HW.out ad l.length c (catC vs l.length) rfl HL.out HC.out HO.out ?c3 ?c4 ?c5 ?_)
    case c3 => unfold maxLen; omega
    case c4 => omega
    case c5 => simp
    intro v' w3 hown' hgrow _
    have hb3 := hb0.grown hgrow (by simp) (fun p hp => (HW.out.lt p hp).1)
    have HOW := Lib.hid (show w3.ownsRow w.heap.size 115 fCommit.n v' l.length (catC vs l.length) by rw [show fCommit.n = 6 from rfl]; simpa using hown')
    clear hown' hgrow
    go_wp2
    go_ret
    obtain ⟨A', c', rfl, hS⟩ := Shal.of_row (F := fCommit) (B := B) HOW.out HA.out
    exact ⟨A', c', rfl, hb3, hS⟩
end Go.Proofs.YtkpkjcmoldkmmaaGreat

namespace Go.Proofs.YtkpkjcmoldkmmaaGreat
open Go.RowKit

theorem run_app_nil {P : Program} {w : World} {base : Nat} {t ty e : TypeId} {i : TypeInfo} {size : Nat} (ht : P.underlying t = some (.slice e)) (hi : P.info? e = some i)
    (v : Value) (n : Nat) (xs : List Value) (c : Nat) (hown : w.ownsRow base e size v n xs) :
    (Builtin.append_ #[t, t] ty #[v, .slice none 0 c]).run P w = .ok v w := by
  rcases hown.2 with ⟨rfl, rfl⟩ | ⟨g, cap, cur, rfl, _, _, hnc, _⟩
  · simp [Builtin.append_, run_underlying ht, sizeOf, typeInfo, hi, Builtin.lenOf, Builtin.firstCells]
  · simp [Builtin.append_, run_underlying ht, sizeOf, typeInfo, hi, Builtin.lenOf, Builtin.firstCells, hnc, storeCells]
theorem grownBy_self (w : World) (r : Option Nat) : w.grownBy w r := ⟨rfl, rfl, rfl, Nat.le_refl _, fun _ _ _ => rfl⟩
/-- append of a whole row, nil or not, onto a row of the call's own -/
theorem wpList_appX {P : Program} {w : World} {ops : Array Oper} {rest : List Oper} {o : Oper} {a : Act} {Q : Exit → Act → World → Prop} (hgd : o.guard = none) (s x : Operand) (t : TypeId)
    (ho : o.op = .call { callee := .builtin .append, args := #[s, x], argTypes := #[t, t] })
    (base : Nat) (e : TypeId) (i : TypeInfo) (z : Value) (size bytes : Nat) (ht : P.underlying t = some (.slice e)) (hi : P.info? e = some i) (hz : i.zero = some z)
    (hsize : i.size = size) (hby : i.bytes = bytes) (hzs : z.cells.size = size) (hsz : 0 < size)
    (v : Value) (n : Nat) (xs : List Value) (hs : a.eval s = v) (hown : w.ownsRow base e size v n xs)
    (A : Option Addr) (m c : Nat) (news : List Value) (hx : a.eval x = .slice A m c) (hl : news.length = m * size) (h0 : A = Option.none → m = 0) (hnews : ∀ ad, A = some ad → ∀ j u, news[j]? = some u → w.cell? (ad.add j) = some u) (h1 : ∀ u ∈ news, u.oneCell' = true)
    (h63 : n + m ≤ maxLen) (hbytes : (n + m) * bytes ≤ 140737488355328) (hbase : base ≤ w.heap.size)
    (h : ∀ v' w', w'.ownsRow base e size v' (n + m) (xs ++ news) → w.grownBy w' v.ownBlock → wpList P ops Q rest (a.put o.dst v') w') : wpList P ops Q (o :: rest) a w := by
  cases A with
  | none =>
    have hm := h0 rfl
    subst hm
    have hn : news = [] := List.eq_nil_of_length_eq_zero (by omega)
    subst hn
    exact Lib.wpList_append_run w hgd s x t t ho v _ hs hx v w (run_app_nil ht hi v n xs c hown) (h v w (by simpa using hown) (grownBy_self _ _))
  | some ad => exact wpList_append_own w hgd s x t ho base e i z size bytes ht hi hz hsize hby hzs hsz v n xs hs hown ad m c news hx hl (hnews ad rfl) h1 h63 hbytes hbase (fun v' w' h2 h3 _ => h v' w' h2 h3)
theorem src_any {α : Type} {F : Fm α} {w : World} {B : Nat} {l : List α} {A : Option Addr} (r : RAt F w B A l) (one : ∀ a vs, F.At w B a vs → ∀ u ∈ vs, u.oneCell' = true) :
    ∃ vs : Nat → List Value, (catC vs l.length).length = l.length * F.n ∧ (A = none → l.length = 0) ∧ (∀ ad, A = some ad → ∀ j u, (catC vs l.length)[j]? = some u → w.cell? (ad.add j) = some u) ∧ (∀ u ∈ catC vs l.length, u.oneCell' = true) ∧ ∀ j a, l[j]? = some a → (vs j).length = F.n ∧ F.At w B a (vs j) := by
  cases A with
  | none =>
    have h0 : l.length = 0 := by
      rcases Nat.eq_zero_or_pos l.length with h | h
      · exact h
      · obtain ⟨b, off, e, _⟩ := r.2 h
        cases e
    refine ⟨fun _ => [], by rw [h0]; simp [catC], fun _ => h0, fun ad e => by (cases e), fun u hu => ?_, fun j a hj => ?_⟩
    · rw [h0] at hu; simp [catC] at hu
    · have := get_lt hj; omega
  | some ad =>
    obtain ⟨vs, h1, h2, h3, h4⟩ := src_cells r one
    exact ⟨vs, h1, fun e => by (cases e), fun ad' e => by injection e with e; subst e; exact h2, h3, h4⟩
def joinV (n : Nat) (us vs : Nat → List Value) (j : Nat) : List Value := if j < n then us j else vs (j - n)
theorem catC_join (n : Nat) (us vs : Nat → List Value) : ∀ m, catC (joinV n us vs) (n + m) = catC us n ++ catC vs m
  | 0 => by
    rw [Nat.add_zero, catC_congr (us := us) (fun j hj => show joinV n us vs j = us j from if_pos hj)]
    simp [catC]
  | m + 1 => by
    rw [← Nat.add_assoc, catC, catC_join n us vs m, catC, List.append_assoc]
    congr 2
    unfold joinV
    rw [if_neg (by omega), Nat.add_sub_cancel_left]
/-- a new row, and it has room for what it holds -/
def RetFC {α : Type} (F : Fm α) (w : World) (l : List α) (e : Ending) (w' : World) : Prop := ∃ A c, e = .returned (.slice A l.length c) ∧ l.length ≤ c ∧ Below w.heap.size w w' ∧ ROwn F w' w.heap.size w'.heap.size A l
theorem owns_cap {w : World} {base size n m c : Nat} {e : TypeId} {A : Option Addr} {xs : List Value} (h : w.ownsRow base e size (.slice A n c) m xs) : n ≤ c := by
  rcases h.2 with ⟨hv, hn⟩ | ⟨g, cap, cur, hv, _, _, hm, _⟩
  · injection hv; omega
  · injection hv; omega
theorem add_block (a : Addr) (j : Nat) : (a.add j).block = a.block := by unfold Addr.add; split <;> rfl
theorem row_lt {α : Type} {F : Fm α} {w : World} {B : Nat} {A : Option Addr} {l : List α} {ad : Addr} (r : RAt F w B A l) (e : A = some ad) (h : 0 < l.length) : ad.block < B := by
  obtain ⟨b, off, e2, hb, _⟩ := r.2 h
  rw [e2] at e
  injection e with e
  subst e
  exact hb
theorem infoC_Hold : (Tryz.prog.info? 144).map (fun i => (i.zero, i.size, i.bytes)) = some (some (.agg #[.int .i64 0, .bool false]), 2, 16) := by kernel_rfl
theorem one_Hold {w : World} {B : Nat} : ∀ a vs, fHold.At w B a vs → ∀ u ∈ vs, u.oneCell' = true := fun a vs h => by have := at_Hold h; subst this; simp [Value.oneCell']
theorem flat_Hold {w w' : World} {B : Nat} : ∀ a vs, fHold.At w B a vs → fHold.Own w' w'.heap.size w'.heap.size a vs := fun a vs h => by
  have := at_Hold h
  subst this
  exact own_Hold (Nat.le_refl _) a
theorem flat_Int {w w' : World} {B : Nat} : ∀ a vs, intF.At w B a vs → intF.Own w' w'.heap.size w'.heap.size a vs := fun _ _ h => h
set_option maxHeartbeats 800000 in
set_option maxRecDepth 100000 in
theorem grow_Int (n : Nat) (w : World) (hn : n ≤ 1000) :
    Calls Tryz.prog 90 #[.slice none 0 0, .int .i64 n] w fun e w' => ∃ v, e = .returned v ∧ w'.ownsRow w.heap.size 3 1 v 0 [] ∧ Below w.heap.size w w' := by
  obtain ⟨i0, hi, hzz⟩ := Option.map_eq_some_iff.1 infoC_Int
  injection hzz with hz0 hz12
  injection hz12 with hz1 hz2
  rcases Nat.eq_zero_or_pos n with rfl | hpos
  · clear hi hz0 hz1 hz2
    go_enter Tryz.func90, Tryz.ntmps90
    go_wp2
    go_ret
    exact ⟨_, rfl, World.ownsRow_nil _ _ _ _, Below.refl _ _⟩
  · have hnz : (0 : Int) < n := by omega
    have happ := fun ty => Lib.run_append_nil_zeros (P := Tryz.prog) w 28 3 ty 3 i0 (.int .i64 0) .i64 .i64 Tryz.underlying28 Tryz.underlying3 hi hz0 n hpos (by omega) (by omega) (by rw [hz2]; omega)
    have hcs : (Builtin.zeroCells (.int .i64 0 : Value).cells n ++ Builtin.zeroCells (.int .i64 0 : Value).cells (grownCap w n 0 3 - n)).size = grownCap w n 0 3 * 1 := by
      have hge := grownCap_ge w n 0 3
      rw [Array.size_append]
      simp only [Builtin.zeroCells]
      have : (.int .i64 0 : Value).cells.size = 1 := rfl
      simp [this]
      omega
    have hml := grownCap_le_maxLen w n 0 3 (by unfold maxLen; omega)
    have hge := grownCap_ge w n 0 3
    have hown := World.ownsRow_made (base := w.heap.size) (size := 1) (e := 3) w.drew (Builtin.zeroCells (.int .i64 0 : Value).cells n ++ Builtin.zeroCells (.int .i64 0 : Value).cells (grownCap w n 0 3 - n)) (grownCap w n 0 3) (Nat.le_refl _) hml hcs
    have hb := ((Below.refl w.heap.size w).drew).alloc (Nat.le_refl _) (.cells (Builtin.zeroCells (.int .i64 0 : Value).cells n ++ Builtin.zeroCells (.int .i64 0 : Value).cells (grownCap w n 0 3 - n)) 3)
    have HO := Lib.hid hown
    have HB := Lib.hid hb
    clear hi hz0 hz1 hz2 hcs hml hown hb
    generalize grownCap w n 0 3 = cp at happ HO HB hge
    go_enter Tryz.func90, Tryz.ntmps90
    go_wp2_with (at_builtin; refine Lib.wpList_append_run _ rfl _ _ _ _ rfl _ _ rfl rfl _ _ (happ _) ?_)
    clear happ
    go_wp2
    go_ret
    exact ⟨_, rfl, HO.out, HB.out⟩
set_option maxHeartbeats 800000 in
set_option maxRecDepth 100000 in
theorem grow_Hold (n : Nat) (w : World) (hn : n ≤ 1000) :
    Calls Tryz.prog 146 #[.slice none 0 0, .int .i64 n] w fun e w' => ∃ v, e = .returned v ∧ w'.ownsRow w.heap.size 144 2 v 0 [] ∧ Below w.heap.size w w' := by
  obtain ⟨i0, hi, hzz⟩ := Option.map_eq_some_iff.1 infoC_Hold
  injection hzz with hz0 hz12
  injection hz12 with hz1 hz2
  rcases Nat.eq_zero_or_pos n with rfl | hpos
  · clear hi hz0 hz1 hz2
    go_enter Tryz.func146, Tryz.ntmps146
    go_wp2
    go_ret
    exact ⟨_, rfl, World.ownsRow_nil _ _ _ _, Below.refl _ _⟩
  · have hnz : (0 : Int) < n := by omega
    have happ := fun ty => Lib.run_append_nil_zeros (P := Tryz.prog) w 63 3 ty 144 i0 (.agg #[.int .i64 0, .bool false]) .i64 .i64 Tryz.underlying63 Tryz.underlying3 hi hz0 n hpos (by omega) (by omega) (by rw [hz2]; omega)
    have hcs : (Builtin.zeroCells (.agg #[.int .i64 0, .bool false] : Value).cells n ++ Builtin.zeroCells (.agg #[.int .i64 0, .bool false] : Value).cells (grownCap w n 0 144 - n)).size = grownCap w n 0 144 * 2 := by
      have hge := grownCap_ge w n 0 144
      rw [Array.size_append]
      simp only [Builtin.zeroCells]
      have : (.agg #[.int .i64 0, .bool false] : Value).cells.size = 2 := rfl
      simp [this]
      omega
    have hml := grownCap_le_maxLen w n 0 144 (by unfold maxLen; omega)
    have hge := grownCap_ge w n 0 144
    have hown := World.ownsRow_made (base := w.heap.size) (size := 2) (e := 144) w.drew (Builtin.zeroCells (.agg #[.int .i64 0, .bool false] : Value).cells n ++ Builtin.zeroCells (.agg #[.int .i64 0, .bool false] : Value).cells (grownCap w n 0 144 - n)) (grownCap w n 0 144) (Nat.le_refl _) hml hcs
    have hb := ((Below.refl w.heap.size w).drew).alloc (Nat.le_refl _) (.cells (Builtin.zeroCells (.agg #[.int .i64 0, .bool false] : Value).cells n ++ Builtin.zeroCells (.agg #[.int .i64 0, .bool false] : Value).cells (grownCap w n 0 144 - n)) 144)
    have HO := Lib.hid hown
    have HB := Lib.hid hb
    clear hi hz0 hz1 hz2 hcs hml hown hb
    generalize grownCap w n 0 144 = cp at happ HO HB hge
    go_enter Tryz.func146, Tryz.ntmps146
    go_wp2_with (at_builtin; refine Lib.wpList_append_run _ rfl _ _ _ _ rfl _ _ rfl rfl _ _ (happ _) ?_)
    clear happ
    go_wp2
    go_ret
    exact ⟨_, rfl, HO.out, HB.out⟩
set_option maxHeartbeats 1600000 in
set_option maxRecDepth 100000 in
theorem concat_Int (A1 A2 : Option Addr) (c1 c2 g B : Nat) (l1 l2 : List Int) (w : World) (h1 : l1.length ≤ 100) (h2 : l2.length ≤ 100) (hB : B ≤ w.heap.size) (hg : g < w.heap.size)
    (p0 : w.cell? ⟨g, 0, none⟩ = some (.slice A1 l1.length c1)) (p1 : w.cell? ⟨g, 1, none⟩ = some (.slice A2 l2.length c2)) (r1 : RAt intF w B A1 l1) (r2 : RAt intF w B A2 l2) :
    Calls Tryz.prog 45 #[.slice (some ⟨g, 0, none⟩) 2 2] w (RetFC intF w (l1 ++ l2)) := by
  obtain ⟨i0, hi, hzz⟩ := Option.map_eq_some_iff.1 infoC_Int
  injection hzz with hz0 hz12
  injection hz12 with hz1 hz2
  have Hi := Lib.hid hi
  have Hz0 := Lib.hid hz0
  have Hz1 := Lib.hid hz1
  have Hz2 := Lib.hid hz2
  clear hi hz0 hz1 hz2
  obtain ⟨us, u1, u2, u3, u4, u5⟩ := src_any r1 one_Int
  obtain ⟨vs, v1, v2, v3, v4, v5⟩ := src_any r2 one_Int
  rw [show intF.n = 1 from rfl] at u1 v1
  have H1 := Lib.hid (show (catC us l1.length).length = l1.length * 1 ∧ (A1 = none → l1.length = 0) ∧ ∀ u ∈ catC us l1.length, u.oneCell' = true from ⟨u1, u2, u4⟩)
  have H2 := Lib.hid (show (catC vs l2.length).length = l2.length * 1 ∧ (A2 = none → l2.length = 0) ∧ ∀ u ∈ catC vs l2.length, u.oneCell' = true from ⟨v1, v2, v4⟩)
  have S1 := Lib.hid (show ∀ ad, A1 = some ad → ∀ j u, (catC us l1.length)[j]? = some u → w.cell? (ad.add j) = some u from u3)
  have S2 := Lib.hid (show ∀ ad, A2 = some ad → ∀ j u, (catC vs l2.length)[j]? = some u → w.cell? (ad.add j) = some u from v3)
  have U5 := Lib.hid u5
  have V5 := Lib.hid v5
  have hJ := catC_join l1.length us vs l2.length
  have HJ := Lib.hid hJ
  clear u1 u2 u3 u4 u5 v1 v2 v3 v4 v5 hJ
  generalize hn1 : l1.length = n1 at *
  generalize hn2 : l2.length = n2 at *
  have HN1 := Lib.hid hn1
  have HN2 := Lib.hid hn2
  clear hn1 hn2
  go_enter Tryz.func45, Tryz.ntmps45
  go_wp2
  go_loop [3, 11] (fun s i => (i = .int .i64 0 ∧ s = .int .i64 0) ∨ (i = .int .i64 1 ∧ s = .int .i64 n1) ∨ (i = .int .i64 2 ∧ s = .int .i64 ((n1 + n2 : Nat) : Int))) (fun _ i => 2 - (intOf i).toNat)
  case atStart => exact .inl ⟨rfl, rfl⟩
  case round =>
    rcases hrel with ⟨rfl, rfl⟩ | ⟨rfl, rfl⟩ | ⟨rfl, rfl⟩
    · have hnn : ¬ ((n1 : Int) < 0) := by omega
      go_wp2
      exact ⟨.inr (.inl ⟨rfl, rfl⟩), by simp [intOf]⟩
    · have hnn : ¬ ((n1 : Int) + (n2 : Int) < 0) := by omega
      go_wp2
      exact ⟨.inr (.inr ⟨rfl, by go_num⟩), by simp [intOf]⟩
    · go_wp2_with fail
      refine (grow_Int (n1 + n2) w (by omega)).mono ?_; rintro e w2 ⟨v, rfl, hown, b2⟩
      go_wp2_with fail
      go_loopw [6, 27] (fun v i wr => (i = .int .i64 0 ∧ wr.ownsRow w.heap.size 3 1 v 0 [] ∧ Below w.heap.size w wr) ∨ (i = .int .i64 1 ∧ wr.ownsRow w.heap.size 3 1 v n1 (catC us n1) ∧ Below w.heap.size w wr) ∨ (i = .int .i64 2 ∧ wr.ownsRow w.heap.size 3 1 v (n1 + n2) (catC us n1 ++ catC vs n2) ∧ Below w.heap.size w wr)) (fun _ i _ => 2 - (intOf i).toNat)
      case atStart => exact .inl ⟨rfl, hown, b2⟩
      case round =>
        clear hown b2
        rcases hrel with ⟨rfl, hown, b⟩ | ⟨rfl, hown, b⟩ | ⟨rfl, hown, b⟩
        · have p0 := (b.cell (p := ⟨g, 0, none⟩) hg).trans p0
          have hsz := b.size
          have hnews : ∀ ad, A1 = some ad → ∀ j u, (catC us n1)[j]? = some u → wr.cell? (ad.add j) = some u := fun ad e j u hu => by
            have hj := (List.getElem?_eq_some_iff.1 hu).1
            have hlt := row_lt r1 e (by rw [HN1.out]; have := H1.out.1; omega)
            exact (b.cell (p := ad.add j) (by rw [add_block]; omega)).trans (S1.out ad e j u hu)
          have HNW := Lib.hid hnews
          clear hnews
          go_wp2_with (at_builtin; refine wpList_appX rfl _ _ 28 rfl w.heap.size 3 i0 (.int .i64 0) 1 8 Tryz.underlying28 Hi.out Hz0.out Hz1.out Hz2.out rfl (by decide) _ _ _ rfl hown A1 n1 c1 (catC us n1) rfl H1.out.1 H1.out.2.1 HNW.out H1.out.2.2 ?c1 ?c2 ?c3 ?_)
          case c1 => unfold maxLen; omega
          case c2 => omega
          case c3 => exact hsz
          intro v' w3 hown' hgrow
          have b3 := b.grown hgrow hsz (fun q hq => (hown.lt q hq).1)
          have HO := Lib.hid (show w3.ownsRow w.heap.size 3 1 v' n1 (catC us n1) by simpa using hown')
          clear hown' hgrow hown b HNW
          go_wp2
          exact ⟨.inr (.inl ⟨rfl, HO.out, b3⟩), by simp [intOf]⟩
        · have p1 := (b.cell (p := ⟨g, 1, none⟩) hg).trans p1
          have hsz := b.size
          have hnews : ∀ ad, A2 = some ad → ∀ j u, (catC vs n2)[j]? = some u → wr.cell? (ad.add j) = some u := fun ad e j u hu => by
            have hj := (List.getElem?_eq_some_iff.1 hu).1
            have hlt := row_lt r2 e (by rw [HN2.out]; have := H2.out.1; omega)
            exact (b.cell (p := ad.add j) (by rw [add_block]; omega)).trans (S2.out ad e j u hu)
          have HNW := Lib.hid hnews
          clear hnews
          go_wp2_with (at_builtin; refine wpList_appX rfl _ _ 28 rfl w.heap.size 3 i0 (.int .i64 0) 1 8 Tryz.underlying28 Hi.out Hz0.out Hz1.out Hz2.out rfl (by decide) _ _ _ rfl hown A2 n2 c2 (catC vs n2) rfl H2.out.1 H2.out.2.1 HNW.out H2.out.2.2 ?c1 ?c2 ?c3 ?_)
          case c1 => unfold maxLen; omega
          case c2 => omega
          case c3 => exact hsz
          intro v' w3 hown' hgrow
          have b3 := b.grown hgrow hsz (fun q hq => (hown.lt q hq).1)
          have HO := Lib.hid hown'
          clear hown' hgrow hown b HNW
          go_wp2
          exact ⟨.inr (.inr ⟨rfl, HO.out, b3⟩), by simp [intOf]⟩
        · have hl12 : (l1 ++ l2).length = n1 + n2 := by rw [List.length_append, HN1.out, HN2.out]
          have hO : wr.ownsRow w.heap.size 3 intF.n u6 (l1 ++ l2).length (catC (joinV n1 us vs) (l1 ++ l2).length) := by
            rw [hl12, HJ.out]
            exact hown
          have hO1 := hO
          obtain ⟨A', c', rfl, hS⟩ := Shal.of_row (F := intF) (B := B) hO (fun j a hj => by
            by_cases hjl : j < n1
            · rw [List.getElem?_append_left (by rw [HN1.out]; exact hjl)] at hj
              unfold joinV
              rw [if_pos hjl]
              exact U5.out j a hj
            · rw [List.getElem?_append_right (by rw [HN1.out]; omega), HN1.out] at hj
              unfold joinV
              rw [if_neg hjl]
              exact V5.out _ a hj)
          have HCAP := Lib.hid (owns_cap hO1)
          clear hO1
          have HS := Lib.hid (hS.own (by rw [hl12]; unfold maxLen; omega) flat_Int)
          have HL := Lib.hid hl12
          clear hown hO hS hl12
          go_wp2
          go_ret
          exact ⟨A', c', rfl, HCAP.out, b, HS.out⟩
set_option maxHeartbeats 1600000 in
set_option maxRecDepth 100000 in
theorem concat_Hold (A1 A2 : Option Addr) (c1 c2 g B : Nat) (l1 l2 : List DHold) (w : World) (h1 : l1.length ≤ 100) (h2 : l2.length ≤ 100) (hB : B ≤ w.heap.size) (hg : g < w.heap.size)
    (p0 : w.cell? ⟨g, 0, none⟩ = some (.slice A1 l1.length c1)) (p1 : w.cell? ⟨g, 1, none⟩ = some (.slice A2 l2.length c2)) (r1 : RAt fHold w B A1 l1) (r2 : RAt fHold w B A2 l2) :
    Calls Tryz.prog 92 #[.slice (some ⟨g, 0, none⟩) 2 2] w (RetFC fHold w (l1 ++ l2)) := by
  obtain ⟨i0, hi, hzz⟩ := Option.map_eq_some_iff.1 infoC_Hold
  injection hzz with hz0 hz12
  injection hz12 with hz1 hz2
  have Hi := Lib.hid hi
  have Hz0 := Lib.hid hz0
  have Hz1 := Lib.hid hz1
  have Hz2 := Lib.hid hz2
  clear hi hz0 hz1 hz2
  obtain ⟨us, u1, u2, u3, u4, u5⟩ := src_any r1 one_Hold
  obtain ⟨vs, v1, v2, v3, v4, v5⟩ := src_any r2 one_Hold
  rw [show fHold.n = 2 from rfl] at u1 v1
  have H1 := Lib.hid (show (catC us l1.length).length = l1.length * 2 ∧ (A1 = none → l1.length = 0) ∧ ∀ u ∈ catC us l1.length, u.oneCell' = true from ⟨u1, u2, u4⟩)
  have H2 := Lib.hid (show (catC vs l2.length).length = l2.length * 2 ∧ (A2 = none → l2.length = 0) ∧ ∀ u ∈ catC vs l2.length, u.oneCell' = true from ⟨v1, v2, v4⟩)
  have S1 := Lib.hid (show ∀ ad, A1 = some ad → ∀ j u, (catC us l1.length)[j]? = some u → w.cell? (ad.add j) = some u from u3)
  have S2 := Lib.hid (show ∀ ad, A2 = some ad → ∀ j u, (catC vs l2.length)[j]? = some u → w.cell? (ad.add j) = some u from v3)
  have U5 := Lib.hid u5
  have V5 := Lib.hid v5
  have hJ := catC_join l1.length us vs l2.length
  have HJ := Lib.hid hJ
  clear u1 u2 u3 u4 u5 v1 v2 v3 v4 v5 hJ
  generalize hn1 : l1.length = n1 at *
  generalize hn2 : l2.length = n2 at *
  have HN1 := Lib.hid hn1
  have HN2 := Lib.hid hn2
  clear hn1 hn2
  go_enter Tryz.func92, Tryz.ntmps92
  go_wp2
  go_loop [3, 11] (fun s i => (i = .int .i64 0 ∧ s = .int .i64 0) ∨ (i = .int .i64 1 ∧ s = .int .i64 n1) ∨ (i = .int .i64 2 ∧ s = .int .i64 ((n1 + n2 : Nat) : Int))) (fun _ i => 2 - (intOf i).toNat)
  case atStart => exact .inl ⟨rfl, rfl⟩
  case round =>
    rcases hrel with ⟨rfl, rfl⟩ | ⟨rfl, rfl⟩ | ⟨rfl, rfl⟩
    · have hnn : ¬ ((n1 : Int) < 0) := by omega
      go_wp2
      exact ⟨.inr (.inl ⟨rfl, rfl⟩), by simp [intOf]⟩
    · have hnn : ¬ ((n1 : Int) + (n2 : Int) < 0) := by omega
      go_wp2
      exact ⟨.inr (.inr ⟨rfl, by go_num⟩), by simp [intOf]⟩
    · go_wp2_with fail
      refine (grow_Hold (n1 + n2) w (by omega)).mono ?_; rintro e w2 ⟨v, rfl, hown, b2⟩
      go_wp2_with fail
      go_loopw [6, 27] (fun v i wr => (i = .int .i64 0 ∧ wr.ownsRow w.heap.size 144 2 v 0 [] ∧ Below w.heap.size w wr) ∨ (i = .int .i64 1 ∧ wr.ownsRow w.heap.size 144 2 v n1 (catC us n1) ∧ Below w.heap.size w wr) ∨ (i = .int .i64 2 ∧ wr.ownsRow w.heap.size 144 2 v (n1 + n2) (catC us n1 ++ catC vs n2) ∧ Below w.heap.size w wr)) (fun _ i _ => 2 - (intOf i).toNat)
      case atStart => exact .inl ⟨rfl, hown, b2⟩
      case round =>
        clear hown b2
        rcases hrel with ⟨rfl, hown, b⟩ | ⟨rfl, hown, b⟩ | ⟨rfl, hown, b⟩
        · have p0 := (b.cell (p := ⟨g, 0, none⟩) hg).trans p0
          have hsz := b.size
          have hnews : ∀ ad, A1 = some ad → ∀ j u, (catC us n1)[j]? = some u → wr.cell? (ad.add j) = some u := fun ad e j u hu => by
            have hj := (List.getElem?_eq_some_iff.1 hu).1
            have hlt := row_lt r1 e (by rw [HN1.out]; have := H1.out.1; omega)
            exact (b.cell (p := ad.add j) (by rw [add_block]; omega)).trans (S1.out ad e j u hu)
          have HNW := Lib.hid hnews
          clear hnews
          go_wp2_with (at_builtin; refine wpList_appX rfl _ _ 63 rfl w.heap.size 144 i0 (.agg #[.int .i64 0, .bool false]) 2 16 Tryz.underlying63 Hi.out Hz0.out Hz1.out Hz2.out rfl (by decide) _ _ _ rfl hown A1 n1 c1 (catC us n1) rfl H1.out.1 H1.out.2.1 HNW.out H1.out.2.2 ?c1 ?c2 ?c3 ?_)
          case c1 => unfold maxLen; omega
          case c2 => omega
          case c3 => exact hsz
          intro v' w3 hown' hgrow
          have b3 := b.grown hgrow hsz (fun q hq => (hown.lt q hq).1)
          have HO := Lib.hid (show w3.ownsRow w.heap.size 144 2 v' n1 (catC us n1) by simpa using hown')
          clear hown' hgrow hown b HNW
          go_wp2
          exact ⟨.inr (.inl ⟨rfl, HO.out, b3⟩), by simp [intOf]⟩
        · have p1 := (b.cell (p := ⟨g, 1, none⟩) hg).trans p1
          have hsz := b.size
          have hnews : ∀ ad, A2 = some ad → ∀ j u, (catC vs n2)[j]? = some u → wr.cell? (ad.add j) = some u := fun ad e j u hu => by
            have hj := (List.getElem?_eq_some_iff.1 hu).1
            have hlt := row_lt r2 e (by rw [HN2.out]; have := H2.out.1; omega)
            exact (b.cell (p := ad.add j) (by rw [add_block]; omega)).trans (S2.out ad e j u hu)
          have HNW := Lib.hid hnews
          clear hnews
          go_wp2_with (at_builtin; refine wpList_appX rfl _ _ 63 rfl w.heap.size 144 i0 (.agg #[.int .i64 0, .bool false]) 2 16 Tryz.underlying63 Hi.out Hz0.out Hz1.out Hz2.out rfl (by decide) _ _ _ rfl hown A2 n2 c2 (catC vs n2) rfl H2.out.1 H2.out.2.1 HNW.out H2.out.2.2 ?c1 ?c2 ?c3 ?_)
          case c1 => unfold maxLen; omega
          case c2 => omega
          case c3 => exact hsz
          intro v' w3 hown' hgrow
          have b3 := b.grown hgrow hsz (fun q hq => (hown.lt q hq).1)
          have HO := Lib.hid hown'
          clear hown' hgrow hown b HNW
          go_wp2
          exact ⟨.inr (.inr ⟨rfl, HO.out, b3⟩), by simp [intOf]⟩
        · have hl12 : (l1 ++ l2).length = n1 + n2 := by rw [List.length_append, HN1.out, HN2.out]
          have hO : wr.ownsRow w.heap.size 144 fHold.n u6 (l1 ++ l2).length (catC (joinV n1 us vs) (l1 ++ l2).length) := by
            rw [hl12, HJ.out]
            exact hown
          have hO1 := hO
          obtain ⟨A', c', rfl, hS⟩ := Shal.of_row (F := fHold) (B := B) hO (fun j a hj => by
            by_cases hjl : j < n1
            · rw [List.getElem?_append_left (by rw [HN1.out]; exact hjl)] at hj
              unfold joinV
              rw [if_pos hjl]
              exact U5.out j a hj
            · rw [List.getElem?_append_right (by rw [HN1.out]; omega), HN1.out] at hj
              unfold joinV
              rw [if_neg hjl]
              exact V5.out _ a hj)
          have HCAP := Lib.hid (owns_cap hO1)
          clear hO1
          have HS := Lib.hid (hS.own (by rw [hl12]; unfold maxLen; omega) flat_Hold)
          have HL := Lib.hid hl12
          clear hown hO hS hl12
          go_wp2
          go_ret
          exact ⟨A', c', rfl, HCAP.out, b, HS.out⟩
end Go.Proofs.YtkpkjcmoldkmmaaGreat

namespace Go.Proofs.YtkpkjcmoldkmmaaGreat
open Go.RowKit

theorem waitK_stand {T : TL} {tid : Int} (hT : tabOk T = true) (h : 0 ≤ waitK T tid) : ∃ k : Nat, waitK T tid = k ∧ k < T.length ∧ stands T tid k = 3 := by
  unfold waitK waitL at h ⊢
  rw [if_pos hT] at h ⊢
  cases hh : (keysUp (standB T [3] tid) T.length).head? with
  | none => rw [hh] at h; simp at h
  | some x =>
    have hm : x ∈ keysUp (standB T [3] tid) T.length := by
      cases hl : keysUp (standB T [3] tid) T.length with
      | nil => rw [hl] at hh; cases hh
      | cons y l =>
        rw [hl] at hh
        simp at hh
        subst hh
        exact List.mem_cons_self ..
    unfold keysUp at hm
    simp only [List.mem_map, List.mem_filter, List.mem_range] at hm
    obtain ⟨k, ⟨hk, hs⟩, e⟩ := hm
    refine ⟨k, by simpa using e.symm, hk, ?_⟩
    unfold standB at hs
    simpa using hs
theorem stands3 {hs ws : HL} {tid : Int} (hl : lockOk hs ws = true) (h : holdsL hs ws tid = 3) : tid ∈ ids ws ∧ ∀ x, x ∈ hs → ¬ x.1 = tid := by
  unfold holdsL at h
  rw [if_pos hl] at h
  unfold holdsAt at h
  cases hf : hs.find? (·.1 == tid) with
  | some x =>
    rw [hf] at h
    simp only at h
    split at h <;> omega
  | none =>
    rw [hf] at h
    simp only at h
    refine ⟨?_, fun x hx e => ?_⟩
    · by_cases hc : (ids ws).contains tid = true
      · simpa using hc
      · rw [if_neg hc] at h; omega
    · have := List.find?_eq_none.1 hf x hx
      simp [e] at this
theorem hT_app (a b : HL) (j : Nat) : hT (a ++ b) j = if j < a.length then hT a j else hT b (j - a.length) := by
  unfold hT
  split
  · rw [List.getD_eq_getElem?_getD, List.getD_eq_getElem?_getD, List.getElem?_append_left (by assumption)]
  · rw [List.getD_eq_getElem?_getD, List.getD_eq_getElem?_getD, List.getElem?_append_right (by omega)]
theorem hT_in {l : HL} {j : Nat} (h : j < l.length) : ∃ x, x ∈ l ∧ x.1 = hT l j := ⟨l[j], List.getElem_mem h, by unfold hT; rw [List.getD_eq_getElem?_getD, List.getElem?_eq_getElem h]; rfl⟩
/-- where a waiter stands in the line -/
theorem line_at {hs ws : HL} {tid : Int} (h1 : tid ∈ ids ws) (h2 : ∀ x, x ∈ hs → ¬ x.1 = tid) : ∃ q : Nat, q < ws.length ∧ hT ws q = tid ∧ NoT ws tid q ∧ idxT (hs ++ ws) tid = ((hs.length + q : Nat) : Int) := by
  rcases idxT_cases ws tid with ⟨q, hq, he, hn, _⟩ | ⟨hn, _⟩
  · refine ⟨q, hq, he, hn, idxT_hit (by rw [List.length_append]; omega) (by rw [hT_app, if_neg (by omega), Nat.add_sub_cancel_left]; exact he) (fun j hj => ?_)⟩
    rw [hT_app]
    split
    · rename_i hjl
      obtain ⟨x, hx, e⟩ := hT_in hjl
      rw [← e]
      exact h2 x hx
    · exact hn _ (by omega)
  · obtain ⟨x, hx, e⟩ := List.mem_map.1 h1
    obtain ⟨j, hj, hjx⟩ := List.getElem_of_mem hx
    refine absurd ?_ (hn j hj)
    unfold hT
    rw [List.getD_eq_getElem?_getD, List.getElem?_eq_getElem hj, hjx]
    exact e
/-- the line ahead of worker w at the lock that it waits for -/
def aheadOf (d : DEngine) (w : Nat) : HL :=
  if 0 ≤ waitK (toT d.2.1) ((w : Int) + 1) then
    ((cd (toT d.2.1) (waitK (toT d.2.1) ((w : Int) + 1)).toNat).hs ++ (cd (toT d.2.1) (waitK (toT d.2.1) ((w : Int) + 1)).toNat).ws).take (idxT ((cd (toT d.2.1) (waitK (toT d.2.1) ((w : Int) + 1)).toNat).hs ++ (cd (toT d.2.1) (waitK (toT d.2.1) ((w : Int) + 1)).toNat).ws) ((w : Int) + 1)).toNat
  else []
theorem ahead_no {d : DEngine} {w : Nat} (h : waitK (toT d.2.1) ((w : Int) + 1) < 0) : aheadOf d w = [] := by unfold aheadOf; rw [if_neg (by omega)]
theorem eng_tab {d : DEngine} (h : engOk d = true) : tabOk (toT d.2.1) = true := by
  simp only [engOk, engHead, Bool.and_eq_true] at h
  exact h.1.2.1
theorem ahead_yes {d : DEngine} {w : Nat} (hok : engOk d = true) (h : 0 ≤ waitK (toT d.2.1) ((w : Int) + 1)) : ∃ k q : Nat, waitK (toT d.2.1) ((w : Int) + 1) = k ∧ k < d.2.1.length ∧ lockOk (cd (toT d.2.1) k).hs (cd (toT d.2.1) k).ws = true ∧ q < (cd (toT d.2.1) k).ws.length ∧ hT (cd (toT d.2.1) k).ws q = (w : Int) + 1 ∧ NoT (cd (toT d.2.1) k).ws ((w : Int) + 1) q
    ∧ idxT ((cd (toT d.2.1) k).hs ++ (cd (toT d.2.1) k).ws) ((w : Int) + 1) = (((cd (toT d.2.1) k).hs.length + q : Nat) : Int) ∧ aheadOf d w = (cd (toT d.2.1) k).hs ++ (cd (toT d.2.1) k).ws.take q ∧ ∀ x, x ∈ (cd (toT d.2.1) k).hs → ¬ x.1 = (w : Int) + 1 := by
  have hT := eng_tab hok
  obtain ⟨k, hk, hkl, hst⟩ := waitK_stand hT h
  have hlo := tabOk_lockOk hT hkl
  obtain ⟨h1, h2⟩ := stands3 hlo hst
  obtain ⟨q, hq, he, hn, hi⟩ := line_at h1 h2
  rw [toT_len] at hkl
  refine ⟨k, q, hk, hkl, hlo, hq, he, hn, hi, ?_, h2⟩
  unfold aheadOf
  rw [if_pos h, hk, Int.toNat_natCast, hi, Int.toNat_natCast, List.take_append, List.take_of_length_le (by omega), Nat.add_sub_cancel_left]
theorem lock_ids {hs ws : HL} (h : lockOk hs ws = true) : (∀ t, t ∈ ids hs ++ ids ws → 1 ≤ t ∧ t ≤ 8) ∧ hs.length + ws.length ≤ 8 := by
  simp only [lockOk, Bool.and_eq_true] at h
  have hi := (idsOk_iff [] (ids hs ++ ids ws)).1 h.1.1
  have hb : ∀ t, t ∈ ids hs ++ ids ws → 1 ≤ t ∧ t ≤ 8 := fun t ht => by
    have := hi.1 t ht
    simpa only [tidB, inB, Bool.and_eq_true, decide_eq_true_eq] using this
  refine ⟨hb, ?_⟩
  have := ids_len 8 (ids hs ++ ids ws) hi.2.1 (fun t ht => by have := hb t ht; omega)
  rw [List.length_append, ids_len', ids_len'] at this
  exact this
theorem ahead_in {d : DEngine} {w : Nat} (hok : engOk d = true) : ∀ x, x ∈ aheadOf d w → 1 ≤ x.1 ∧ x.1 ≤ 8 ∧ ¬ x.1 = (w : Int) + 1 := fun x hx => by
  by_cases h : 0 ≤ waitK (toT d.2.1) ((w : Int) + 1)
  · obtain ⟨k, q, _, _, hlo, hq, he, hn, _, ha, h2⟩ := ahead_yes hok h
    rw [ha, List.mem_append] at hx
    have hb := (lock_ids hlo).1
    rcases hx with hx | hx
    · have h3 := hb x.1 (List.mem_append_left _ (List.mem_map.2 ⟨x, hx, rfl⟩))
      exact ⟨h3.1, h3.2, h2 x hx⟩
    · have h3 := hb x.1 (List.mem_append_right _ (List.mem_map.2 ⟨x, List.mem_of_mem_take hx, rfl⟩))
      refine ⟨h3.1, h3.2, ?_⟩
      obtain ⟨j, hj, hjx⟩ := List.getElem_of_mem hx
      rw [List.length_take] at hj
      rw [List.getElem_take] at hjx
      have := hn j (by omega)
      unfold hT at this
      rw [List.getD_eq_getElem?_getD, List.getElem?_eq_getElem (by omega), hjx] at this
      exact this
  · rw [ahead_no (by omega)] at hx
    cases hx
theorem ahead_len {d : DEngine} {w : Nat} (hok : engOk d = true) : (aheadOf d w).length ≤ 8 := by
  by_cases h : 0 ≤ waitK (toT d.2.1) ((w : Int) + 1)
  · obtain ⟨k, q, _, _, hlo, hq, _, _, _, ha, _⟩ := ahead_yes hok h
    have := (lock_ids hlo).2
    rw [ha, List.length_append, List.length_take]
    omega
  · rw [ahead_no (by omega)]
    simp
/-- the workers among those first k of a line -/
def tosL (n : Nat) (l : HL) (k : Nat) : List Int := ((l.take k).filter fun h => decide (h.1 ≤ (n : Int))).map fun h => h.1 - 1
theorem tos_zero {n : Nat} {l : HL} : tosL n l 0 = [] := by simp [tosL]
theorem tos_yes {n : Nat} {l : HL} {k : Nat} {h : Int × Bool} (hg : l[k]? = some h) (hh : h.1 ≤ (n : Int)) : tosL n l (k + 1) = tosL n l k ++ [h.1 - 1] := by
  unfold tosL
  rw [List.take_add_one, hg]
  simp [hh]
theorem tos_no {n : Nat} {l : HL} {k : Nat} {h : Int × Bool} (hg : l[k]? = some h) (hh : ¬ h.1 ≤ (n : Int)) : tosL n l (k + 1) = tosL n l k := by
  unfold tosL
  rw [List.take_add_one, hg]
  simp [hh]
theorem tos_len (n : Nat) (l : HL) (k : Nat) : (tosL n l k).length ≤ k := by
  unfold tosL
  rw [List.length_map]
  have h1 := List.length_filter_le (fun h : Int × Bool => decide (h.1 ≤ (n : Int))) (l.take k)
  have h2 := List.length_take_le k l
  omega
def lockL (d : DEngine) (w : Nat) : List Int := tosL d.2.2.1.length (aheadOf d w) (aheadOf d w).length
theorem lock_mem {d : DEngine} {w : Nat} {z : Int} : z ∈ lockL d w ↔ ∃ h, h ∈ aheadOf d w ∧ h.1 ≤ (d.2.2.1.length : Int) ∧ h.1 - 1 = z := by
  unfold lockL tosL
  rw [List.take_length]
  simp only [List.mem_map, List.mem_filter, decide_eq_true_eq]
  constructor
  · rintro ⟨h, ⟨h1, h2⟩, h3⟩
    exact ⟨h, h1, h2, h3⟩
  · rintro ⟨h, h1, h2, h3⟩
    exact ⟨h, ⟨h1, h2⟩, h3⟩
def gateOf (d : DEngine) (w : Nat) : List Int := match d.2.2.1[w]? with
  | some x => gateL d w x
  | none => []
theorem gate_some {d : DEngine} {w : Nat} {x : DWorker} (h : d.2.2.1[w]? = some x) : gateOf d w = gateL d w x := by unfold gateOf; rw [h]
/-- w waits for i -/
def waitB (d : DEngine) (w i : Nat) : Bool := !decide (i = w) && ((lockL d w).contains (i : Int) || (gateOf d w).contains (i : Int))
def waitsL (d : DEngine) : List (Int × Int) := if engOk d then pairsUp d.2.2.1.length (waitB d) else []
theorem waits_no {d : DEngine} (h : engOk d = false) : waitsL d = [] := by unfold waitsL; rw [h]; rfl
theorem waits_yes {d : DEngine} (h : engOk d = true) : waitsL d = pairsUp d.2.2.1.length (waitB d) := if_pos h
theorem eng_gate {d : DEngine} (h : engOk d = true) : -1 ≤ d.2.2.2.2.2.1 ∧ d.2.2.2.2.2.1 ≤ (d.2.2.1.length : Int) - 1 := by
  simp only [engOk, engHead, inB, Bool.and_eq_true, decide_eq_true_eq] at h
  omega
theorem eng_four {d : DEngine} (h : engOk d = true) : d.2.2.1.length ≤ 4 := by
  simp only [engOk, engHead, Bool.and_eq_true, decide_eq_true_eq] at h
  have := h.1.2.2.2.1
  omega
theorem keysUp_mem {M : Nat → Bool} {m : Nat} {z : Int} : z ∈ keysUp M m ↔ ∃ j, j < m ∧ M j = true ∧ (j : Int) = z := by
  unfold keysUp
  simp only [List.mem_map, List.mem_filter, List.mem_range]
  constructor
  · rintro ⟨j, ⟨h1, h2⟩, h3⟩
    exact ⟨j, h1, h2, h3⟩
  · rintro ⟨j, h1, h2, h3⟩
    exact ⟨j, ⟨h1, h2⟩, h3⟩
/-- whom the program lists, ahead of its sort -/
theorem lists_in {d : DEngine} {w : Nat} (hok : engOk d = true) (hw : w < d.2.2.1.length) : ∀ z, z ∈ lockL d w ++ gateOf d w → ∃ i : Nat, z = i ∧ i < d.2.2.1.length ∧ ¬ i = w := fun z hz => by
  rw [List.mem_append] at hz
  rcases hz with hz | hz
  · obtain ⟨h, h1, h2, h3⟩ := lock_mem.1 hz
    have h4 := ahead_in hok h h1
    obtain ⟨i, hi⟩ := Int.eq_ofNat_of_zero_le (show 0 ≤ z by omega)
    exact ⟨i, hi, by omega, by omega⟩
  · have hg := List.getElem?_eq_getElem hw
    rw [gate_some hg] at hz
    generalize d.2.2.1[w] = x at hg hz
    have hgt := eng_gate hok
    unfold gateL at hz
    by_cases c1 : (doneW x || decide (¬ x.2.2.1 = 0)) = true
    · rw [if_pos c1] at hz; cases hz
    · rw [if_neg c1] at hz
      by_cases c2 : d.2.2.2.2.2.1 = -1
      · rw [if_pos c2] at hz; cases hz
      · rw [if_neg c2] at hz
        by_cases c3 : d.2.2.2.2.2.1 = (w : Int)
        · rw [if_pos c3] at hz
          obtain ⟨j, h1, h2, h3⟩ := keysUp_mem.1 hz
          refine ⟨j, h3.symm, h1, fun e => ?_⟩
          subst e
          rw [act_some hg] at h2
          simp only [actB, Bool.and_eq_true, Bool.not_eq_true', decide_eq_true_eq] at h2
          simp only [Bool.or_eq_true, decide_eq_true_eq] at c1
          have : x.2.2.1 = 0 := Classical.byContradiction fun h => c1 (.inr h)
          omega
        · rw [if_neg c3] at hz
          have hz : z = d.2.2.2.2.2.1 := by simpa using hz
          obtain ⟨i, hi⟩ := Int.eq_ofNat_of_zero_le (show 0 ≤ d.2.2.2.2.2.1 by omega)
          exact ⟨i, by omega, by omega, by omega⟩
/-- the pairs of the first n workers, as the program lists them -/
def listedL (d : DEngine) (n : Nat) : List (Int × Int) := (List.range n).flatMap fun (w : Nat) => (lockL d w ++ gateOf d w).map fun z => ((w : Int), z)
theorem listed_succ (d : DEngine) (n : Nat) : listedL d (n + 1) = listedL d n ++ (lockL d n ++ gateOf d n).map fun z => ((n : Int), z) := by
  unfold listedL
  rw [List.range_succ, List.flatMap_append]
  simp
theorem listed_mem {d : DEngine} (hok : engOk d = true) (x : Int × Int) : x ∈ listedL d d.2.2.1.length ↔ x ∈ pairsUp d.2.2.1.length (waitB d) := by
  rw [mem_pairsUp]
  unfold listedL
  simp only [List.mem_flatMap, List.mem_range, List.mem_map]
  constructor
  · rintro ⟨w, hw, z, hz, rfl⟩
    obtain ⟨i, rfl, hi, hne⟩ := lists_in hok hw z hz
    refine ⟨w, i, hw, hi, ?_, rfl⟩
    rw [List.mem_append] at hz
    unfold waitB
    rcases hz with hz | hz <;> simp [hne, hz]
  · rintro ⟨w, i, hw, hi, hb, rfl⟩
    refine ⟨w, hw, (i : Int), ?_, rfl⟩
    unfold waitB at hb
    simp only [Bool.and_eq_true, Bool.or_eq_true, List.contains_iff_mem] at hb
    exact List.mem_append.2 hb.2
theorem gateOf_len {d : DEngine} {w : Nat} : (gateOf d w).length ≤ d.2.2.1.length + 1 := by
  unfold gateOf
  split
  · unfold gateL
    split
    · simp
    · split
      · simp
      · split
        · have := keysUp_le (actAt d.2.2.1) d.2.2.1.length; omega
        · simp
  · simp
theorem lists_len {d : DEngine} {w : Nat} (hok : engOk d = true) : (lockL d w).length ≤ 8 ∧ (gateOf d w).length ≤ 5 := by
  have h1 := tos_len d.2.2.1.length (aheadOf d w) (aheadOf d w).length
  have h2 := ahead_len (w := w) hok
  have h3 := gateOf_len (d := d) (w := w)
  have h4 := eng_four hok
  exact ⟨by unfold lockL; omega, by omega⟩
theorem listed_len {d : DEngine} (hok : engOk d = true) : ∀ n, (listedL d n).length ≤ n * 13
  | 0 => by simp [listedL]
  | n + 1 => by
    have h1 := listed_len hok n
    have h2 := lists_len (w := n) hok
    rw [listed_succ, List.length_append, List.length_map, List.length_append]
    omega
end Go.Proofs.YtkpkjcmoldkmmaaGreat

namespace Go.Proofs.YtkpkjcmoldkmmaaGreat
open Go.RowKit

theorem tos_take (n : Nat) (l : HL) (m : Nat) : tosL n (l.take m) (l.take m).length = tosL n l m := by
  unfold tosL
  rw [List.take_length]
set_option maxHeartbeats 6400000 in
set_option maxRecDepth 100000 in
theorem lock_any (d : DEngine) (k : Nat) (B : Nat) (vs : List Value) (w : World) (hs : fEngine.cnt d ≤ 1048576) (hB : B ≤ w.heap.size) (h : fEngine.At w B d vs) (hok : engOk d = true) (hkw : k < d.2.2.1.length) :
    Calls Tryz.prog 46 #[.agg vs.toArray, .int .i64 k] w (RetI w (lockL d k)) := by
  obtain ⟨i0, hi, hz0, hz1, hz2⟩ := info_parts infoInt
  have Hi := Lib.hid hi
  have Hz0 := Lib.hid hz0
  have Hz1 := Lib.hid hz1
  have Hz2 := Lib.hid hz2
  clear hi hz0 hz1 hz2
  obtain ⟨A5, c5, A6, c6, A7, c7, A10, c10, rfl, r5, r6, r7, r10⟩ := at_Engine h
  clear h r7 r10
  have h4 := eng_four hok
  have hc3 : (rowF fCell).cnt d.2.1 ≤ 1048576 := by have h2 := cnt_Engine d; have h3 := cnt_Table d.2.1; omega
  clear hs
  have b := (Below.refl w.heap.size w).alloc (Nat.le_refl _) (.cells #[.int .i64 d.1.1, .int .i64 d.1.2.1, .int .i64 d.1.2.2.1, .bool d.1.2.2.2.1, .int .i64 d.1.2.2.2.2, .slice A5 (d.2.1).length c5, .slice A6 (d.2.2.1).length c6, .slice A7 (d.2.2.2.1).length c7, .int .i64 d.2.2.2.2.1, .int .i64 d.2.2.2.2.2.1, .slice A10 (d.2.2.2.2.2.2.1).length c10, .int .i64 d.2.2.2.2.2.2.2.1, .int .i64 d.2.2.2.2.2.2.2.2] 41)
  have X := Bx.new (w := w) (c := #[.int .i64 d.1.1, .int .i64 d.1.2.1, .int .i64 d.1.2.2.1, .bool d.1.2.2.2.1, .int .i64 d.1.2.2.2.2, .slice A5 (d.2.1).length c5, .slice A6 (d.2.2.1).length c6, .slice A7 (d.2.2.2.1).length c7, .int .i64 d.2.2.2.2.1, .int .i64 d.2.2.2.2.2.1, .slice A10 (d.2.2.2.2.2.2.1).length c10, .int .i64 d.2.2.2.2.2.2.2.1, .int .i64 d.2.2.2.2.2.2.2.2]) (t := 41) rfl
  have hsz := b.size
  go_enter Tryz.func46, Tryz.ntmps46
  go_upto_region 0 with (fail)
  go_upto_region 1 with (fail)
  generalize w.alloc (.cells #[.int .i64 d.1.1, .int .i64 d.1.2.1, .int .i64 d.1.2.2.1, .bool d.1.2.2.2.1, .int .i64 d.1.2.2.2.2, .slice A5 (d.2.1).length c5, .slice A6 (d.2.2.1).length c6, .slice A7 (d.2.2.2.1).length c7, .int .i64 d.2.2.2.2.1, .int .i64 d.2.2.2.2.2.1, .slice A10 (d.2.2.2.2.2.2.1).length c10, .int .i64 d.2.2.2.2.2.2.2.1, .int .i64 d.2.2.2.2.2.2.2.2] 41) = w1 at b X hsz ⊢
  obtain ⟨⟨x0, x1, x2, x3, x4, x5, x6, x7, x8, x9, x10, x11, x12⟩, _⟩ := X.c13
  have Xl := X.lt
  go_wp2_with fail
  (with_reducible refine (implWaitsD A5 c5 B d.2.1 ((k : Int) + 1) _ hc3 (Nat.le_trans hB b.size) (r5.keep b hB)).mono ?_); rintro o w2 ⟨rfl, hb⟩
  have X := X.next hb
  have b := b.trans (hb.mono b.size)
  have hsz2 := b.size
  clear hb x0 x1 x2 x3 x4 x5 x6 x7 x8 x9 x10 x11 x12 Xl
  by_cases hz : waitK (toT d.2.1) ((k : Int) + 1) < 0
  · have HE := Lib.hid (show lockL d k = [] by unfold lockL; rw [ahead_no hz]; exact tos_zero)
    go_wp2
    go_ret
    rw [HE.out]
    exact RetI.nil b
  · obtain ⟨m, q, hm, hml, hlo, hq, he, hn, hi, ha, h2⟩ := ahead_yes hok (show 0 ≤ waitK (toT d.2.1) ((k : Int) + 1) by omega)
    rw [hm]
    clear hz hm he hn h2
    obtain ⟨bb, off, hA5, hbB, hc⟩ := r5.2 (by omega)
    have hget : d.2.1[m]? = some d.2.1[m] := List.getElem?_eq_getElem hml
    obtain ⟨v, hv0, hat0⟩ := hc m _ hget
    have hat := fCell.at_same hat0 (.of b hB)
    have hv := hv0.below b (show bb < w.heap.size by omega)
    rw [show fCell.n = 6 from rfl] at hv
    rw [toT_cd hget] at hlo hq hi ha
    generalize d.2.1[m] = x at hget hat hlo hq hi ha
    obtain ⟨A4, c4, AW, cW, rfl, g4, gW⟩ := at_Cell hat
    replace hlo : lockOk x.2.2.1 x.2.2.2 = true := hlo
    replace hq : q < x.2.2.2.length := hq
    have hl8 := (lock_ids hlo).2
    have HIN := Lib.hid (show ∀ y, y ∈ x.2.2.1 ++ x.2.2.2 → 1 ≤ y.1 ∧ y.1 ≤ 8 from fun y hy => by
      have h3 := (lock_ids hlo).1
      rcases List.mem_append.1 hy with hy | hy
      · exact h3 y.1 (List.mem_append_left _ (List.mem_map.2 ⟨y, hy, rfl⟩))
      · exact h3 y.1 (List.mem_append_right _ (List.mem_map.2 ⟨y, hy, rfl⟩)))
    have hlen : (x.2.2.1 ++ x.2.2.2).length = x.2.2.1.length + x.2.2.2.length := List.length_append
    have HI := Lib.hid (show idxT (x.2.2.1 ++ x.2.2.2) ((k : Int) + 1) = ((x.2.2.1.length + q : Nat) : Int) from hi)
    have HE := Lib.hid (show lockL d k = tosL d.2.2.1.length (x.2.2.1 ++ x.2.2.2) (x.2.2.1.length + q) by
      unfold lockL
      rw [ha, show (toC x).hs ++ List.take q (toC x).ws = (x.2.2.1 ++ x.2.2.2).take (x.2.2.1.length + q) by
        rw [List.take_append, List.take_of_length_le (show x.2.2.1.length ≤ x.2.2.1.length + q by omega), Nat.add_sub_cancel_left]
        rfl]
      exact tos_take _ _ _)
    have HG4 := Lib.hid g4
    have HGW := Lib.hid gW
    clear hi ha hlo hat hat0 hv0 hc hget g4 gW
    subst hA5
    obtain ⟨a0, a1, a2, a3, a4, a5⟩ := hv.c6
    clear hv
    obtain ⟨⟨x0, x1, x2, x3, x4, x5, x6, x7, x8, x9, x10, x11, x12⟩, _⟩ := X.c13
    have Xl := X.lt
    have hmz : (m : Int) < d.2.1.length := by omega
    have hA := (Below.refl w2.heap.size w2).alloc (Nat.le_refl _) (.cells #[.slice A4 (x.2.2.1).length c4, .slice AW (x.2.2.2).length cW] 65)
    go_wp2_with fail
    clear a0 a1 a2 a3 a4 a5 x0 x1 x2 x3 x4 x5 x6 x7 x8 x9 x10 x11 x12 Xl
    have X := X.next hA
    have b := b.trans (hA.mono hsz2)
    have hsz3 := b.size
    have s3 : w2.heap.size + 1 = (w2.alloc (.cells #[.slice A4 (x.2.2.1).length c4, .slice AW (x.2.2.2).length cW] 65)).heap.size := by simp
    have HG4 := Lib.hid (HG4.out.keep hA (Nat.le_trans hB hsz2))
    have HGW := Lib.hid (HGW.out.keep hA (Nat.le_trans hB hsz2))
    clear hA
    generalize w2.alloc (.cells #[.slice A4 (x.2.2.1).length c4, .slice AW (x.2.2.2).length cW] 65) = w3 at X b hsz3 s3 HG4 HGW ⊢
    have hP := (Below.refl w3.heap.size w3).alloc (Nat.le_refl _) (.cells #[.slice A4 (x.2.2.1).length c4, .slice AW (x.2.2.2).length cW] 63)
    have P := Bx.new (w := w3) (c := #[.slice A4 (x.2.2.1).length c4, .slice AW (x.2.2.2).length cW]) (t := 63) s3
    have X := X.next hP
    have b := b.trans (hP.mono hsz3)
    have hsz4 := b.size
    have HG4 := Lib.hid (HG4.out.keep hP (Nat.le_trans hB hsz3))
    have HGW := Lib.hid (HGW.out.keep hP (Nat.le_trans hB hsz3))
    clear hP
    generalize w3.alloc (.cells #[.slice A4 (x.2.2.1).length c4, .slice AW (x.2.2.2).length cW] 63) = w4 at X b hsz4 HG4 HGW P ⊢
    obtain ⟨⟨p0, p1⟩, _⟩ := P.c2
    (with_reducible refine (concat_Hold A4 AW c4 cW _ B x.2.2.1 x.2.2.2 _ (by omega) (by omega) (Nat.le_trans hB hsz4) P.lt p0 p1 HG4.out HGW.out).mono ?_); rintro o w5 ⟨AL, cL, rfl, hcap, hb, OL⟩
    have X := X.next hb
    have b := b.trans (hb.mono hsz4)
    have hsz5 := b.size
    clear hb P p0 p1 HG4 HGW
    have OL := OL.at_
    generalize hLL : x.2.2.1 ++ x.2.2.2 = L at HI HE hcap OL hlen HIN ⊢
    generalize hN : x.2.2.1.length + q = N at HI HE ⊢
    have hNL : N < L.length := by omega
    have hL8 : L.length ≤ 8 := by omega
    clear hLL hN hlen hl8 hq
    obtain ⟨bL, oL, hAL, hbL, hcL⟩ := OL.2 (by omega)
    subst hAL
    go_wp2_with fail
    (with_reducible refine (indexOf_any _ cL _ L ((k : Int) + 1) _ (by omega) (holds_at OL)).mono ?_); rintro o w6 ⟨rfl, hb⟩
    rw [HI.out]
    have OL := OL.keep hb (Nat.le_refl _)
    have X := X.next hb
    have b := b.trans (hb.mono hsz5)
    have hsz6 := b.size
    have hb5 := hb.size
    clear hb hcL
    obtain ⟨_, _, hAL, hbL, hcL⟩ := OL.2 (by omega)
    cases hAL
    have hcut : ¬ ((cL : Int) < (N : Int)) := by omega
    have hcut0 : ¬ ((N : Int) < 0) := by omega
    go_wp2_with fail
    clear HI hcut hcut0 hmz hml hbB
    generalize hnW : d.2.2.1.length = nW at HE r6
    go_loopw [9, 39] (fun v i wr => ∃ j : Nat, j ≤ N ∧ i = .int .i64 j ∧ wr.ownsRow w6.heap.size 3 1 v (tosL nW L j).length ((tosL nW L j).map (.int .i64)) ∧ Below w6.heap.size w6 wr) (fun _ i _ => N - (intOf i).toNat)
    case atStart => exact ⟨0, Nat.zero_le _, rfl, by rw [tos_zero]; exact World.ownsRow_nil _ _ _ _, Below.refl _ _⟩
    case round =>
      obtain ⟨j, hj, rfl, hown, br⟩ := hrel
      have hszr := br.size
      by_cases hjn : j < N
      · have hjz : (j : Int) < (N : Int) := by omega
        have hget : L[j]? = some L[j] := List.getElem?_eq_getElem (by omega)
        obtain ⟨v, hv0, hat0⟩ := hcL j _ hget
        have hin := HIN.out L[j] (List.getElem_mem _)
        generalize L[j] = y at hget hat0 hin
        obtain ⟨hy1, hy8⟩ := hin
        have e := at_Hold hat0
        subst e
        have hv := hv0.below br (show bL < w6.heap.size by omega)
        rw [show fHold.n = 2 from rfl] at hv
        obtain ⟨a0, a1⟩ := hv.c2
        clear hv0 hat0 hv
        have Xr := X.next br
        have hA := (Below.refl wr.heap.size wr).alloc (Nat.le_refl _) (.cells #[.int .i64 y.1, .bool y.2] 144)
        have Z := Bx.new (w := wr) (c := #[.int .i64 y.1, .bool y.2]) (t := 144) rfl
        have Xr := Xr.next hA
        have br := br.trans (hA.mono hszr)
        have hown := hown.kept ⟨hA.os, hA.tape, hA.output, hA.size, fun k hk _ => hA.block k hk⟩ own_neL
        have hszA := br.size
        have htl := tos_len nW L j
        have HY := Lib.hid (tos_yes (n := nW) hget)
        have HN := Lib.hid (tos_no (n := nW) hget)
        clear hA hget
        obtain ⟨X0, C0, rfl⟩ := sl_formL hown
        go_upto_region 10 with (fail)
        go_upto_region 11 with (fail)
        clear a0 a1
        generalize wr.alloc (.cells #[.int .i64 y.1, .bool y.2] 144) = w8 at Xr Z br hown hszA ⊢
        generalize tosL nW L j = K at hown htl HY HN
        obtain ⟨⟨x0, x1, x2, x3, x4, x5, x6, x7, x8, x9, x10, x11, x12⟩, _⟩ := Xr.c13
        have Xl := Xr.lt
        obtain ⟨⟨z0, z1⟩, _⟩ := Z.c2
        by_cases hle : y.1 ≤ (nW : Int)
        · have HE2 := Lib.hid (HY.out hle)
          have hbz := br.size
          go_wp2_with (at_builtin; refine wpList_append_own _ rfl _ _ 28 rfl w6.heap.size 3 i0 (.int .i64 0) 1 8 Tryz.underlying28 Hi.out Hz0.out Hz1.out Hz2.out rfl (by decide) _ _ _ rfl (hown.alloc _) ⟨w8.heap.size, 0, none⟩ 1 1 [.int .i64 (y.1 - 1)] rfl rfl ?c1 ?c2 ?c3 ?c4 ?c5 ?_)
          case c2 => rfl
          case c3 => unfold maxLen; omega
          case c4 => omega
          case c5 => omega
          intro v' w9 hown' hgrow _
          have hb3 := (br.alloc hbz (.cells #[.int .i64 (y.1 - 1)] 3)).grown hgrow (by simp; omega) (fun q hq => (hown.lt q hq).1)
          have hown3 : w9.ownsRow w6.heap.size 3 1 v' (tosL nW L (j + 1)).length ((tosL nW L (j + 1)).map (.int .i64)) := by rw [HE2.out]; simpa using hown'
          clear hown' hgrow hown br x0 x1 x2 x3 x4 x5 x6 x7 x8 x9 x10 x11 x12 z0 z1 Z Xr
          go_wp2
          exact ⟨⟨j + 1, by omega, by go_num, hown3, hb3⟩, by simp [intOf]; omega⟩
        · have HE2 := Lib.hid (HN.out hle)
          have HO := Lib.hid hown
          clear hown
          go_wp2
          exact ⟨⟨j + 1, by omega, by go_num, by rw [HE2.out]; exact HO.out, br⟩, by simp [intOf]; omega⟩
      · obtain rfl : j = N := by omega
        have HO := Lib.hid hown
        clear hown
        go_wp2
        go_ret
        rw [HE.out]
        exact RetI.of HO.out hsz6 (b.trans (br.mono hsz6))
end Go.Proofs.YtkpkjcmoldkmmaaGreat
