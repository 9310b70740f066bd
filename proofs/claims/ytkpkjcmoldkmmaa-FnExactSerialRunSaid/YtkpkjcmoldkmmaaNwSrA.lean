/- FnExactSerialRun: for every argument the program's function answers as the model's, its answer owns its memory, and the arguments read as before. No condition. -/
import Derived.Test.YtkpkjcmoldkmmaaGb
import Derived.Laws.OwnMore
import Derived.Deep.AppendLies
import Derived.Lib.SmallJoins
import Derived.Test.YtkpkjcmoldkmmaaGe
import Derived.Test.YtkpkjcmoldkmmaaHm
import Derived.Test.YtkpkjcmoldkmmaaRg
import Derived.Test.YtkpkjcmoldkmmaaLa
import Derived.Test.YtkpkjcmoldkmmaaTn2
import Derived.Test.YtkpkjcmoldkmmaaEi
import Derived.Test.YtkpkjcmoldkmmaaMkF
import Derived.Test.YtkpkjcmoldkmmaaGoa
import Derived.Test.YtkpkjcmoldkmmaaRunAu
import Derived.Test.YtkpkjcmoldkmmaaRunCu
import Derived.Test.YtkpkjcmoldkmmaaMkA
namespace Go.Proofs.Ytkpkjcmoldkmmaa
open Go.RowKit

def catC (vs : Nat → List Value) : Nat → List Value
  | 0 => []
  | k + 1 => catC vs k ++ vs k
theorem catC_len {vs : Nat → List Value} {n : Nat} : ∀ {k : Nat}, (∀ j, j < k → (vs j).length = n) → (catC vs k).length = k * n
  | 0, _ => by simp [catC]
  | k + 1, h => by rw [catC, List.length_append, catC_len (fun j hj => h j (by omega)), h k (by omega), Nat.succ_mul]
theorem catC_get {vs : Nat → List Value} {n : Nat} : ∀ {k j i : Nat}, (∀ j, j < k → (vs j).length = n) → j < k → i < n → (catC vs k)[j * n + i]? = (vs j)[i]?
  | 0, _, _, _, hj, _ => absurd hj (by omega)
  | k + 1, j, i, h, hj, hi => by
    have hl := catC_len (vs := vs) (n := n) (k := k) (fun j hj => h j (by omega))
    rw [catC]
    by_cases e : j = k
    · subst e
      rw [List.getElem?_append_right (by omega), hl, show j * n + i - j * n = i by omega]
    · have hm : (j + 1) * n ≤ k * n := Nat.mul_le_mul_right _ (by omega)
      rw [Nat.succ_mul] at hm
      rw [List.getElem?_append_left (by omega)]
      exact catC_get (fun j hj => h j (by omega)) (by omega) hi
theorem catC_congr {vs us : Nat → List Value} : ∀ {k : Nat}, (∀ j, j < k → vs j = us j) → catC vs k = catC us k
  | 0, _ => rfl
  | k + 1, h => by rw [catC, catC, catC_congr (fun j hj => h j (by omega)), h k (by omega)]
theorem catC_mem {vs : Nat → List Value} {u : Value} : ∀ {k : Nat}, u ∈ catC vs k → ∃ j, j < k ∧ u ∈ vs j
  | 0, h => by cases h
  | k + 1, h => by
    rw [catC, List.mem_append] at h
    rcases h with h | h
    · obtain ⟨j, h1, h2⟩ := catC_mem h
      exact ⟨j, by omega, h2⟩
    · exact ⟨k, by omega, h⟩
def upd {β : Type} (f : Nat → β) (k : Nat) (x : β) (j : Nat) : β := if j = k then x else f j
theorem upd_same {β : Type} {f : Nat → β} {k : Nat} {x : β} : upd f k x k = x := if_pos rfl
theorem upd_other {β : Type} {f : Nat → β} {k j : Nat} {x : β} (h : ¬ j = k) : upd f k x j = f j := if_neg h
theorem cell_addr (b off k : Nat) : (⟨b, off, none⟩ : Addr).add k = ⟨b, off + k, none⟩ := by unfold Addr.add; split <;> simp_all

/-- the data of l in the row v that appends have made from base on, each with memory of its own apart from the row -/
structure Grow {α : Type} (F : Fm α) (e : TypeId) (base : Nat) (w : World) (v : Value) (l : List α) (vs : Nat → List Value) (L H : Nat → Nat) : Prop where
  row : w.ownsRow base e F.n v l.length (catC vs l.length)
  own : ∀ j a, l[j]? = some a → base ≤ L j ∧ H j ≤ w.heap.size ∧ F.Own w (L j) (H j) a (vs j)
  part : ∀ i j, i < j → j < l.length → H i ≤ L j
  far : ∀ g, v.ownBlock = some g → ∀ j, j < l.length → g < L j ∨ H j ≤ g
theorem own_neG {v : Value} : v.ownBlock = none ∨ v.ownBlock ≠ none := by cases v.ownBlock <;> simp
section
variable {α : Type} {F : Fm α} {e : TypeId} {base : Nat} {w w' : World} {v : Value} {l : List α} {vs : Nat → List Value} {L H : Nat → Nat}
theorem Grow.of_row (h : w.ownsRow base e F.n v 0 []) : Grow F e base w v [] (fun _ => []) (fun _ => 0) (fun _ => 0) :=
  ⟨h, fun j a hj => by simp at hj, fun i j _ hj => absurd hj (by simp), fun g _ j hj => absurd hj (by simp)⟩
theorem Grow.nil : Grow F e base w (.slice none 0 0) [] (fun _ => []) (fun _ => 0) (fun _ => 0) := .of_row (World.ownsRow_nil _ _ _ _)
theorem Grow.next (h : Grow F e base w v l vs L H) (hb : Below w.heap.size w w') : Grow F e base w' v l vs L H :=
  ⟨h.row.kept ⟨hb.os, hb.tape, hb.output, hb.size, fun k hk _ => hb.block k hk⟩ own_neG,
    fun j a hj => ⟨(h.own j a hj).1, Nat.le_trans (h.own j a hj).2.1 hb.size, F.own_same (h.own j a hj).2.2 (.of hb (h.own j a hj).2.1)⟩, h.part, h.far⟩
theorem Grow.len (h : Grow F e base w v l vs L H) {j : Nat} (hj : j < l.length) : (vs j).length = F.n := F.len (F.own_at (h.own j _ (List.getElem?_eq_getElem hj)).2.2)
theorem Grow.form (h : Grow F e base w v l vs L H) : ∃ X c, v = .slice X l.length c := by
  rcases Go.Joins.ownsRow_forms h.row with ⟨rfl, e⟩ | ⟨g, cap, rfl⟩
  · exact ⟨none, 0, by rw [e]⟩
  · exact ⟨_, cap, rfl⟩
theorem Grow.top (h : Grow F e base w v l vs L H) : ∀ j, j < l.length → H j ≤ w.heap.size := fun j hj => (h.own j _ (List.getElem?_eq_getElem hj)).2.1
/-- a datum appended: its own memory lies in [s, t) -/
theorem Grow.push {w2 : World} {g cap s t : Nat} {a : α} {nv : List Value} (h : Grow F e base w v l vs L H)
    (hown : w2.ownsRow base e F.n (.slice (some ⟨g, 0, none⟩) (l.length + 1) cap) (l.length + 1) (catC vs l.length ++ nv)) (hgrow : w.grownBy w2 v.ownBlock) (hat : v.ownBlock = some g ∨ g = w.heap.size)
    (ha : F.Own w s t a nv) (hs : base ≤ s) (ht : t ≤ w.heap.size) (hH : ∀ j, j < l.length → H j ≤ s) (hv : ∀ q, v.ownBlock = some q → q < s) :
    Grow F e base w2 (.slice (some ⟨g, 0, none⟩) (l.length + 1) cap) (l ++ [a]) (upd vs l.length nv) (upd L l.length s) (upd H l.length t) := by
  have hlen : (l ++ [a]).length = l.length + 1 := by simp
  have hrow : ∀ L0 H0, H0 ≤ w.heap.size → (∀ q, v.ownBlock = some q → q < L0 ∨ H0 ≤ q) → SameI L0 H0 w w2 := fun L0 H0 hH0 hq k h1 h2 =>
    hgrow.block k (by omega) (fun e => by have := hq k e.symm; omega)
  have hcat : catC (upd vs l.length nv) (l.length + 1) = catC vs l.length ++ nv := by
    rw [catC, upd_same, catC_congr (fun j hj => upd_other (by omega))]
  refine ⟨?_, fun j b hj => ?_, fun i j hij hj => ?_, fun q hq j hj => ?_⟩
  · rw [hlen, hcat]; exact hown
  · by_cases ej : j = l.length
    · subst ej
      rw [upd_same, upd_same, upd_same]
      have eb : b = a := by simpa using hj.symm
      subst eb
      exact ⟨hs, Nat.le_trans ht hgrow.size, F.own_same ha (hrow s t ht (fun q hq => .inl (hv q hq)))⟩
    · have hjl : j < l.length := by
        have := get_lt hj
        rw [hlen] at this
        omega
      rw [List.getElem?_append_left hjl] at hj
      rw [upd_other ej, upd_other ej, upd_other ej]
      have h1 := h.own j b hj
      exact ⟨h1.1, Nat.le_trans h1.2.1 hgrow.size, F.own_same h1.2.2 (hrow _ _ h1.2.1 (fun q hq => h.far q hq j hjl))⟩
  · rw [hlen] at hj
    rw [upd_other (show ¬ i = l.length by omega)]
    by_cases ej : j = l.length
    · subst ej
      rw [upd_same]
      exact hH i (by omega)
    · rw [upd_other ej]
      exact h.part i j hij (by omega)
  · rw [hlen] at hj
    have eq : q = g := by simpa [Value.ownBlock] using hq.symm
    subst eq
    by_cases ej : j = l.length
    · subst ej
      rw [upd_same, upd_same]
      rcases hat with hat | hat
      · exact .inl (hv _ hat)
      · exact .inr (by omega)
    · have hjl : j < l.length := by omega
      rw [upd_other ej, upd_other ej]
      rcases hat with hat | hat
      · exact h.far _ hat j hjl
      · exact .inr (by have := h.top j hjl; omega)
theorem Grow.done (h : Grow F e base w v l vs L H) : ∃ A c, v = .slice A l.length c ∧ ROwn F w base w.heap.size A l := by
  rcases h.row.2 with ⟨rfl, hn⟩ | ⟨g, cap, cur, rfl, hg, hh, hn, hm, hs, ht⟩
  · exact ⟨none, 0, by rw [hn], by omega, fun h0 => absurd h0 (by omega)⟩
  · refine ⟨_, cap, rfl, by omega, fun _ => ⟨g, 0, rfl, vs, L, H, hg, (Array.getElem?_eq_some_iff.1 hh).1, fun o => h.row.frozenAt o, fun j hj => ?_, fun i j hi hj hne => ?_, fun j hj i u hu => ?_, fun j a ha => (h.own j a ha).2.2⟩⟩
    · have h1 := h.own j _ (List.getElem?_eq_getElem hj)
      exact ⟨h1.1, h1.2.1, h.far g rfl j hj⟩
    · rcases Nat.lt_or_gt_of_ne hne with hlt | hgt
      · exact .inl (h.part i j hlt hj)
      · exact .inr (h.part j i hgt hi)
    · have hi : i < F.n := by
        have := (List.getElem?_eq_some_iff.1 hu).1
        rwa [h.len hj] at this
      have hm2 : (j + 1) * F.n ≤ l.length * F.n := Nat.mul_le_mul_right _ (by omega)
      rw [Nat.succ_mul] at hm2
      rw [Nat.zero_add, h.row.cellAt _ (by omega), catC_get (fun j hj => h.len hj) hj hi, hu]
theorem Grow.cast {l' : List α} (h : Grow F e base w v l vs L H) (e' : l = l') : Grow F e base w v l' vs L H := e' ▸ h
/-- two rows of data with memory of their own, one behind the other -/
theorem Grow.congr {us : Nat → List Value} (h : Grow F e base w v l vs L H) (hu : ∀ j, j < l.length → us j = vs j) : Grow F e base w v l us L H :=
  ⟨by rw [catC_congr hu]; exact h.row, fun j a hj => by rw [hu j (get_lt hj)]; exact h.own j a hj, h.part, h.far⟩
end

/-! a row's cells as what an append takes -/
theorem src_cells {α : Type} {F : Fm α} {w : World} {B : Nat} {l : List α} {ad : Addr} (r : RAt F w B (some ad) l) (one : ∀ a vs, F.At w B a vs → ∀ u ∈ vs, u.oneCell' = true) :
    ∃ vs : Nat → List Value, (catC vs l.length).length = l.length * F.n ∧ (∀ j u, (catC vs l.length)[j]? = some u → w.cell? (ad.add j) = some u) ∧ (∀ u ∈ catC vs l.length, u.oneCell' = true) ∧ ∀ j a, l[j]? = some a → (vs j).length = F.n ∧ F.At w B a (vs j) := by
  by_cases hl : 0 < l.length
  · obtain ⟨b, off, e, _, hc⟩ := r.2 hl
    injection e with e
    subst e
    obtain ⟨vs, hvs⟩ := Classical.axiomOfChoice (r := fun (j : Nat) (v : List Value) => ∀ a, l[j]? = some a → RCells w b (off + j * F.n) v ∧ F.At w B a v) (fun j => by
      cases hj : l[j]? with
      | none => exact ⟨[], fun a ha => by cases ha⟩
      | some a =>
        obtain ⟨v, h1, h2⟩ := hc j a hj
        exact ⟨v, fun a' ha => by cases ha; exact ⟨h1, h2⟩⟩)
    have hlen : ∀ j, j < l.length → (vs j).length = F.n := fun j hj => F.len (hvs j _ (List.getElem?_eq_getElem hj)).2
    refine ⟨vs, catC_len hlen, fun j u hu => ?_, fun u hu => ?_, fun j a hj => ⟨hlen j (get_lt hj), (hvs j a hj).2⟩⟩
    · have hj := (List.getElem?_eq_some_iff.1 hu).1
      rw [catC_len hlen] at hj
      have hn : 0 < F.n := by
        rcases Nat.eq_zero_or_pos F.n with h0 | h0
        · rw [h0, Nat.mul_zero] at hj; omega
        · exact h0
      have hd : j / F.n < l.length := (Nat.div_lt_iff_lt_mul hn).2 hj
      have hm : j % F.n < F.n := Nat.mod_lt _ hn
      have hjm : j / F.n * F.n + j % F.n = j := by rw [Nat.mul_comm]; exact Nat.div_add_mod j F.n
      have h1 := catC_get (vs := vs) (n := F.n) hlen hd hm
      rw [hjm, hu] at h1
      have h2 := (hvs _ _ (List.getElem?_eq_getElem hd)).1 _ u h1.symm
      rw [cell_addr, show off + j = off + j / F.n * F.n + j % F.n by omega]
      exact h2
    · obtain ⟨j, hj, hu⟩ := catC_mem hu
      exact one _ _ (hvs j _ (List.getElem?_eq_getElem hj)).2 u hu
  · have h0 : l.length = 0 := by omega
    refine ⟨fun _ => [], by rw [h0]; simp [catC], fun j u hu => ?_, fun u hu => ?_, fun j a hj => ?_⟩
    · rw [h0] at hu; simp [catC] at hu
    · rw [h0] at hu; simp [catC] at hu
    · have := get_lt hj; omega
/-- a row copied: new cells, the elements' own memory shared -/
def Shal {α : Type} (F : Fm α) (w : World) (B : Nat) (w' : World) (A' : Option Addr) (l : List α) : Prop :=
  0 < l.length → ∃ (g : Nat) (vs : Nat → List Value), A' = some ⟨g, 0, none⟩ ∧ w.heap.size ≤ g ∧ g < w'.heap.size ∧ (∀ o, w'.frozen? ⟨g, o, none⟩ = false) ∧ ∀ j a, l[j]? = some a → RCells w' g (j * F.n) (vs j) ∧ F.At w B a (vs j)
theorem Shal.of_row {α : Type} {F : Fm α} {w w' : World} {B : Nat} {l : List α} {e : TypeId} {v : Value} {vs : Nat → List Value} (hown : w'.ownsRow w.heap.size e F.n v l.length (catC vs l.length)) (h : ∀ j a, l[j]? = some a → (vs j).length = F.n ∧ F.At w B a (vs j)) :
    ∃ A' c', v = .slice A' l.length c' ∧ Shal F w B w' A' l := by
  rcases hown.2 with ⟨rfl, hn⟩ | ⟨g, cap, cur, rfl, hg, hh, hn, hm, hs, ht⟩
  · exact ⟨none, 0, by rw [hn], fun h0 => absurd h0 (by omega)⟩
  · refine ⟨_, cap, rfl, fun _ => ⟨g, vs, rfl, hg, (Array.getElem?_eq_some_iff.1 hh).1, fun o => hown.frozenAt o, fun j a ha => ⟨fun i u hu => ?_, (h j a ha).2⟩⟩⟩
    have hj := get_lt ha
    have hi : i < F.n := by
      have := (List.getElem?_eq_some_iff.1 hu).1
      rwa [(h j a ha).1] at this
    have hm2 : (j + 1) * F.n ≤ l.length * F.n := Nat.mul_le_mul_right _ (by omega)
    rw [Nat.succ_mul] at hm2
    rw [hown.cellAt _ (by omega), catC_get (fun j hj => (h j _ (List.getElem?_eq_getElem hj)).1) hj hi, hu]
theorem Shal.own {α : Type} {F : Fm α} {w w' : World} {B : Nat} {A' : Option Addr} {l : List α} (h : Shal F w B w' A' l) (hl : l.length ≤ maxLen) (flat : ∀ a vs, F.At w B a vs → F.Own w' w'.heap.size w'.heap.size a vs) : ROwn F w' w.heap.size w'.heap.size A' l :=
  ⟨hl, fun h0 => by
    obtain ⟨g, vs, rfl, hg, hlt, hf, hc⟩ := h h0
    exact ⟨g, 0, rfl, vs, fun _ => w'.heap.size, fun _ => w'.heap.size, hg, hlt, hf, fun j _ => ⟨by omega, Nat.le_refl _, .inl hlt⟩, fun _ _ _ _ _ => .inl (Nat.le_refl _),
      fun j hj => by rw [Nat.zero_add]; exact (hc j _ (List.getElem?_eq_getElem hj)).1, fun j a ha => flat a _ (hc j a ha).2⟩⟩

/-! a shallow copy whose elements are made anew, one after the other -/
/-- the first k data laid in row g, the cells behind them as zs says -/
structure LaidV {α : Type} (F : Fm α) (g : Nat) (zs : Nat → List Value) (l : List α) (wr : World) (k : Nat) (vs : Nat → List Value) (L H : Nat → Nat) : Prop where
  lt : g < wr.heap.size
  free : ∀ o, wr.frozen? ⟨g, o, none⟩ = false
  cell : ∀ j, j < l.length → RCells wr g (j * F.n) (if j < k then vs j else zs j)
  own : ∀ j a, j < k → l[j]? = some a → g < L j ∧ H j ≤ wr.heap.size ∧ F.Own wr (L j) (H j) a (vs j)
  part : ∀ i j, i < j → j < k → H i ≤ L j
section
variable {α : Type} {F : Fm α} {g : Nat} {zs : Nat → List Value} {l : List α} {wr w1 : World} {k : Nat} {vs : Nat → List Value} {L H : Nat → Nat}
theorem LaidV.start (hg : g < wr.heap.size) (hf : ∀ o, wr.frozen? ⟨g, o, none⟩ = false) (hc : ∀ j, j < l.length → RCells wr g (j * F.n) (zs j)) : LaidV F g zs l wr 0 (fun _ => []) (fun _ => 0) (fun _ => 0) :=
  ⟨hg, hf, fun j hj => by rw [if_neg (by omega)]; exact hc j hj, fun j a hj => absurd hj (by omega), fun i j _ hj => absurd hj (by omega)⟩
theorem LaidV.next (h : LaidV F g zs l wr k vs L H) (hb : Below wr.heap.size wr w1) : LaidV F g zs l w1 k vs L H :=
  ⟨Nat.lt_of_lt_of_le h.lt hb.size, fun o => (hb.frozen (p := ⟨g, o, none⟩) h.lt).trans (h.free o), fun j hj => (h.cell j hj).below hb h.lt,
    fun j a hj ha => ⟨(h.own j a hj ha).1, Nat.le_trans (h.own j a hj ha).2.1 hb.size, F.own_same (h.own j a hj ha).2.2 (.of hb (h.own j a hj ha).2.1)⟩, h.part⟩
theorem LaidV.here (h : LaidV F g zs l wr k vs L H) (hk : k < l.length) : RCells wr g (k * F.n) (zs k) := by
  have := h.cell k hk
  rwa [if_neg (Nat.lt_irrefl k)] at this
theorem LaidV.step (h : LaidV F g zs l w1 k vs L H) (hk : k < l.length) {a : α} (ha : l[k]? = some a) {v : List Value} {s : Nat} (hv : v.length = F.n) (hz : ∀ j, j < l.length → (zs j).length = F.n) (hg : g < s) (hH : ∀ j, j < k → H j ≤ s) (ho : F.Own w1 s w1.heap.size a v) :
    LaidV F g zs l (storeRec w1 g (k * F.n) v) (k + 1) (fun j => if j = k then v else vs j) (fun j => if j = k then s else L j) (fun j => if j = k then w1.heap.size else H j) := by
  have hon := storeRec_only g v w1 (k * F.n)
  refine ⟨by rw [hon.size]; exact h.lt, fun o => by rw [storeRec_frozen]; exact h.free o, fun j hj => ?_, fun j b hj hb => ?_, fun i j hij hj => ?_⟩
  · by_cases e : j = k
    · subst e
      simp only [if_true, if_pos (show j < j + 1 by omega)]
      exact storeRec_near g v (zs j) _ _ (by rw [hz j hj, hv]) (h.here hk)
    · have h1 := h.cell j hj
      have hlen : (if j < k then vs j else zs j).length = F.n := by
        by_cases hjk : j < k
        · rw [if_pos hjk]
          exact F.len (F.own_at (h.own j _ hjk (List.getElem?_eq_getElem hj)).2.2)
        · rw [if_neg hjk]; exact hz j hj
      have hsame : (if j < k + 1 then (if j = k then v else vs j) else zs j) = if j < k then vs j else zs j := by
        by_cases hjk : j < k
        · rw [if_pos hjk, if_pos (by omega), if_neg e]
        · rw [if_neg hjk, if_neg (by omega)]
      rw [hsame]
      intro i u hu
      have hi : i < F.n := by
        have := (List.getElem?_eq_some_iff.1 hu).1
        rwa [hlen] at this
      rw [storeRec_far g v _ _ _ (by
        rw [hv]
        rcases Nat.lt_or_gt_of_ne e with hlt | hgt
        · have : (j + 1) * F.n ≤ k * F.n := Nat.mul_le_mul_right _ (by omega)
          rw [Nat.succ_mul] at this
          exact .inl (by omega)
        · have : (k + 1) * F.n ≤ j * F.n := Nat.mul_le_mul_right _ (by omega)
          rw [Nat.succ_mul] at this
          exact .inr (by omega))]
      exact h1 i u hu
  · by_cases e : j = k
    · subst e
      have e2 : a = b := Option.some.inj (ha.symm.trans hb)
      subst e2
      simp only [if_true]
      exact ⟨hg, by rw [hon.size]; exact Nat.le_refl _, F.own_same ho (.only hon (.inr (by omega)))⟩
    · simp only [if_neg e]
      have h1 := h.own j b (by omega) hb
      exact ⟨h1.1, by rw [hon.size]; exact h1.2.1, F.own_same h1.2.2 (.only hon (.inr (by omega)))⟩
  · have ei : ¬ i = k := by omega
    by_cases e : j = k
    · subst e
      simp only [if_true, if_neg ei]
      exact hH i (by omega)
    · simp only [if_neg ei, if_neg e]
      exact h.part i j hij (by omega)
theorem LaidV.done {lo B : Nat} (h : LaidV F g zs l wr l.length vs L H) (hl : l.length ≤ maxLen) (hlo : lo ≤ g) (hB : wr.heap.size ≤ B) : ROwn F wr lo B (some ⟨g, 0, none⟩) l := ⟨hl, fun _ => ⟨g, 0, rfl, vs, L, H, hlo, by have := h.lt; omega, h.free,
  fun j hj => by have := h.own j _ hj (List.getElem?_eq_getElem hj); omega,
  fun i j hi hj hne => by
    rcases Nat.lt_or_gt_of_ne hne with hlt | hgt
    · exact .inl (h.part i j hlt hj)
    · exact .inr (h.part j i hgt hi),
  fun j hj => by
    have := h.cell j hj
    rw [if_pos hj] at this
    rwa [Nat.zero_add],
  fun j a ha => (h.own j a (get_lt ha) ha).2.2⟩⟩
theorem LaidV.top (h : LaidV F g zs l wr k vs L H) (hk : k ≤ l.length) : ∀ j, j < k → H j ≤ wr.heap.size := fun j hj => (h.own j _ hj (List.getElem?_eq_getElem (by omega))).2.1
end
end Go.Proofs.Ytkpkjcmoldkmmaa

namespace Go.Proofs.Ytkpkjcmoldkmmaa
open Go.RowKit

theorem infoC_Act : (Try.prog.info? 118).map (fun i => (i.zero, i.size, i.bytes)) = some (some (.agg #[.int .i64 0, .int .i64 0, .int .i64 0]), 3, 24) := by kernel_rfl
theorem one_Act {w : World} {B : Nat} : ∀ a vs, fAct.At w B a vs → ∀ u ∈ vs, u.oneCell' = true := fun a vs h => by have := at_Act h; subst this; simp [Value.oneCell']
set_option maxHeartbeats 800000 in
set_option maxRecDepth 100000 in
theorem clone_Act (A : Option Addr) (c B : Nat) (l : List (DAct)) (w : World) (hn : l.length ≤ 1048576) (r : RAt fAct w B A l) (hB : B ≤ w.heap.size) :
    Calls Try.prog 92 #[.slice A l.length c] w fun e w' => ∃ A' c', e = .returned (.slice A' l.length c') ∧ Below w.heap.size w w' ∧ Shal fAct w B w' A' l := by
  cases A with
  | none =>
    have h0 : l.length = 0 := by
      rcases Nat.eq_zero_or_pos l.length with h | h
      · exact h
      · obtain ⟨b, off, e, _⟩ := r.2 h
        cases e
    have hnil := fun w => Lib.run_eql_slice_nil (P := Try.prog) w 63 118 none 0 c 0 0 Try.underlying63
    rw [h0]
    go_enter Try.func92, Try.ntmps92
    go_wp2
    go_ret
    exact ⟨none, 0, rfl, Below.refl _ _, fun h => absurd h (by omega)⟩
  | some ad =>
    obtain ⟨i0, hi, hzz⟩ := Option.map_eq_some_iff.1 infoC_Act
    injection hzz with hz0 hz12
    injection hz12 with hz1 hz2
    have hown := World.ownsRow_made (base := w.heap.size) (size := 3) (e := 118) w #[] 0 (Nat.le_refl _) (Nat.zero_le _) rfl
    have hb0 := (Below.refl w.heap.size w).alloc (Nat.le_refl _) (.cells #[] 118)
    obtain ⟨vs, hl, hc, ho, ha⟩ := src_cells (r.keep hb0 hB) one_Act
    have HC := Lib.hid hc
    have HL := Lib.hid hl
    have HO := Lib.hid ho
    have HA := Lib.hid (show ∀ j a, l[j]? = some a → (vs j).length = fAct.n ∧ fAct.At w B a (vs j) from fun j a hj => ⟨(ha j a hj).1, fAct.at_same (ha j a hj).2 (fun k hk => (hb0.block k (by omega)).symm)⟩)
    have Hi := Lib.hid hi
    have Hz0 := Lib.hid hz0
    have Hz1 := Lib.hid hz1
    have Hz2 := Lib.hid hz2
    have HW := Lib.hid hown
    have HR := Lib.hid r
    have hnil := fun w => Lib.run_eql_slice_nil (P := Try.prog) w 63 118 (some ad) l.length c 0 0 Try.underlying63
    clear hi hz0 hz1 hz2 hown hc hl ho ha r
    go_enter Try.func92, Try.ntmps92
    go_wp2_with (at_builtin; refine wpList_append_own _ rfl _ _ 63 rfl w.heap.size 118 i0 (.agg #[.int .i64 0, .int .i64 0, .int .i64 0]) 3 24 Try.underlying63 Hi.out Hz0.out Hz1.out Hz2.out rfl (by decide) _ _ _ rfl HW.out ad l.length c (catC vs l.length) rfl HL.out HC.out HO.out ?c3 ?c4 ?c5 ?_)
    case c3 => unfold maxLen; omega
    case c4 => omega
    case c5 => simp
    intro v' w3 hown' hgrow _
    have hb3 := hb0.grown hgrow (by simp) (fun p hp => (HW.out.lt p hp).1)
    have HOW := Lib.hid (show w3.ownsRow w.heap.size 118 fAct.n v' l.length (catC vs l.length) by rw [show fAct.n = 3 from rfl]; simpa using hown')
    clear hown' hgrow
    go_wp2
    go_ret
    obtain ⟨A', c', rfl, hS⟩ := Shal.of_row (F := fAct) (B := B) HOW.out HA.out
    exact ⟨A', c', rfl, hb3, hS⟩
theorem infoC_ActS : (Try.prog.info? 63).map (fun i => (i.zero, i.size, i.bytes)) = some (some (.slice none 0 0), 1, 24) := by kernel_rfl
theorem one_ActS {w : World} {B : Nat} : ∀ a vs, (rowF fAct).At w B a vs → ∀ u ∈ vs, u.oneCell' = true := fun a vs h => by obtain ⟨A, cap, rfl, _⟩ := h; simp [Value.oneCell']
set_option maxHeartbeats 800000 in
set_option maxRecDepth 100000 in
theorem clone_ActS (A : Option Addr) (c B : Nat) (l : List (List DAct)) (w : World) (hn : l.length ≤ 1048576) (r : RAt (rowF fAct) w B A l) (hB : B ≤ w.heap.size) :
    Calls Try.prog 91 #[.slice A l.length c] w fun e w' => ∃ A' c', e = .returned (.slice A' l.length c') ∧ Below w.heap.size w w' ∧ Shal (rowF fAct) w B w' A' l := by
  cases A with
  | none =>
    have h0 : l.length = 0 := by
      rcases Nat.eq_zero_or_pos l.length with h | h
      · exact h
      · obtain ⟨b, off, e, _⟩ := r.2 h
        cases e
    have hnil := fun w => Lib.run_eql_slice_nil (P := Try.prog) w 73 63 none 0 c 0 0 Try.underlying73
    rw [h0]
    go_enter Try.func91, Try.ntmps91
    go_wp2
    go_ret
    exact ⟨none, 0, rfl, Below.refl _ _, fun h => absurd h (by omega)⟩
  | some ad =>
    obtain ⟨i0, hi, hzz⟩ := Option.map_eq_some_iff.1 infoC_ActS
    injection hzz with hz0 hz12
    injection hz12 with hz1 hz2
    have hown := World.ownsRow_made (base := w.heap.size) (size := 1) (e := 63) w #[] 0 (Nat.le_refl _) (Nat.zero_le _) rfl
    have hb0 := (Below.refl w.heap.size w).alloc (Nat.le_refl _) (.cells #[] 63)
    obtain ⟨vs, hl, hc, ho, ha⟩ := src_cells (r.keep hb0 hB) one_ActS
    have HC := Lib.hid hc
    have HL := Lib.hid hl
    have HO := Lib.hid ho
    have HA := Lib.hid (show ∀ j a, l[j]? = some a → (vs j).length = (rowF fAct).n ∧ (rowF fAct).At w B a (vs j) from fun j a hj => ⟨(ha j a hj).1, (rowF fAct).at_same (ha j a hj).2 (fun k hk => (hb0.block k (by omega)).symm)⟩)
    have Hi := Lib.hid hi
    have Hz0 := Lib.hid hz0
    have Hz1 := Lib.hid hz1
    have Hz2 := Lib.hid hz2
    have HW := Lib.hid hown
    have HR := Lib.hid r
    have hnil := fun w => Lib.run_eql_slice_nil (P := Try.prog) w 73 63 (some ad) l.length c 0 0 Try.underlying73
    clear hi hz0 hz1 hz2 hown hc hl ho ha r
    go_enter Try.func91, Try.ntmps91
    go_wp2_with (at_builtin; refine wpList_append_own _ rfl _ _ 73 rfl w.heap.size 63 i0 (.slice none 0 0) 1 24 Try.underlying73 Hi.out Hz0.out Hz1.out Hz2.out rfl (by decide) _ _ _ rfl HW.out ad l.length c (catC vs l.length) rfl HL.out HC.out HO.out ?c3 ?c4 ?c5 ?_)
    case c3 => unfold maxLen; omega
    case c4 => omega
    case c5 => simp
    intro v' w3 hown' hgrow _
    have hb3 := hb0.grown hgrow (by simp) (fun p hp => (HW.out.lt p hp).1)
    have HOW := Lib.hid (show w3.ownsRow w.heap.size 63 (rowF fAct).n v' l.length (catC vs l.length) by rw [show (rowF fAct).n = 1 from rfl]; simpa using hown')
    clear hown' hgrow
    go_wp2
    go_ret
    obtain ⟨A', c', rfl, hS⟩ := Shal.of_row (F := (rowF fAct)) (B := B) HOW.out HA.out
    exact ⟨A', c', rfl, hb3, hS⟩
theorem infoC_Int : (Try.prog.info? 3).map (fun i => (i.zero, i.size, i.bytes)) = some (some (.int .i64 0), 1, 8) := by kernel_rfl
theorem one_Int {w : World} {B : Nat} : ∀ a vs, intF.At w B a vs → ∀ u ∈ vs, u.oneCell' = true := fun a vs h => by cases h; simp [Value.oneCell']
set_option maxHeartbeats 800000 in
set_option maxRecDepth 100000 in
theorem clone_Int (A : Option Addr) (c B : Nat) (l : List (Int)) (w : World) (hn : l.length ≤ 1048576) (r : RAt intF w B A l) (hB : B ≤ w.heap.size) :
    Calls Try.prog 114 #[.slice A l.length c] w fun e w' => ∃ A' c', e = .returned (.slice A' l.length c') ∧ Below w.heap.size w w' ∧ Shal intF w B w' A' l := by
  cases A with
  | none =>
    have h0 : l.length = 0 := by
      rcases Nat.eq_zero_or_pos l.length with h | h
      · exact h
      · obtain ⟨b, off, e, _⟩ := r.2 h
        cases e
    have hnil := fun w => Lib.run_eql_slice_nil (P := Try.prog) w 31 3 none 0 c 0 0 Try.underlying31
    rw [h0]
    go_enter Try.func114, Try.ntmps114
    go_wp2
    go_ret
    exact ⟨none, 0, rfl, Below.refl _ _, fun h => absurd h (by omega)⟩
  | some ad =>
    obtain ⟨i0, hi, hzz⟩ := Option.map_eq_some_iff.1 infoC_Int
    injection hzz with hz0 hz12
    injection hz12 with hz1 hz2
    have hown := World.ownsRow_made (base := w.heap.size) (size := 1) (e := 3) w #[] 0 (Nat.le_refl _) (Nat.zero_le _) rfl
    have hb0 := (Below.refl w.heap.size w).alloc (Nat.le_refl _) (.cells #[] 3)
    obtain ⟨vs, hl, hc, ho, ha⟩ := src_cells (r.keep hb0 hB) one_Int
    have HC := Lib.hid hc
    have HL := Lib.hid hl
    have HO := Lib.hid ho
    have HA := Lib.hid (show ∀ j a, l[j]? = some a → (vs j).length = intF.n ∧ intF.At w B a (vs j) from fun j a hj => ⟨(ha j a hj).1, intF.at_same (ha j a hj).2 (fun k hk => (hb0.block k (by omega)).symm)⟩)
    have Hi := Lib.hid hi
    have Hz0 := Lib.hid hz0
    have Hz1 := Lib.hid hz1
    have Hz2 := Lib.hid hz2
    have HW := Lib.hid hown
    have HR := Lib.hid r
    have hnil := fun w => Lib.run_eql_slice_nil (P := Try.prog) w 31 3 (some ad) l.length c 0 0 Try.underlying31
    clear hi hz0 hz1 hz2 hown hc hl ho ha r
    go_enter Try.func114, Try.ntmps114
    go_wp2_with (at_builtin; refine wpList_append_own _ rfl _ _ 31 rfl w.heap.size 3 i0 (.int .i64 0) 1 8 Try.underlying31 Hi.out Hz0.out Hz1.out Hz2.out rfl (by decide) _ _ _ rfl HW.out ad l.length c (catC vs l.length) rfl HL.out HC.out HO.out ?c3 ?c4 ?c5 ?_)
    case c3 => unfold maxLen; omega
    case c4 => omega
    case c5 => simp
    intro v' w3 hown' hgrow _
    have hb3 := hb0.grown hgrow (by simp) (fun p hp => (HW.out.lt p hp).1)
    have HOW := Lib.hid (show w3.ownsRow w.heap.size 3 intF.n v' l.length (catC vs l.length) by rw [show intF.n = 1 from rfl]; simpa using hown')
    clear hown' hgrow
    go_wp2
    go_ret
    obtain ⟨A', c', rfl, hS⟩ := Shal.of_row (F := intF) (B := B) HOW.out HA.out
    exact ⟨A', c', rfl, hb3, hS⟩
theorem infoC_Put : (Try.prog.info? 111).map (fun i => (i.zero, i.size, i.bytes)) = some (some (.agg #[.int .i64 0, .int .i64 0]), 2, 16) := by kernel_rfl
theorem one_Put {w : World} {B : Nat} : ∀ a vs, fPut.At w B a vs → ∀ u ∈ vs, u.oneCell' = true := fun a vs h => by have := at_Put h; subst this; simp [Value.oneCell']
set_option maxHeartbeats 800000 in
set_option maxRecDepth 100000 in
theorem clone_Put (A : Option Addr) (c B : Nat) (l : List (DPut)) (w : World) (hn : l.length ≤ 1048576) (r : RAt fPut w B A l) (hB : B ≤ w.heap.size) :
    Calls Try.prog 115 #[.slice A l.length c] w fun e w' => ∃ A' c', e = .returned (.slice A' l.length c') ∧ Below w.heap.size w w' ∧ Shal fPut w B w' A' l := by
  cases A with
  | none =>
    have h0 : l.length = 0 := by
      rcases Nat.eq_zero_or_pos l.length with h | h
      · exact h
      · obtain ⟨b, off, e, _⟩ := r.2 h
        cases e
    have hnil := fun w => Lib.run_eql_slice_nil (P := Try.prog) w 76 111 none 0 c 0 0 Try.underlying76
    rw [h0]
    go_enter Try.func115, Try.ntmps115
    go_wp2
    go_ret
    exact ⟨none, 0, rfl, Below.refl _ _, fun h => absurd h (by omega)⟩
  | some ad =>
    obtain ⟨i0, hi, hzz⟩ := Option.map_eq_some_iff.1 infoC_Put
    injection hzz with hz0 hz12
    injection hz12 with hz1 hz2
    have hown := World.ownsRow_made (base := w.heap.size) (size := 2) (e := 111) w #[] 0 (Nat.le_refl _) (Nat.zero_le _) rfl
    have hb0 := (Below.refl w.heap.size w).alloc (Nat.le_refl _) (.cells #[] 111)
    obtain ⟨vs, hl, hc, ho, ha⟩ := src_cells (r.keep hb0 hB) one_Put
    have HC := Lib.hid hc
    have HL := Lib.hid hl
    have HO := Lib.hid ho
    have HA := Lib.hid (show ∀ j a, l[j]? = some a → (vs j).length = fPut.n ∧ fPut.At w B a (vs j) from fun j a hj => ⟨(ha j a hj).1, fPut.at_same (ha j a hj).2 (fun k hk => (hb0.block k (by omega)).symm)⟩)
    have Hi := Lib.hid hi
    have Hz0 := Lib.hid hz0
    have Hz1 := Lib.hid hz1
    have Hz2 := Lib.hid hz2
    have HW := Lib.hid hown
    have HR := Lib.hid r
    have hnil := fun w => Lib.run_eql_slice_nil (P := Try.prog) w 76 111 (some ad) l.length c 0 0 Try.underlying76
    clear hi hz0 hz1 hz2 hown hc hl ho ha r
    go_enter Try.func115, Try.ntmps115
    go_wp2_with (at_builtin; refine wpList_append_own _ rfl _ _ 76 rfl w.heap.size 111 i0 (.agg #[.int .i64 0, .int .i64 0]) 2 16 Try.underlying76 Hi.out Hz0.out Hz1.out Hz2.out rfl (by decide) _ _ _ rfl HW.out ad l.length c (catC vs l.length) rfl HL.out HC.out HO.out ?c3 ?c4 ?c5 ?_)
    case c3 => unfold maxLen; omega
    case c4 => omega
    case c5 => simp
    intro v' w3 hown' hgrow _
    have hb3 := hb0.grown hgrow (by simp) (fun p hp => (HW.out.lt p hp).1)
    have HOW := Lib.hid (show w3.ownsRow w.heap.size 111 fPut.n v' l.length (catC vs l.length) by rw [show fPut.n = 2 from rfl]; simpa using hown')
    clear hown' hgrow
    go_wp2
    go_ret
    obtain ⟨A', c', rfl, hS⟩ := Shal.of_row (F := fPut) (B := B) HOW.out HA.out
    exact ⟨A', c', rfl, hb3, hS⟩
theorem infoC_Commit : (Try.prog.info? 97).map (fun i => (i.zero, i.size, i.bytes)) = some (some (.agg #[.int .i64 0, .int .i64 0, .int .i64 0, .int .i64 0, .slice none 0 0, .slice none 0 0]), 6, 80) := by kernel_rfl
theorem one_Commit {w : World} {B : Nat} : ∀ a vs, fCommit.At w B a vs → ∀ u ∈ vs, u.oneCell' = true := fun a vs h => by obtain ⟨A4, c4, A5, c5, rfl, _⟩ := at_Commit h; simp [Value.oneCell']
set_option maxHeartbeats 800000 in
set_option maxRecDepth 100000 in
theorem clone_Commit (A : Option Addr) (c B : Nat) (l : List (DCommit)) (w : World) (hn : l.length ≤ 1048576) (r : RAt fCommit w B A l) (hB : B ≤ w.heap.size) :
    Calls Try.prog 109 #[.slice A l.length c] w fun e w' => ∃ A' c', e = .returned (.slice A' l.length c') ∧ Below w.heap.size w w' ∧ Shal fCommit w B w' A' l := by
  cases A with
  | none =>
    have h0 : l.length = 0 := by
      rcases Nat.eq_zero_or_pos l.length with h | h
      · exact h
      · obtain ⟨b, off, e, _⟩ := r.2 h
        cases e
    have hnil := fun w => Lib.run_eql_slice_nil (P := Try.prog) w 32 97 none 0 c 0 0 Try.underlying32
    rw [h0]
    go_enter Try.func109, Try.ntmps109
    go_wp2
    go_ret
    exact ⟨none, 0, rfl, Below.refl _ _, fun h => absurd h (by omega)⟩
  | some ad =>
    obtain ⟨i0, hi, hzz⟩ := Option.map_eq_some_iff.1 infoC_Commit
    injection hzz with hz0 hz12
    injection hz12 with hz1 hz2
    have hown := World.ownsRow_made (base := w.heap.size) (size := 6) (e := 97) w #[] 0 (Nat.le_refl _) (Nat.zero_le _) rfl
    have hb0 := (Below.refl w.heap.size w).alloc (Nat.le_refl _) (.cells #[] 97)
    obtain ⟨vs, hl, hc, ho, ha⟩ := src_cells (r.keep hb0 hB) one_Commit
    have HC := Lib.hid hc
    have HL := Lib.hid hl
    have HO := Lib.hid ho
    have HA := Lib.hid (show ∀ j a, l[j]? = some a → (vs j).length = fCommit.n ∧ fCommit.At w B a (vs j) from fun j a hj => ⟨(ha j a hj).1, fCommit.at_same (ha j a hj).2 (fun k hk => (hb0.block k (by omega)).symm)⟩)
    have Hi := Lib.hid hi
    have Hz0 := Lib.hid hz0
    have Hz1 := Lib.hid hz1
    have Hz2 := Lib.hid hz2
    have HW := Lib.hid hown
    have HR := Lib.hid r
    have hnil := fun w => Lib.run_eql_slice_nil (P := Try.prog) w 32 97 (some ad) l.length c 0 0 Try.underlying32
    clear hi hz0 hz1 hz2 hown hc hl ho ha r
    go_enter Try.func109, Try.ntmps109
    go_wp2_with (at_builtin; refine wpList_append_own _ rfl _ _ 32 rfl w.heap.size 97 i0 (.agg #[.int .i64 0, .int .i64 0, .int .i64 0, .int .i64 0, .slice none 0 0, .slice none 0 0]) 6 80 Try.underlying32 Hi.out Hz0.out Hz1.out Hz2.out rfl (by decide) _ _ _ rfl HW.out ad l.length c (catC vs l.length) rfl HL.out HC.out HO.out ?c3 ?c4 ?c5 ?_)
    case c3 => unfold maxLen; omega
    case c4 => omega
    case c5 => simp
    intro v' w3 hown' hgrow _
    have hb3 := hb0.grown hgrow (by simp) (fun p hp => (HW.out.lt p hp).1)
    have HOW := Lib.hid (show w3.ownsRow w.heap.size 97 fCommit.n v' l.length (catC vs l.length) by rw [show fCommit.n = 6 from rfl]; simpa using hown')
    clear hown' hgrow
    go_wp2
    go_ret
    obtain ⟨A', c', rfl, hS⟩ := Shal.of_row (F := fCommit) (B := B) HOW.out HA.out
    exact ⟨A', c', rfl, hb3, hS⟩
end Go.Proofs.Ytkpkjcmoldkmmaa

namespace Go.Proofs.Ytkpkjcmoldkmmaa
open Go.RowKit

theorem flat_Act {w w' : World} {B : Nat} : ∀ a vs, fAct.At w B a vs → fAct.Own w' w'.heap.size w'.heap.size a vs := fun a vs h => by
  have := at_Act h
  subst this
  exact own_Act (Nat.le_refl _) a
theorem cl_Act (A : Option Addr) (c B : Nat) (l : List DAct) (w : World) (hn : l.length ≤ 1048576) (r : RAt fAct w B A l) (hB : B ≤ w.heap.size) :
    Calls Try.prog 92 #[.slice A l.length c] w (RetF fAct w l) :=
  (clone_Act A c B l w hn r hB).mono fun _ _ ⟨A', c', h1, h2, h3⟩ => ⟨A', c', h1, h2, h3.own r.1 flat_Act⟩
set_option maxHeartbeats 1600000 in
set_option maxRecDepth 100000 in
theorem copiedProgs_any (A : Option Addr) (c B : Nat) (l : List (List DAct)) (w : World) (hs : (rowF (rowF fAct)).cnt l ≤ 1048576) (hB : B ≤ w.heap.size) (r : RAt (rowF fAct) w B A l) :
    Calls Try.prog 52 #[.slice A l.length c] w (RetF (rowF fAct) w l) := by
  have hn : l.length ≤ 1048576 := by rw [row_cnt] at hs; omega
  have hmx := r.1
  go_enter Try.func52, Try.ntmps52
  go_wp2_with fail
  (with_reducible refine (clone_ActS A c B l w hn r hB).mono ?_); rintro e w1 ⟨A1, c1, rfl, b1, hS⟩
  by_cases hl : 0 < l.length
  · obtain ⟨g, zs, rfl, hg, hlt, hf, hc⟩ := hS hl
    have L0 := LaidV.start (F := rowF fAct) (zs := zs) (l := l) hlt hf (fun j hj => (hc j _ (List.getElem?_eq_getElem hj)).1)
    have HZ := Lib.hid (show ∀ j, j < l.length → (zs j).length = (rowF fAct).n from fun j hj => (rowF fAct).len (hc j _ (List.getElem?_eq_getElem hj)).2)
    have HC := Lib.hid (show ∀ j a, l[j]? = some a → (rowF fAct).At w B a (zs j) from fun j a hj => (hc j a hj).2)
    clear hS hf hc
    go_wp2_with fail
    go_loopw [9] (fun i wr => ∃ (k : Nat) (vs : Nat → List Value) (L H : Nat → Nat), k ≤ l.length ∧ i = .int .i64 k ∧ Below w.heap.size w wr ∧ LaidV (rowF fAct) g zs l wr k vs L H) (fun i _ => l.length - (intOf i).toNat)
    case atStart => exact ⟨0, _, _, _, Nat.zero_le _, rfl, b1, L0⟩
    case round =>
      clear L0 b1
      obtain ⟨k, vs, L, H, hk, rfl, b, hL⟩ := hrel
      have hsz := b.size
      by_cases hkn : k < l.length
      · have hkz : (k : Int) < l.length := by omega
        have hget : l[k]? = some l[k] := List.getElem?_eq_getElem hkn
        have hat := HC.out k _ hget
        have hcp := cnt_at (F := rowF fAct) hget
        generalize l[k] = p at hget hat hcp
        rw [row_cnt] at hcp
        obtain ⟨A0, c0, e0, r0⟩ := hat
        have hz := hL.here hkn
        rw [e0, show (rowF fAct).n = 1 from rfl, Nat.mul_one] at hz
        have d0 := hz.c1
        have hgl := hL.lt
        have hBr : B ≤ wr.heap.size := by omega
        have r0 := r0.keep b hB
        clear hz
        go_wp2_with fail
        (with_reducible refine (cl_Act A0 c0 B p _ (by omega) r0 hBr).mono ?_); rintro e w3 ⟨A3, c3, rfl, b3, o3⟩
        have hL3 := hL.next b3
        have hz3 := hL3.here hkn
        rw [e0, show (rowF fAct).n = 1 from rfl, Nat.mul_one] at hz3
        have d3 := hz3.c1
        have d4 := hL3.free k
        have HS := Lib.hid (hL3.step hkn hget (v := [.slice A3 p.length c3]) (s := wr.heap.size) rfl HZ.out hgl (hL.top hk) ⟨A3, c3, rfl, o3⟩)
        have hgl3 := hL3.lt
        have hb := Lib.hid (b.trans (b3.mono b.size))
        clear hL hL3 hz3 o3 r0 d0 b3 b
        go_wp2
        exact ⟨⟨k + 1, _, _, _, by omega, by go_num, hb.out.setCell hg _, by simpa [storeRec, show (rowF fAct).n = 1 from rfl] using HS.out⟩, by simp [intOf]; omega⟩
      · obtain rfl : k = l.length := by omega
        have HD := Lib.hid (hL.done (lo := w.heap.size) hmx hg (Nat.le_refl _))
        clear hL
        go_wp2
        go_ret
        exact ⟨_, _, rfl, b, HD.out⟩
  · have h0 : l = [] := List.eq_nil_of_length_eq_zero (by omega)
    subst h0
    clear hS
    go_wp2_with fail
    go_loopw [9] (fun i wr => i = .int .i64 0 ∧ Below w.heap.size w wr) (fun i _ => 0)
    case atStart => exact ⟨rfl, b1⟩
    case round =>
      obtain ⟨rfl, b⟩ := hrel
      go_wp2
      go_ret
      exact ⟨_, _, rfl, b, ROwn.nil⟩
end Go.Proofs.Ytkpkjcmoldkmmaa

namespace Go.Proofs.Ytkpkjcmoldkmmaa
open Go.RowKit

set_option maxHeartbeats 1600000 in
set_option maxRecDepth 100000 in
theorem l06Prog_any (A : Option Addr) (c B : Nat) (l : List DAct) (w : World) (hn : l.length ≤ 1048576) (hB : B ≤ w.heap.size) (r : RAt fAct w B A l) :
    Calls Try.prog 48 #[.slice A l.length c] w (RetF fAct w l) := by
  obtain ⟨i0, hi, hzz⟩ := Option.map_eq_some_iff.1 infoC_Act
  injection hzz with hz0 hz12
  injection hz12 with hz1 hz2
  have Hi := Lib.hid hi
  have Hz0 := Lib.hid hz0
  have Hz1 := Lib.hid hz1
  have Hz2 := Lib.hid hz2
  clear hi hz0 hz1 hz2
  have hown := World.ownsRow_made (base := w.heap.size) (size := 3) (e := 118) w #[] 0 (Nat.le_refl _) (Nat.zero_le _) rfl
  have hb0 := (Below.refl w.heap.size w).alloc (Nat.le_refl _) (.cells #[] 118)
  go_enter Try.func48, Try.ntmps48
  go_wp2_with fail
  have hG0 := Grow.of_row (F := fAct) hown
  generalize w.alloc (.cells #[] 118) = w1 at hG0 hb0 ⊢
  clear hown
  go_loopw [3, 4] (fun v i wr => ∃ (k : Nat) (M : List DAct) (vs : Nat → List Value) (L H : Nat → Nat), k ≤ l.length ∧ i = .int .i64 k ∧ Hid (M = l.take k) ∧ M.length ≤ 1048576 ∧ Grow fAct 118 w.heap.size wr v M vs L H ∧ Below w.heap.size w wr) (fun _ i _ => l.length - (intOf i).toNat)
  case atStart => exact ⟨0, [], _, _, _, Nat.zero_le _, rfl, Lib.hid rfl, Nat.zero_le _, hG0, hb0⟩
  case round =>
    clear hG0 hb0
    obtain ⟨k, M, vs, L, H, hk, rfl, HM, hMl, hG, b⟩ := hrel
    have hsz := b.size
    by_cases hkn : k < l.length
    · obtain ⟨bb, off, rfl, hbB, hc⟩ := r.2 (by omega)
      have hkz : (k : Int) < l.length := by omega
      have hget : l[k]? = some l[k] := List.getElem?_eq_getElem hkn
      obtain ⟨v0, hv0, hat0⟩ := hc k _ hget
      have hv := hv0.below b (show bb < w.heap.size by omega)
      rw [show fAct.n = 3 from rfl] at hv
      generalize l[k] = a at hget hat0
      have ev := at_Act hat0
      subst ev
      obtain ⟨a0, a1, a2⟩ := hv.c3
      have HG := Lib.hid hget
      have hA := (Below.refl wr.heap.size wr).alloc (Nat.le_refl _) (.cells #[.int .i64 a.1, .int .i64 a.2.1, .int .i64 a.2.2] 118)
      have hGa := hG.next hA
      have hbk := hG.row.lt
      have hH4 := hG.top
      have ON := Lib.hid (one_Act (w := wr) (B := 0) _ _ (mk_Act (d := a)))
      have OW := Lib.hid (own_Act (w := wr.alloc (.cells #[.int .i64 a.1, .int .i64 a.2.1, .int .i64 a.2.2] 118)) (Nat.le_refl wr.heap.size) a)
      clear hc hv0 hat0 hv hget hA hG
      go_wp2_with (at_builtin; refine wpList_append_lies _ rfl _ _ 63 rfl w.heap.size 118 i0 (.agg #[.int .i64 0, .int .i64 0, .int .i64 0]) 3 24 Try.underlying63 Hi.out Hz0.out Hz1.out Hz2.out rfl (by decide) _ _ _ rfl (show World.ownsRow _ _ _ 3 _ _ _ from hGa.row) ⟨wr.heap.size, 0, none⟩ 1 1 [.int .i64 a.1, .int .i64 a.2.1, .int .i64 a.2.2] rfl rfl ?c1 ON.out (by decide) ?c3 ?c4 ?c5 (wr.heap.size + 1) ?c6 ?_)
      case c1 => intro j u hu; rw [cell_addr, Nat.zero_add, World.cell?_alloc_new]; simpa using hu
      case c3 => unfold maxLen; omega
      case c4 => omega
      case c5 => simp; omega
      case c6 => simp
      intro g cap w5 hown' hgrow hat hlt
      have HG5 := Lib.hid (hGa.push (a := a) (nv := [.int .i64 a.1, .int .i64 a.2.1, .int .i64 a.2.2]) (s := wr.heap.size) (t := wr.heap.size) hown' hgrow (by rcases hat with h | h; exact .inl h; exact .inr (by simpa using h)) OW.out hsz (by simp) hH4 (fun q hq => (hbk q hq).2))
      have b45 : Below w.heap.size wr w5 := ((Below.refl w.heap.size wr).alloc hsz (.cells #[.int .i64 a.1, .int .i64 a.2.1, .int .i64 a.2.2] 118)).grown hgrow (by simp; omega) (fun q hq => (hGa.row.lt q hq).1)
      have b := b.trans b45
      have HM5 := Lib.hid (show M ++ [a] = l.take (k + 1) by rw [List.take_add_one, HG.out, ← HM.out]; rfl)
      have HM5L := Lib.hid (show (M ++ [a]).length ≤ 1048576 by rw [HM5.out]; simp; omega)
      clear hown' hgrow hat hGa OW ON b45 hbk hH4 HM hMl a0 a1 a2
      go_wp2
      exact ⟨⟨k + 1, M ++ [a], _, _, _, by omega, by go_num, HM5, HM5L.out, HG5.out, b⟩, by simp [intOf]; omega⟩
    · obtain rfl : k = l.length := by omega
      have hMT := HM.out
      rw [List.take_length] at hMT
      subst hMT
      obtain ⟨X0, C0, rfl, o6⟩ := hG.done
      have O6 := Lib.hid o6
      clear hG o6
      go_wp2
      go_ret
      exact ⟨_, _, rfl, b, O6.out⟩
end Go.Proofs.Ytkpkjcmoldkmmaa

namespace Go.Proofs.Ytkpkjcmoldkmmaa
open Go.RowKit

def emptyW (P : List (List DAct)) : DWorker := (P, 0, 0, 0, 0, [], [], [], [])
def zeroCell : DCell := (0, (0, 0, false), ([], []))
def listIn (K : Int) (P : List (List DAct)) : Bool := decide (P.length ≤ 12) && P.all (progIn K)
def newOk (s : DSetup) (ps : List (List (List DAct))) : Bool := setupB s && (decide (ps.length ≤ 4) && ps.all (listIn s.1))
def newE (s : DSetup) (ps : List (List (List DAct))) : DEngine := (s, List.replicate s.1.toNat zeroCell, ps.map emptyW, List.replicate 8 0, 0, -1, [], 0, 0)
def zeroE : DEngine := ((0, 0, 0, false, 0), [], [], [], 0, 0, [], 0, 0)
def newD (s : DSetup) (ps : List (List (List DAct))) : DEngine := if newOk s ps then newE s ps else zeroE
theorem newD_yes {s : DSetup} {ps : List (List (List DAct))} (h : newOk s ps = true) : newD s ps = newE s ps := if_pos h
theorem newD_no {s : DSetup} {ps : List (List (List DAct))} (h : newOk s ps = false) : newD s ps = zeroE := by unfold newD; rw [h]; rfl
theorem newOk_no1 {s : DSetup} {ps : List (List (List DAct))} (h : setupB s = false) : newOk s ps = false := by simp [newOk, h]
theorem newOk_no2 {s : DSetup} {ps : List (List (List DAct))} (h : ¬ ps.length ≤ 4) : newOk s ps = false := by simp [newOk, h]
theorem newOk_no3 {s : DSetup} {ps : List (List (List DAct))} {k : Nat} {P : List (List DAct)} (hg : ps[k]? = some P) (h : listIn s.1 P = false) : newOk s ps = false := by
  unfold newOk
  rw [all_noE hg h]
  simp
theorem newOk_yes {s : DSetup} {ps : List (List (List DAct))} (h1 : setupB s = true) (h2 : ps.length ≤ 4) (h3 : ∀ j P, j < ps.length → ps[j]? = some P → listIn s.1 P = true) : newOk s ps = true := by
  unfold newOk
  rw [h1, all_yesE h3]
  simp [h2]
/-- an answer: an engine of the call's own, and whether there is one -/
def RetEB (w : World) (d : DEngine) (b : Bool) (e : Ending) (w' : World) : Prop :=
  ∃ (A5 : Option Addr) (c5 : Nat) (A6 : Option Addr) (c6 : Nat) (A7 : Option Addr) (c7 : Nat) (A10 : Option Addr) (c10 : Nat) (L1 H1 L2 H2 L3 H3 L4 H4 : Nat),
    e = .returned (.tuple #[.agg #[.int .i64 d.1.1, .int .i64 d.1.2.1, .int .i64 d.1.2.2.1, .bool d.1.2.2.2.1, .int .i64 d.1.2.2.2.2, .slice A5 (d.2.1).length c5, .slice A6 (d.2.2.1).length c6, .slice A7 (d.2.2.2.1).length c7, .int .i64 d.2.2.2.2.1, .int .i64 d.2.2.2.2.2.1, .slice A10 (d.2.2.2.2.2.2.1).length c10, .int .i64 d.2.2.2.2.2.2.2.1, .int .i64 d.2.2.2.2.2.2.2.2], .bool b])
    ∧ Below w.heap.size w w' ∧ EOwn w' w.heap.size w'.heap.size d A5 A6 A7 A10 L1 H1 L2 H2 L3 H3 L4 H4
theorem RetEB.zero {w w' : World} (b : Below w.heap.size w w') : RetEB w zeroE false (.returned (.tuple #[.agg #[.int .i64 0, .int .i64 0, .int .i64 0, .bool false, .int .i64 0, .slice none 0 0, .slice none 0 0, .slice none 0 0, .int .i64 0, .int .i64 0, .slice none 0 0, .int .i64 0, .int .i64 0], .bool false])) w' :=
  ⟨none, 0, none, 0, none, 0, none, 0, w.heap.size, w.heap.size, w.heap.size, w.heap.size, w.heap.size, w.heap.size, w.heap.size, w.heap.size, rfl, b, ROwn.nil, ROwn.nil, ROwn.nil, ROwn.nil, ⟨Nat.le_refl _, b.size⟩, ⟨Nat.le_refl _, b.size⟩, ⟨Nat.le_refl _, b.size⟩, ⟨Nat.le_refl _, b.size⟩, .inl (Nat.le_refl _), .inl (Nat.le_refl _), .inl (Nat.le_refl _), .inl (Nat.le_refl _), .inl (Nat.le_refl _), .inl (Nat.le_refl _)⟩
theorem zero_rows {w : World} {lo B : Nat} {A : Option Addr} {n : Nat} (h : TOwn w lo B A (zeros n)) (hn : n ≤ maxLen) : ROwn fCell w lo B A (List.replicate n zeroCell) := by
  refine ⟨by simpa using hn, fun h0 => ?_⟩
  have h0 : 0 < n := by simpa using h0
  obtain ⟨b, off, rfl, q, L, H, hr⟩ := h (by rw [zeros_len]; exact h0)
  rw [zeros_len] at hr
  have hlo := hr.rlo
  have hhi := hr.rhi
  refine ⟨b, off, rfl, fun j => [.int .i64 0, .int .i64 0, .int .i64 0, .bool false, .slice (q j).G 0 (q j).c, .slice (q j).G' 0 (q j).c'], fun _ => B, fun _ => B, hlo, hhi, hr.free, fun j _ => ⟨by omega, Nat.le_refl _, .inl hhi⟩, fun _ _ _ _ _ => .inl (Nat.le_refl _), fun j hj i u hu => ?_, fun j a ha => ?_⟩
  · have hc := hr.cell j (by simpa using hj)
    rw [zeros_at] at hc
    have hi : i < 6 := by simpa using (List.getElem?_eq_some_iff.1 hu).1
    rw [show fCell.n = 6 from rfl]
    match i, hi, hu with
    | 0, _, hu => simp at hu; subst hu; exact hc.c0
    | 1, _, hu => simp at hu; subst hu; exact hc.c1
    | 2, _, hu => simp at hu; subst hu; exact hc.c2
    | 3, _, hu => simp at hu; subst hu; exact hc.c3
    | 4, _, hu => simp at hu; subst hu; exact hc.c4
    | 5, _, hu => simp at hu; subst hu; exact hc.c5
  · have e : a = zeroCell := by
      have := List.mem_of_getElem? ha
      exact (List.mem_replicate.1 this).2
    subst e
    exact own_Cell (d := zeroCell) (v2 := [.slice (q j).G 0 (q j).c, .slice (q j).G' 0 (q j).c']) (L2 := B) (H2 := B) (Nat.le_refl _) (Nat.le_refl _) ⟨[.slice (q j).G 0 (q j).c], _, B, B, B, B, rfl, by omega, ⟨_, _, rfl, ROwn.nil⟩, ⟨_, _, rfl, ROwn.nil⟩⟩ (Nat.le_refl _)
theorem own_emptyW {w : World} {s t : Nat} {A : Option Addr} {c : Nat} {P : List (List DAct)} (h : ROwn (rowF fAct) w s t A P) (hst : s ≤ t) : fWorker.Own w s t (emptyW P) [.slice A P.length c, .int .i64 0, .int .i64 0, .int .i64 0, .int .i64 0, .slice none 0 0, .slice none 0 0, .slice none 0 0, .slice none 0 0] :=
  own_Worker (d := emptyW P) (v0 := [.slice A P.length c]) (v5 := [.slice none 0 0]) (v6 := [.slice none 0 0]) (v7 := [.slice none 0 0]) (v8 := [.slice none 0 0]) (L0 := s) (H0 := t) (L5 := t) (H5 := t) (L6 := t) (H6 := t) (L7 := t) (H7 := t) (L8 := t) (H8 := t)
    (Nat.le_refl _) hst ⟨_, _, rfl, h⟩ (Nat.le_refl _) (Nat.le_refl _) ⟨_, _, rfl, ROwn.nil⟩ (Nat.le_refl _) (Nat.le_refl _) ⟨_, _, rfl, ROwn.nil⟩ (Nat.le_refl _) (Nat.le_refl _) ⟨_, _, rfl, ROwn.nil⟩ (Nat.le_refl _) (Nat.le_refl _) ⟨_, _, rfl, ROwn.nil⟩ (Nat.le_refl _)
theorem take_map_succ {α β : Type} {f : α → β} {l : List α} {k : Nat} {a : α} (h : l[k]? = some a) : (l.take (k + 1)).map f = (l.take k).map f ++ [f a] := by
  rw [List.take_add_one, h]
  simp
theorem infoWorker : (Try.prog.info? 78).map (fun i => (i.zero, i.size, i.bytes)) = some (some (.agg #[.slice none 0 0, .int .i64 0, .int .i64 0, .int .i64 0, .int .i64 0, .slice none 0 0, .slice none 0 0, .slice none 0 0, .slice none 0 0]), 9, 152) := by kernel_rfl
theorem heat_rows {w : World} {g t lo B : Nat} (h : w.rowIs g t 8 (fun _ => .int .i64 0)) (hlo : lo ≤ g) (hB : g < B) : ROwn intF w lo B (some ⟨g, 0, none⟩) (List.replicate 8 0) :=
  ⟨by simp [maxLen], fun _ => ⟨g, 0, rfl, fun _ => [.int .i64 0], fun _ => B, fun _ => B, hlo, hB, fun o => h.frozen o, fun j _ => ⟨by omega, Nat.le_refl _, .inl hB⟩, fun _ _ _ _ _ => .inl (Nat.le_refl _), fun j hj i u hu => by
    have hi : i = 0 := by have := (List.getElem?_eq_some_iff.1 hu).1; simp at this; omega
    subst hi
    simp at hu
    subst hu
    have hj : j < 8 := by simpa using hj
    rw [show (intF : Fm Int).n = 1 from rfl, Nat.mul_one, Nat.zero_add, Nat.add_zero]
    exact h.cell hj, fun j a ha => by
      have : a = 0 := (List.mem_replicate.1 (List.mem_of_getElem? ha)).2
      subst this
      rfl⟩⟩
theorem one_Worker {w : World} {B : Nat} : ∀ a vs, fWorker.At w B a vs → ∀ u ∈ vs, u.oneCell' = true := fun a vs h => by obtain ⟨A0, c0, A5, c5, A6, c6, A7, c7, A8, c8, rfl, _⟩ := at_Worker h; simp [Value.oneCell']
theorem make8 (w : World) : (Instr.makeSlice 31 (.int .i64 8) (.int .i64 8)).run Try.prog w = .ok (.slice (some ⟨w.heap.size, 0, none⟩) 8 8) (w.alloc (.cells (madeCells #[.int .i64 0] 8) 3)) := run_make_ints 8 (by decide) w
theorem made_row8 (w : World) (t : TypeId) : (w.alloc (.cells (madeCells #[.int .i64 0] 8) t)).rowIs w.heap.size t 8 (fun _ => .int .i64 0) :=
  ⟨_, Go.Deep.blk_alloc_new _ _, size_madeCells _ _, fun i hi => by
    have hm : i % 1 = 0 := Nat.mod_one i
    simp [madeCells, hi, hm]⟩
theorem setup_keys {s : DSetup} (h : setupB s = true) : inB s.1 1 8 = true := by
  simp only [setupB, Bool.and_eq_true] at h
  exact h.1.1.1
theorem setup_le {s : DSetup} (h : setupB s = true) : s.1.toNat ≤ 8 := by
  have := setup_keys h
  simp only [inB, Bool.and_eq_true, decide_eq_true_eq] at this
  omega
theorem clsN (w1 : World) : ∃ (I : Type) (F : I → World), Nonempty I ∧ (∃ n, w1.drew = F n) ∧ (∀ n, Below w1.heap.size w1 (F n)) ∧ ∀ n w2, Below (F n).heap.size (F n) w2 → ∃ m, w2 = F m := by
  obtain ⟨I, F, hI, h0, hF, hi⟩ := cls (S := fun W => Below w1.heap.size w1 W) (Below.refl w1.heap.size w1).drew
  exact ⟨I, F, hI, h0, hF, fun n w2 hb => hi w2 ((hF n).trans (hb.mono (hF n).size))⟩
/-- the engine's box and the heat, made in one region: which comes first is drawn -/
def CutE (w4 : World) (s : DSetup) (A5 : Option Addr) (c5 : Nat) (p : Value) (wx : World) : Prop := ∃ Eb Hb : Nat, p = .pointer (some ⟨Eb, 0, none⟩) ∧ Below w4.heap.size w4 wx ∧ wx.heap.size = w4.heap.size + 2 ∧
  w4.heap.size ≤ Eb ∧ Eb < w4.heap.size + 2 ∧ w4.heap.size ≤ Hb ∧ Hb < w4.heap.size + 2 ∧ ¬ Eb = Hb ∧
  Bx wx Eb [.int .i64 s.1, .int .i64 s.2.1, .int .i64 s.2.2.1, .bool s.2.2.2.1, .int .i64 s.2.2.2.2, .slice A5 s.1.toNat c5, .slice none 0 0, .slice (some ⟨Hb, 0, none⟩) 8 8, .int .i64 0, .int .i64 (-1), .slice none 0 0, .int .i64 0, .int .i64 0] ∧ wx.rowIs Hb 3 8 (fun _ => .int .i64 0)
theorem cutE_1 (w4 : World) (s : DSetup) (A5 : Option Addr) (c5 : Nat) : CutE w4 s A5 c5 (.pointer (some ⟨w4.heap.size + 1, 0, none⟩)) ((w4.alloc (.cells (madeCells #[.int .i64 0] 8) 3)).alloc (.cells #[.int .i64 s.1, .int .i64 s.2.1, .int .i64 s.2.2.1, .bool s.2.2.2.1, .int .i64 s.2.2.2.2, .slice A5 s.1.toNat c5, .slice none 0 0, .slice (some ⟨w4.heap.size, 0, none⟩) 8 8, .int .i64 0, .int .i64 (-1), .slice none 0 0, .int .i64 0, .int .i64 0] 34)).drew := by
  refine ⟨w4.heap.size + 1, w4.heap.size, rfl, (((Below.refl w4.heap.size w4).alloc (Nat.le_refl _) _).alloc (by simp) _).drew, by simp [World.drew], by omega, by omega, by omega, by omega, by omega, ?_, ?_⟩
  · exact (Bx.new (w := w4.alloc (.cells (madeCells #[.int .i64 0] 8) 3)) (b := w4.heap.size + 1) (c := #[.int .i64 s.1, .int .i64 s.2.1, .int .i64 s.2.2.1, .bool s.2.2.2.1, .int .i64 s.2.2.2.2, .slice A5 s.1.toNat c5, .slice none 0 0, .slice (some ⟨w4.heap.size, 0, none⟩) 8 8, .int .i64 0, .int .i64 (-1), .slice none 0 0, .int .i64 0, .int .i64 0]) (t := 34) (by simp)).drew
  · have h := rowIs_below (made_row8 w4 3) ((Below.refl (w4.alloc (.cells (madeCells #[.int .i64 0] 8) 3)).heap.size (w4.alloc (.cells (madeCells #[.int .i64 0] 8) 3))).alloc (Nat.le_refl _) (.cells #[.int .i64 s.1, .int .i64 s.2.1, .int .i64 s.2.2.1, .bool s.2.2.2.1, .int .i64 s.2.2.2.2, .slice A5 s.1.toNat c5, .slice none 0 0, .slice (some ⟨w4.heap.size, 0, none⟩) 8 8, .int .i64 0, .int .i64 (-1), .slice none 0 0, .int .i64 0, .int .i64 0] 34)) (by simp)
    exact h
theorem cutE_2 (w4 : World) (s : DSetup) (A5 : Option Addr) (c5 : Nat) : CutE w4 s A5 c5 (.pointer (some ⟨w4.heap.size, 0, none⟩)) ((w4.alloc (.cells #[.int .i64 s.1, .int .i64 s.2.1, .int .i64 s.2.2.1, .bool s.2.2.2.1, .int .i64 s.2.2.2.2, .slice A5 s.1.toNat c5, .slice none 0 0, .slice (some ⟨w4.heap.size + 1, 0, none⟩) 8 8, .int .i64 0, .int .i64 (-1), .slice none 0 0, .int .i64 0, .int .i64 0] 34)).alloc (.cells (madeCells #[.int .i64 0] 8) 3)).drew := by
  refine ⟨w4.heap.size, w4.heap.size + 1, rfl, (((Below.refl w4.heap.size w4).alloc (Nat.le_refl _) _).alloc (by simp) _).drew, by simp [World.drew], by omega, by omega, by omega, by omega, by omega, ?_, ?_⟩
  · exact ((Bx.new (w := w4) (c := #[.int .i64 s.1, .int .i64 s.2.1, .int .i64 s.2.2.1, .bool s.2.2.2.1, .int .i64 s.2.2.2.2, .slice A5 s.1.toNat c5, .slice none 0 0, .slice (some ⟨w4.heap.size + 1, 0, none⟩) 8 8, .int .i64 0, .int .i64 (-1), .slice none 0 0, .int .i64 0, .int .i64 0]) (t := 34) rfl).alloc _).drew
  · have h := made_row8 (w4.alloc (.cells #[.int .i64 s.1, .int .i64 s.2.1, .int .i64 s.2.2.1, .bool s.2.2.2.1, .int .i64 s.2.2.2.2, .slice A5 s.1.toNat c5, .slice none 0 0, .slice (some ⟨w4.heap.size + 1, 0, none⟩) 8 8, .int .i64 0, .int .i64 (-1), .slice none 0 0, .int .i64 0, .int .i64 0] 34)) 3
    rw [show (w4.alloc (.cells #[.int .i64 s.1, .int .i64 s.2.1, .int .i64 s.2.2.1, .bool s.2.2.2.1, .int .i64 s.2.2.2.2, .slice A5 s.1.toNat c5, .slice none 0 0, .slice (some ⟨w4.heap.size + 1, 0, none⟩) 8 8, .int .i64 0, .int .i64 (-1), .slice none 0 0, .int .i64 0, .int .i64 0] 34)).heap.size = w4.heap.size + 1 by simp] at h
    exact h
theorem Grow.sameI {α : Type} {F : Fm α} {e : TypeId} {base lo B : Nat} {w w' : World} {v : Value} {l : List α} {vs : Nat → List Value} {L H : Nat → Nat} (h : Grow F e base w v l vs L H) (ho : Onlys lo B w w') (hd : B ≤ base) : Grow F e base w' v l vs L H := by
  refine ⟨?_, fun j a hj => ⟨(h.own j a hj).1, by rw [ho.size]; exact (h.own j a hj).2.1, F.own_same (h.own j a hj).2.2 (.only ho (.inr (by have := (h.own j a hj).1; omega)))⟩, h.part, h.far⟩
  refine ⟨h.row.1, ?_⟩
  rcases h.row.2 with hn | ⟨g, cap, cur, rfl, hb, hgg, rest⟩
  · exact .inl hn
  · exact .inr ⟨g, cap, cur, rfl, hb, (ho.block g (.inr (by omega))).trans hgg, rest⟩
theorem onlys_one (w : World) (g o : Nat) (u : Value) : Onlys g (g + 1) w (w.setCell ⟨g, o, none⟩ u) := (Onlys.refl g (g + 1) w).setCell (p := ⟨g, o, none⟩) (by simp) (by simp) u
theorem cnt_emptyW (P : List (List DAct)) : fWorker.cnt (emptyW P) = (rowF (rowF fAct)).cnt P := by
  rw [cnt_Worker]
  show (rowF (rowF fAct)).cnt P + 0 + 0 + 0 + 0 = _
  rfl
theorem cnt_empties : ∀ l : List (List (List DAct)), (rowF fWorker).cnt (l.map emptyW) = (rowF (rowF (rowF fAct))).cnt l := fun l => by
  show (l.map emptyW).length + ((l.map emptyW).map fWorker.cnt).sum = l.length + (l.map (rowF (rowF fAct)).cnt).sum
  rw [List.map_map, List.length_map, show (fWorker.cnt ∘ emptyW) = (rowF (rowF fAct)).cnt from funext cnt_emptyW]
theorem newD_ub (s : DSetup) (l : List (List (List DAct))) (h : (rowF (rowF (rowF fAct))).cnt l ≤ 1048576) : ad_Engine (newD s l) ≤ 1099511627000 := by
  have hu := ub_Engine (newD s l)
  have hc : fEngine.cnt (newD s l) ≤ 1048600 := by
    unfold newD
    by_cases hk : newOk s l = true
    · rw [if_pos hk]
      have h1 : setupB s = true := by simp only [newOk, Bool.and_eq_true] at hk; exact hk.1
      have h8 := setup_le h1
      have hce := cnt_Engine (newE s l)
      have hct := cnt_Table (newE s l).2.1
      have hw := cnt_empties l
      have h2 : (rowF fCell).cnt (List.replicate s.1.toNat zeroCell) = s.1.toNat := by
        show (List.replicate s.1.toNat zeroCell).length + ((List.replicate s.1.toNat zeroCell).map fCell.cnt).sum = _
        rw [List.map_replicate, show fCell.cnt zeroCell = 0 from rfl, List.length_replicate, List.sum_replicate_nat]
        omega
      have e1 : (newE s l).2.1 = List.replicate s.1.toNat zeroCell := rfl
      have e2 : (newE s l).2.2.1 = l.map emptyW := rfl
      have e3 : (rowF intF).cnt (newE s l).2.2.2.1 = 8 := rfl
      have e4 : (rowF fCommit).cnt (newE s l).2.2.2.2.2.2.1 = 0 := rfl
      rw [e1] at hct
      rw [e1, e2, e3, e4] at hce
      omega
    · rw [if_neg hk]
      have : fEngine.cnt zeroE = 0 := rfl
      omega
  omega
theorem put_box {w : World} {P : Nat} {us vs : List Value} (h : Bx w P us) (hl : us.length = vs.length) : Bx (storeRec w P 0 vs) P vs ∧ Onlys P (P + 1) w (storeRec w P 0 vs) := by
  have hon := storeRec_only P vs w 0
  refine ⟨⟨by rw [hon.size]; exact h.lt, fun j u hu => ?_, fun o => by rw [storeRec_frozen]; exact h.free o⟩, hon⟩
  have := storeRec_near P vs us w 0 hl (fun i u hu => by rw [Nat.zero_add]; exact h.cell i u hu) j u hu
  rwa [Nat.zero_add] at this
end Go.Proofs.Ytkpkjcmoldkmmaa

namespace Go.Proofs.Ytkpkjcmoldkmmaa
open Go.RowKit

set_option maxHeartbeats 6400000 in
set_option maxRecDepth 100000 in
theorem implNewEngine_any (s : DSetup) (A : Option Addr) (c B : Nat) (l : List (List (List DAct))) (w : World) (hs : (rowF (rowF (rowF fAct))).cnt l ≤ 1048576) (hB : B ≤ w.heap.size) (r : RAt (rowF (rowF fAct)) w B A l) :
    Calls Try.prog 14 #[.agg #[.int .i64 s.1, .int .i64 s.2.1, .int .i64 s.2.2.1, .bool s.2.2.2.1, .int .i64 s.2.2.2.2], .slice A l.length c] w (RetEB w (newD s l) (newOk s l)) := by
  obtain ⟨i0, hi, hzz⟩ := Option.map_eq_some_iff.1 infoWorker
  injection hzz with hz0 hz12
  injection hz12 with hz1 hz2
  have Hi := Lib.hid hi
  have Hz0 := Lib.hid hz0
  have Hz1 := Lib.hid hz1
  have Hz2 := Lib.hid hz2
  clear hi hz0 hz1 hz2
  have hmk := make8
  have hln : l.length ≤ 1048576 := by rw [row_cnt] at hs; omega
  go_enter Try.func14, Try.ntmps14
  go_wp2_with fail
  have b := ((Below.refl w.heap.size w).alloc (Nat.le_refl _) (.cells #[.int .i64 s.1, .int .i64 s.2.1, .int .i64 s.2.2.1, .bool s.2.2.2.1, .int .i64 s.2.2.2.2] 26)).alloc (by simp) (.cells #[.int .i64 0, .int .i64 0, .int .i64 0, .bool false, .int .i64 0, .slice none 0 0, .slice none 0 0, .slice none 0 0, .int .i64 0, .int .i64 0, .slice none 0 0, .int .i64 0, .int .i64 0] 34)
  have X := (Bx.new (w := w) (c := #[.int .i64 s.1, .int .i64 s.2.1, .int .i64 s.2.2.1, .bool s.2.2.2.1, .int .i64 s.2.2.2.2]) (t := 26) rfl).alloc (.cells #[.int .i64 0, .int .i64 0, .int .i64 0, .bool false, .int .i64 0, .slice none 0 0, .slice none 0 0, .slice none 0 0, .int .i64 0, .int .i64 0, .slice none 0 0, .int .i64 0, .int .i64 0] 34)
  have Y := Bx.new (w := w.alloc (.cells #[.int .i64 s.1, .int .i64 s.2.1, .int .i64 s.2.2.1, .bool s.2.2.2.1, .int .i64 s.2.2.2.2] 26)) (b := w.heap.size + 1) (c := #[.int .i64 0, .int .i64 0, .int .i64 0, .bool false, .int .i64 0, .slice none 0 0, .slice none 0 0, .slice none 0 0, .int .i64 0, .int .i64 0, .slice none 0 0, .int .i64 0, .int .i64 0]) (t := 34) (by simp)
  have hsz0 : w.heap.size + 2 ≤ ((w.alloc (.cells #[.int .i64 s.1, .int .i64 s.2.1, .int .i64 s.2.2.1, .bool s.2.2.2.1, .int .i64 s.2.2.2.2] 26)).alloc (.cells #[.int .i64 0, .int .i64 0, .int .i64 0, .bool false, .int .i64 0, .slice none 0 0, .slice none 0 0, .slice none 0 0, .int .i64 0, .int .i64 0, .slice none 0 0, .int .i64 0, .int .i64 0] 34)).heap.size := by simp
  generalize ((w.alloc (.cells #[.int .i64 s.1, .int .i64 s.2.1, .int .i64 s.2.2.1, .bool s.2.2.2.1, .int .i64 s.2.2.2.2] 26)).alloc (.cells #[.int .i64 0, .int .i64 0, .int .i64 0, .bool false, .int .i64 0, .slice none 0 0, .slice none 0 0, .slice none 0 0, .int .i64 0, .int .i64 0, .slice none 0 0, .int .i64 0, .int .i64 0] 34)) = w1 at b X Y hsz0 ⊢
  (with_reducible refine (implSetupOk_any s _).mono ?_); rintro o w2 ⟨rfl, hb⟩
  have X := X.next hb
  have Y := Y.next hb
  have b := b.trans (hb.mono b.size)
  have hsz2 : w.heap.size + 2 ≤ w2.heap.size := Nat.le_trans hsz0 hb.size
  clear hb
  cases h1 : setupB s with
  | false =>
    have HE := Lib.hid (newOk_no1 (ps := l) h1)
    clear h1
    obtain ⟨⟨y0, y1, y2, y3, y4, y5, y6, y7, y8, y9, y10, y11, y12⟩, yf⟩ := Y.c13
    have Yl := Y.lt
    have Q := Lib.hid (put_box Y (vs := [.int .i64 0, .int .i64 0, .int .i64 0, .bool false, .int .i64 0, .slice none 0 0, .slice none 0 0, .slice none 0 0, .int .i64 0, .int .i64 0, .slice none 0 0, .int .i64 0, .int .i64 0]) rfl)
    have HB := Lib.hid b
    clear b
    go_wp2
    rw [show (((((((((((((w2.setCell ⟨w.heap.size + 1, 0, none⟩ (.int .i64 0)).setCell ⟨w.heap.size + 1, 1, none⟩ (.int .i64 0)).setCell ⟨w.heap.size + 1, 2, none⟩ (.int .i64 0)).setCell ⟨w.heap.size + 1, 3, none⟩ (.bool false)).setCell ⟨w.heap.size + 1, 4, none⟩ (.int .i64 0)).setCell ⟨w.heap.size + 1, 5, none⟩ (.slice none 0 0)).setCell ⟨w.heap.size + 1, 6, none⟩ (.slice none 0 0)).setCell ⟨w.heap.size + 1, 7, none⟩ (.slice none 0 0)).setCell ⟨w.heap.size + 1, 8, none⟩ (.int .i64 0)).setCell ⟨w.heap.size + 1, 9, none⟩ (.int .i64 0)).setCell ⟨w.heap.size + 1, 10, none⟩ (.slice none 0 0)).setCell ⟨w.heap.size + 1, 11, none⟩ (.int .i64 0)).setCell ⟨w.heap.size + 1, 12, none⟩ (.int .i64 0)) = storeRec w2 (w.heap.size + 1) 0 [.int .i64 0, .int .i64 0, .int .i64 0, .bool false, .int .i64 0, .slice none 0 0, .slice none 0 0, .slice none 0 0, .int .i64 0, .int .i64 0, .slice none 0 0, .int .i64 0, .int .i64 0] from rfl]
    obtain ⟨Z, hon⟩ := Q.out
    clear y0 y1 y2 y3 y4 y5 y6 y7 y8 y9 y10 y11 y12 yf Yl Q
    generalize storeRec w2 (w.heap.size + 1) 0 [.int .i64 0, .int .i64 0, .int .i64 0, .bool false, .int .i64 0, .slice none 0 0, .slice none 0 0, .slice none 0 0, .int .i64 0, .int .i64 0, .slice none 0 0, .int .i64 0, .int .i64 0] = w' at Z hon ⊢
    obtain ⟨⟨z0, z1, z2, z3, z4, z5, z6, z7, z8, z9, z10, z11, z12⟩, _⟩ := Z.c13
    rw [newD_no HE.out, HE.out]
    exact bodyPost_ret (v := .tuple #[.agg #[.int .i64 0, .int .i64 0, .int .i64 0, .bool false, .int .i64 0, .slice none 0 0, .slice none 0 0, .slice none 0 0, .int .i64 0, .int .i64 0, .slice none 0 0, .int .i64 0, .int .i64 0], .bool false]) (by simp [results, Try.results14, go_sem, z0, z1, z2, z3, z4, z5, z6, z7, z8, z9, z10, z11, z12]) rfl (RetEB.zero (HB.out.trans (hon.below (by omega))))
  | true =>
    have H1 := Lib.hid h1
    clear h1
    by_cases hl4 : l.length ≤ 4
    · obtain ⟨⟨x0, x1, x2, x3, x4⟩, xf⟩ := X.c5
      have Xl := X.lt
      have hl4z : ¬ (4 : Int) < l.length := by omega
      go_wp2_with fail
      clear x0 x1 x2 x3 x4 xf Xl
      go_loopw [6, 22] (fun v i wr => ∃ (k : Nat) (M : List DWorker) (vs : Nat → List Value) (L H : Nat → Nat), k ≤ l.length ∧ i = .int .i64 k ∧ Hid (M = (l.take k).map emptyW) ∧ M.length ≤ 4 ∧ Grow fWorker 78 (w.heap.size + 2) wr v M vs L H ∧ Below w.heap.size w wr ∧ w.heap.size + 2 ≤ wr.heap.size ∧ Bx wr w.heap.size [.int .i64 s.1, .int .i64 s.2.1, .int .i64 s.2.2.1, .bool s.2.2.2.1, .int .i64 s.2.2.2.2] ∧ Bx wr (w.heap.size + 1) [.int .i64 0, .int .i64 0, .int .i64 0, .bool false, .int .i64 0, .slice none 0 0, .slice none 0 0, .slice none 0 0, .int .i64 0, .int .i64 0, .slice none 0 0, .int .i64 0, .int .i64 0] ∧ Hid (∀ j P, j < k → l[j]? = some P → listIn s.1 P = true)) (fun _ i _ => l.length - (intOf i).toNat)
      case atStart => exact ⟨0, [], _, _, _, Nat.zero_le _, rfl, Lib.hid rfl, Nat.zero_le _, Grow.nil, b, hsz2, X, Y, Lib.hid (fun j P hj => absurd hj (by omega))⟩
      case round =>
        clear X Y b hsz2
        obtain ⟨k, M, vs, L, H, hk, rfl, HM, hM4, hG, b, hsz2, X, Y, HA⟩ := hrel
        obtain ⟨⟨x0, x1, x2, x3, x4⟩, xf⟩ := X.c5
        have Xl := X.lt
        by_cases hkn : k < l.length
        · obtain ⟨bb, off, rfl, hbB, hc⟩ := r.2 (by omega)
          have hkz : (k : Int) < l.length := by omega
          have hget : l[k]? = some l[k] := List.getElem?_eq_getElem hkn
          obtain ⟨v0, hv0, hat0⟩ := hc k _ hget
          have hv := hv0.below b (show bb < w.heap.size by omega)
          have hat := (rowF (rowF fAct)).at_same hat0 (.of b hB)
          have hcp := cnt_at (F := rowF (rowF fAct)) hget
          rw [show (rowF (rowF fAct)).n = 1 from rfl] at hv
          generalize l[k] = P at hget hat hv hcp
          obtain ⟨A0, c0, rfl, r0⟩ := hat
          have a0 := hv.c1
          rw [Nat.mul_one] at a0
          have hpm := r0.1
          unfold maxLen at hpm
          have hBw : B ≤ wr.heap.size := by omega
          have HG := Lib.hid hget
          clear hc hv0 hat0 hv hget
          by_cases hp12 : P.length ≤ 12
          · have hp12z : ¬ (12 : Int) < P.length := by omega
            go_wp2_with fail
            clear x0 x1 x2 x3 x4 xf Xl
            (with_reducible refine (implProgsOk_any A0 c0 B P s.1 _ hBw r0).mono ?_); rintro o w3 ⟨rfl, hb⟩
            have hG := hG.next hb
            have X := X.next hb
            have Y := Y.next hb
            have r0 := r0.keep hb hBw
            have hsz3 : w.heap.size + 2 ≤ w3.heap.size := Nat.le_trans hsz2 hb.size
            have b := b.trans (hb.mono b.size)
            clear hb a0
            cases hpa : P.all (progIn s.1) with
            | false =>
              have HE := Lib.hid (newOk_no3 HG.out (show listIn s.1 P = false by unfold listIn; rw [hpa, Bool.and_false]))
              clear hpa
              obtain ⟨⟨y0, y1, y2, y3, y4, y5, y6, y7, y8, y9, y10, y11, y12⟩, yf⟩ := Y.c13
              have Yl := Y.lt
              have Q := Lib.hid (put_box Y (vs := [.int .i64 0, .int .i64 0, .int .i64 0, .bool false, .int .i64 0, .slice none 0 0, .slice none 0 0, .slice none 0 0, .int .i64 0, .int .i64 0, .slice none 0 0, .int .i64 0, .int .i64 0]) rfl)
              have HB := Lib.hid b
              clear b
              go_wp2
              rw [show (((((((((((((w3.setCell ⟨w.heap.size + 1, 0, none⟩ (.int .i64 0)).setCell ⟨w.heap.size + 1, 1, none⟩ (.int .i64 0)).setCell ⟨w.heap.size + 1, 2, none⟩ (.int .i64 0)).setCell ⟨w.heap.size + 1, 3, none⟩ (.bool false)).setCell ⟨w.heap.size + 1, 4, none⟩ (.int .i64 0)).setCell ⟨w.heap.size + 1, 5, none⟩ (.slice none 0 0)).setCell ⟨w.heap.size + 1, 6, none⟩ (.slice none 0 0)).setCell ⟨w.heap.size + 1, 7, none⟩ (.slice none 0 0)).setCell ⟨w.heap.size + 1, 8, none⟩ (.int .i64 0)).setCell ⟨w.heap.size + 1, 9, none⟩ (.int .i64 0)).setCell ⟨w.heap.size + 1, 10, none⟩ (.slice none 0 0)).setCell ⟨w.heap.size + 1, 11, none⟩ (.int .i64 0)).setCell ⟨w.heap.size + 1, 12, none⟩ (.int .i64 0)) = storeRec w3 (w.heap.size + 1) 0 [.int .i64 0, .int .i64 0, .int .i64 0, .bool false, .int .i64 0, .slice none 0 0, .slice none 0 0, .slice none 0 0, .int .i64 0, .int .i64 0, .slice none 0 0, .int .i64 0, .int .i64 0] from rfl]
              obtain ⟨Z, hon⟩ := Q.out
              clear y0 y1 y2 y3 y4 y5 y6 y7 y8 y9 y10 y11 y12 yf Yl Q
              generalize storeRec w3 (w.heap.size + 1) 0 [.int .i64 0, .int .i64 0, .int .i64 0, .bool false, .int .i64 0, .slice none 0 0, .slice none 0 0, .slice none 0 0, .int .i64 0, .int .i64 0, .slice none 0 0, .int .i64 0, .int .i64 0] = w' at Z hon ⊢
              obtain ⟨⟨z0, z1, z2, z3, z4, z5, z6, z7, z8, z9, z10, z11, z12⟩, _⟩ := Z.c13
              rw [newD_no HE.out, HE.out]
              exact bodyPost_ret (v := .tuple #[.agg #[.int .i64 0, .int .i64 0, .int .i64 0, .bool false, .int .i64 0, .slice none 0 0, .slice none 0 0, .slice none 0 0, .int .i64 0, .int .i64 0, .slice none 0 0, .int .i64 0, .int .i64 0], .bool false]) (by simp [results, Try.results14, go_sem, z0, z1, z2, z3, z4, z5, z6, z7, z8, z9, z10, z11, z12]) rfl (RetEB.zero (HB.out.trans (hon.below (by omega))))
            | true =>
              have HP := Lib.hid (show listIn s.1 P = true by unfold listIn; rw [hpa, Bool.and_true]; exact decide_eq_true hp12)
              clear hpa
              go_wp2_with fail
              (with_reducible refine (copiedProgs_any A0 c0 B P _ (by omega) (by omega) r0).mono ?_); rintro o w4 ⟨A3, c3, rfl, hb, o3⟩
              have hH4 := hG.top
              have hbk := hG.row.lt
              have hG := hG.next hb
              have X := X.next hb
              have Y := Y.next hb
              have b := b.trans (hb.mono b.size)
              have hsz4 : w3.heap.size ≤ w4.heap.size := hb.size
              clear hb r0
              have hA := (Below.refl w4.heap.size w4).alloc (Nat.le_refl _) (.cells #[.slice A3 P.length c3, .int .i64 0, .int .i64 0, .int .i64 0, .int .i64 0, .slice none 0 0, .slice none 0 0, .slice none 0 0, .slice none 0 0] 78)
              have hGa := hG.next hA
              have ow := own_emptyW (c := c3) o3 hsz4
              have ON := Lib.hid (one_Worker _ _ (fWorker.own_at ow))
              have OW := Lib.hid (fWorker.own_same ow (.of hA (Nat.le_refl _)))
              clear hA hG o3 ow
              go_wp2_with (at_builtin; refine wpList_append_lies _ rfl _ _ 30 rfl (w.heap.size + 2) 78 i0 (.agg #[.slice none 0 0, .int .i64 0, .int .i64 0, .int .i64 0, .int .i64 0, .slice none 0 0, .slice none 0 0, .slice none 0 0, .slice none 0 0]) 9 152 Try.underlying30 Hi.out Hz0.out Hz1.out Hz2.out rfl (by decide) _ _ _ rfl (show World.ownsRow _ _ _ 9 _ _ _ from hGa.row) ⟨w4.heap.size, 0, none⟩ 1 1 [.slice A3 P.length c3, .int .i64 0, .int .i64 0, .int .i64 0, .int .i64 0, .slice none 0 0, .slice none 0 0, .slice none 0 0, .slice none 0 0] rfl rfl ?c1 ON.out (by decide) ?c3 ?c4 ?c5 (w4.heap.size + 1) ?c6 ?_)
              case c1 => intro j u hu; rw [cell_addr, Nat.zero_add, World.cell?_alloc_new]; simpa using hu
              case c3 => unfold maxLen; omega
              case c4 => omega
              case c5 => simp; omega
              case c6 => simp
              intro g cap w5 hown' hgrow hat hlt
              have hat2 : u6.ownBlock = some g ∨ g = (w4.alloc (.cells #[.slice A3 P.length c3, .int .i64 0, .int .i64 0, .int .i64 0, .int .i64 0, .slice none 0 0, .slice none 0 0, .slice none 0 0, .slice none 0 0] 78)).heap.size := by rcases hat with h | h; exact .inl h; exact .inr (by simpa using h)
              have HG5 := Lib.hid (hGa.push (a := emptyW P) (nv := [.slice A3 P.length c3, .int .i64 0, .int .i64 0, .int .i64 0, .int .i64 0, .slice none 0 0, .slice none 0 0, .slice none 0 0, .slice none 0 0]) (s := w3.heap.size) (t := w4.heap.size) hown' hgrow hat2 OW.out hsz3 (by simp) hH4 (fun q hq => (hbk q hq).2))
              have b45 : Below (w.heap.size + 2) w4 w5 := ((Below.refl (w.heap.size + 2) w4).alloc (by omega) (.cells #[.slice A3 P.length c3, .int .i64 0, .int .i64 0, .int .i64 0, .int .i64 0, .slice none 0 0, .slice none 0 0, .slice none 0 0, .slice none 0 0] 78)).grown hgrow (by simp; omega) (fun q hq => (hGa.row.lt q hq).1)
              have X := X.below b45 (by omega)
              have Y := Y.below b45 (by omega)
              have b := b.trans (b45.mono (by omega))
              have hsz5 : w.heap.size + 2 ≤ w5.heap.size := by have := b45.size; omega
              have HM5 := Lib.hid (show M ++ [emptyW P] = (l.take (k + 1)).map emptyW by rw [take_map_succ HG.out, ← HM.out])
              have hM5 : (M ++ [emptyW P]).length ≤ 4 := by rw [HM5.out]; simp; omega
              have HA := Lib.hid (show ∀ j Q, j < k + 1 → l[j]? = some Q → listIn s.1 Q = true from fun j Q hj hQ => by
                by_cases e : j = k
                · subst e
                  rw [HG.out] at hQ
                  cases hQ
                  exact HP.out
                · exact HA.out j Q (by omega) hQ)
              have HM5L := Lib.hid hM5
              clear hown' hgrow hat hat2 hGa OW ON b45 hbk hH4 hM5 HM hM4
              go_wp2
              exact ⟨⟨k + 1, M ++ [emptyW P], _, _, _, by omega, by go_num, HM5, HM5L.out, HG5.out, b, hsz5, X, Y, HA⟩, by simp [intOf]; omega⟩
          · have HE := Lib.hid (newOk_no3 HG.out (show listIn s.1 P = false by unfold listIn; rw [decide_eq_false hp12, Bool.false_and]))
            have hp12z : (12 : Int) < P.length := by omega
            obtain ⟨⟨y0, y1, y2, y3, y4, y5, y6, y7, y8, y9, y10, y11, y12⟩, yf⟩ := Y.c13
            have Yl := Y.lt
            have Q := Lib.hid (put_box Y (vs := [.int .i64 0, .int .i64 0, .int .i64 0, .bool false, .int .i64 0, .slice none 0 0, .slice none 0 0, .slice none 0 0, .int .i64 0, .int .i64 0, .slice none 0 0, .int .i64 0, .int .i64 0]) rfl)
            have HB := Lib.hid b
            clear b
            go_wp2
            rw [show (((((((((((((wr.setCell ⟨w.heap.size + 1, 0, none⟩ (.int .i64 0)).setCell ⟨w.heap.size + 1, 1, none⟩ (.int .i64 0)).setCell ⟨w.heap.size + 1, 2, none⟩ (.int .i64 0)).setCell ⟨w.heap.size + 1, 3, none⟩ (.bool false)).setCell ⟨w.heap.size + 1, 4, none⟩ (.int .i64 0)).setCell ⟨w.heap.size + 1, 5, none⟩ (.slice none 0 0)).setCell ⟨w.heap.size + 1, 6, none⟩ (.slice none 0 0)).setCell ⟨w.heap.size + 1, 7, none⟩ (.slice none 0 0)).setCell ⟨w.heap.size + 1, 8, none⟩ (.int .i64 0)).setCell ⟨w.heap.size + 1, 9, none⟩ (.int .i64 0)).setCell ⟨w.heap.size + 1, 10, none⟩ (.slice none 0 0)).setCell ⟨w.heap.size + 1, 11, none⟩ (.int .i64 0)).setCell ⟨w.heap.size + 1, 12, none⟩ (.int .i64 0)) = storeRec wr (w.heap.size + 1) 0 [.int .i64 0, .int .i64 0, .int .i64 0, .bool false, .int .i64 0, .slice none 0 0, .slice none 0 0, .slice none 0 0, .int .i64 0, .int .i64 0, .slice none 0 0, .int .i64 0, .int .i64 0] from rfl]
            obtain ⟨Z, hon⟩ := Q.out
            clear y0 y1 y2 y3 y4 y5 y6 y7 y8 y9 y10 y11 y12 yf Yl Q
            generalize storeRec wr (w.heap.size + 1) 0 [.int .i64 0, .int .i64 0, .int .i64 0, .bool false, .int .i64 0, .slice none 0 0, .slice none 0 0, .slice none 0 0, .int .i64 0, .int .i64 0, .slice none 0 0, .int .i64 0, .int .i64 0] = w' at Z hon ⊢
            obtain ⟨⟨z0, z1, z2, z3, z4, z5, z6, z7, z8, z9, z10, z11, z12⟩, _⟩ := Z.c13
            rw [newD_no HE.out, HE.out]
            exact bodyPost_ret (v := .tuple #[.agg #[.int .i64 0, .int .i64 0, .int .i64 0, .bool false, .int .i64 0, .slice none 0 0, .slice none 0 0, .slice none 0 0, .int .i64 0, .int .i64 0, .slice none 0 0, .int .i64 0, .int .i64 0], .bool false]) (by simp [results, Try.results14, go_sem, z0, z1, z2, z3, z4, z5, z6, z7, z8, z9, z10, z11, z12]) rfl (RetEB.zero (HB.out.trans (hon.below (by omega))))
        · obtain rfl : k = l.length := by omega
          have HT := Lib.hid (newOk_yes H1.out hl4 HA.out)
          have HMT := Lib.hid (show M = l.map emptyW by rw [HM.out, List.take_length])
          clear HM HA
          go_wp2_with fail
          clear x0 x1 x2 x3 x4 xf Xl
          obtain ⟨X0, C0, rfl, o6⟩ := hG.done
          clear hG
          have hMl := HMT.out
          subst hMl
          have hML : (l.map emptyW).length = l.length := by simp
          (with_reducible refine (implNew_any s.1 _).mono ?_); rintro o w3 ⟨A5, c5, rfl, hT, hb⟩
          have e5 : newT s.1 = zeros s.1.toNat := by have := setup_keys H1.out; simp [newT, this]
          rw [e5] at hT
          rw [show (newT s.1).length = s.1.toNat by rw [e5, zeros_len]]
          have o5 := zero_rows hT (by have := setup_le H1.out; unfold maxLen; omega)
          have o6 := o6.next hb (Nat.le_refl _)
          have X := X.next hb
          have Y := Y.next hb
          have b := b.trans (hb.mono b.size)
          have hsz4 : wr.heap.size ≤ w3.heap.size := hb.size
          clear hb e5 hT
          obtain ⟨⟨x0, x1, x2, x3, x4⟩, xf⟩ := X.c5
          have Xl := X.lt
          obtain ⟨⟨y0, y1, y2, y3, y4, y5, y6, y7, y8, y9, y10, y11, y12⟩, yf⟩ := Y.c13
          have Yl := Y.lt
          have Q := Lib.hid (put_box Y (vs := [.int .i64 s.1, .int .i64 s.2.1, .int .i64 s.2.2.1, .bool s.2.2.2.1, .int .i64 s.2.2.2.2, .slice A5 s.1.toNat c5, .slice X0 l.length C0, .slice (some ⟨w3.heap.size + 1, 0, none⟩) 8 8, .int .i64 0, .int .i64 (-1), .slice none 0 0, .int .i64 0, .int .i64 0]) rfl)
          have HB := Lib.hid b
          have O5 := Lib.hid o5
          have O6 := Lib.hid o6
          clear b o5 o6
          go_wp2_with fail
          go_region
          go_wp2
          rw [show (((((((((((((w3.setCell ⟨w.heap.size + 1, 0, none⟩ (.int .i64 s.1)).setCell ⟨w.heap.size + 1, 1, none⟩ (.int .i64 s.2.1)).setCell ⟨w.heap.size + 1, 2, none⟩ (.int .i64 s.2.2.1)).setCell ⟨w.heap.size + 1, 3, none⟩ (.bool s.2.2.2.1)).setCell ⟨w.heap.size + 1, 4, none⟩ (.int .i64 s.2.2.2.2)).setCell ⟨w.heap.size + 1, 5, none⟩ (.slice A5 s.1.toNat c5)).setCell ⟨w.heap.size + 1, 6, none⟩ (.slice X0 l.length C0)).setCell ⟨w.heap.size + 1, 7, none⟩ (.slice (some ⟨w3.heap.size + 1, 0, none⟩) 8 8)).setCell ⟨w.heap.size + 1, 8, none⟩ (.int .i64 0)).setCell ⟨w.heap.size + 1, 9, none⟩ (.int .i64 (-1))).setCell ⟨w.heap.size + 1, 10, none⟩ (.slice none 0 0)).setCell ⟨w.heap.size + 1, 11, none⟩ (.int .i64 0)).setCell ⟨w.heap.size + 1, 12, none⟩ (.int .i64 0)) = storeRec w3 (w.heap.size + 1) 0 [.int .i64 s.1, .int .i64 s.2.1, .int .i64 s.2.2.1, .bool s.2.2.2.1, .int .i64 s.2.2.2.2, .slice A5 s.1.toNat c5, .slice X0 l.length C0, .slice (some ⟨w3.heap.size + 1, 0, none⟩) 8 8, .int .i64 0, .int .i64 (-1), .slice none 0 0, .int .i64 0, .int .i64 0] from rfl]
          obtain ⟨Z, hon⟩ := Q.out
          clear x0 x1 x2 x3 x4 xf Xl y0 y1 y2 y3 y4 y5 y6 y7 y8 y9 y10 y11 y12 yf Yl Q
          have hzw := hon.size
          have b2 := HB.out.trans (hon.below (L := w.heap.size) (by omega))
          have o5 := O5.out.only hon (.inr (by omega))
          have o6 := O6.out.only hon (.inr (by omega))
          generalize storeRec w3 (w.heap.size + 1) 0 [.int .i64 s.1, .int .i64 s.2.1, .int .i64 s.2.2.1, .bool s.2.2.2.1, .int .i64 s.2.2.2.2, .slice A5 s.1.toNat c5, .slice X0 l.length C0, .slice (some ⟨w3.heap.size + 1, 0, none⟩) 8 8, .int .i64 0, .int .i64 (-1), .slice none 0 0, .int .i64 0, .int .i64 0] = w7 at Z hon hzw b2 o5 o6 ⊢
          have Z2 := ((Z.alloc (.cells #[.slice A5 s.1.toNat c5] 29)).alloc (.cells (madeCells #[.int .i64 0] 8) 3)).drew
          have b3 := (((Below.refl w7.heap.size w7).alloc (Nat.le_refl _) (.cells #[.slice A5 s.1.toNat c5] 29)).alloc (by simp) (.cells (madeCells #[.int .i64 0] 8) 3)).drew
          have hrow : (((w7.alloc (.cells #[.slice A5 s.1.toNat c5] 29)).alloc (.cells (madeCells #[.int .i64 0] 8) 3)).drew).rowIs (w3.heap.size + 1) 3 8 (fun _ => .int .i64 0) := by
            have h := made_row8 (w7.alloc (.cells #[.slice A5 s.1.toNat c5] 29)) 3
            rw [show (w7.alloc (.cells #[.slice A5 s.1.toNat c5] 29)).heap.size = w3.heap.size + 1 by simp [hzw]] at h
            exact h
          have hz3 : (((w7.alloc (.cells #[.slice A5 s.1.toNat c5] 29)).alloc (.cells (madeCells #[.int .i64 0] 8) 3)).drew).heap.size = w3.heap.size + 2 := by simp [World.drew, hzw]
          have o5 := o5.next b3 (by omega)
          have o6 := o6.next b3 (by omega)
          have b4 := b2.trans (b3.mono b2.size)
          generalize ((w7.alloc (.cells #[.slice A5 s.1.toNat c5] 29)).alloc (.cells (madeCells #[.int .i64 0] 8) 3)).drew = w' at Z2 hrow hz3 o5 o6 b4 ⊢
          obtain ⟨⟨z0, z1, z2, z3, z4, z5, z6, z7, z8, z9, z10, z11, z12⟩, _⟩ := Z2.c13
          rw [newD_yes HT.out, HT.out]
          exact bodyPost_ret (v := .tuple #[.agg #[.int .i64 s.1, .int .i64 s.2.1, .int .i64 s.2.2.1, .bool s.2.2.2.1, .int .i64 s.2.2.2.2, .slice A5 (List.replicate s.1.toNat zeroCell).length c5, .slice X0 (l.map emptyW).length C0, .slice (some ⟨w3.heap.size + 1, 0, none⟩) (List.replicate 8 (0 : Int)).length 8, .int .i64 0, .int .i64 (-1), .slice none 0 0, .int .i64 0, .int .i64 0], .bool true]) (by simp [results, Try.results14, go_sem, z0, z1, z2, z3, z4, z5, z6, z7, z8, z9, z10, z11, z12]) rfl
            ⟨A5, c5, X0, C0, some ⟨w3.heap.size + 1, 0, none⟩, 8, none, 0, wr.heap.size, w3.heap.size, w.heap.size + 2, wr.heap.size, w3.heap.size + 1, w'.heap.size, w'.heap.size, w'.heap.size, rfl, b4,
              o5, o6, heat_rows hrow (Nat.le_refl _) (by omega), ROwn.nil, by omega, by omega, by omega, by omega, by omega, by omega, by omega, by omega, by omega, by omega⟩
    · have HE := Lib.hid (newOk_no2 (s := s) hl4)
      have hl4z : (4 : Int) < l.length := by omega
      obtain ⟨⟨y0, y1, y2, y3, y4, y5, y6, y7, y8, y9, y10, y11, y12⟩, yf⟩ := Y.c13
      have Yl := Y.lt
      have Q := Lib.hid (put_box Y (vs := [.int .i64 0, .int .i64 0, .int .i64 0, .bool false, .int .i64 0, .slice none 0 0, .slice none 0 0, .slice none 0 0, .int .i64 0, .int .i64 0, .slice none 0 0, .int .i64 0, .int .i64 0]) rfl)
      have HB := Lib.hid b
      clear b
      go_wp2
      rw [show (((((((((((((w2.setCell ⟨w.heap.size + 1, 0, none⟩ (.int .i64 0)).setCell ⟨w.heap.size + 1, 1, none⟩ (.int .i64 0)).setCell ⟨w.heap.size + 1, 2, none⟩ (.int .i64 0)).setCell ⟨w.heap.size + 1, 3, none⟩ (.bool false)).setCell ⟨w.heap.size + 1, 4, none⟩ (.int .i64 0)).setCell ⟨w.heap.size + 1, 5, none⟩ (.slice none 0 0)).setCell ⟨w.heap.size + 1, 6, none⟩ (.slice none 0 0)).setCell ⟨w.heap.size + 1, 7, none⟩ (.slice none 0 0)).setCell ⟨w.heap.size + 1, 8, none⟩ (.int .i64 0)).setCell ⟨w.heap.size + 1, 9, none⟩ (.int .i64 0)).setCell ⟨w.heap.size + 1, 10, none⟩ (.slice none 0 0)).setCell ⟨w.heap.size + 1, 11, none⟩ (.int .i64 0)).setCell ⟨w.heap.size + 1, 12, none⟩ (.int .i64 0)) = storeRec w2 (w.heap.size + 1) 0 [.int .i64 0, .int .i64 0, .int .i64 0, .bool false, .int .i64 0, .slice none 0 0, .slice none 0 0, .slice none 0 0, .int .i64 0, .int .i64 0, .slice none 0 0, .int .i64 0, .int .i64 0] from rfl]
      obtain ⟨Z, hon⟩ := Q.out
      clear y0 y1 y2 y3 y4 y5 y6 y7 y8 y9 y10 y11 y12 yf Yl Q
      generalize storeRec w2 (w.heap.size + 1) 0 [.int .i64 0, .int .i64 0, .int .i64 0, .bool false, .int .i64 0, .slice none 0 0, .slice none 0 0, .slice none 0 0, .int .i64 0, .int .i64 0, .slice none 0 0, .int .i64 0, .int .i64 0] = w' at Z hon ⊢
      obtain ⟨⟨z0, z1, z2, z3, z4, z5, z6, z7, z8, z9, z10, z11, z12⟩, _⟩ := Z.c13
      rw [newD_no HE.out, HE.out]
      exact bodyPost_ret (v := .tuple #[.agg #[.int .i64 0, .int .i64 0, .int .i64 0, .bool false, .int .i64 0, .slice none 0 0, .slice none 0 0, .slice none 0 0, .int .i64 0, .int .i64 0, .slice none 0 0, .int .i64 0, .int .i64 0], .bool false]) (by simp [results, Try.results14, go_sem, z0, z1, z2, z3, z4, z5, z6, z7, z8, z9, z10, z11, z12]) rfl (RetEB.zero (HB.out.trans (hon.below (by omega))))
end Go.Proofs.Ytkpkjcmoldkmmaa

namespace Go.Proofs.Ytkpkjcmoldkmmaa
open Go.RowKit

set_option maxHeartbeats 6400000 in
set_option maxRecDepth 100000 in
theorem specNewEngine_any (s : DSetup) (A : Option Addr) (c B : Nat) (l : List (List (List DAct))) (w : World) (hs : (rowF (rowF (rowF fAct))).cnt l ≤ 1048576) (hB : B ≤ w.heap.size) (r : RAt (rowF (rowF fAct)) w B A l) :
    Calls Try.prog 11 #[.agg #[.int .i64 s.1, .int .i64 s.2.1, .int .i64 s.2.2.1, .bool s.2.2.2.1, .int .i64 s.2.2.2.2], .slice A l.length c] w (RetEB w (newD s l) (newOk s l)) := by
  obtain ⟨i0, hi, hzz⟩ := Option.map_eq_some_iff.1 infoWorker
  injection hzz with hz0 hz12
  injection hz12 with hz1 hz2
  have Hi := Lib.hid hi
  have Hz0 := Lib.hid hz0
  have Hz1 := Lib.hid hz1
  have Hz2 := Lib.hid hz2
  clear hi hz0 hz1 hz2
  obtain ⟨ip, hi, hzz⟩ := Option.map_eq_some_iff.1 infoC_ActS
  injection hzz with hz0 hz12
  injection hz12 with hz1 hz2
  have Pi := Lib.hid hi
  have Pz0 := Lib.hid hz0
  have Pz1 := Lib.hid hz1
  have Pz2 := Lib.hid hz2
  clear hi hz0 hz1 hz2
  have hmk := make8
  have hln : l.length ≤ 1048576 := by rw [row_cnt] at hs; omega
  go_enter Try.func11, Try.ntmps11
  go_wp2_with fail
  have b := ((Below.refl w.heap.size w).alloc (Nat.le_refl _) (.cells #[.int .i64 s.1, .int .i64 s.2.1, .int .i64 s.2.2.1, .bool s.2.2.2.1, .int .i64 s.2.2.2.2] 26)).alloc (by simp) (.cells #[.int .i64 0, .int .i64 0, .int .i64 0, .bool false, .int .i64 0, .slice none 0 0, .slice none 0 0, .slice none 0 0, .int .i64 0, .int .i64 0, .slice none 0 0, .int .i64 0, .int .i64 0] 34)
  have X := (Bx.new (w := w) (c := #[.int .i64 s.1, .int .i64 s.2.1, .int .i64 s.2.2.1, .bool s.2.2.2.1, .int .i64 s.2.2.2.2]) (t := 26) rfl).alloc (.cells #[.int .i64 0, .int .i64 0, .int .i64 0, .bool false, .int .i64 0, .slice none 0 0, .slice none 0 0, .slice none 0 0, .int .i64 0, .int .i64 0, .slice none 0 0, .int .i64 0, .int .i64 0] 34)
  have Y := Bx.new (w := w.alloc (.cells #[.int .i64 s.1, .int .i64 s.2.1, .int .i64 s.2.2.1, .bool s.2.2.2.1, .int .i64 s.2.2.2.2] 26)) (b := w.heap.size + 1) (c := #[.int .i64 0, .int .i64 0, .int .i64 0, .bool false, .int .i64 0, .slice none 0 0, .slice none 0 0, .slice none 0 0, .int .i64 0, .int .i64 0, .slice none 0 0, .int .i64 0, .int .i64 0]) (t := 34) (by simp)
  have hsz0 : w.heap.size + 2 ≤ ((w.alloc (.cells #[.int .i64 s.1, .int .i64 s.2.1, .int .i64 s.2.2.1, .bool s.2.2.2.1, .int .i64 s.2.2.2.2] 26)).alloc (.cells #[.int .i64 0, .int .i64 0, .int .i64 0, .bool false, .int .i64 0, .slice none 0 0, .slice none 0 0, .slice none 0 0, .int .i64 0, .int .i64 0, .slice none 0 0, .int .i64 0, .int .i64 0] 34)).heap.size := by simp
  generalize ((w.alloc (.cells #[.int .i64 s.1, .int .i64 s.2.1, .int .i64 s.2.2.1, .bool s.2.2.2.1, .int .i64 s.2.2.2.2] 26)).alloc (.cells #[.int .i64 0, .int .i64 0, .int .i64 0, .bool false, .int .i64 0, .slice none 0 0, .slice none 0 0, .slice none 0 0, .int .i64 0, .int .i64 0, .slice none 0 0, .int .i64 0, .int .i64 0] 34)) = w1 at b X Y hsz0 ⊢
  (with_reducible refine (specSetupOk_any s _).mono ?_); rintro o w2 ⟨rfl, hb⟩
  have X := X.next hb
  have Y := Y.next hb
  have b := b.trans (hb.mono b.size)
  have hsz2 : w.heap.size + 2 ≤ w2.heap.size := Nat.le_trans hsz0 hb.size
  clear hb
  cases h1 : setupB s with
  | false =>
    have HE := Lib.hid (newOk_no1 (ps := l) h1)
    clear h1
    obtain ⟨⟨y0, y1, y2, y3, y4, y5, y6, y7, y8, y9, y10, y11, y12⟩, yf⟩ := Y.c13
    have Yl := Y.lt
    have Q := Lib.hid (put_box Y (vs := [.int .i64 0, .int .i64 0, .int .i64 0, .bool false, .int .i64 0, .slice none 0 0, .slice none 0 0, .slice none 0 0, .int .i64 0, .int .i64 0, .slice none 0 0, .int .i64 0, .int .i64 0]) rfl)
    have HB := Lib.hid b
    clear b
    go_wp2
    rw [show (((((((((((((w2.setCell ⟨w.heap.size + 1, 0, none⟩ (.int .i64 0)).setCell ⟨w.heap.size + 1, 1, none⟩ (.int .i64 0)).setCell ⟨w.heap.size + 1, 2, none⟩ (.int .i64 0)).setCell ⟨w.heap.size + 1, 3, none⟩ (.bool false)).setCell ⟨w.heap.size + 1, 4, none⟩ (.int .i64 0)).setCell ⟨w.heap.size + 1, 5, none⟩ (.slice none 0 0)).setCell ⟨w.heap.size + 1, 6, none⟩ (.slice none 0 0)).setCell ⟨w.heap.size + 1, 7, none⟩ (.slice none 0 0)).setCell ⟨w.heap.size + 1, 8, none⟩ (.int .i64 0)).setCell ⟨w.heap.size + 1, 9, none⟩ (.int .i64 0)).setCell ⟨w.heap.size + 1, 10, none⟩ (.slice none 0 0)).setCell ⟨w.heap.size + 1, 11, none⟩ (.int .i64 0)).setCell ⟨w.heap.size + 1, 12, none⟩ (.int .i64 0)) = storeRec w2 (w.heap.size + 1) 0 [.int .i64 0, .int .i64 0, .int .i64 0, .bool false, .int .i64 0, .slice none 0 0, .slice none 0 0, .slice none 0 0, .int .i64 0, .int .i64 0, .slice none 0 0, .int .i64 0, .int .i64 0] from rfl]
    obtain ⟨Z, hon⟩ := Q.out
    clear y0 y1 y2 y3 y4 y5 y6 y7 y8 y9 y10 y11 y12 yf Yl Q
    generalize storeRec w2 (w.heap.size + 1) 0 [.int .i64 0, .int .i64 0, .int .i64 0, .bool false, .int .i64 0, .slice none 0 0, .slice none 0 0, .slice none 0 0, .int .i64 0, .int .i64 0, .slice none 0 0, .int .i64 0, .int .i64 0] = w' at Z hon ⊢
    obtain ⟨⟨z0, z1, z2, z3, z4, z5, z6, z7, z8, z9, z10, z11, z12⟩, _⟩ := Z.c13
    rw [newD_no HE.out, HE.out]
    exact bodyPost_ret (v := .tuple #[.agg #[.int .i64 0, .int .i64 0, .int .i64 0, .bool false, .int .i64 0, .slice none 0 0, .slice none 0 0, .slice none 0 0, .int .i64 0, .int .i64 0, .slice none 0 0, .int .i64 0, .int .i64 0], .bool false]) (by simp [results, Try.results11, go_sem, z0, z1, z2, z3, z4, z5, z6, z7, z8, z9, z10, z11, z12]) rfl (RetEB.zero (HB.out.trans (hon.below (by omega))))
  | true =>
    have H1 := Lib.hid h1
    clear h1
    by_cases hl4 : l.length ≤ 4
    · obtain ⟨⟨x0, x1, x2, x3, x4⟩, xf⟩ := X.c5
      have Xl := X.lt
      have hl4z : ¬ (4 : Int) < l.length := by omega
      go_wp2_with fail
      clear x0 x1 x2 x3 x4 xf Xl
      (with_reducible refine (specNew_any s.1 _).mono ?_); rintro o w3 ⟨A5, c5, rfl, hT, hb⟩
      have e5 : newT s.1 = zeros s.1.toNat := by have := setup_keys H1.out; simp [newT, this]
      rw [e5] at hT
      rw [show (newT s.1).length = s.1.toNat by rw [e5, zeros_len]]
      have o5 := zero_rows hT (by have := setup_le H1.out; unfold maxLen; omega)
      have X := X.next hb
      have Y := Y.next hb
      have b := b.trans (hb.mono b.size)
      have hsz3 : w2.heap.size ≤ w3.heap.size := hb.size
      clear hb e5 hT
      obtain ⟨⟨x0, x1, x2, x3, x4⟩, xf⟩ := X.c5
      have Xl := X.lt
      go_upto_region 4 with (fail)
      clear x0 x1 x2 x3 x4 xf Xl
      have hA := (Below.refl w3.heap.size w3).alloc (Nat.le_refl _) (.cells #[.slice A5 s.1.toNat c5] 29)
      have T := Bx.new (w := w3) (c := #[.slice A5 s.1.toNat c5]) (t := 29) rfl
      have X := X.next hA
      have Y := Y.next hA
      have o5 := o5.next hA (Nat.le_refl _)
      have b := b.trans (hA.mono b.size)
      have HZ4 := Lib.hid (show (w3.alloc (.cells #[.slice A5 s.1.toNat c5] 29)).heap.size = w3.heap.size + 1 by simp)
      clear hA
      generalize w3.alloc (.cells #[.slice A5 s.1.toNat c5] 29) = w4 at X Y T b o5 HZ4 ⊢
      go_cut [8] from 29 to 32 (fun p wx => CutE w4 s A5 c5 p wx)
      case first =>
        obtain ⟨⟨x0, x1, x2, x3, x4⟩, xf⟩ := X.c5
        have Xl := X.lt
        obtain ⟨t0, tf⟩ := T.c1
        have Tl := T.lt
        have xa0 := fun o1 => (X.alloc o1).cell 0 _ rfl
        have xb0 := fun o1 o2 => ((X.alloc o1).alloc o2).cell 0 _ rfl
        have xa1 := fun o1 => (X.alloc o1).cell 1 _ rfl
        have xb1 := fun o1 o2 => ((X.alloc o1).alloc o2).cell 1 _ rfl
        have xa2 := fun o1 => (X.alloc o1).cell 2 _ rfl
        have xb2 := fun o1 o2 => ((X.alloc o1).alloc o2).cell 2 _ rfl
        have xa3 := fun o1 => (X.alloc o1).cell 3 _ rfl
        have xb3 := fun o1 o2 => ((X.alloc o1).alloc o2).cell 3 _ rfl
        have xa4 := fun o1 => (X.alloc o1).cell 4 _ rfl
        have xb4 := fun o1 o2 => ((X.alloc o1).alloc o2).cell 4 _ rfl
        have ta := fun o1 => (T.alloc o1).cell 0 _ rfl
        have tb := fun o1 o2 => ((T.alloc o1).alloc o2).cell 0 _ rfl
        have C1 := Lib.hid (cutE_1 w4 s A5 c5)
        have C2 := Lib.hid (cutE_2 w4 s A5 c5)
        clear X Y T o5 b
        go_wp2_with fail
        go_region
        all_goals
          go_wp2
          go_meet
          first | exact C1.out | exact C2.out
      case rest =>
        obtain ⟨Eb, Hb, rfl, hb, hz5, hE1, hE2, hH1, hH2, hEH, E, hrow⟩ := hcut
        have X := X.next hb
        have Y := Y.next hb
        have o5 := o5.next hb (by have := HZ4.out; omega)
        have b := b.trans (hb.mono b.size)
        have o7 := heat_rows (lo := Hb) (B := Hb + 1) hrow (Nat.le_refl _) (by omega)
        have hz4 := HZ4.out
        clear hb hrow T HZ4
        obtain ⟨G0, hG0⟩ : ∃ G, G = wc.heap.size := ⟨_, rfl⟩
        have hG0' : G0 ≤ wc.heap.size := by omega
        have hEG : Eb < G0 := by omega
        have hHG : Hb < G0 := by omega
        have h3E : w3.heap.size < Eb := by omega
        have h3H : w3.heap.size < Hb := by omega
        clear hG0 hz5 hE1 hE2 hH1 hH2 hz4
        go_wp2_with fail
        go_loopw [9] (fun i wr => ∃ (k : Nat) (M : List DWorker) (v : Value) (vs : Nat → List Value) (L H : Nat → Nat), k ≤ l.length ∧ i = .int .i64 k ∧ Hid (M = (l.take k).map emptyW) ∧ M.length ≤ 4 ∧ Grow fWorker 78 G0 wr v M vs L H ∧ Below w.heap.size w wr ∧ G0 ≤ wr.heap.size ∧ Bx wr w.heap.size [.int .i64 s.1, .int .i64 s.2.1, .int .i64 s.2.2.1, .bool s.2.2.2.1, .int .i64 s.2.2.2.2] ∧ Bx wr (w.heap.size + 1) [.int .i64 0, .int .i64 0, .int .i64 0, .bool false, .int .i64 0, .slice none 0 0, .slice none 0 0, .slice none 0 0, .int .i64 0, .int .i64 0, .slice none 0 0, .int .i64 0, .int .i64 0] ∧ Bx wr Eb [.int .i64 s.1, .int .i64 s.2.1, .int .i64 s.2.2.1, .bool s.2.2.2.1, .int .i64 s.2.2.2.2, .slice A5 s.1.toNat c5, v, .slice (some ⟨Hb, 0, none⟩) 8 8, .int .i64 0, .int .i64 (-1), .slice none 0 0, .int .i64 0, .int .i64 0] ∧ ROwn fCell wr w2.heap.size w3.heap.size A5 (List.replicate s.1.toNat zeroCell) ∧ ROwn intF wr Hb (Hb + 1) (some ⟨Hb, 0, none⟩) (List.replicate 8 0) ∧ Hid (∀ j P, j < k → l[j]? = some P → listIn s.1 P = true)) (fun i _ => l.length - (intOf i).toNat)
        case atStart => exact ⟨0, [], _, _, _, _, Nat.zero_le _, rfl, Lib.hid rfl, Nat.zero_le _, Grow.nil, b, hG0', X, Y, E, o5, o7, Lib.hid (fun j P hj => absurd hj (by omega))⟩
        case round =>
          clear X Y b E o5 o7 hG0'
          obtain ⟨k, M, v, vs, L, H, hk, rfl, HM, hM4, hG, b, hGs, X, Y, E, o5, o7, HA⟩ := hrel
          obtain ⟨⟨x0, x1, x2, x3, x4⟩, xf⟩ := X.c5
          have Xl := X.lt
          by_cases hkn : k < l.length
          · obtain ⟨bb, off, rfl, hbB, hc⟩ := r.2 (by omega)
            have hkz : (k : Int) < l.length := by omega
            have hget : l[k]? = some l[k] := List.getElem?_eq_getElem hkn
            obtain ⟨v0, hv0, hat0⟩ := hc k _ hget
            have hcp := cnt_at (F := rowF (rowF fAct)) hget
            have hv := hv0
            rw [show (rowF (rowF fAct)).n = 1 from rfl, Nat.mul_one] at hv
            generalize l[k] = P at hget hat0 hv hcp
            obtain ⟨A0, c0, rfl, r0⟩ := hat0
            have HV := Lib.hid hv
            have HR0 := Lib.hid r0
            have hpm := r0.1
            unfold maxLen at hpm
            have HG := Lib.hid hget
            have hbw : bb < w.heap.size := by omega
            have a0 := (hv.below b hbw).c1
            clear hc hv0 hv hget r0
            by_cases hp12 : P.length ≤ 12
            · have hp12z : ¬ (12 : Int) < P.length := by omega
              go_wp2_with fail
              clear x0 x1 x2 x3 x4 xf Xl a0
              obtain ⟨wo, rfl⟩ : ∃ x, x = wr := ⟨wr, rfl⟩
              have hA := (Below.refl wo.heap.size wo).alloc (Nat.le_refl _) (.cells #[.slice none 0 0, .int .i64 0, .int .i64 0, .int .i64 0, .int .i64 0, .slice none 0 0, .slice none 0 0, .slice none 0 0, .slice none 0 0] 78)
              have O := Bx.new (w := wo) (c := #[.slice none 0 0, .int .i64 0, .int .i64 0, .int .i64 0, .int .i64 0, .slice none 0 0, .slice none 0 0, .slice none 0 0, .slice none 0 0]) (t := 78) rfl
              generalize wo.alloc (.cells #[.slice none 0 0, .int .i64 0, .int .i64 0, .int .i64 0, .int .i64 0, .slice none 0 0, .slice none 0 0, .slice none 0 0, .slice none 0 0] 78) = w7 at O hA ⊢
              go_loopw [11] (fun i wi => ∃ (j : Nat) (N : List (List DAct)) (vP : Value) (us : Nat → List Value) (L2 H2 : Nat → Nat), j ≤ P.length ∧ i = .int .i64 j ∧ Hid (N = P.take j) ∧ N.length ≤ 12 ∧ Grow (rowF fAct) 63 (wo.heap.size + 1) wi vP N us L2 H2 ∧ Below wo.heap.size wo wi ∧ Bx wi wo.heap.size [vP, .int .i64 0, .int .i64 0, .int .i64 0, .int .i64 0, .slice none 0 0, .slice none 0 0, .slice none 0 0, .slice none 0 0] ∧ Hid (∀ q p, q < j → P[q]? = some p → progIn s.1 p = true)) (fun i _ => P.length - (intOf i).toNat)
              case atStart => exact ⟨0, [], _, _, _, _, Nat.zero_le _, rfl, Lib.hid rfl, Nat.zero_le _, Grow.nil, hA, O, Lib.hid (fun q p hq => absurd hq (by omega))⟩
              case round =>
                clear O hA
                obtain ⟨j, N, vP, us, L2, H2, hj, rfl, HN, hN12, gI, bi, O, HP⟩ := hrel
                have bI := b.trans (bi.mono b.size)
                have a0 := (HV.out.below bI hbw).c1
                by_cases hjn : j < P.length
                · obtain ⟨b1, off1, rfl, hb1B, hc1⟩ := HR0.out.2 (by omega)
                  have hjz : (j : Int) < P.length := by omega
                  have hgetp : P[j]? = some P[j] := List.getElem?_eq_getElem hjn
                  obtain ⟨v1, hv1, hat1⟩ := hc1 j _ hgetp
                  have hcp1 := cnt_at (F := rowF fAct) hgetp
                  rw [show (rowF fAct).n = 1 from rfl, Nat.mul_one] at hv1
                  generalize P[j] = p at hgetp hat1 hv1 hcp1
                  obtain ⟨Ap, cp, rfl, rp⟩ := hat1
                  have RP := Lib.hid rp
                  have HGp := Lib.hid hgetp
                  have a1 := (hv1.below bI (show b1 < w.heap.size by omega)).c1
                  have hpl2 : p.length ≤ 1048576 := by rw [row_cnt] at hcp1; omega
                  have Xi := X.next bi
                  clear hc1 hv1 hgetp rp hcp1
                  go_wp2_with fail
                  refine (specKeysOf_any Ap p.length cp (actF p) _ (acts_at ((RP.out.keep bI hB).up (Nat.le_trans hB bI.size)))).mono ?_; rintro o w8 ⟨vk, rfl, hown, hb⟩
                  have Xk := Xi.next hb
                  have Ok := O.next hb
                  have gk := gI.next hb
                  have bki := bi.trans (hb.mono bi.size)
                  have bk := bI.trans (hb.mono bI.size)
                  clear hb Xi O gI bi bI a0 a1
                  cases hp : progOk p.length (actF p) with
                  | false =>
                    obtain ⟨I, F, hI, hF0, hF, hFn⟩ := clsN w8
                    have fx0 := fun n => ((Xk.next (hF n)).c5.1).1
                    have fxl := fun n => (Xk.next (hF n)).lt
                    have hBb := fun n => bk.trans ((hF n).mono bk.size)
                    have HFn := Lib.hid hFn
                    have HF := Lib.hid hF
                    have HF0 := Lib.hid hF0
                    have HB := Lib.hid hBb
                    clear hFn hF hF0 hBb
                    go_wp2_with fail
                    refine wp_region_cls (by kernel_rfl) (by kernel_rfl) HF0.out ?_
                    repeat (go_big_quiet_step ((go_at_call 47; refine (specProgOk_any Ap p.length cp (actF p) _ (acts_at ((RP.out.keep (HB.out _) hB).up (Nat.le_trans hB (HB.out _).size)))).mono ?_; rintro o w2 ⟨rfl, hb2⟩; rw [hp]; exact ⟨rfl, HFn.out _ _ hb2⟩)))
                    refine wpQuiet_nil ?_
                    rintro _ ⟨nq, rfl⟩
                    have hbq := HF.out nq
                    have Y := (Y.next bki).next hbq
                    have b := HB.out nq
                    clear fx0 fxl
                    generalize F nq = wq at Y b
                    have HE := Lib.hid (newOk_no3 HG.out (show listIn s.1 P = false by unfold listIn; rw [all_noE HGp.out (show progIn s.1 p = false by unfold progIn; rw [hp, Bool.false_and]), Bool.and_false]))
                    obtain ⟨⟨y0, y1, y2, y3, y4, y5, y6, y7, y8, y9, y10, y11, y12⟩, yf⟩ := Y.c13
                    have Yl := Y.lt
                    have Q := Lib.hid (put_box Y (vs := [.int .i64 0, .int .i64 0, .int .i64 0, .bool false, .int .i64 0, .slice none 0 0, .slice none 0 0, .slice none 0 0, .int .i64 0, .int .i64 0, .slice none 0 0, .int .i64 0, .int .i64 0]) rfl)
                    have HB := Lib.hid b
                    clear b
                    go_wp2
                    rw [show (((((((((((((wq.setCell ⟨w.heap.size + 1, 0, none⟩ (.int .i64 0)).setCell ⟨w.heap.size + 1, 1, none⟩ (.int .i64 0)).setCell ⟨w.heap.size + 1, 2, none⟩ (.int .i64 0)).setCell ⟨w.heap.size + 1, 3, none⟩ (.bool false)).setCell ⟨w.heap.size + 1, 4, none⟩ (.int .i64 0)).setCell ⟨w.heap.size + 1, 5, none⟩ (.slice none 0 0)).setCell ⟨w.heap.size + 1, 6, none⟩ (.slice none 0 0)).setCell ⟨w.heap.size + 1, 7, none⟩ (.slice none 0 0)).setCell ⟨w.heap.size + 1, 8, none⟩ (.int .i64 0)).setCell ⟨w.heap.size + 1, 9, none⟩ (.int .i64 0)).setCell ⟨w.heap.size + 1, 10, none⟩ (.slice none 0 0)).setCell ⟨w.heap.size + 1, 11, none⟩ (.int .i64 0)).setCell ⟨w.heap.size + 1, 12, none⟩ (.int .i64 0)) = storeRec wq (w.heap.size + 1) 0 [.int .i64 0, .int .i64 0, .int .i64 0, .bool false, .int .i64 0, .slice none 0 0, .slice none 0 0, .slice none 0 0, .int .i64 0, .int .i64 0, .slice none 0 0, .int .i64 0, .int .i64 0] from rfl]
                    obtain ⟨Z, hon⟩ := Q.out
                    clear y0 y1 y2 y3 y4 y5 y6 y7 y8 y9 y10 y11 y12 yf Yl Q
                    generalize storeRec wq (w.heap.size + 1) 0 [.int .i64 0, .int .i64 0, .int .i64 0, .bool false, .int .i64 0, .slice none 0 0, .slice none 0 0, .slice none 0 0, .int .i64 0, .int .i64 0, .slice none 0 0, .int .i64 0, .int .i64 0] = w' at Z hon ⊢
                    obtain ⟨⟨z0, z1, z2, z3, z4, z5, z6, z7, z8, z9, z10, z11, z12⟩, _⟩ := Z.c13
                    rw [newD_no HE.out, HE.out]
                    exact bodyPost_ret (v := .tuple #[.agg #[.int .i64 0, .int .i64 0, .int .i64 0, .bool false, .int .i64 0, .slice none 0 0, .slice none 0 0, .slice none 0 0, .int .i64 0, .int .i64 0, .slice none 0 0, .int .i64 0, .int .i64 0], .bool false]) (by simp [results, Try.results11, go_sem, z0, z1, z2, z3, z4, z5, z6, z7, z8, z9, z10, z11, z12]) rfl (RetEB.zero (HB.out.trans (hon.below (by omega))))
                  | true =>
                    obtain ⟨g, hg8, hpos, hlast, hyes, hno⟩ := prog_keys hp
                    generalize keysOut (fun _ => true) p.length (actF p) = Ks at hown hpos hlast
                    obtain ⟨gk', cap, rfl⟩ := Go.Joins.ownsRow_form hown hpos
                    obtain ⟨m, hm⟩ : ∃ m, Ks.length = m + 1 := ⟨Ks.length - 1, by omega⟩
                    have hcell := hown.cellAt m (by omega)
                    have hgl := (hown.lt gk' rfl).2
                    have hk9 : (Ks.map (Value.int .i64))[m]? = some (.int .i64 (g : Int)) := by
                      rw [hm, show m + 1 - 1 = m by omega, List.getD_eq_getElem?_getD] at hlast
                      rw [List.getElem?_map]
                      have h9 : Ks[m]? = some Ks[m] := List.getElem?_eq_getElem (by omega)
                      rw [h9] at hlast ⊢
                      have hlast : Ks[m] = (g : Int) := hlast
                      rw [hlast]
                      rfl
                    rw [hk9] at hcell
                    rw [hm]
                    have hm2 : m < 9223372036854775807 := by
                      have : Ks.length ≤ 9223372036854775807 := by
                        rcases hown.2 with ⟨h, _⟩ | ⟨_, _, _, _, _, _, h1, h2, _⟩
                        · simp at h
                        · have h2 : _ ≤ 2 ^ 63 - 1 := h2
                          omega
                      omega
                    have hw1 : IntKind.i64.wrap (((m + 1 : Nat) : Int) - 1) = (m : Int) := by rw [IntWalk.i64_in _ (by omega)]; omega
                    have hw2 : IntKind.i64.wrap ((m : Int) + 1 - 1) = (m : Int) := by rw [IntWalk.i64_in _ (by omega)]; omega
                    have hw3 : IntKind.i64.wrap (m : Int) = (m : Int) := by rw [IntWalk.i64_in _ (by omega)]
                    have hmz : (m : Int) < ((m + 1 : Nat) : Int) := by omega
                    have HY := Lib.hid hyes
                    have HNo := Lib.hid hno
                    clear hown hk9 hlast hpos hyes hno
                    obtain ⟨I, F, hI, hF0, hF, hFn⟩ := clsN w8
                    have fx0 := fun n => ((Xk.next (hF n)).c5.1).1
                    have fxl := fun n => (Xk.next (hF n)).lt
                    have hBb := fun n => bk.trans ((hF n).mono bk.size)
                    have fk := fun n => ((hF n).cell (p := ⟨gk', m, none⟩) hgl).trans hcell
                    clear hcell
                    have HFn := Lib.hid hFn
                    have HF := Lib.hid hF
                    have HF0 := Lib.hid hF0
                    have HB := Lib.hid hBb
                    clear hFn hF hF0 hBb
                    by_cases hK : s.1 ≤ (g : Int)
                    · go_wp2_with fail
                      refine wp_region_cls (by kernel_rfl) (by kernel_rfl) HF0.out ?_
                      repeat (go_big_quiet_step ((go_at_call 47; refine (specProgOk_any Ap p.length cp (actF p) _ (acts_at ((RP.out.keep (HB.out _) hB).up (Nat.le_trans hB (HB.out _).size)))).mono ?_; rintro o w2 ⟨rfl, hb2⟩; rw [hp]; exact ⟨rfl, HFn.out _ _ hb2⟩)))
                      refine wpQuiet_nil ?_
                      rintro _ ⟨nq, rfl⟩
                      have hbq := HF.out nq
                      have Y := (Y.next bki).next hbq
                      have b := HB.out nq
                      clear fx0 fxl fk
                      generalize F nq = wq at Y b
                      have HE := Lib.hid (newOk_no3 HG.out (show listIn s.1 P = false by unfold listIn; rw [all_noE HGp.out (HNo.out _ hK), Bool.and_false]))
                      obtain ⟨⟨y0, y1, y2, y3, y4, y5, y6, y7, y8, y9, y10, y11, y12⟩, yf⟩ := Y.c13
                      have Yl := Y.lt
                      have Q := Lib.hid (put_box Y (vs := [.int .i64 0, .int .i64 0, .int .i64 0, .bool false, .int .i64 0, .slice none 0 0, .slice none 0 0, .slice none 0 0, .int .i64 0, .int .i64 0, .slice none 0 0, .int .i64 0, .int .i64 0]) rfl)
                      have HB := Lib.hid b
                      clear b
                      go_wp2
                      rw [show (((((((((((((wq.setCell ⟨w.heap.size + 1, 0, none⟩ (.int .i64 0)).setCell ⟨w.heap.size + 1, 1, none⟩ (.int .i64 0)).setCell ⟨w.heap.size + 1, 2, none⟩ (.int .i64 0)).setCell ⟨w.heap.size + 1, 3, none⟩ (.bool false)).setCell ⟨w.heap.size + 1, 4, none⟩ (.int .i64 0)).setCell ⟨w.heap.size + 1, 5, none⟩ (.slice none 0 0)).setCell ⟨w.heap.size + 1, 6, none⟩ (.slice none 0 0)).setCell ⟨w.heap.size + 1, 7, none⟩ (.slice none 0 0)).setCell ⟨w.heap.size + 1, 8, none⟩ (.int .i64 0)).setCell ⟨w.heap.size + 1, 9, none⟩ (.int .i64 0)).setCell ⟨w.heap.size + 1, 10, none⟩ (.slice none 0 0)).setCell ⟨w.heap.size + 1, 11, none⟩ (.int .i64 0)).setCell ⟨w.heap.size + 1, 12, none⟩ (.int .i64 0)) = storeRec wq (w.heap.size + 1) 0 [.int .i64 0, .int .i64 0, .int .i64 0, .bool false, .int .i64 0, .slice none 0 0, .slice none 0 0, .slice none 0 0, .int .i64 0, .int .i64 0, .slice none 0 0, .int .i64 0, .int .i64 0] from rfl]
                      obtain ⟨Z, hon⟩ := Q.out
                      clear y0 y1 y2 y3 y4 y5 y6 y7 y8 y9 y10 y11 y12 yf Yl Q
                      generalize storeRec wq (w.heap.size + 1) 0 [.int .i64 0, .int .i64 0, .int .i64 0, .bool false, .int .i64 0, .slice none 0 0, .slice none 0 0, .slice none 0 0, .int .i64 0, .int .i64 0, .slice none 0 0, .int .i64 0, .int .i64 0] = w' at Z hon ⊢
                      obtain ⟨⟨z0, z1, z2, z3, z4, z5, z6, z7, z8, z9, z10, z11, z12⟩, _⟩ := Z.c13
                      rw [newD_no HE.out, HE.out]
                      exact bodyPost_ret (v := .tuple #[.agg #[.int .i64 0, .int .i64 0, .int .i64 0, .bool false, .int .i64 0, .slice none 0 0, .slice none 0 0, .slice none 0 0, .int .i64 0, .int .i64 0, .slice none 0 0, .int .i64 0, .int .i64 0], .bool false]) (by simp [results, Try.results11, go_sem, z0, z1, z2, z3, z4, z5, z6, z7, z8, z9, z10, z11, z12]) rfl (RetEB.zero (HB.out.trans (hon.below (by omega))))
                    · have HPI := Lib.hid (HY.out s.1 (by omega))
                      have HP5 := Lib.hid (show ∀ i u, i < j + 1 → P[i]? = some u → progIn s.1 u = true from fun i u hi hu => by
                        by_cases e : i = j
                        · subst e
                          rw [HGp.out] at hu
                          cases hu
                          exact HPI.out
                        · exact HP.out i u (by omega) hu)
                      have HN5 := Lib.hid (show N ++ [p] = P.take (j + 1) by rw [List.take_add_one, HGp.out, ← HN.out]; rfl)
                      have HN5L := Lib.hid (show (N ++ [p]).length ≤ 12 by rw [HN5.out]; simp; omega)
                      go_wp2_with fail
                      refine wp_region_cls (by kernel_rfl) (by kernel_rfl) HF0.out ?_
                      repeat (go_big_quiet_step ((go_at_call 47; refine (specProgOk_any Ap p.length cp (actF p) _ (acts_at ((RP.out.keep (HB.out _) hB).up (Nat.le_trans hB (HB.out _).size)))).mono ?_; rintro o w2 ⟨rfl, hb2⟩; rw [hp]; exact ⟨rfl, HFn.out _ _ hb2⟩)))
                      refine wpQuiet_nil ?_
                      rintro _ ⟨nq, rfl⟩
                      have hbq := HF.out nq
                      have Oq := Ok.next hbq
                      have gq := gk.next hbq
                      have bqi := bki.trans (hbq.mono bki.size)
                      have bq := HB.out nq
                      clear fx0 fxl fk hbq HF HF0 HB HFn hw1 hw2 hw3 hmz hgl
                      generalize F nq = wq at Oq gq bqi bq ⊢
                      have hD := (Below.refl wq.heap.size wq).drew
                      have Oq := Oq.next hD
                      have gq := gq.next hD
                      have bq := bq.trans (hD.mono bq.size)
                      have bqi := bqi.trans (hD.mono bqi.size)
                      clear hD
                      go_wp2_with fail
                      have HS0 := Lib.hid (Oq.c9.1.1)
                      refine wp_region_last (S := fun W => W.cell? ⟨wo.heap.size, 0, none⟩ = some vP) (by kernel_rfl) 7 (by kernel_rfl) (by kernel_rfl) (by kernel_rfl) (by kernel_rfl) HS0.out (m := 7) rfl (fun hHeld => ?_)
                      generalize wq.drew = wd at Oq gq bq bqi HS0 hHeld ⊢
                      refine takeH 0 80 (v := ?v0) rfl rfl (by kernel_rfl) (by kernel_rfl) (by kernel_rfl) (fun _ _ _ h => h) (by rfl) ?hy0 hHeld ?rest0
                      case hy0 => intro W hSw; go_simp; (try with_reducible rfl)
                      simp only [Act.put, List.setIfInBounds_toArray, List.set]
                      refine takeH 1 81 (v := ?v1) rfl rfl (by kernel_rfl) (by kernel_rfl) (by kernel_rfl) (fun _ _ _ h => h) (by rfl) ?hy1 hHeld ?rest1
                      case hy1 => intro W hSw; go_simp; (try with_reducible rfl)
                      simp only [Act.put, List.setIfInBounds_toArray, List.set]
                      refine takeH 2 82 (v := ?v2) rfl rfl (by kernel_rfl) (by kernel_rfl) (by kernel_rfl) (fun _ _ _ h => h) (by rfl) ?hy2 hHeld ?rest2
                      case hy2 => intro W hSw; go_simp; (try with_reducible rfl)
                      simp only [Act.put, List.setIfInBounds_toArray, List.set]
                      refine wpAnyH_ready (rs := [3]) (by kernel_rfl) (by simp) ?_
                      refine AllReadyH.cons rfl (fun K hK => ?_) AllReadyH.nil
                      go_simp
                      refine (l06Prog_any Ap cp B p _ hpl2 (Nat.le_trans hB bq.size) (RP.out.keep bq hB)).mono ?_; rintro o w9 ⟨A9, c9, rfl, hb9, o9⟩
                      have hT9 := gq.top
                      have hk9 := gq.row.lt
                      have hsd : wo.heap.size + 1 ≤ wd.heap.size := Nat.succ_le_of_lt Oq.lt
                      have O9 := Oq.next hb9
                      have g9 := gq.next hb9
                      have b9 := bqi.trans (hb9.mono bqi.size)
                      have hz9 : wd.heap.size ≤ w9.heap.size := hb9.size
                      have HS5 := Lib.hid (O9.c9.1.1)
                      clear hb9 gq Oq
                      refine hK.out _ _ HS5.out (fun hHeld => ?_)
                      clear hK K
                      refine wpAnyH_ready (rs := [4]) (by kernel_rfl) (by simp) ?_
                      refine AllReadyH.cons rfl (fun K hK => ?_) AllReadyH.nil
                      go_simp
                      have hA := (Below.refl w9.heap.size w9).alloc (Nat.le_refl _) (.cells #[.slice A9 p.length c9] 63)
                      have Oa := O9.next hA
                      have ga := g9.next hA
                      have ba := b9.trans (hA.mono b9.size)
                      have HS7 := Lib.hid (Oa.c9.1.1)
                      have OW := Lib.hid (show (rowF fAct).Own (w9.alloc (.cells #[.slice A9 p.length c9] 63)) wd.heap.size w9.heap.size p [.slice A9 p.length c9] from ⟨_, _, rfl, o9.next hA (Nat.le_refl _)⟩)
                      have HH : Hid ((w9.alloc (.cells #[.slice A9 p.length c9] 63)).heap.size = w9.heap.size + 1) := Lib.hid (by simp)
                      have HN1 := Lib.hid (show ∀ j u, [Value.slice A9 p.length c9][j]? = some u → (w9.alloc (.cells #[.slice A9 p.length c9] 63)).cell? ((⟨w9.heap.size, 0, none⟩ : Addr).add j) = some u from fun j u hu => by rw [cell_addr, Nat.zero_add, World.cell?_alloc_new]; simpa using hu)
                      have SZ : Hid (wo.heap.size + 1 ≤ (w9.alloc (.cells #[.slice A9 p.length c9] 63)).heap.size) := Lib.hid (by simp; omega)
                      refine hK.out _ _ HS7.out (fun hHeld => ?_)
                      clear hK K hA O9 g9 b9 o9
                      generalize w9.alloc (.cells #[.slice A9 p.length c9] 63) = wA at Oa ga ba HS7 OW HH HN1 SZ hHeld ⊢
                      refine wpAnyH_ready (rs := [5]) (by kernel_rfl) (by simp) ?_
                      refine AllReadyH.cons rfl (fun K hK => ?_) AllReadyH.nil
                      refine step_append_lies _ rfl _ _ 73 rfl (wo.heap.size + 1) 63 ip (.slice none 0 0) 1 24 Try.underlying73 Pi.out Pz0.out Pz1.out Pz2.out rfl (by decide) vP N.length (catC us N.length) (by simp [Act.eval]) (show World.ownsRow _ _ _ 1 _ _ _ from ga.row) ⟨w9.heap.size, 0, none⟩ 1 1 [.slice A9 p.length c9] (by simp [Act.eval]) rfl HN1.out (fun u hu => by simp at hu; subst hu; rfl) (by decide) (by unfold maxLen; omega) (by omega) SZ.out wA.heap.size rfl ?_
                      intro gg cap wB hown' hgrow hat hlt
                      have hne : ∀ q, vP.ownBlock = some q → wo.heap.size + 1 ≤ q := fun q hq => (ga.row.lt q hq).1
                      have bAB : Below (wo.heap.size + 1) wA wB := (Below.refl (wo.heap.size + 1) wA).grown hgrow SZ.out hne
                      have OB := Oa.below bAB (by omega)
                      have HS8 := Lib.hid (OB.c9.1.1)
                      have HGB := Lib.hid (ga.push (a := p) (nv := [.slice A9 p.length c9]) (s := wd.heap.size) (t := w9.heap.size) hown' hgrow hat OW.out hsd (by have := HH.out; omega) hT9 (fun q hq => (hk9 q hq).2))
                      have bB := ba.trans (bAB.mono (by omega))
                      have HsB := Lib.hid (show wo.heap.size + 1 ≤ wB.heap.size from Nat.le_trans SZ.out bAB.size)
                      refine hK.out _ _ HS8.out (fun hHeld => ?_)
                      clear hK K hne hown' hgrow hat Oa ga ba OW HH HN1 SZ bAB hT9 hk9
                      refine takeH 6 86 (v := ?v6) rfl rfl (by kernel_rfl) (by kernel_rfl) (by kernel_rfl) (fun _ _ _ h => h) (by rfl) ?hy6 hHeld ?rest6
                      case hy6 => intro W hSw; go_simp; (try with_reducible rfl)
                      simp only [Act.put, List.setIfInBounds_toArray]
                      refine wpAnyH_done (by kernel_rfl) ?_ _
                      obtain ⟨⟨o_0, o_1, o_2, o_3, o_4, o_5, o_6, o_7, o_8⟩, of_⟩ := OB.c9
                      have Ol := OB.lt
                      have HO8 := Lib.hid (OB.set (j := 0) (.slice (some ⟨gg, 0, none⟩) (N.length + 1) cap) (by simp))
                      have HG8 := Lib.hid (HGB.out.sameI (onlys_one wB wo.heap.size 0 (.slice (some ⟨gg, 0, none⟩) (N.length + 1) cap)) (Nat.le_refl _))
                      have HB8 := Lib.hid (bB.setCell (p := ⟨wo.heap.size, 0, none⟩) (Nat.le_refl _) (.slice (some ⟨gg, 0, none⟩) (N.length + 1) cap))
                      clear OB HGB bB
                      refine lastH rfl (fun K hK => ?_)
                      go_simp
                      refine hK _ _ ?_
                      clear hK K hHeld o_0 o_1 o_2 o_3 o_4 o_5 o_6 o_7 o_8 of_ Ol
                      go_wp2
                      exact ⟨⟨j + 1, N ++ [p], _, _, _, _, by omega, by go_num, HN5, HN5L.out, HG8.out, HB8.out, HO8.out, HP5⟩, by simp [intOf]; omega⟩
                · obtain rfl : j = P.length := by omega
                  have HPL := Lib.hid (show listIn s.1 P = true by unfold listIn; rw [all_yesE HP.out, Bool.and_true]; exact decide_eq_true hp12)
                  have hNP : P = N := by have := HN.out; rw [List.take_length] at this; exact this.symm
                  subst hNP
                  obtain ⟨XP, CP, rfl, oP⟩ := gI.done
                  have hT6 := hG.top
                  have hk6 := hG.row.lt
                  have hG := hG.next bi
                  have X := X.next bi
                  have Y := Y.next bi
                  have E := E.next bi
                  have o5 := o5.next bi (by omega)
                  have o7 := o7.next bi (by omega)
                  have hsi : wo.heap.size + 1 ≤ wr.heap.size := Nat.succ_le_of_lt O.lt
                  have hA := (Below.refl wr.heap.size wr).alloc (Nat.le_refl _) (.cells #[.slice XP P.length CP, .int .i64 0, .int .i64 0, .int .i64 0, .int .i64 0, .slice none 0 0, .slice none 0 0, .slice none 0 0, .slice none 0 0] 78)
                  have hGa := hG.next hA
                  have ow := own_emptyW (c := CP) oP hsi
                  have ON := Lib.hid (one_Worker _ _ (fWorker.own_at ow))
                  have OW := Lib.hid (fWorker.own_same ow (.of hA (Nat.le_refl _)))
                  have HGr := Lib.hid (show G0 ≤ wr.heap.size by omega)
                  clear hA oP ow gI HN HP
                  obtain ⟨⟨e0, e1, e2, e3, e4, e5, e6, e7, e8, e9, e10, e11, e12⟩, ef⟩ := E.c13
                  have El := E.lt
                  obtain ⟨⟨o_0, o_1, o_2, o_3, o_4, o_5, o_6, o_7, o_8⟩, of_⟩ := O.c9
                  have Ol := O.lt
                  go_wp2_with (at_builtin; refine wpList_append_lies _ rfl _ _ 30 rfl G0 78 i0 (.agg #[.slice none 0 0, .int .i64 0, .int .i64 0, .int .i64 0, .int .i64 0, .slice none 0 0, .slice none 0 0, .slice none 0 0, .slice none 0 0]) 9 152 Try.underlying30 Hi.out Hz0.out Hz1.out Hz2.out rfl (by decide) _ _ _ rfl (show World.ownsRow _ _ _ 9 _ _ _ from hGa.row) ⟨wr.heap.size, 0, none⟩ 1 1 [.slice XP P.length CP, .int .i64 0, .int .i64 0, .int .i64 0, .int .i64 0, .slice none 0 0, .slice none 0 0, .slice none 0 0, .slice none 0 0] rfl rfl ?c1 ON.out (by decide) ?c3 ?c4 ?c5 (wr.heap.size + 1) ?c6 ?_)
                  case c1 => intro j u hu; rw [cell_addr, Nat.zero_add, World.cell?_alloc_new]; simpa using hu
                  case c3 => unfold maxLen; omega
                  case c4 => omega
                  case c5 => simp; omega
                  case c6 => simp
                  intro g cap w5 hown' hgrow hat hlt
                  have hat2 : v.ownBlock = some g ∨ g = (wr.alloc (.cells #[.slice XP P.length CP, .int .i64 0, .int .i64 0, .int .i64 0, .int .i64 0, .slice none 0 0, .slice none 0 0, .slice none 0 0, .slice none 0 0] 78)).heap.size := by rcases hat with h | h; exact .inl h; exact .inr (by simpa using h)
                  have HG5 := hGa.push (a := emptyW P) (nv := [.slice XP P.length CP, .int .i64 0, .int .i64 0, .int .i64 0, .int .i64 0, .slice none 0 0, .slice none 0 0, .slice none 0 0, .slice none 0 0]) (s := wo.heap.size + 1) (t := wr.heap.size) hown' hgrow hat2 OW.out (by omega) (by simp) (fun q hq => Nat.le_succ_of_le (hT6 q hq)) (fun q hq => Nat.lt_succ_of_lt (hk6 q hq).2)
                  have b45 : Below G0 wr w5 := ((Below.refl G0 wr).alloc (by omega) (.cells #[.slice XP P.length CP, .int .i64 0, .int .i64 0, .int .i64 0, .int .i64 0, .slice none 0 0, .slice none 0 0, .slice none 0 0, .slice none 0 0] 78)).grown hgrow (by simp; omega) (fun q hq => (hGa.row.lt q hq).1)
                  clear e0 e1 e2 e3 e4 e5 e6 e7 e8 e9 e10 e11 e12 ef El o_0 o_1 o_2 o_3 o_4 o_5 o_6 o_7 o_8 of_ Ol
                  have E := E.below b45 hEG
                  have HX5 := Lib.hid ((X.below b45 (by omega)).far (a := ⟨Eb, 6, none⟩) (.slice (some ⟨g, 0, none⟩) (M.length + 1) cap) (by simp; omega))
                  have HY5 := Lib.hid ((Y.below b45 (by omega)).far (a := ⟨Eb, 6, none⟩) (.slice (some ⟨g, 0, none⟩) (M.length + 1) cap) (by simp; omega))
                  have HE5 := Lib.hid (E.set (j := 6) (.slice (some ⟨g, 0, none⟩) (M.length + 1) cap) (by simp))
                  have HG6 := Lib.hid (HG5.sameI (onlys_one w5 Eb 6 (.slice (some ⟨g, 0, none⟩) (M.length + 1) cap)) (by omega))
                  have HO5 := Lib.hid ((o5.same (SameI.of b45 (by omega))).far (a := ⟨Eb, 6, none⟩) (.slice (some ⟨g, 0, none⟩) (M.length + 1) cap) (.inr (by show _ ≤ Eb; omega)))
                  have HO7 := Lib.hid ((o7.same (SameI.of b45 (by omega))).far (a := ⟨Eb, 6, none⟩) (.slice (some ⟨g, 0, none⟩) (M.length + 1) cap) (by show Eb < _ ∨ _ ≤ Eb; omega))
                  have HB5 := Lib.hid (((b.trans (bi.mono b.size)).trans (b45.mono (by omega))).setCell (p := ⟨Eb, 6, none⟩) (by show _ ≤ Eb; omega) (.slice (some ⟨g, 0, none⟩) (M.length + 1) cap))
                  have HS5 := Lib.hid (show G0 ≤ w5.heap.size by have := b45.size; omega)
                  have HM5 := Lib.hid (show M ++ [emptyW P] = (l.take (k + 1)).map emptyW by rw [take_map_succ HG.out, ← HM.out])
                  have HM5L := Lib.hid (show (M ++ [emptyW P]).length ≤ 4 by rw [HM5.out]; simp; omega)
                  have HA := Lib.hid (show ∀ j Q, j < k + 1 → l[j]? = some Q → listIn s.1 Q = true from fun j Q hj hQ => by
                    by_cases e : j = k
                    · subst e
                      rw [HG.out] at hQ
                      cases hQ
                      exact HPL.out
                    · exact HA.out j Q (by omega) hQ)
                  have e6 := E.c13.1.2.2.2.2.2.2.1
                  have El := E.lt
                  have ef := E.c13.2
                  clear X Y o5 o7 hown' hgrow hat hat2 hGa OW ON b45 hk6 hT6 HM hM4 hG HG5 bi b bI O
                  go_wp2
                  exact ⟨⟨k + 1, M ++ [emptyW P], _, _, _, _, by omega, by go_num, HM5, HM5L.out, HG6.out, HB5.out, by simpa [World.setCell] using HS5.out, HX5.out, HY5.out, HE5.out, HO5.out, HO7.out, HA⟩, by simp [intOf]; omega⟩
            · have HE := Lib.hid (newOk_no3 HG.out (show listIn s.1 P = false by unfold listIn; rw [decide_eq_false hp12, Bool.false_and]))
              have hp12z : (12 : Int) < P.length := by omega
              obtain ⟨⟨y0, y1, y2, y3, y4, y5, y6, y7, y8, y9, y10, y11, y12⟩, yf⟩ := Y.c13
              have Yl := Y.lt
              have Q := Lib.hid (put_box Y (vs := [.int .i64 0, .int .i64 0, .int .i64 0, .bool false, .int .i64 0, .slice none 0 0, .slice none 0 0, .slice none 0 0, .int .i64 0, .int .i64 0, .slice none 0 0, .int .i64 0, .int .i64 0]) rfl)
              have HB := Lib.hid b
              clear b
              go_wp2
              rw [show (((((((((((((wr.setCell ⟨w.heap.size + 1, 0, none⟩ (.int .i64 0)).setCell ⟨w.heap.size + 1, 1, none⟩ (.int .i64 0)).setCell ⟨w.heap.size + 1, 2, none⟩ (.int .i64 0)).setCell ⟨w.heap.size + 1, 3, none⟩ (.bool false)).setCell ⟨w.heap.size + 1, 4, none⟩ (.int .i64 0)).setCell ⟨w.heap.size + 1, 5, none⟩ (.slice none 0 0)).setCell ⟨w.heap.size + 1, 6, none⟩ (.slice none 0 0)).setCell ⟨w.heap.size + 1, 7, none⟩ (.slice none 0 0)).setCell ⟨w.heap.size + 1, 8, none⟩ (.int .i64 0)).setCell ⟨w.heap.size + 1, 9, none⟩ (.int .i64 0)).setCell ⟨w.heap.size + 1, 10, none⟩ (.slice none 0 0)).setCell ⟨w.heap.size + 1, 11, none⟩ (.int .i64 0)).setCell ⟨w.heap.size + 1, 12, none⟩ (.int .i64 0)) = storeRec wr (w.heap.size + 1) 0 [.int .i64 0, .int .i64 0, .int .i64 0, .bool false, .int .i64 0, .slice none 0 0, .slice none 0 0, .slice none 0 0, .int .i64 0, .int .i64 0, .slice none 0 0, .int .i64 0, .int .i64 0] from rfl]
              obtain ⟨Z, hon⟩ := Q.out
              clear y0 y1 y2 y3 y4 y5 y6 y7 y8 y9 y10 y11 y12 yf Yl Q
              generalize storeRec wr (w.heap.size + 1) 0 [.int .i64 0, .int .i64 0, .int .i64 0, .bool false, .int .i64 0, .slice none 0 0, .slice none 0 0, .slice none 0 0, .int .i64 0, .int .i64 0, .slice none 0 0, .int .i64 0, .int .i64 0] = w' at Z hon ⊢
              obtain ⟨⟨z0, z1, z2, z3, z4, z5, z6, z7, z8, z9, z10, z11, z12⟩, _⟩ := Z.c13
              rw [newD_no HE.out, HE.out]
              exact bodyPost_ret (v := .tuple #[.agg #[.int .i64 0, .int .i64 0, .int .i64 0, .bool false, .int .i64 0, .slice none 0 0, .slice none 0 0, .slice none 0 0, .int .i64 0, .int .i64 0, .slice none 0 0, .int .i64 0, .int .i64 0], .bool false]) (by simp [results, Try.results11, go_sem, z0, z1, z2, z3, z4, z5, z6, z7, z8, z9, z10, z11, z12]) rfl (RetEB.zero (HB.out.trans (hon.below (by omega))))
          · obtain rfl : k = l.length := by omega
            have HT := Lib.hid (newOk_yes H1.out hl4 HA.out)
            have hMT : l.map emptyW = M := by rw [HM.out, List.take_length]
            subst hMT
            obtain ⟨X0, C0, rfl, o6⟩ := hG.done
            have hML : (l.map emptyW).length = l.length := by simp
            rw [hML] at E
            clear x0 x1 x2 x3 x4 xf Xl hG HM HA hML
            obtain ⟨⟨e0, e1, e2, e3, e4, e5, e6, e7, e8, e9, e10, e11, e12⟩, ef⟩ := E.c13
            have El := E.lt
            obtain ⟨⟨y0, y1, y2, y3, y4, y5, y6, y7, y8, y9, y10, y11, y12⟩, yf⟩ := Y.c13
            have Yl := Y.lt
            have Q := Lib.hid (put_box Y (vs := [.int .i64 s.1, .int .i64 s.2.1, .int .i64 s.2.2.1, .bool s.2.2.2.1, .int .i64 s.2.2.2.2, .slice A5 s.1.toNat c5, .slice X0 l.length C0, .slice (some ⟨Hb, 0, none⟩) 8 8, .int .i64 0, .int .i64 (-1), .slice none 0 0, .int .i64 0, .int .i64 0]) rfl)
            have HB := Lib.hid b
            have O5 := Lib.hid o5
            have O6 := Lib.hid o6
            have O7 := Lib.hid o7
            clear b o5 o6 o7 E X Y
            go_wp2
            rw [show (((((((((((((wr.setCell ⟨w.heap.size + 1, 0, none⟩ (.int .i64 s.1)).setCell ⟨w.heap.size + 1, 1, none⟩ (.int .i64 s.2.1)).setCell ⟨w.heap.size + 1, 2, none⟩ (.int .i64 s.2.2.1)).setCell ⟨w.heap.size + 1, 3, none⟩ (.bool s.2.2.2.1)).setCell ⟨w.heap.size + 1, 4, none⟩ (.int .i64 s.2.2.2.2)).setCell ⟨w.heap.size + 1, 5, none⟩ (.slice A5 s.1.toNat c5)).setCell ⟨w.heap.size + 1, 6, none⟩ (.slice X0 l.length C0)).setCell ⟨w.heap.size + 1, 7, none⟩ (.slice (some ⟨Hb, 0, none⟩) 8 8)).setCell ⟨w.heap.size + 1, 8, none⟩ (.int .i64 0)).setCell ⟨w.heap.size + 1, 9, none⟩ (.int .i64 (-1))).setCell ⟨w.heap.size + 1, 10, none⟩ (.slice none 0 0)).setCell ⟨w.heap.size + 1, 11, none⟩ (.int .i64 0)).setCell ⟨w.heap.size + 1, 12, none⟩ (.int .i64 0)) = storeRec wr (w.heap.size + 1) 0 [.int .i64 s.1, .int .i64 s.2.1, .int .i64 s.2.2.1, .bool s.2.2.2.1, .int .i64 s.2.2.2.2, .slice A5 s.1.toNat c5, .slice X0 l.length C0, .slice (some ⟨Hb, 0, none⟩) 8 8, .int .i64 0, .int .i64 (-1), .slice none 0 0, .int .i64 0, .int .i64 0] from rfl]
            obtain ⟨Z, hon⟩ := Q.out
            clear e0 e1 e2 e3 e4 e5 e6 e7 e8 e9 e10 e11 e12 ef El y0 y1 y2 y3 y4 y5 y6 y7 y8 y9 y10 y11 y12 yf Yl Q
            have hzw := hon.size
            have b2 := HB.out.trans (hon.below (L := w.heap.size) (by omega))
            have o5 := O5.out.only hon (.inr (by omega))
            have o6 := O6.out.only hon (.inr (by omega))
            have o7 := O7.out.only hon (.inr (by omega))
            generalize storeRec wr (w.heap.size + 1) 0 [.int .i64 s.1, .int .i64 s.2.1, .int .i64 s.2.2.1, .bool s.2.2.2.1, .int .i64 s.2.2.2.2, .slice A5 s.1.toNat c5, .slice X0 l.length C0, .slice (some ⟨Hb, 0, none⟩) 8 8, .int .i64 0, .int .i64 (-1), .slice none 0 0, .int .i64 0, .int .i64 0] = w' at Z hon hzw b2 o5 o6 o7 ⊢
            obtain ⟨⟨z0, z1, z2, z3, z4, z5, z6, z7, z8, z9, z10, z11, z12⟩, _⟩ := Z.c13
            rw [newD_yes HT.out, HT.out]
            exact bodyPost_ret (v := .tuple #[.agg #[.int .i64 s.1, .int .i64 s.2.1, .int .i64 s.2.2.1, .bool s.2.2.2.1, .int .i64 s.2.2.2.2, .slice A5 (List.replicate s.1.toNat zeroCell).length c5, .slice X0 (l.map emptyW).length C0, .slice (some ⟨Hb, 0, none⟩) (List.replicate 8 (0 : Int)).length 8, .int .i64 0, .int .i64 (-1), .slice none 0 0, .int .i64 0, .int .i64 0], .bool true]) (by simp [results, Try.results11, go_sem, z0, z1, z2, z3, z4, z5, z6, z7, z8, z9, z10, z11, z12]) rfl
              ⟨A5, c5, X0, C0, some ⟨Hb, 0, none⟩, 8, none, 0, w2.heap.size, w3.heap.size, G0, wr.heap.size, Hb, Hb + 1, w'.heap.size, w'.heap.size, rfl, b2,
                o5, o6, o7, ROwn.nil, by omega, by omega, by omega, by omega, by omega, by omega, by omega, by omega, by omega, by omega⟩
    · have HE := Lib.hid (newOk_no2 (s := s) hl4)
      have hl4z : (4 : Int) < l.length := by omega
      obtain ⟨⟨y0, y1, y2, y3, y4, y5, y6, y7, y8, y9, y10, y11, y12⟩, yf⟩ := Y.c13
      have Yl := Y.lt
      have Q := Lib.hid (put_box Y (vs := [.int .i64 0, .int .i64 0, .int .i64 0, .bool false, .int .i64 0, .slice none 0 0, .slice none 0 0, .slice none 0 0, .int .i64 0, .int .i64 0, .slice none 0 0, .int .i64 0, .int .i64 0]) rfl)
      have HB := Lib.hid b
      clear b
      go_wp2
      rw [show (((((((((((((w2.setCell ⟨w.heap.size + 1, 0, none⟩ (.int .i64 0)).setCell ⟨w.heap.size + 1, 1, none⟩ (.int .i64 0)).setCell ⟨w.heap.size + 1, 2, none⟩ (.int .i64 0)).setCell ⟨w.heap.size + 1, 3, none⟩ (.bool false)).setCell ⟨w.heap.size + 1, 4, none⟩ (.int .i64 0)).setCell ⟨w.heap.size + 1, 5, none⟩ (.slice none 0 0)).setCell ⟨w.heap.size + 1, 6, none⟩ (.slice none 0 0)).setCell ⟨w.heap.size + 1, 7, none⟩ (.slice none 0 0)).setCell ⟨w.heap.size + 1, 8, none⟩ (.int .i64 0)).setCell ⟨w.heap.size + 1, 9, none⟩ (.int .i64 0)).setCell ⟨w.heap.size + 1, 10, none⟩ (.slice none 0 0)).setCell ⟨w.heap.size + 1, 11, none⟩ (.int .i64 0)).setCell ⟨w.heap.size + 1, 12, none⟩ (.int .i64 0)) = storeRec w2 (w.heap.size + 1) 0 [.int .i64 0, .int .i64 0, .int .i64 0, .bool false, .int .i64 0, .slice none 0 0, .slice none 0 0, .slice none 0 0, .int .i64 0, .int .i64 0, .slice none 0 0, .int .i64 0, .int .i64 0] from rfl]
      obtain ⟨Z, hon⟩ := Q.out
      clear y0 y1 y2 y3 y4 y5 y6 y7 y8 y9 y10 y11 y12 yf Yl Q
      generalize storeRec w2 (w.heap.size + 1) 0 [.int .i64 0, .int .i64 0, .int .i64 0, .bool false, .int .i64 0, .slice none 0 0, .slice none 0 0, .slice none 0 0, .int .i64 0, .int .i64 0, .slice none 0 0, .int .i64 0, .int .i64 0] = w' at Z hon ⊢
      obtain ⟨⟨z0, z1, z2, z3, z4, z5, z6, z7, z8, z9, z10, z11, z12⟩, _⟩ := Z.c13
      rw [newD_no HE.out, HE.out]
      exact bodyPost_ret (v := .tuple #[.agg #[.int .i64 0, .int .i64 0, .int .i64 0, .bool false, .int .i64 0, .slice none 0 0, .slice none 0 0, .slice none 0 0, .int .i64 0, .int .i64 0, .slice none 0 0, .int .i64 0, .int .i64 0], .bool false]) (by simp [results, Try.results11, go_sem, z0, z1, z2, z3, z4, z5, z6, z7, z8, z9, z10, z11, z12]) rfl (RetEB.zero (HB.out.trans (hon.below (by omega))))
end Go.Proofs.Ytkpkjcmoldkmmaa

namespace Go.Proofs.Ytkpkjcmoldkmmaa
open Go.RowKit

set_option maxHeartbeats 1600000 in
set_option maxRecDepth 100000 in
theorem sz_ActSSS (A : Option Addr) (c B : Nat) (l : List (List (List DAct))) (left : Int) (w : World) (h0 : 0 ≤ left) (h1 : left ≤ 1048576) (hB : B ≤ w.heap.size) (h : RAt (rowF (rowF fAct)) w B A l) :
    Calls Try.prog 10 #[.slice A l.length c, .int .i64 left] w fun e w' => e = .returned (.int .i64 (szOf left ((rowF (rowF (rowF fAct))).cnt l))) ∧ Below w.heap.size w w' := by
  have hmx := h.1
  unfold maxLen at hmx
  rw [row_cnt]
  by_cases hl : left < l.length
  · have f1 : left - (l.length : Int) < 0 := by omega
    go_enter Try.func10, Try.ntmps10
    go_wp2
    go_ret
    exact ⟨by rw [szOf_lt (by omega)]; rfl, Below.refl _ _⟩
  · have f1 : ¬ (left - (l.length : Int) < 0) := by omega
    go_enter Try.func10, Try.ntmps10
    go_wp2
    go_loopw [1, 5] (fun s i wr => ∃ k : Nat, k ≤ l.length ∧ i = .int .i64 k ∧ ((l.length + psum (rowF (rowF fAct)) l k : Nat) : Int) ≤ left ∧ s = .int .i64 (left - (l.length : Int) - (psum (rowF (rowF fAct)) l k : Int)) ∧ Below w.heap.size w wr) (fun _ i _ => l.length - (intOf i).toNat)
    case atStart => exact ⟨0, Nat.zero_le _, rfl, by rw [psum_zero]; omega, by simp [psum_zero], Below.refl _ _⟩
    case round =>
      obtain ⟨k, hk, rfl, hle, rfl, hb⟩ := hrel
      by_cases hkn : k < l.length
      · obtain ⟨b, off, rfl, hbB, hc⟩ := h.2 (by omega)
        have hkz : (k : Int) < l.length := by omega
        have hget : l[k]? = some l[k] := List.getElem?_eq_getElem hkn
        obtain ⟨v, hv0, hat0⟩ := hc k _ hget
        have hsz := hb.size
        have hat := (rowF (rowF fAct)).at_same hat0 (.of hb hB)
        have hv := hv0.below hb (show b < w.heap.size by omega)
        rw [show (rowF (rowF fAct)).n = 1 from rfl] at hv
        have hps := psum_succ (F := (rowF (rowF fAct))) hget
        have hpm := psum_mono (rowF (rowF fAct)) l (show k + 1 ≤ l.length by omega)
        clear hv0 hat0
        generalize l[k] = d at hget hat hps
        obtain ⟨A0, c0, rfl, q0⟩ := hat
        have a0 := hv.c1
        rw [Nat.mul_one] at a0
        clear hc h hv hget
        have HC := Lib.hid (show (rowF (rowF fAct)).cnt d = psum (rowF (rowF fAct)) l (k + 1) - psum (rowF (rowF fAct)) l k by first | omega | (rw [hps]; omega))
        generalize hx : psum (rowF (rowF fAct)) l k = x at hle hps HC ⊢
        generalize hy : psum (rowF (rowF fAct)) l (k + 1) = y at hps hpm HC
        generalize hn : psum (rowF (rowF fAct)) l l.length = z at hpm ⊢
        generalize hL : l.length = n at *
        by_cases hok : ((n + y : Nat) : Int) ≤ left
        · have HE := Lib.hid (show szOf (left - (n : Int) - (x : Int)) ((rowF (rowF fAct)).cnt d) = left - (n : Int) - (y : Int) by rw [HC.out, szOf_le (by omega)]; omega)
          have hge : ¬ (left - (n : Int) - (y : Int) < 0) := by omega
          clear hps hpm
          go_wp2_with fail
          refine (sz_ActSS A0 c0 B d _ _ (by omega) (by omega) (by omega) q0).mono ?_; rintro o w1 ⟨rfl, hb1⟩
          rw [HE.out]
          have hb2 := hb.trans (hb1.mono hsz)
          clear a0 hb hb1
          go_wp2
          exact ⟨⟨k + 1, by omega, by go_num, by rw [hy]; exact hok, by rw [hy], hb2⟩, by simp [intOf]; omega⟩
        · have HE := Lib.hid (show szOf (left - (n : Int) - (x : Int)) ((rowF (rowF fAct)).cnt d) = -1 by rw [HC.out, szOf_lt (by omega)])
          clear hps
          go_wp2_with fail
          refine (sz_ActSS A0 c0 B d _ _ (by omega) (by omega) (by omega) q0).mono ?_; rintro o w1 ⟨rfl, hb1⟩
          rw [HE.out]
          have hb2 := hb.trans (hb1.mono hsz)
          clear a0 hb hb1
          go_wp2
          go_ret
          exact ⟨by rw [szOf_lt (by rw [hL, hn]; omega)]; rfl, hb2⟩
      · obtain rfl : k = l.length := by omega
        go_wp2
        go_ret
        exact ⟨ret_intG (by rw [szOf_le (by omega)] <;> omega), hb⟩
theorem info_ActSS : (Try.prog.info? 73).map (fun i => (i.zero, i.size, i.bytes)) = some (some (.slice none 0 0), 1, 24) := by kernel_rfl
theorem make_ActSS (n : Nat) (h : n ≤ 1048576) (w : World) :
    (Instr.makeSlice 38 (.int .i64 (n : Int)) (.int .i64 (n : Int))).run Try.prog w = .ok (.slice (some ⟨w.heap.size, 0, none⟩) n n) (w.alloc (.cells (madeCells #[.slice none 0 0] n) 73)) := by
  obtain ⟨i, hi, hzz⟩ := Option.map_eq_some_iff.1 info_ActSS
  simp only [Prod.mk.injEq] at hzz
  obtain ⟨hz, hs, hb⟩ := hzz
  have := run_make (P := Try.prog) w 38 73 i _ Try.underlying38 hi hz .i64 .i64 n n (by omega) (Int.le_refl _) (by rw [hb]; omega) (by omega)
  simpa [hs, Value.cells] using this
set_option maxHeartbeats 1600000 in
set_option maxRecDepth 100000 in
theorem to_ActSSS (A : Option Addr) (c B : Nat) (l : List (List (List DAct))) (w : World) (hs : (rowF (rowF (rowF fAct))).cnt l ≤ 1048576) (hB : B ≤ w.heap.size) (h : RAt (rowF (rowF fAct)) w B A l) :
    Calls Try.prog 13 #[.slice A l.length c] w fun e w' => ∃ G c', e = .returned (.slice G l.length c') ∧ Below w.heap.size w w' ∧ ROwn (rowF (rowF fAct)) w' w.heap.size w'.heap.size G l := by
  have hlen : l.length ≤ 1048576 := by rw [row_cnt] at hs; omega
  have hmx : l.length ≤ maxLen := h.1
  have hmk := make_ActSS l.length hlen
  go_enter Try.func13, Try.ntmps13
  go_wp2
  clear hmk
  go_loopw [4] (fun i wr => ∃ k : Nat, k ≤ l.length ∧ i = .int .i64 k ∧ Below w.heap.size w wr ∧ ∃ vs L H, Laid (rowF (rowF fAct)) w.heap.size [.slice none 0 0] l wr k vs L H) (fun i _ => l.length - (intOf i).toNat)
  case atStart => exact ⟨0, Nat.zero_le _, rfl, (Below.refl _ _).alloc (Nat.le_refl _) _, _, _, _, made_laid (F := (rowF (rowF fAct))) w (z := [.slice none 0 0]) rfl (by decide) ((Nat.mul_one _).symm)⟩
  case round =>
    obtain ⟨k, hk, rfl, hb, vs, L, H, hld⟩ := hrel
    by_cases hkn : k < l.length
    · obtain ⟨b, off, rfl, hbB, hc⟩ := h.2 (by omega)
      have hkz : (k : Int) < l.length := by omega
      have hget : l[k]? = some l[k] := List.getElem?_eq_getElem hkn
      obtain ⟨v, hv0, hat0⟩ := hc k _ hget
      have hcn := cnt_at (F := (rowF (rowF fAct))) hget
      have hsz := hb.size
      have hat := (rowF (rowF fAct)).at_same hat0 (.of hb hB)
      have hv := hv0.below hb (show b < w.heap.size by omega)
      rw [show (rowF (rowF fAct)).n = 1 from rfl] at hv
      clear hv0 hat0
      generalize l[k] = d at hget hat hcn
      obtain ⟨A0, c0, rfl, r0⟩ := hat
      have a0 := hv.c1
      rw [Nat.mul_one] at a0
      clear hc h hv
      go_wp2_with fail
      refine (to_ActSS A0 c0 B d _ (by omega) (by omega) r0).mono ?_; rintro o w1 ⟨G, c2, rfl, hb1, ho⟩
      have hs1 := hb1.size
      have hld1 := hld.next hb1
      have hzr := hld1.zero hkn
      rw [show (rowF (rowF fAct)).n = 1 from rfl] at hzr
      have z0 := hzr.c1
      rw [Nat.mul_one] at z0
      have r0 := hld1.free
      have HB := Lib.hid ((hb.trans (hb1.mono hsz)).setCell (p := ⟨w.heap.size, k, none⟩) (Nat.le_refl _) (.slice G d.length c2))
      have hl1 := hld1.step hkn hget (v := [.slice G d.length c2]) (s := wr.heap.size) rfl rfl hld.lt (fun j hj => (hld.own j _ hj (List.getElem?_eq_getElem (by omega))).2.1) (⟨G, c2, rfl, ho⟩ : (rowF (rowF fAct)).Own w1 wr.heap.size w1.heap.size d [.slice G d.length c2])
      rw [show (rowF (rowF fAct)).n = 1 from rfl, Nat.mul_one] at hl1
      have HL := Lib.hid hl1
      clear hld hld1 hzr hb hb1 hl1 ho a0
      go_wp2
      exact ⟨⟨k + 1, by omega, by go_num, HB.out, _, _, _, HL.out⟩, by simp [intOf]; omega⟩
    · obtain rfl : k = l.length := by omega
      have HO := Lib.hid (hld.done hmx (Nat.le_refl _) (Nat.le_refl _))
      clear hld
      go_wp2
      go_ret
      exact ⟨_, _, rfl, hb, HO.out⟩
set_option maxHeartbeats 1600000 in
set_option maxRecDepth 100000 in
theorem eq_ActSSS (A A' : Option Addr) (c c' B B' : Nat) (l : List (List (List DAct))) (w : World) (hB : B ≤ w.heap.size) (hB' : B' ≤ w.heap.size) (h : RAt (rowF (rowF fAct)) w B A l) (h' : RAt (rowF (rowF fAct)) w B' A' l) :
    Calls Try.prog 16 #[.slice A l.length c, .slice A' l.length c'] w fun e w' => e = .returned (.bool true) ∧ Below w.heap.size w w' := by
  have hmx := h.1
  unfold maxLen at hmx
  go_enter Try.func16, Try.ntmps16
  go_wp2
  go_loopw [5] (fun i wr => ∃ k : Nat, k ≤ l.length ∧ i = .int .i64 k ∧ Below w.heap.size w wr) (fun i _ => l.length - (intOf i).toNat)
  case atStart => exact ⟨0, Nat.zero_le _, rfl, Below.refl _ _⟩
  case round =>
    obtain ⟨k, hk, rfl, hb⟩ := hrel
    by_cases hkn : k < l.length
    · obtain ⟨b, off, rfl, hbB, hc⟩ := h.2 (by omega)
      obtain ⟨b', off', rfl, hbB', hc'⟩ := h'.2 (by omega)
      have hkz : (k : Int) < l.length := by omega
      have hget : l[k]? = some l[k] := List.getElem?_eq_getElem hkn
      obtain ⟨v, hv0, hat0⟩ := hc k _ hget
      obtain ⟨v', hv0', hat0'⟩ := hc' k _ hget
      have hsz := hb.size
      have hat := (rowF (rowF fAct)).at_same hat0 (.of hb hB)
      have hat' := (rowF (rowF fAct)).at_same hat0' (.of hb hB')
      have hv := hv0.below hb (show b < w.heap.size by omega)
      have hv' := hv0'.below hb (show b' < w.heap.size by omega)
      rw [show (rowF (rowF fAct)).n = 1 from rfl] at hv hv'
      clear hv0 hat0 hv0' hat0'
      generalize l[k] = d at hget hat hat'
      obtain ⟨A0, c0, rfl, q0⟩ := hat
      obtain ⟨A0x, c0x, rfl, q0x⟩ := hat'
      have a0 := hv.c1
      have b0 := hv'.c1
      rw [Nat.mul_one] at a0 b0
      clear hc hc' h h' hv hv' hget
      go_wp2_with fail
      go_still_tail 8, (by kernel_rfl)
      change wpList _ _ _ _ _ wr.drew
      have hb2 := hb.drew
      clear a0 b0
      have q0 := q0.keep (B' := wr.heap.size) ((Below.refl _ _).drew) (by omega)
      have q0x := q0x.keep (B' := wr.heap.size) ((Below.refl _ _).drew) (by omega)
      generalize wr.drew = w2 at hb2 q0 q0x ⊢
      have hs2 := hb2.size
      go_wp2_with fail
      refine (eq_ActSS A0 A0x c0 c0x B B' d _ (by omega) (by omega) q0 q0x).mono ?_; rintro o w3 ⟨rfl, hb3⟩
      go_wp2
      exact ⟨⟨k + 1, by omega, by go_num, hb2.trans (hb3.mono hs2)⟩, by simp [intOf]; omega⟩
    · obtain rfl : k = l.length := by omega
      go_wp2
      go_ret
      exact ⟨rfl, hb⟩
end Go.Proofs.Ytkpkjcmoldkmmaa

namespace Go.Proofs.Ytkpkjcmoldkmmaa
open Go.ChangeShapes Go.WideShapes Go.ChangeAt Go.RowKit Go.Joins Go.Deep

section
variable {H : Type} {enc : TypeId × Value → H} {W : World}
set_option maxRecDepth 100000 in
theorem arg_ActS {base : Nat} {v : Value} {dd : DataW H} {p : List MemPlace} (hv : Value.okWide Try.prog W .any base 60 v) (h : DataW.Trod enc Try.prog W 0 (fun _ => true) true 60 v dd p) :
    ∃ (l : List DAct) (A : Option Addr) (c : Nat), v = .slice A l.length c ∧ RAt fAct W W.heap.size A l ∧ (rowF fAct).Wf l := by
  obtain ⟨A, n, c, rfl⟩ := Go.WideShapes.okWide_slice Try.underlying60 hv
  obtain ⟨fuel, hf⟩ := h
  obtain ⟨l, ⟨A', c', e, hr⟩, hw⟩ := open_ActS (cs := [.slice A n c]) (by simpa [Value.cells] using hf)
  injection e with e _
  injection e with e1 e2 e3
  subst e1 e2 e3
  exact ⟨l, A, c, rfl, hr, hw⟩
set_option maxRecDepth 100000 in
theorem arg_ActSSS {base : Nat} {v : Value} {dd : DataW H} {p : List MemPlace} (hv : Value.okWide Try.prog W .any base 24 v) (h : DataW.Trod enc Try.prog W 0 (fun _ => true) true 24 v dd p) :
    ∃ (l : List (List (List DAct))) (A : Option Addr) (c : Nat), v = .slice A l.length c ∧ RAt (rowF (rowF fAct)) W W.heap.size A l ∧ (rowF (rowF (rowF fAct))).Wf l := by
  obtain ⟨A, n, c, rfl⟩ := Go.WideShapes.okWide_slice Try.underlying24 hv
  obtain ⟨fuel, hf⟩ := h
  obtain ⟨l, ⟨A', c', e, hr⟩, hw⟩ := open_ActSSS (cs := [.slice A n c]) (by simpa [Value.cells] using hf)
  injection e with e _
  injection e with e1 e2 e3
  subst e1 e2 e3
  exact ⟨l, A, c, rfl, hr, hw⟩
end
end Go.Proofs.Ytkpkjcmoldkmmaa

namespace Go.Proofs.Ytkpkjcmoldkmmaa
open Go.RowKit

/-- an answer: a list of the call's own, and whether there is one -/
def RetLB {α : Type} (F : Fm α) (w : World) (l : List α) (b : Bool) (e : Ending) (w' : World) : Prop := ∃ A c, e = .returned (.tuple #[.slice A l.length c, .bool b]) ∧ Below w.heap.size w w' ∧ ROwn F w' w.heap.size w'.heap.size A l
theorem RetLB.nil {α : Type} {F : Fm α} {w w' : World} (b : Below w.heap.size w w') : RetLB F w [] false (.returned (.tuple #[.slice none 0 0, .bool false])) w' := ⟨none, 0, rfl, b, ROwn.nil⟩
def turnsL (n m : Nat) : List Int := (List.range m).map fun i => ((i % n : Nat) : Int)
theorem turns_len (n m : Nat) : (turnsL n m).length = m := by simp [turnsL]
theorem turns_get {n m j : Nat} (h : j < m) : (turnsL n m)[j]? = some ((j % n : Nat) : Int) := by simp [turnsL, h]
theorem turns_succ (n m : Nat) : turnsL n (m + 1) = turnsL n m ++ [((m % n : Nat) : Int)] := by
  unfold turnsL
  rw [List.range_succ, List.map_append]
  rfl
def roundsOk (n m : Int) : Bool := inB n 1 4 && inB m 0 (400 / n)
def roundsL (n m : Int) : List Int := if roundsOk n m then turnsL n.toNat (n.toNat * m.toNat) else []
theorem rounds_yes {n m : Int} (h : roundsOk n m = true) : roundsL n m = turnsL n.toNat (n.toNat * m.toNat) := if_pos h
theorem rounds_no {n m : Int} (h : roundsOk n m = false) : roundsL n m = [] := by unfold roundsL; rw [h]; rfl
theorem rounds_in {n m : Int} (h : roundsOk n m = true) : ∃ a b : Nat, n = a ∧ m = b ∧ 1 ≤ a ∧ a ≤ 4 ∧ b ≤ 400 / a ∧ a * b ≤ 400 := by
  simp only [roundsOk, inB, Bool.and_eq_true, decide_eq_true_eq] at h
  obtain ⟨⟨h1, h2⟩, h3, h4⟩ := h
  obtain ⟨a, rfl⟩ := Int.eq_ofNat_of_zero_le (show 0 ≤ n by omega)
  obtain ⟨b, rfl⟩ := Int.eq_ofNat_of_zero_le h3
  have h5 : b ≤ 400 / a := by
    have e : (400 : Int) / (a : Int) = ((400 / a : Nat) : Int) := rfl
    rw [e] at h4
    omega
  have h6 := (Nat.le_div_iff_mul_le (show 0 < a by omega)).1 h5
  exact ⟨a, b, rfl, rfl, by omega, by omega, h5, by rw [Nat.mul_comm]; exact h6⟩
end Go.Proofs.Ytkpkjcmoldkmmaa

namespace Go.Proofs.Ytkpkjcmoldkmmaa
open Go.RowKit

def part (a k : Nat) (j : Nat) : Int := if j < k then ((j % a : Nat) : Int) else 0
theorem part_set (a k j : Nat) : (if j = k then ((k % a : Nat) : Int) else part a k j) = part a (k + 1) j := by
  unfold part
  by_cases e : j = k
  · subst e
    rw [if_pos rfl, if_pos (by omega)]
  · rw [if_neg e]
    by_cases h : j < k
    · rw [if_pos h, if_pos (by omega)]
    · rw [if_neg h, if_neg (by omega)]
theorem rows_int {w : World} {g t lo B N : Nat} {l : List Int} {f : Nat → Int} (h : w.rowIs g t N (fun j => .int .i64 (f j))) (hN : l.length = N) (hm : N ≤ maxLen) (hf : ∀ j x, l[j]? = some x → f j = x) (hlo : lo ≤ g) (hB : g < B) : ROwn intF w lo B (some ⟨g, 0, none⟩) l :=
  ⟨by omega, fun _ => ⟨g, 0, rfl, fun j => [.int .i64 (f j)], fun _ => B, fun _ => B, hlo, hB, fun o => h.frozen o, fun j _ => ⟨by omega, Nat.le_refl _, .inl hB⟩, fun _ _ _ _ _ => .inl (Nat.le_refl _), fun j hj i u hu => by
    have hi : i = 0 := by have := (List.getElem?_eq_some_iff.1 hu).1; simp at this; omega
    subst hi
    simp at hu
    subst hu
    rw [show (intF : Fm Int).n = 1 from rfl, Nat.mul_one, Nat.zero_add, Nat.add_zero]
    exact h.cell (by omega), fun j a ha => by
      have := hf j a ha
      subst this
      rfl⟩⟩
theorem made_rowN (w : World) (t : TypeId) (N : Nat) : (w.alloc (.cells (madeCells #[.int .i64 0] N) t)).rowIs w.heap.size t N (fun _ => .int .i64 0) :=
  ⟨_, Go.Deep.blk_alloc_new _ _, size_madeCells _ _, fun i hi => by
    have hm : i % 1 = 0 := Nat.mod_one i
    simp [madeCells, hi, hm]⟩
set_option maxHeartbeats 1600000 in
set_option maxRecDepth 100000 in
theorem implRounds_any (n m : Int) (w : World) : Calls Try.prog 33 #[.int .i64 n, .int .i64 m] w (RetLB intF w (roundsL n m) (roundsOk n m)) := by
  cases hok : roundsOk n m with
  | false =>
    rw [rounds_no hok]
    simp only [roundsOk, inB, Bool.and_eq_false_iff, decide_eq_false_iff_not] at hok
    by_cases h1 : n < 1
    · go_enter Try.func33, Try.ntmps33
      go_wp2
      go_ret2
      exact RetLB.nil (Below.refl _ _)
    · by_cases h2 : 4 < n
      · go_enter Try.func33, Try.ntmps33
        go_wp2
        go_ret2
        exact RetLB.nil (Below.refl _ _)
      · by_cases h3 : m < 0
        · go_enter Try.func33, Try.ntmps33
          go_wp2
          go_ret2
          exact RetLB.nil (Below.refl _ _)
        · have h4 : 400 / n < m := by omega
          have hn0 : ¬ n = 0 := by omega
          go_enter Try.func33, Try.ntmps33
          go_wp2
          go_ret2
          exact RetLB.nil (Below.refl _ _)
  | true =>
    obtain ⟨a, b, rfl, rfl, ha1, ha4, hb, hab⟩ := rounds_in hok
    have HL := Lib.hid (show roundsL (a : Int) (b : Int) = turnsL a (a * b) from rounds_yes hok)
    have hq : ¬ ((400 : Int) / (a : Int) < (b : Int)) := by
      have e : (400 : Int) / (a : Int) = ((400 / a : Nat) : Int) := rfl
      rw [e]
      omega
    have h1 : ¬ (a : Int) < 1 := by omega
    have h2 : ¬ (4 : Int) < a := by omega
    have h3 : ¬ (b : Int) < 0 := by omega
    have hn0 : ¬ (a : Int) = 0 := by omega
    have hab2 : (a : Int) * (b : Int) = ((a * b : Nat) : Int) := by simp
    have hmk := fun w => run_make_ints (a * b) (by omega) w
    generalize a * b = N at hab hab2 hmk HL
    clear hok hb
    go_enter Try.func33, Try.ntmps33
    go_wp2
    have hrow := made_rowN w 3 N
    have bw := (Below.refl w.heap.size w).alloc (Nat.le_refl _) (.cells (madeCells #[.int .i64 0] N) 3)
    generalize w.alloc (.cells (madeCells #[.int .i64 0] N) 3) = w1 at hrow bw ⊢
    generalize hg : w.heap.size = g at hrow bw ⊢
    clear hmk hab2 hq
    go_loopw [30] (fun i wr => ∃ k : Nat, k ≤ N ∧ i = .int .i64 k ∧ Below g w wr ∧ wr.rowIs g 3 N (fun j => .int .i64 (part a k j))) (fun i _ => N - (intOf i).toNat)
    case atStart => exact ⟨0, Nat.zero_le _, rfl, bw, hrow.congr (fun j _ => by simp [part])⟩
    case round =>
      clear hrow bw
      obtain ⟨k, hk, rfl, hb, hr⟩ := hrel
      by_cases hkn : k < N
      · have hkz : (k : Int) < N := by omega
        have d0 : wr.cell? ⟨g, k, none⟩ = some (.int .i64 0) := by rw [hr.cell hkn]; simp [part]
        have d1 : wr.frozen? ⟨g, k, none⟩ = false := hr.frozen _
        have hmod : (k : Int) % (a : Int) = ((k % a : Nat) : Int) := rfl
        have hml : k % a < a := Nat.mod_lt _ (by omega)
        have HC := Lib.hid ((hr.set k (.int .i64 ((k % a : Nat) : Int))).congr (g := fun j => .int .i64 (part a (k + 1) j)) (fun j _ => by
          rw [← part_set]
          by_cases e : j = k
          · rw [if_pos e, if_pos e]
          · rw [if_neg e, if_neg e]))
        have HB := Lib.hid (hb.setCell (p := ⟨g, k, none⟩) (Nat.le_refl _) (.int .i64 ((k % a : Nat) : Int)))
        clear hr hb
        generalize k % a = z at hmod hml HC HB
        go_wp2
        exact ⟨⟨k + 1, by omega, by go_num, HB.out, HC.out⟩, by simp [intOf]; omega⟩
      · obtain rfl : k = N := by omega
        have HO := Lib.hid (rows_int (lo := g) (B := wr.heap.size) (l := turnsL a k) hr (turns_len a k) (by unfold maxLen; omega) (fun j x hx => by
          have hj := get_lt hx
          rw [turns_len] at hj
          rw [turns_get hj] at hx
          injection hx with hx
          rw [part, if_pos hj, hx]) (Nat.le_refl _) hr.lt)
        clear hr
        go_wp2
        go_ret2
        rw [HL.out]
        subst hg
        exact ⟨_, _, by rw [turns_len]; rfl, hb, HO.out⟩
set_option maxHeartbeats 1600000 in
set_option maxRecDepth 100000 in
theorem specRounds_any (n m : Int) (w : World) : Calls Try.prog 32 #[.int .i64 n, .int .i64 m] w (RetLB intF w (roundsL n m) (roundsOk n m)) := by
  obtain ⟨i0, hi, hzz⟩ := Option.map_eq_some_iff.1 infoC_Int
  injection hzz with hz0 hz12
  injection hz12 with hz1 hz2
  have Hi := Lib.hid hi
  have Hz0 := Lib.hid hz0
  have Hz1 := Lib.hid hz1
  have Hz2 := Lib.hid hz2
  clear hi hz0 hz1 hz2
  cases hok : roundsOk n m with
  | false =>
    rw [rounds_no hok]
    cases h1 : inB n 1 4 with
    | false =>
      go_enter Try.func32, Try.ntmps32
      go_wp2_with fail
      (with_reducible refine (l01In_any _ _ _ _).mono ?_); rintro e w1 ⟨rfl, rfl⟩
      rw [h1]
      go_wp2
      go_ret2
      exact RetLB.nil (Below.refl _ _)
    | true =>
      have h2 : inB m 0 (400 / n) = false := by rw [roundsOk, h1, Bool.true_and] at hok; exact hok
      have hn0 : ¬ n = 0 := by simp only [inB, Bool.and_eq_true, decide_eq_true_eq] at h1; omega
      have hn4 : 1 ≤ n ∧ n ≤ 4 := by simpa only [inB, Bool.and_eq_true, decide_eq_true_eq] using h1
      obtain ⟨hn1, hn4⟩ := hn4
      go_enter Try.func32, Try.ntmps32
      go_wp2_with fail
      (with_reducible refine (l01In_any _ _ _ _).mono ?_); rintro e w1 ⟨rfl, rfl⟩
      rw [h1]
      go_wp2_with fail
      (with_reducible refine (l01In_any _ _ _ _).mono ?_); rintro e w1 ⟨rfl, rfl⟩
      rw [h2]
      go_wp2
      go_ret2
      exact RetLB.nil (Below.refl _ _)
  | true =>
    have h12 := hok
    simp only [roundsOk, Bool.and_eq_true] at h12
    obtain ⟨g1, g2⟩ := h12
    obtain ⟨a, b, rfl, rfl, ha1, ha4, hb, hab⟩ := rounds_in hok
    have HL := Lib.hid (show roundsL (a : Int) (b : Int) = turnsL a (a * b) from rounds_yes hok)
    have hn0 : ¬ (a : Int) = 0 := by omega
    have hb400 : b ≤ 400 := Nat.le_trans hb (Nat.div_le_self _ _)
    clear hok hb
    go_enter Try.func32, Try.ntmps32
    go_wp2_with fail
    (with_reducible refine (l01In_any _ _ _ _).mono ?_); rintro e w1 ⟨rfl, rfl⟩
    rw [g1]
    go_wp2_with fail
    (with_reducible refine (l01In_any _ _ _ _).mono ?_); rintro e w1 ⟨rfl, rfl⟩
    rw [g2]
    have HAB := Lib.hid hab
    clear g1 g2 hab
    have hown := World.ownsRow_made (base := w.heap.size) (size := 1) (e := 3) w #[] 0 (Nat.le_refl _) (Nat.zero_le _) rfl
    have hb0 := (Below.refl w.heap.size w).alloc (Nat.le_refl _) (.cells #[] 3)
    go_wp2_with fail
    have hG0 := Grow.of_row (F := intF) hown
    generalize w.alloc (.cells #[] 3) = w1 at hG0 hb0 ⊢
    clear hown
    go_loopw [6, 7] (fun v i wr => ∃ (k : Nat) (M : List Int) (vs : Nat → List Value) (L H : Nat → Nat), k ≤ b ∧ i = .int .i64 k ∧ Hid (M = turnsL a (k * a)) ∧ M.length ≤ 400 ∧ Grow intF 3 w.heap.size wr v M vs L H ∧ Below w.heap.size w wr) (fun _ i _ => b - (intOf i).toNat)
    case atStart => exact ⟨0, [], _, _, _, Nat.zero_le _, rfl, Lib.hid (by simp [turnsL]), Nat.zero_le _, hG0, hb0⟩
    case round =>
      clear hG0 hb0
      obtain ⟨k, M, vs, L, H, hk, rfl, HM, hMl, hG, bb⟩ := hrel
      by_cases hkn : k < b
      · have hkz : (k : Int) < b := by omega
        have HK := Lib.hid (show k * a + a ≤ 400 from by
          have h1 : (k + 1) * a ≤ b * a := Nat.mul_le_mul_right _ (by omega)
          rw [Nat.succ_mul, Nat.mul_comm b a] at h1
          have := HAB.out
          omega)
        go_wp2_with fail
        go_loopw [6, 8] (fun v i wi => ∃ (j : Nat) (M : List Int) (vs : Nat → List Value) (L H : Nat → Nat), j ≤ a ∧ i = .int .i64 j ∧ Hid (M = turnsL a (k * a + j)) ∧ M.length ≤ 400 ∧ Grow intF 3 w.heap.size wi v M vs L H ∧ Below w.heap.size w wi) (fun _ i _ => a - (intOf i).toNat)
        case atStart => exact ⟨0, M, _, _, _, Nat.zero_le _, rfl, HM, hMl, hG, bb⟩
        case round =>
          clear hG bb HM hMl
          obtain ⟨j, M, vs, L, H, hj, rfl, HM, hMl, hG, bb⟩ := hrel
          have hsz := bb.size
          by_cases hjn : j < a
          · have hjz : (j : Int) < a := by omega
            have hA := (Below.refl wr.heap.size wr).alloc (Nat.le_refl _) (.cells #[.int .i64 (j : Int)] 3)
            have hGa := hG.next hA
            have hbk := hG.row.lt
            have hH4 := hG.top
            clear hA hG
            go_wp2_with (at_builtin; refine wpList_append_lies _ rfl _ _ 31 rfl w.heap.size 3 i0 (.int .i64 0) 1 8 Try.underlying31 Hi.out Hz0.out Hz1.out Hz2.out rfl (by decide) _ _ _ rfl (show World.ownsRow _ _ _ 1 _ _ _ from hGa.row) ⟨wr.heap.size, 0, none⟩ 1 1 [.int .i64 (j : Int)] rfl rfl ?c1 (fun u hu => by simp at hu; subst hu; rfl) (by decide) ?c3 ?c4 ?c5 (wr.heap.size + 1) ?c6 ?_)
            case c1 => intro q u hu; rw [cell_addr, Nat.zero_add, World.cell?_alloc_new]; simpa using hu
            case c3 => unfold maxLen; omega
            case c4 => omega
            case c5 => simp; omega
            case c6 => simp
            intro g cap w5 hown' hgrow hat hlt
            have HG5 := Lib.hid (hGa.push (a := (j : Int)) (nv := [.int .i64 (j : Int)]) (s := wr.heap.size) (t := wr.heap.size) hown' hgrow (by rcases hat with h | h; exact .inl h; exact .inr (by simpa using h)) rfl hsz (by simp) hH4 (fun q hq => (hbk q hq).2))
            have b45 : Below w.heap.size wr w5 := ((Below.refl w.heap.size wr).alloc hsz (.cells #[.int .i64 (j : Int)] 3)).grown hgrow (by simp; omega) (fun q hq => (hGa.row.lt q hq).1)
            have bb := bb.trans b45
            have HM5 := Lib.hid (show M ++ [(j : Int)] = turnsL a (k * a + (j + 1)) by
              rw [← Nat.add_assoc, turns_succ, ← HM.out, Nat.mul_comm, Nat.mul_add_mod, Nat.mod_eq_of_lt hjn])
            have HM5L := Lib.hid (show (M ++ [(j : Int)]).length ≤ 400 by rw [HM5.out, turns_len]; have := HK.out; omega)
            clear hown' hgrow hat hGa b45 hbk hH4 HM hMl
            go_wp2
            exact ⟨⟨j + 1, M ++ [(j : Int)], _, _, _, by omega, by go_num, HM5, HM5L.out, HG5.out, bb⟩, by simp [intOf]; omega⟩
          · obtain rfl : j = a := by omega
            have HM5 := Lib.hid (show M = turnsL j ((k + 1) * j) by rw [HM.out, Nat.succ_mul])
            have HG5 := Lib.hid hG
            clear hG HM
            go_wp2
            exact ⟨⟨k + 1, M, _, _, _, by omega, by go_num, HM5, hMl, HG5.out, bb⟩, by simp [intOf]; omega⟩
      · obtain rfl : k = b := by omega
        have hMT : M = turnsL a (a * k) := by rw [HM.out, Nat.mul_comm]
        obtain ⟨X0, C0, rfl, o6⟩ := hG.done
        have O6 := Lib.hid o6
        have HMT := Lib.hid hMT
        clear hG o6 hMT HM
        go_wp2
        go_ret2
        rw [HL.out, ← HMT.out]
        exact ⟨_, _, rfl, bb, O6.out⟩
end Go.Proofs.Ytkpkjcmoldkmmaa

namespace Go.Proofs.Ytkpkjcmoldkmmaa
open Go.RowKit

def runP (K : Nat) (v : Nat → Int) (p : List DAct) : Nat → Int := resV K v p.length (actF p)
def runW (K : Nat) (v : Nat → Int) (P : List (List DAct)) (j : Nat) : Nat → Int := (P.take j).foldl (runP K) v
def runTo (K : Nat) (l : List (List (List DAct))) (k : Nat) : Nat → Int := (l.take k).foldl (fun v P => runW K v P P.length) (fun _ => 0)
theorem runW_zero {K : Nat} {v : Nat → Int} {P : List (List DAct)} : runW K v P 0 = v := rfl
theorem runW_succ {K : Nat} {v : Nat → Int} {P : List (List DAct)} {j : Nat} {p : List DAct} (h : P[j]? = some p) : runW K v P (j + 1) = runP K (runW K v P j) p := by
  unfold runW
  rw [List.take_add_one, h]
  simp [List.foldl_append]
theorem runTo_zero {K : Nat} {l : List (List (List DAct))} : runTo K l 0 = fun _ => 0 := rfl
theorem runTo_succ {K : Nat} {l : List (List (List DAct))} {k : Nat} {P : List (List DAct)} (h : l[k]? = some P) : runTo K l (k + 1) = runW K (runTo K l k) P P.length := by
  unfold runTo
  rw [List.take_add_one, h]
  simp [List.foldl_append]
def serialN (s : DSetup) (l : List (List (List DAct))) : Nat := if newOk s l then s.1.toNat else 0
theorem serial_no {s : DSetup} {l : List (List (List DAct))} (h : newOk s l = false) : serialN s l = 0 := by simp [serialN, h]
theorem serial_yes {s : DSetup} {l : List (List (List DAct))} {K : Nat} (h : newOk s l = true) (hK : s.1 = (K : Int)) : serialN s l = K ∧ runTo s.1.toNat l l.length = runTo K l l.length := by
  unfold serialN
  rw [if_pos h, hK]
  exact ⟨rfl, rfl⟩
theorem serial_len (s : DSetup) (l : List (List (List DAct))) : serialN s l ≤ 1000000 := by
  unfold serialN
  cases h : newOk s l with
  | false => simp
  | true =>
    have h1 : setupB s = true := by simp only [newOk, Bool.and_eq_true] at h; exact h.1
    have h8 := setup_le h1
    simp
    omega
/-- an answer: ints of the call's own, and whether there are any -/
def RetOB (w : World) (n : Nat) (f : Nat → Int) (b : Bool) (e : Ending) (w' : World) : Prop := ∃ A c, e = .returned (.tuple #[.slice A n c, .bool b]) ∧ Below w.heap.size w w' ∧ OwnI w' w.heap.size w'.heap.size A n f
set_option maxHeartbeats 3200000 in
set_option maxRecDepth 100000 in
theorem implSerialRun_any (s : DSetup) (A : Option Addr) (c B : Nat) (l : List (List (List DAct))) (w : World) (hs : (rowF (rowF (rowF fAct))).cnt l ≤ 1048576) (hB : B ≤ w.heap.size) (r : RAt (rowF (rowF fAct)) w B A l) :
    Calls Try.prog 42 #[.agg #[.int .i64 s.1, .int .i64 s.2.1, .int .i64 s.2.2.1, .bool s.2.2.2.1, .int .i64 s.2.2.2.2], .slice A l.length c] w (RetOB w (serialN s l) (runTo s.1.toNat l l.length) (newOk s l)) := by
  have hln : l.length ≤ 1048576 := by rw [row_cnt] at hs; omega
  go_enter Try.func42, Try.ntmps42
  go_wp2_with fail
  have b := (Below.refl w.heap.size w).alloc (Nat.le_refl _) (.cells #[.int .i64 s.1, .int .i64 s.2.1, .int .i64 s.2.2.1, .bool s.2.2.2.1, .int .i64 s.2.2.2.2] 26)
  have X := Bx.new (w := w) (c := #[.int .i64 s.1, .int .i64 s.2.1, .int .i64 s.2.2.1, .bool s.2.2.2.1, .int .i64 s.2.2.2.2]) (t := 26) rfl
  generalize w.alloc (.cells #[.int .i64 s.1, .int .i64 s.2.1, .int .i64 s.2.2.1, .bool s.2.2.2.1, .int .i64 s.2.2.2.2] 26) = w1 at b X ⊢
  obtain ⟨⟨x0, x1, x2, x3, x4⟩, _⟩ := X.c5
  have Xl := X.lt
  go_wp2_with fail
  clear x0 x1 x2 x3 x4 Xl
  (with_reducible refine (implNewEngine_any s A c B l _ hs (Nat.le_trans hB b.size) (r.keep b hB)).mono ?_); rintro o w2 ⟨A5, c5, A6, c6, A7, c7, A10, c10, L1, H1, L2, H2, L3, H3, L4, H4, rfl, hb, _⟩
  generalize newD s l = D
  have X := X.next hb
  have b := b.trans (hb.mono b.size)
  clear hb
  have hbz := b.size
  cases hok : newOk s l with
  | false =>
    have HOK := Lib.hid hok
    obtain ⟨⟨x0, x1, x2, x3, x4⟩, _⟩ := X.c5
    have Xl := X.lt
    have hb2 := b.alloc hbz (.cells #[.int .i64 D.1.1, .int .i64 D.1.2.1, .int .i64 D.1.2.2.1, .bool D.1.2.2.2.1, .int .i64 D.1.2.2.2.2, .slice A5 (D.2.1).length c5, .slice A6 (D.2.2.1).length c6, .slice A7 (D.2.2.2.1).length c7, .int .i64 D.2.2.2.2.1, .int .i64 D.2.2.2.2.2.1, .slice A10 (D.2.2.2.2.2.2.1).length c10, .int .i64 D.2.2.2.2.2.2.2.1, .int .i64 D.2.2.2.2.2.2.2.2] 34)
    clear b
    go_wp2
    go_ret2
    rw [serial_no HOK.out, HOK.out]
    exact ⟨none, 0, rfl, hb2, fun h => absurd h (by omega)⟩
  | true =>
    have h1 : setupB s = true := by simp only [newOk, Bool.and_eq_true] at hok; exact hok.1
    have hin := setup_keys h1
    simp only [inB, Bool.and_eq_true, decide_eq_true_eq] at hin
    obtain ⟨K, hK⟩ := Int.eq_ofNat_of_zero_le (show 0 ≤ s.1 by omega)
    have HS := Lib.hid (serial_yes hok hK)
    have hK1 : 1 ≤ K := by omega
    have hK8 : K ≤ 8 := by omega
    rw [hK] at X
    have HOK := Lib.hid hok
    clear hin h1 hok hK
    have X := X.alloc (.cells #[.int .i64 D.1.1, .int .i64 D.1.2.1, .int .i64 D.1.2.2.1, .bool D.1.2.2.2.1, .int .i64 D.1.2.2.2.2, .slice A5 (D.2.1).length c5, .slice A6 (D.2.2.1).length c6, .slice A7 (D.2.2.2.1).length c7, .int .i64 D.2.2.2.2.1, .int .i64 D.2.2.2.2.2.1, .slice A10 (D.2.2.2.2.2.2.1).length c10, .int .i64 D.2.2.2.2.2.2.2.1, .int .i64 D.2.2.2.2.2.2.2.2] 34)
    have b := b.alloc hbz (.cells #[.int .i64 D.1.1, .int .i64 D.1.2.1, .int .i64 D.1.2.2.1, .bool D.1.2.2.2.1, .int .i64 D.1.2.2.2.2, .slice A5 (D.2.1).length c5, .slice A6 (D.2.2.1).length c6, .slice A7 (D.2.2.2.1).length c7, .int .i64 D.2.2.2.2.1, .int .i64 D.2.2.2.2.2.1, .slice A10 (D.2.2.2.2.2.2.1).length c10, .int .i64 D.2.2.2.2.2.2.2.1, .int .i64 D.2.2.2.2.2.2.2.2] 34)
    have hmk := fun w => run_make_ints K (by omega) w
    obtain ⟨⟨x0, x1, x2, x3, x4⟩, _⟩ := X.c5
    have Xl := X.lt
    go_upto_region 5 with (fail)
    clear x0 x1 x2 x3 x4 Xl X hmk
    have HZ3 := Lib.hid (show (w2.alloc (.cells #[.int .i64 D.1.1, .int .i64 D.1.2.1, .int .i64 D.1.2.2.1, .bool D.1.2.2.2.1, .int .i64 D.1.2.2.2.2, .slice A5 (D.2.1).length c5, .slice A6 (D.2.2.1).length c6, .slice A7 (D.2.2.2.1).length c7, .int .i64 D.2.2.2.2.1, .int .i64 D.2.2.2.2.2.1, .slice A10 (D.2.2.2.2.2.2.1).length c10, .int .i64 D.2.2.2.2.2.2.2.1, .int .i64 D.2.2.2.2.2.2.2.2] 34)).heap.size = w2.heap.size + 1 by simp)
    generalize w2.alloc (.cells #[.int .i64 D.1.1, .int .i64 D.1.2.1, .int .i64 D.1.2.2.1, .bool D.1.2.2.2.1, .int .i64 D.1.2.2.2.2, .slice A5 (D.2.1).length c5, .slice A6 (D.2.2.1).length c6, .slice A7 (D.2.2.2.1).length c7, .int .i64 D.2.2.2.2.1, .int .i64 D.2.2.2.2.2.1, .slice A10 (D.2.2.2.2.2.2.1).length c10, .int .i64 D.2.2.2.2.2.2.2.1, .int .i64 D.2.2.2.2.2.2.2.2] 34) = w3 at b HZ3 ⊢
    have hbz3 := b.size
    have hrow := made_rowN w3 3 K
    have b := b.alloc hbz3 (.cells (madeCells #[.int .i64 0] K) 3)
    have hO0 : OwnI (w3.alloc (.cells (madeCells #[.int .i64 0] K) 3)) w.heap.size (w3.alloc (.cells (madeCells #[.int .i64 0] K) 3)).heap.size (some ⟨w3.heap.size, 0, none⟩) K (runTo K l 0) := by
      rw [runTo_zero]
      exact OwnI.of_row hrow hbz3 (by simp)
    rw [HZ3.out] at hO0
    generalize w3.alloc (.cells (madeCells #[.int .i64 0] K) 3) = w4 at b hO0 ⊢
    clear hrow
    go_wp2_with fail
    go_loopw [8, 26] (fun v i wr => ∃ (k c : Nat) (A : Option Addr), k ≤ l.length ∧ i = .int .i64 k ∧ v = .slice A K c ∧ OwnI wr w.heap.size wr.heap.size A K (runTo K l k) ∧ Below w.heap.size w wr) (fun _ i _ => l.length - (intOf i).toNat)
    case atStart => exact ⟨0, _, _, Nat.zero_le _, rfl, rfl, hO0, b⟩
    case round =>
      clear hO0 b
      obtain ⟨k, cv, Av, hk, rfl, rfl, hO, b⟩ := hrel
      by_cases hkn : k < l.length
      · obtain ⟨bb, off, rfl, hbB, hc⟩ := r.2 (by omega)
        have hkz : (k : Int) < l.length := by omega
        have hget : l[k]? = some l[k] := List.getElem?_eq_getElem hkn
        obtain ⟨v0, hv0, hat0⟩ := hc k _ hget
        have hcp := cnt_at (F := rowF (rowF fAct)) hget
        have hv := hv0
        rw [show (rowF (rowF fAct)).n = 1 from rfl, Nat.mul_one] at hv
        have HG := Lib.hid (runTo_succ (K := K) hget)
        generalize l[k] = P at hget hat0 hv hcp HG
        obtain ⟨A0, c0, rfl, r0⟩ := hat0
        have HV := Lib.hid hv
        have HR0 := Lib.hid r0
        have hpm := r0.1
        unfold maxLen at hpm
        have hbw : bb < w.heap.size := by omega
        have a0 := (hv.below b hbw).c1
        clear hc hv0 hv hget r0
        go_wp2_with fail
        clear a0
        go_loopw [8, 32] (fun v i wi => ∃ (j c : Nat) (A : Option Addr), j ≤ P.length ∧ i = .int .i64 j ∧ v = .slice A K c ∧ OwnI wi w.heap.size wi.heap.size A K (runW K (runTo K l k) P j) ∧ Below w.heap.size w wi) (fun _ i _ => P.length - (intOf i).toNat)
        case atStart => exact ⟨0, _, _, Nat.zero_le _, rfl, rfl, by rw [runW_zero]; exact hO, b⟩
        case round =>
          clear hO b
          obtain ⟨j, cv, Av, hj, rfl, rfl, hO, b⟩ := hrel
          have a0 := (HV.out.below b hbw).c1
          by_cases hjn : j < P.length
          · obtain ⟨b1, off1, rfl, hb1B, hc1⟩ := HR0.out.2 (by omega)
            have hjz : (j : Int) < P.length := by omega
            have hgetp : P[j]? = some P[j] := List.getElem?_eq_getElem hjn
            obtain ⟨v1, hv1, hat1⟩ := hc1 j _ hgetp
            rw [show (rowF fAct).n = 1 from rfl, Nat.mul_one] at hv1
            have HGp := Lib.hid (runW_succ (K := K) (v := runTo K l k) hgetp)
            generalize P[j] = p at hgetp hat1 hv1 HGp
            obtain ⟨Ap, cp, rfl, rp⟩ := hat1
            have RP := Lib.hid rp
            have a1 := (hv1.below b (show b1 < w.heap.size by omega)).c1
            obtain ⟨g, go', rfl, hg1, hg2, hgc⟩ := hO (by omega)
            have HGC := Lib.hid hgc
            clear hc1 hv1 hgetp rp hO hgc
            go_wp2_with fail
            refine (implRun_any Ap g go' K p.length cv cp (runW K (runTo K l k) P j) (actF p) _ (by omega) hg2 (fun j hj => (HGC.out j hj).1) (acts_at ((RP.out.keep b hB).up (Nat.le_trans hB b.size)))).mono ?_; rintro o w5 ⟨A9, c9, AT, cT, mid, rfl, hm1, hm2, hO9, _, hb⟩
            have hO := hO9.more (lo' := w.heap.size) (B' := w5.heap.size) b.size hm2
            have hO : OwnI w5 w.heap.size w5.heap.size A9 K (runW K (runTo K l k) P (j + 1)) := by rw [HGp.out]; exact hO
            have HO := Lib.hid hO
            have b := b.trans (hb.mono b.size)
            clear hb hO9 hO a0 a1
            go_wp2
            exact ⟨⟨j + 1, _, _, by omega, by go_num, rfl, HO.out, b⟩, by simp [intOf]; omega⟩
          · obtain rfl : j = P.length := by omega
            have HO := Lib.hid (show OwnI wr w.heap.size wr.heap.size Av K (runTo K l (k + 1)) by rw [HG.out]; exact hO)
            clear hO
            go_wp2
            exact ⟨⟨k + 1, _, _, by omega, by go_num, rfl, HO.out, b⟩, by simp [intOf]; omega⟩
      · obtain rfl : k = l.length := by omega
        have HO := Lib.hid hO
        clear hO
        go_wp2
        go_ret2
        rw [HS.out.1, HS.out.2, HOK.out]
        exact ⟨_, _, rfl, b, HO.out⟩
set_option maxHeartbeats 3200000 in
set_option maxRecDepth 100000 in
theorem specSerialRun_any (s : DSetup) (A : Option Addr) (c B : Nat) (l : List (List (List DAct))) (w : World) (hs : (rowF (rowF (rowF fAct))).cnt l ≤ 1048576) (hB : B ≤ w.heap.size) (r : RAt (rowF (rowF fAct)) w B A l) :
    Calls Try.prog 41 #[.agg #[.int .i64 s.1, .int .i64 s.2.1, .int .i64 s.2.2.1, .bool s.2.2.2.1, .int .i64 s.2.2.2.2], .slice A l.length c] w (RetOB w (serialN s l) (runTo s.1.toNat l l.length) (newOk s l)) := by
  have hln : l.length ≤ 1048576 := by rw [row_cnt] at hs; omega
  go_enter Try.func41, Try.ntmps41
  go_wp2_with fail
  have b := (Below.refl w.heap.size w).alloc (Nat.le_refl _) (.cells #[.int .i64 s.1, .int .i64 s.2.1, .int .i64 s.2.2.1, .bool s.2.2.2.1, .int .i64 s.2.2.2.2] 26)
  have X := Bx.new (w := w) (c := #[.int .i64 s.1, .int .i64 s.2.1, .int .i64 s.2.2.1, .bool s.2.2.2.1, .int .i64 s.2.2.2.2]) (t := 26) rfl
  generalize w.alloc (.cells #[.int .i64 s.1, .int .i64 s.2.1, .int .i64 s.2.2.1, .bool s.2.2.2.1, .int .i64 s.2.2.2.2] 26) = w1 at b X ⊢
  obtain ⟨⟨x0, x1, x2, x3, x4⟩, _⟩ := X.c5
  have Xl := X.lt
  go_wp2_with fail
  clear x0 x1 x2 x3 x4 Xl
  (with_reducible refine (specNewEngine_any s A c B l _ hs (Nat.le_trans hB b.size) (r.keep b hB)).mono ?_); rintro o w2 ⟨A5, c5, A6, c6, A7, c7, A10, c10, L1, H1, L2, H2, L3, H3, L4, H4, rfl, hb, _⟩
  generalize newD s l = D
  have X := X.next hb
  have b := b.trans (hb.mono b.size)
  clear hb
  have hbz := b.size
  cases hok : newOk s l with
  | false =>
    have HOK := Lib.hid hok
    obtain ⟨⟨x0, x1, x2, x3, x4⟩, _⟩ := X.c5
    have Xl := X.lt
    have hb2 := b.alloc hbz (.cells #[.int .i64 D.1.1, .int .i64 D.1.2.1, .int .i64 D.1.2.2.1, .bool D.1.2.2.2.1, .int .i64 D.1.2.2.2.2, .slice A5 (D.2.1).length c5, .slice A6 (D.2.2.1).length c6, .slice A7 (D.2.2.2.1).length c7, .int .i64 D.2.2.2.2.1, .int .i64 D.2.2.2.2.2.1, .slice A10 (D.2.2.2.2.2.2.1).length c10, .int .i64 D.2.2.2.2.2.2.2.1, .int .i64 D.2.2.2.2.2.2.2.2] 34)
    clear b
    go_wp2
    go_ret2
    rw [serial_no HOK.out, HOK.out]
    exact ⟨none, 0, rfl, hb2, fun h => absurd h (by omega)⟩
  | true =>
    have h1 : setupB s = true := by simp only [newOk, Bool.and_eq_true] at hok; exact hok.1
    have hin := setup_keys h1
    simp only [inB, Bool.and_eq_true, decide_eq_true_eq] at hin
    obtain ⟨K, hK⟩ := Int.eq_ofNat_of_zero_le (show 0 ≤ s.1 by omega)
    have HS := Lib.hid (serial_yes hok hK)
    have hK1 : 1 ≤ K := by omega
    have hK8 : K ≤ 8 := by omega
    rw [hK] at X
    have HOK := Lib.hid hok
    clear hin h1 hok hK
    have X := X.alloc (.cells #[.int .i64 D.1.1, .int .i64 D.1.2.1, .int .i64 D.1.2.2.1, .bool D.1.2.2.2.1, .int .i64 D.1.2.2.2.2, .slice A5 (D.2.1).length c5, .slice A6 (D.2.2.1).length c6, .slice A7 (D.2.2.2.1).length c7, .int .i64 D.2.2.2.2.1, .int .i64 D.2.2.2.2.2.1, .slice A10 (D.2.2.2.2.2.2.1).length c10, .int .i64 D.2.2.2.2.2.2.2.1, .int .i64 D.2.2.2.2.2.2.2.2] 34)
    have b := b.alloc hbz (.cells #[.int .i64 D.1.1, .int .i64 D.1.2.1, .int .i64 D.1.2.2.1, .bool D.1.2.2.2.1, .int .i64 D.1.2.2.2.2, .slice A5 (D.2.1).length c5, .slice A6 (D.2.2.1).length c6, .slice A7 (D.2.2.2.1).length c7, .int .i64 D.2.2.2.2.1, .int .i64 D.2.2.2.2.2.1, .slice A10 (D.2.2.2.2.2.2.1).length c10, .int .i64 D.2.2.2.2.2.2.2.1, .int .i64 D.2.2.2.2.2.2.2.2] 34)
    have hmk := fun w => run_make_ints K (by omega) w
    obtain ⟨⟨x0, x1, x2, x3, x4⟩, _⟩ := X.c5
    have Xl := X.lt
    go_upto_region 5 with (fail)
    clear x0 x1 x2 x3 x4 Xl X hmk
    have HZ3 := Lib.hid (show (w2.alloc (.cells #[.int .i64 D.1.1, .int .i64 D.1.2.1, .int .i64 D.1.2.2.1, .bool D.1.2.2.2.1, .int .i64 D.1.2.2.2.2, .slice A5 (D.2.1).length c5, .slice A6 (D.2.2.1).length c6, .slice A7 (D.2.2.2.1).length c7, .int .i64 D.2.2.2.2.1, .int .i64 D.2.2.2.2.2.1, .slice A10 (D.2.2.2.2.2.2.1).length c10, .int .i64 D.2.2.2.2.2.2.2.1, .int .i64 D.2.2.2.2.2.2.2.2] 34)).heap.size = w2.heap.size + 1 by simp)
    generalize w2.alloc (.cells #[.int .i64 D.1.1, .int .i64 D.1.2.1, .int .i64 D.1.2.2.1, .bool D.1.2.2.2.1, .int .i64 D.1.2.2.2.2, .slice A5 (D.2.1).length c5, .slice A6 (D.2.2.1).length c6, .slice A7 (D.2.2.2.1).length c7, .int .i64 D.2.2.2.2.1, .int .i64 D.2.2.2.2.2.1, .slice A10 (D.2.2.2.2.2.2.1).length c10, .int .i64 D.2.2.2.2.2.2.2.1, .int .i64 D.2.2.2.2.2.2.2.2] 34) = w3 at b HZ3 ⊢
    have hbz3 := b.size
    have hrow := made_rowN w3 3 K
    have b := b.alloc hbz3 (.cells (madeCells #[.int .i64 0] K) 3)
    have hO0 : OwnI (w3.alloc (.cells (madeCells #[.int .i64 0] K) 3)) w.heap.size (w3.alloc (.cells (madeCells #[.int .i64 0] K) 3)).heap.size (some ⟨w3.heap.size, 0, none⟩) K (runTo K l 0) := by
      rw [runTo_zero]
      exact OwnI.of_row hrow hbz3 (by simp)
    rw [HZ3.out] at hO0
    generalize w3.alloc (.cells (madeCells #[.int .i64 0] K) 3) = w4 at b hO0 ⊢
    clear hrow
    go_wp2_with fail
    go_loopw [8, 9] (fun v i wr => ∃ (k c : Nat) (A : Option Addr), k ≤ l.length ∧ i = .int .i64 k ∧ v = .slice A K c ∧ OwnI wr w.heap.size wr.heap.size A K (runTo K l k) ∧ Below w.heap.size w wr) (fun _ i _ => l.length - (intOf i).toNat)
    case atStart => exact ⟨0, _, _, Nat.zero_le _, rfl, rfl, hO0, b⟩
    case round =>
      clear hO0 b
      obtain ⟨k, cv, Av, hk, rfl, rfl, hO, b⟩ := hrel
      by_cases hkn : k < l.length
      · obtain ⟨bb, off, rfl, hbB, hc⟩ := r.2 (by omega)
        have hkz : (k : Int) < l.length := by omega
        have hget : l[k]? = some l[k] := List.getElem?_eq_getElem hkn
        obtain ⟨v0, hv0, hat0⟩ := hc k _ hget
        have hcp := cnt_at (F := rowF (rowF fAct)) hget
        have hv := hv0
        rw [show (rowF (rowF fAct)).n = 1 from rfl, Nat.mul_one] at hv
        have HG := Lib.hid (runTo_succ (K := K) hget)
        generalize l[k] = P at hget hat0 hv hcp HG
        obtain ⟨A0, c0, rfl, r0⟩ := hat0
        have HV := Lib.hid hv
        have HR0 := Lib.hid r0
        have hpm := r0.1
        unfold maxLen at hpm
        have hbw : bb < w.heap.size := by omega
        have a0 := (hv.below b hbw).c1
        clear hc hv0 hv hget r0
        go_wp2_with fail
        clear a0
        go_loopw [8, 10] (fun v i wi => ∃ (j c : Nat) (A : Option Addr), j ≤ P.length ∧ i = .int .i64 j ∧ v = .slice A K c ∧ OwnI wi w.heap.size wi.heap.size A K (runW K (runTo K l k) P j) ∧ Below w.heap.size w wi) (fun _ i _ => P.length - (intOf i).toNat)
        case atStart => exact ⟨0, _, _, Nat.zero_le _, rfl, rfl, by rw [runW_zero]; exact hO, b⟩
        case round =>
          clear hO b
          obtain ⟨j, cv, Av, hj, rfl, rfl, hO, b⟩ := hrel
          have a0 := (HV.out.below b hbw).c1
          by_cases hjn : j < P.length
          · obtain ⟨b1, off1, rfl, hb1B, hc1⟩ := HR0.out.2 (by omega)
            have hjz : (j : Int) < P.length := by omega
            have hgetp : P[j]? = some P[j] := List.getElem?_eq_getElem hjn
            obtain ⟨v1, hv1, hat1⟩ := hc1 j _ hgetp
            rw [show (rowF fAct).n = 1 from rfl, Nat.mul_one] at hv1
            have HGp := Lib.hid (runW_succ (K := K) (v := runTo K l k) hgetp)
            generalize P[j] = p at hgetp hat1 hv1 HGp
            obtain ⟨Ap, cp, rfl, rp⟩ := hat1
            have RP := Lib.hid rp
            have a1 := (hv1.below b (show b1 < w.heap.size by omega)).c1
            obtain ⟨g, go', rfl, hg1, hg2, hgc⟩ := hO (by omega)
            have HGC := Lib.hid hgc
            clear hc1 hv1 hgetp rp hO hgc
            go_wp2_with fail
            refine (specRun_any (some ⟨g, go', none⟩) Ap K p.length cv cp (runW K (runTo K l k) P j) (actF p) _ (by omega) (fun _ => ⟨g, go', rfl, hg2, fun j hj => (HGC.out j hj).1⟩) (acts_at ((RP.out.keep b hB).up (Nat.le_trans hB b.size)))).mono ?_; rintro o w5 ⟨A9, c9, AT, cT, mid, rfl, hm1, hm2, hO9, _, hb⟩
            have hO := hO9.more (lo' := w.heap.size) (B' := w5.heap.size) b.size hm2
            have hO : OwnI w5 w.heap.size w5.heap.size A9 K (runW K (runTo K l k) P (j + 1)) := by rw [HGp.out]; exact hO
            have HO := Lib.hid hO
            have b := b.trans (hb.mono b.size)
            clear hb hO9 hO a0 a1
            go_wp2
            exact ⟨⟨j + 1, _, _, by omega, by go_num, rfl, HO.out, b⟩, by simp [intOf]; omega⟩
          · obtain rfl : j = P.length := by omega
            have HO := Lib.hid (show OwnI wr w.heap.size wr.heap.size Av K (runTo K l (k + 1)) by rw [HG.out]; exact hO)
            clear hO
            go_wp2
            exact ⟨⟨k + 1, _, _, by omega, by go_num, rfl, HO.out, b⟩, by simp [intOf]; omega⟩
      · obtain rfl : k = l.length := by omega
        have HO := Lib.hid hO
        clear hO
        go_wp2
        go_ret2
        rw [HS.out.1, HS.out.2, HOK.out]
        exact ⟨_, _, rfl, b, HO.out⟩
end Go.Proofs.Ytkpkjcmoldkmmaa

namespace Go.Proofs.Ytkpkjcmoldkmmaa
open Go.ChangeShapes Go.WideShapes Go.ChangeAt Go.RowKit Go.Joins

set_option maxHeartbeats 12800000 in
set_option maxRecDepth 100000 in
theorem fnExactSerialRun_walk (s : DSetup) (A1 : Option Addr) (c1 : Nat) (l1 : List (List (List DAct))) (w : World)  (r1 : RAt (rowF (rowF fAct)) w w.heap.size A1 l1) :
    Calls Try.prog 9 #[.agg #[.int .i64 s.1, .int .i64 s.2.1, .int .i64 s.2.2.1, .bool s.2.2.2.1, .int .i64 s.2.2.2.2], .slice A1 l1.length c1] w fun e w' => e = .returned (.bool true) ∧ Below w.heap.size w w' := by
  have K0 : ∃ n, n = (rowF (rowF (rowF fAct))).cnt l1 := ⟨_, rfl⟩
  obtain ⟨n0, J0⟩ := K0
  have K0 := Lib.hid J0
  clear J0
  have hm1 := r1.1
  by_cases g0 : 1048576 < (n0 : Int)
  · have E0 := Lib.hid (szOf_lt g0)
    have b := Below.refl w.heap.size w
    go_enter Try.func9, Try.ntmps9
    go_wp2_with fail
    have b := b.alloc (Nat.le_refl _) (.cells #[.int .i64 s.1, .int .i64 s.2.1, .int .i64 s.2.2.1, .bool s.2.2.2.1, .int .i64 s.2.2.2.2] 23)
    have X := Bx.new (w := w) (c := #[.int .i64 s.1, .int .i64 s.2.1, .int .i64 s.2.2.1, .bool s.2.2.2.1, .int .i64 s.2.2.2.2]) (t := 23) rfl
    generalize w.alloc (.cells #[.int .i64 s.1, .int .i64 s.2.1, .int .i64 s.2.2.1, .bool s.2.2.2.1, .int .i64 s.2.2.2.2] 23) = w0 at b X ⊢
    (with_reducible refine (sz_ActSSS A1 c1 _ l1 (1048576) _ (by omega) (by omega) b.size (r1.keep b (Nat.le_refl _))).mono ?_); rintro e w1 ⟨rfl, hb⟩
    have X := X.next hb
    have b := b.trans (hb.mono b.size)
    clear hb
    rw [← K0.out, E0.out]
    go_wp2
    go_ret
    exact ⟨rfl, b⟩
  have E0 := Lib.hid (szOf_le (left := 1048576) (n := n0) (by omega))
  have g0n : ¬ (1048576 - (n0 : Int) < 0) := by omega
  have hs1 : (rowF (rowF (rowF fAct))).cnt l1 ≤ 1048576 := by have := K0.out; omega
  have hu1 := adl_ub (F := (rowF (rowF fAct))) ub_ActSS l1
  have hp1 := adl_pos pos_ActSS l1
  have hk0 : ¬ (((1 : Int) + adl ad_ActSS l1) < 0) := by omega
  have HN : ∃ n, serialN s l1 = n := ⟨_, rfl⟩
  obtain ⟨n, hn⟩ := HN
  have hnb : n ≤ 1000000 := by rw [← hn]; exact serial_len s l1
  have HD := Lib.hid hn
  clear hn
  have HOK : ∃ ok, newOk s l1 = ok := ⟨_, rfl⟩
  obtain ⟨ok, hok⟩ := HOK
  have HOK := Lib.hid hok
  clear hok
  have hq0 : ¬ ((1 : Int) + (n : Int) < 0) := by omega
  have b := Below.refl w.heap.size w
  go_enter Try.func9, Try.ntmps9
  go_wp2_with fail
  have b := b.alloc (Nat.le_refl _) (.cells #[.int .i64 s.1, .int .i64 s.2.1, .int .i64 s.2.2.1, .bool s.2.2.2.1, .int .i64 s.2.2.2.2] 23)
  have X := Bx.new (w := w) (c := #[.int .i64 s.1, .int .i64 s.2.1, .int .i64 s.2.2.1, .bool s.2.2.2.1, .int .i64 s.2.2.2.2]) (t := 23) rfl
  generalize w.alloc (.cells #[.int .i64 s.1, .int .i64 s.2.1, .int .i64 s.2.2.1, .bool s.2.2.2.1, .int .i64 s.2.2.2.2] 23) = w0 at b X ⊢
  (with_reducible refine (sz_ActSSS A1 c1 _ l1 (1048576) _ (by omega) (by omega) b.size (r1.keep b (Nat.le_refl _))).mono ?_); rintro e w2 ⟨rfl, hb⟩
  have X := X.next hb
  have b := b.trans (hb.mono b.size)
  clear hb
  rw [← K0.out, E0.out]
  obtain ⟨⟨x0, x1, x2, x3, x4⟩, _⟩ := X.c5
  go_wp2_with fail
  clear x0 x1 x2 x3 x4
  have s_base := b.size
  have s_x := X.lt
  (with_reducible refine (to_Setup s _).mono ?_); rintro e w3 ⟨rfl, hb⟩
  have s_w3 : w2.heap.size ≤ w3.heap.size := hb.size
  have X := X.next hb
  have b := b.trans (hb.mono b.size)
  clear hb
  obtain ⟨⟨x0, x1, x2, x3, x4⟩, _⟩ := X.c5
  have x_l := X.lt
  go_wp2_with fail
  clear x0 x1 x2 x3 x4 x_l
  (with_reducible refine (to_ActSSS A1 c1 _ l1 _ hs1 b.size (r1.keep b (Nat.le_refl _))).mono ?_); rintro e w4 ⟨Gs1, ks1, rfl, hb, s1⟩
  have s_w4 : w3.heap.size ≤ w4.heap.size := hb.size
  have X := X.next hb
  have b := b.trans (hb.mono b.size)
  clear hb
  obtain ⟨⟨x0, x1, x2, x3, x4⟩, _⟩ := X.c5
  have x_l := X.lt
  go_wp2_with fail
  clear x0 x1 x2 x3 x4 x_l
  refine (specSerialRun_any s _ _ _ l1 _ hs1 (by omega) s1.at_).mono ?_
  rw [HD.out, HOK.out]
  rintro e w5 ⟨Aa, ca, rfl, hb, a⟩
  have s_w5 : w4.heap.size ≤ w5.heap.size := hb.size
  have X := X.next hb
  have s1 := s1.next hb (by omega)
  have b := b.trans (hb.mono b.size)
  clear hb
  have a := a.at_
  obtain ⟨⟨x0, x1, x2, x3, x4⟩, _⟩ := X.c5
  have x_l := X.lt
  go_wp2_with fail
  clear x0 x1 x2 x3 x4 x_l
  clear s1
  (with_reducible refine (to_ActSSS A1 c1 _ l1 _ hs1 b.size (r1.keep b (Nat.le_refl _))).mono ?_); rintro e w6 ⟨Gx1, kx1, rfl, hb, x1⟩
  have s_w6 : w5.heap.size ≤ w6.heap.size := hb.size
  have X := X.next hb
  have a := a.below (hb.mono (by omega)) (Nat.le_refl _)
  have b := b.trans (hb.mono b.size)
  clear hb
  obtain ⟨⟨x0, x1, x2, x3, x4⟩, _⟩ := X.c5
  have x_l := X.lt
  go_wp2_with fail
  clear x0 x1 x2 x3 x4 x_l
  (with_reducible refine (to_Setup s _).mono ?_); rintro e w7 ⟨rfl, hb⟩
  have s_w7 : w6.heap.size ≤ w7.heap.size := hb.size
  have X := X.next hb
  have a := a.below (hb.mono (by omega)) (Nat.le_refl _)
  have x1 := x1.next hb (by omega)
  have b := b.trans (hb.mono b.size)
  clear hb
  obtain ⟨⟨x0, x1, x2, x3, x4⟩, _⟩ := X.c5
  have x_l := X.lt
  go_wp2_with fail
  clear x0 x1 x2 x3 x4 x_l
  refine (implSerialRun_any s _ _ _ l1 _ hs1 (by omega) x1.at_).mono ?_
  rw [HD.out, HOK.out]
  rintro e w8 ⟨Ag, cg, rfl, hb, g⟩
  have s_w8 : w7.heap.size ≤ w8.heap.size := hb.size
  have X := X.next hb
  have a := a.below (hb.mono (by omega)) (Nat.le_refl _)
  have x1 := x1.next hb (by omega)
  have b := b.trans (hb.mono b.size)
  clear hb
  obtain ⟨⟨x0, x1, x2, x3, x4⟩, _⟩ := X.c5
  have x_l := X.lt
  go_wp2_with fail
  clear x0 x1 x2 x3 x4 x_l
  (with_reducible refine (eqIntS_same _ _ n _ _ _ _ _ _ (by unfold maxLen; omega) g.at_ a).mono ?_); rintro e w9 ⟨rfl, hb⟩
  have s_w9 : w8.heap.size ≤ w9.heap.size := hb.size
  have X := X.next hb
  have a := a.below (hb.mono (by omega)) (Nat.le_refl _)
  have x1 := x1.next hb (by omega)
  have g := g.below hb (by omega)
  have b := b.trans (hb.mono b.size)
  clear hb
  obtain ⟨⟨x0, x1, x2, x3, x4⟩, _⟩ := X.c5
  have x_l := X.lt
  go_wp2_with fail
  clear x0 x1 x2 x3 x4 x_l
  (with_reducible refine (to_ActSSS A1 c1 _ l1 _ hs1 b.size (r1.keep b (Nat.le_refl _))).mono ?_); rintro e w10 ⟨Gy1, ky1, rfl, hb, y1⟩
  have s_w10 : w9.heap.size ≤ w10.heap.size := hb.size
  have X := X.next hb
  have a := a.below (hb.mono (by omega)) (Nat.le_refl _)
  have x1 := x1.next hb (by omega)
  have g := g.below hb (by omega)
  have b := b.trans (hb.mono b.size)
  clear hb
  obtain ⟨⟨x0, x1, x2, x3, x4⟩, _⟩ := X.c5
  have x_l := X.lt
  go_wp2_with fail
  clear x0 x1 x2 x3 x4 x_l
  (with_reducible refine (eq_ActSSS _ _ _ _ _ _ _ _ (by omega) (by omega) x1.at_ y1.at_).mono ?_); rintro e w11 ⟨rfl, hb⟩
  have s_w11 : w10.heap.size ≤ w11.heap.size := hb.size
  have X := X.next hb
  have a := a.below (hb.mono (by omega)) (Nat.le_refl _)
  have x1 := x1.next hb (by omega)
  have g := g.below hb (by omega)
  have y1 := y1.next hb (by omega)
  have b := b.trans (hb.mono b.size)
  clear hb
  clear y1
  obtain ⟨⟨x0, x1, x2, x3, x4⟩, _⟩ := X.c5
  have x_l := X.lt
  go_wp2_with fail
  clear x0 x1 x2 x3 x4 x_l
  (with_reducible refine (mark_ActSSS _ _ _ _ l1 ((1 : Int)) _ (by omega) (by omega) x1).mono ?_); rintro e w12 ⟨rfl, hm, x1m⟩
  have s_w12 : w11.heap.size ≤ w12.heap.size := Nat.le_of_eq hm.size.symm
  have X := X.chs (Chs.onlys hm (Nat.le_refl _) (Nat.le_refl _)) (by omega)
  have a := a.onlys hm (by omega)
  have g := g.onlys hm (by omega)
  have b := b.trans (hm.below (by omega))
  clear hm
  clear x1m
  clear x1
  obtain ⟨⟨x0, x1, x2, x3, x4⟩, _⟩ := X.c5
  have x_l := X.lt
  go_wp2_with fail
  clear x0 x1 x2 x3 x4 x_l
  (with_reducible refine (eqIntS_same _ _ n _ _ _ _ _ _ (by unfold maxLen; omega) g.at_ a).mono ?_); rintro e w13 ⟨rfl, hb⟩
  have s_w13 : w12.heap.size ≤ w13.heap.size := hb.size
  have X := X.next hb
  have a := a.below (hb.mono (by omega)) (Nat.le_refl _)
  have g := g.below hb (by omega)
  have b := b.trans (hb.mono b.size)
  clear hb
  obtain ⟨⟨x0, x1, x2, x3, x4⟩, _⟩ := X.c5
  have x_l := X.lt
  go_wp2_with fail
  clear x0 x1 x2 x3 x4 x_l
  refine (markIntS_any _ n _ _ _ _ 1 _ (by omega) (by omega) g).mono ?_; rintro e w14 ⟨rfl, hm, gm⟩
  have s_w14 : w13.heap.size ≤ w14.heap.size := Nat.le_of_eq hm.size.symm
  have X := X.chs (Chs.onlys hm (Nat.le_refl _) (Nat.le_refl _)) (by omega)
  have a := a.onlys hm (by omega)
  have b := b.trans (hm.below (by omega))
  clear hm
  clear g
  obtain ⟨⟨x0, x1, x2, x3, x4⟩, _⟩ := X.c5
  have x_l := X.lt
  go_wp2_with fail
  clear x0 x1 x2 x3 x4 x_l
  refine (heldIntS_any _ n _ _ 1 _ (by omega) (by omega) gm.at_).mono ?_; rintro e w' ⟨rfl, rfl⟩
  obtain ⟨⟨x0, x1, x2, x3, x4⟩, _⟩ := X.c5
  have x_l := X.lt
  go_wp2_with fail
  clear x0 x1 x2 x3 x4 x_l
  (with_reducible refine (to_Setup s _).mono ?_); rintro e w15 ⟨rfl, hb⟩
  have s_w15 : w14.heap.size ≤ w15.heap.size := hb.size
  have X := X.next hb
  have a := a.below (hb.mono (by omega)) (Nat.le_refl _)
  have gm := gm.below hb (by omega)
  have b := b.trans (hb.mono b.size)
  clear hb
  obtain ⟨⟨x0, x1, x2, x3, x4⟩, _⟩ := X.c5
  have x_l := X.lt
  go_wp2_with fail
  clear x0 x1 x2 x3 x4 x_l
  (with_reducible refine (to_ActSSS A1 c1 _ l1 _ hs1 b.size (r1.keep b (Nat.le_refl _))).mono ?_); rintro e w16 ⟨Gu1, ku1, rfl, hb, u1⟩
  have s_w16 : w15.heap.size ≤ w16.heap.size := hb.size
  have X := X.next hb
  have a := a.below (hb.mono (by omega)) (Nat.le_refl _)
  have gm := gm.below hb (by omega)
  have b := b.trans (hb.mono b.size)
  clear hb
  obtain ⟨⟨x0, x1, x2, x3, x4⟩, _⟩ := X.c5
  have x_l := X.lt
  go_wp2_with fail
  clear x0 x1 x2 x3 x4 x_l
  refine (implSerialRun_any s _ _ _ l1 _ hs1 (by omega) u1.at_).mono ?_
  rw [HD.out, HOK.out]
  rintro e w17 ⟨Ah, ch, rfl, hb, h⟩
  have s_w17 : w16.heap.size ≤ w17.heap.size := hb.size
  have X := X.next hb
  have a := a.below (hb.mono (by omega)) (Nat.le_refl _)
  have gm := gm.below hb (by omega)
  have u1 := u1.next hb (by omega)
  have b := b.trans (hb.mono b.size)
  clear hb
  obtain ⟨⟨x0, x1, x2, x3, x4⟩, _⟩ := X.c5
  have x_l := X.lt
  go_wp2_with fail
  clear x0 x1 x2 x3 x4 x_l
  clear u1
  (with_reducible refine (eqIntS_same _ _ n _ _ _ _ _ _ (by unfold maxLen; omega) h.at_ a).mono ?_); rintro e w18 ⟨rfl, hb⟩
  have s_w18 : w17.heap.size ≤ w18.heap.size := hb.size
  have X := X.next hb
  have a := a.below (hb.mono (by omega)) (Nat.le_refl _)
  have gm := gm.below hb (by omega)
  have h := h.below hb (by omega)
  have b := b.trans (hb.mono b.size)
  clear hb
  obtain ⟨⟨x0, x1, x2, x3, x4⟩, _⟩ := X.c5
  have x_l := X.lt
  go_wp2_with fail
  clear x0 x1 x2 x3 x4 x_l
  refine (heldIntS_any _ n _ _ 1 _ (by omega) (by omega) gm.at_).mono ?_; rintro e w' ⟨rfl, rfl⟩
  go_wp2
  go_ret
  exact ⟨rfl, b⟩

set_option maxRecDepth 100000 in
theorem fnExactSerialRun_lifted (os : Os) (started : os.Started) (H : Type) (enc : TypeId × Value → H) :
    ReturnsInHanded {} Try.checked os 9 .any (Rows.fnExactSerialRunSpec.pre6 enc Try.prog Try.f9 Rows.fnExactSerialRunRow.domain false) (Rows.fnExactSerialRunSpec.post enc Try.prog Try.f9 false true false false) := by
  refine returnsInHanded_of_change (C := Try.checked) own started (by kernel_rfl) Try.func9
    (ChangeSpec.witness6 (enc := enc) (C := Try.checked) false ⟨#[], #[.agg #[.int .i64 0, .int .i64 0, .int .i64 0, .bool false, .int .i64 0], .slice none 0 0], []⟩ 8 (by kernel_rfl) (by kernel_rfl) (by kernel_rfl) (by kernel_rfl)) ?_
  intro W base args ds gs before hval0 hW _ _
  have hval : ∀ (j : Nat) t v, Try.f9.params[j]? = some t → args[j]? = some v → Value.okWide Try.prog W .any base t v := hval0
  have hW' := hW
  obtain ⟨p, q, hA0, hV, rfl, _, _⟩ := hW
  have hA : DataW.TrodAll enc Try.prog W 0 (fun _ => true) true Try.f9.params.toList args.toList ds p := hA0
  rw [Try.params9] at hA hval
  obtain ⟨v0, vs0, d0, ds0, p0, q0, hargs0, rfl, rfl, h0, rr0⟩ := trodAll_cons hA
  obtain ⟨v1, vs1, d1, ds1, p1, q1, hargs1, rfl, rfl, h1, rr1⟩ := trodAll_cons rr0
  obtain ⟨rfl, rfl, rfl⟩ := trodAll_nil rr1
  obtain rfl : args = #[v0, v1] := by cases args; simp_all
  obtain ⟨rfl, rfl⟩ := trodVars_none hV
  have k0 := h0
  have lt0 : ∀ x ∈ p0, x.block < W.heap.size := by obtain ⟨m, hm⟩ := k0; exact DataW.trod_lt m _ _ _ hm
  have k1 := h1
  have lt1 : ∀ x ∈ p1, x.block < W.heap.size := by obtain ⟨m, hm⟩ := k1; exact DataW.trod_lt m _ _ _ hm
  obtain ⟨s, vs, rfl, hat, _⟩ := arg_Setup (hval 0 23 v0 rfl rfl) h0
  have ev := at_Setup hat
  subst ev
  obtain ⟨l1, A1, c1, rfl, r1, _⟩ := arg_ActSSS (hval 1 24 v1 rfl rfl) h1
  clear hA0 hval0
  refine (fnExactSerialRun_walk s A1 c1 l1 W  r1).mono fun e W' ⟨he, bel⟩ => ?_
  subst he
  exact ⟨_, rfl, _, _, _, [], _, [], hW', trodAll_mk1 (shut_bool Try.underlying4 _), (trodAll_cons_mk (Below.trod laidOut (by kernel_rfl) (of_decide_eq_true (by kernel_rfl)) k0 bel lt0) (trodAll_cons_mk (Below.trod laidOut (by kernel_rfl) (of_decide_eq_true (by kernel_rfl)) k1 bel lt1) (trodAll_mk0))), rfl, bel.frame _, fun h => by cases h⟩

/-- FnExactSerialRun -/
theorem fnExactSerialRun_holds : Rows.FnExactSerialRunSaid :=
  OpenClaim.holds_of_wide 9 Try.f9 rfl rfl rfl rfl rfl rfl rfl ⟨rfl, rfl, rfl, rfl, rfl⟩ rfl rfl rfl rfl rfl (by kernel_rfl) Try.func9 (by kernel_rfl)
    (of_decide_eq_true (by kernel_rfl)) (by unfold Func.isWrapper; first | (rw [if_pos (by decide +kernel)]; kernel_rfl) | (rw [if_neg (by decide +kernel)]; exact ⟨rfl, rfl⟩))
    (fun os started H enc _ => fnExactSerialRun_lifted os started H enc)
#print axioms fnExactSerialRun_holds
end Go.Proofs.Ytkpkjcmoldkmmaa
