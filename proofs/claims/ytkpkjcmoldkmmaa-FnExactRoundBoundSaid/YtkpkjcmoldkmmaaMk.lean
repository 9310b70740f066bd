/- Data marked by counting: the mathematics, and records in the making. -/
import Derived.Test.YtkpkjcmoldkmmaaGb
namespace Go.Proofs.Ytkpkjcmoldkmmaa
open Go.RowKit


/-! lists marked by counting -/
def mkl {α : Type} (mk : α → Int → α) (ad : α → Int) : List α → Int → List α
  | [], _ => []
  | a :: l, k => mk a k :: mkl mk ad l (k + ad a)
def adl {α : Type} (ad : α → Int) (l : List α) : Int := (l.map ad).sum
def adk {α : Type} (ad : α → Int) (l : List α) (k : Nat) : Int := adl ad (l.take k)
section
variable {α : Type} {mk : α → Int → α} {ad : α → Int}
theorem mkl_len : ∀ (l : List α) (k : Int), (mkl mk ad l k).length = l.length
  | [], _ => rfl
  | a :: l, k => by rw [mkl, List.length_cons, List.length_cons, mkl_len l]
theorem adl_cons (a : α) (l : List α) : adl ad (a :: l) = ad a + adl ad l := by simp [adl]
theorem adk_zero (l : List α) : adk ad l 0 = 0 := by simp [adk, adl]
theorem adk_all (l : List α) : adk ad l l.length = adl ad l := by unfold adk; rw [List.take_length]
theorem adk_succ {l : List α} {j : Nat} {a : α} (h : l[j]? = some a) : adk ad l (j + 1) = adk ad l j + ad a := by
  unfold adk adl
  rw [List.take_add_one, h]
  simp
theorem mkl_get : ∀ (l : List α) (k : Int) (j : Nat) (a : α), l[j]? = some a → (mkl mk ad l k)[j]? = some (mk a (k + adk ad l j))
  | [], _, _, _, h => by simp at h
  | b :: l, k, 0, a, h => by
    simp at h
    subst h
    rw [mkl, adk_zero]
    simp
  | b :: l, k, j + 1, a, h => by
    rw [mkl, List.getElem?_cons_succ, mkl_get l _ j a (by simpa using h)]
    unfold adk
    rw [List.take_succ_cons, adl_cons, Int.add_assoc]
theorem adl_pos (h : ∀ a, 0 ≤ ad a) : ∀ l : List α, 0 ≤ adl ad l
  | [] => by simp [adl]
  | a :: l => by
    rw [adl_cons]
    have := h a
    have := adl_pos h l
    omega
theorem adk_pos (h : ∀ a, 0 ≤ ad a) (l : List α) (k : Nat) : 0 ≤ adk ad l k := adl_pos h _
theorem adk_le (h : ∀ a, 0 ≤ ad a) (l : List α) (k : Nat) : adk ad l k ≤ adl ad l := by
  have h1 : adl ad l = adk ad l k + adl ad (l.drop k) := by
    unfold adk adl
    rw [← List.sum_append, ← List.map_append, List.take_append_drop]
  have := adl_pos h (l.drop k)
  omega
theorem adl_ub {F : Fm α} (h : ∀ a, ad a ≤ 16 * (F.cnt a : Int) + 16) : ∀ l : List α, adl ad l ≤ 16 * ((rowF F).cnt l : Int)
  | [] => by
    show (0 : Int) ≤ _
    omega
  | a :: l => by
    rw [adl_cons]
    have := h a
    have := adl_ub h l
    have e : (rowF F).cnt (a :: l) = (rowF F).cnt l + F.cnt a + 1 := by
      show (a :: l).length + ((a :: l).map F.cnt).sum = l.length + (l.map F.cnt).sum + F.cnt a + 1
      simp
      omega
    omega
end
theorem RAt.onlys {α : Type} {F : Fm α} {w w' : World} {B lo' B' : Nat} {A : Option Addr} {l : List α} (h : RAt F w B A l) (ho : Onlys lo' B' w w') (hd : B ≤ lo') : RAt F w' B A l := h.same (fun k hk => ho.block k (.inl (by omega)))
theorem int_eq {a b : Int} (h : a = b) : Value.int .i64 a = .int .i64 b := by rw [h]

/-! a record in the making: only the cells from o on in block b, and the blocks from L on and below H, have turned -/
structure Chg (w0 w : World) (b o : Nat) (vs : List Value) (lo B L H : Nat) : Prop where
  only : Onlys lo B w0 w
  cell : RCells w b o vs
  far : ∀ p, (p < o ∨ o + vs.length ≤ p) → w.cell? ⟨b, p, none⟩ = w0.cell? ⟨b, p, none⟩
  oth : ∀ x, ¬ x = b → (x < L ∨ H ≤ x) → w.heap[x]? = w0.heap[x]?
  free : ∀ p, w.frozen? ⟨b, p, none⟩ = false
section
variable {w0 w w' : World} {b o lo B L H : Nat} {vs : List Value}
theorem Chg.set (h : Chg w0 w b o vs lo B L H) (i : Nat) (v : Value) (hi : i < vs.length) (h1 : lo ≤ b) (h2 : b < B) : Chg w0 (w.setCell ⟨b, o + i, none⟩ v) b o (vs.set i v) lo B L H := by
  refine ⟨h.only.setCell h1 h2 _, fun j u hu => ?_, fun p hp => ?_, fun x h3 h4 => (Below.heap_setCell _ _ _ _ h3).trans (h.oth x h3 h4), fun p => by rw [World.frozen?_setCell]; exact h.free p⟩
  · by_cases e : j = i
    · subst e
      rw [List.getElem?_set_self hi] at hu
      injection hu with hu
      subst hu
      exact World.cell?_setCell_same _ _ _ (h.cell j _ (List.getElem?_eq_getElem hi))
    · rw [List.getElem?_set_ne (by omega)] at hu
      rw [World.cell?_setCell_other _ _ _ _ (by intro h'; injection h' with _ h' _; omega)]
      exact h.cell j u hu
  · rw [List.length_set] at hp
    rw [World.cell?_setCell_other _ _ _ _ (by intro h'; injection h' with _ h' _; omega)]
    exact h.far p hp
theorem Chg.call {L' H' : Nat} (h : Chg w0 w b o vs lo B L H) (ho : Onlys L' H' w w') (hb : b < L' ∨ H' ≤ b) (h1 : lo ≤ L') (h2 : H' ≤ B) (h3 : L ≤ L') (h4 : H' ≤ H) : Chg w0 w' b o vs lo B L H := by
  have hk := ho.block b hb
  exact ⟨h.only.trans ⟨ho.os, ho.tape, ho.output, ho.size, fun k hk => ho.block k (by omega)⟩, h.cell.block hk, fun p hp => (World.cell?_of_block (a := ⟨b, p, none⟩) hk).trans (h.far p hp), fun x h5 h6 => (ho.block x (by omega)).trans (h.oth x h5 h6), fun p => (World.frozen?_of_block (a := ⟨b, p, none⟩) hk).trans (h.free p)⟩
theorem Chg.cast {us : List Value} (h : Chg w0 w b o vs lo B L H) (e : vs = us) : Chg w0 w b o us lo B L H := e ▸ h
end
section
variable {α : Type} {F : Fm α} {w w' : World} {lo B b off : Nat} {l : List α} {vs : Nat → List Value} {L H : Nat → Nat}
theorem RRow.chg (h : RRow F w lo B b off l vs L H) {j : Nat} (hj : j < l.length) : Chg w w b (off + j * F.n) (vs j) lo B (L j) (H j) :=
  ⟨Onlys.refl _ _ _, h.cell j hj, fun _ _ => rfl, fun _ _ _ => rfl, h.free⟩
theorem RRow.put (h : RRow F w lo B b off l vs L H) {j : Nat} {a : α} {v : List Value} (hj : j < l.length) (hc : Chg w w' b (off + j * F.n) v lo B (L j) (H j)) (hv : v.length = F.n) (hown : F.Own w' (L j) (H j) a v) :
    RRow F w' lo B b off (l.set j a) (fun i => if i = j then v else vs i) L H := by
  refine ⟨h.rlo, h.rhi, hc.free, fun i hi => h.span i (by simpa using hi), fun i i' hi hi' => h.part i i' (by simpa using hi) (by simpa using hi'), fun i hi => ?_, fun i a' ha' => ?_⟩
  · have hi : i < l.length := by simpa using hi
    by_cases e : i = j
    · subst e
      rw [if_pos rfl]
      exact hc.cell
    · rw [if_neg e]
      intro x u hu
      have hx : x < F.n := by
        have h1 := (List.getElem?_eq_some_iff.1 hu).1
        have h2 := F.len (F.own_at (h.own i _ (List.getElem?_eq_getElem hi)))
        omega
      rw [hc.far _ (by
        rw [hv]
        rcases Nat.lt_or_gt_of_ne e with hlt | hgt
        · have : (i + 1) * F.n ≤ j * F.n := Nat.mul_le_mul_right _ (by omega)
          rw [Nat.succ_mul] at this
          exact .inl (by omega)
        · have : (j + 1) * F.n ≤ i * F.n := Nat.mul_le_mul_right _ (by omega)
          rw [Nat.succ_mul] at this
          exact .inr (by omega))]
      exact h.cell i hi x u hu
  · by_cases e : i = j
    · subst e
      rw [List.getElem?_set_self hj] at ha'
      injection ha' with ha'
      subst ha'
      simp only [if_true]
      exact hown
    · rw [List.getElem?_set_ne (by omega)] at ha'
      have hi := get_lt ha'
      simp only [if_neg e]
      have s1 := h.span i hi
      have s2 := h.span j hj
      have p := h.part i j hi hj e
      exact F.own_same (h.own i a' ha') (fun x h1 h2 => hc.oth x (by omega) (by omega))
/-- marked up to k -/
structure Mix (l m l' : List α) (k : Nat) : Prop where
  len : l'.length = l.length
  old : ∀ i, k ≤ i → l'[i]? = l[i]?
  new : ∀ i, i < k → l'[i]? = m[i]?
theorem Mix.start {m : List α} : Mix l m l 0 := ⟨rfl, fun _ _ => rfl, fun _ h => absurd h (by omega)⟩
theorem Mix.step {m l' : List α} {k : Nat} {a : α} (h : Mix l m l' k) (hk : k < l.length) (hm : m[k]? = some a) : Mix l m (l'.set k a) (k + 1) :=
  ⟨by rw [List.length_set]; exact h.len, fun i hi => by rw [List.getElem?_set_ne (by omega)]; exact h.old i (by omega), fun i hi => by
    by_cases e : i = k
    · subst e
      rw [List.getElem?_set_self (by rw [h.len]; exact hk), hm]
    · rw [List.getElem?_set_ne (by omega)]
      exact h.new i (by omega)⟩
theorem Mix.done {m l' : List α} (h : Mix l m l' l.length) (hm : m.length = l.length) : l' = m := by
  apply List.ext_getElem?
  intro i
  by_cases hi : i < l.length
  · exact h.new i hi
  · rw [List.getElem?_eq_none (by have := h.len; omega), List.getElem?_eq_none (by omega)]
end
end Go.Proofs.Ytkpkjcmoldkmmaa
