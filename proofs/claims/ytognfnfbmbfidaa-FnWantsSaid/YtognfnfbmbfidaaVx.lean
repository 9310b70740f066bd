/- The mathematics of merging two lists of wants. -/
import Derived.Test.YtognfnfbmbfidaaVu
namespace Go.Proofs.Ytognfnfbmbfidaa
open Go.RowKit

def hasK (l : HL) (k : Nat) : Bool := l.any fun z => z.1 == (k : Int)
def wrK (l : HL) (k : Nat) : Bool := l.any fun z => z.1 == (k : Int) && z.2
/-- the merged list from key k on, n keys -/
def mrgF (a b : HL) (k n : Nat) : HL := ((List.range' k n).filter fun j => hasK a j || hasK b j).map fun (j : Nat) => ((j : Int), wrK a j || wrK b j)
def Asc (k : Int) : HL → Prop
  | [] => True
  | z :: l => k ≤ z.1 ∧ Asc (z.1 + 1) l
theorem Asc.mono {k k' : Int} : ∀ {l : HL}, Asc k l → k' ≤ k → Asc k' l
  | [], _, _ => trivial
  | _ :: _, h, hk => ⟨by have := h.1; omega, h.2⟩
theorem Asc.none {k : Int} {j : Nat} : ∀ {l : HL}, Asc k l → (j : Int) < k → hasK l j = false ∧ wrK l j = false
  | [], _, _ => ⟨rfl, rfl⟩
  | z :: l, h, hj => by
    have h1 : (z.1 == (j : Int)) = false := by
      rw [beq_eq_false_iff_ne]; have := h.1; omega
    have := Asc.none (l := l) h.2 (by have := h.1; omega : (j : Int) < z.1 + 1)
    simp [hasK, wrK, h1] at this ⊢
    exact this
/-- merging, as the program does it -/
def mergeR : HL → HL → HL
  | [], b => b
  | x :: a, [] => x :: a
  | x :: a, y :: b =>
    if x.1 < y.1 then x :: mergeR a (y :: b)
    else if y.1 < x.1 then y :: mergeR (x :: a) b
    else (x.1, x.2 || y.2) :: mergeR a b
termination_by a b => a.length + b.length
theorem mergeR_nilL (b : HL) : mergeR [] b = b := by rw [mergeR.eq_def]
theorem mergeR_nilR (a : HL) : mergeR a [] = a := by cases a <;> rw [mergeR.eq_def]
theorem mergeR_lt {x y : Int × Bool} {a b : HL} (h : x.1 < y.1) : mergeR (x :: a) (y :: b) = x :: mergeR a (y :: b) := by rw [mergeR]; rw [if_pos h]
theorem mergeR_gt {x y : Int × Bool} {a b : HL} (h : y.1 < x.1) : mergeR (x :: a) (y :: b) = y :: mergeR (x :: a) b := by rw [mergeR]; rw [if_neg (by omega), if_pos h]
theorem mergeR_eq {x y : Int × Bool} {a b : HL} (h : x.1 = y.1) : mergeR (x :: a) (y :: b) = (x.1, x.2 || y.2) :: mergeR a b := by rw [mergeR]; rw [if_neg (by omega), if_neg (by omega)]
theorem hasK_cons (z : Int × Bool) (l : HL) (j : Nat) : hasK (z :: l) j = (z.1 == (j : Int) || hasK l j) := rfl
theorem wrK_cons (z : Int × Bool) (l : HL) (j : Nat) : wrK (z :: l) j = ((z.1 == (j : Int) && z.2) || wrK l j) := rfl
theorem mrgF_congr {a b a' b' : HL} {k n : Nat} (h : ∀ j, k ≤ j → hasK a j = hasK a' j ∧ wrK a j = wrK a' j ∧ hasK b j = hasK b' j ∧ wrK b j = wrK b' j) : mrgF a b k n = mrgF a' b' k n := by
  unfold mrgF
  have h1 : (List.range' k n).filter (fun j => hasK a j || hasK b j) = (List.range' k n).filter (fun j => hasK a' j || hasK b' j) := by
    apply List.filter_congr
    intro j hj
    have := h j (List.mem_range'_1.1 hj).1
    rw [this.1, this.2.2.1]
  rw [h1]
  apply List.map_congr_left
  intro j hj
  have := h j (List.mem_range'_1.1 (List.mem_filter.1 hj).1).1
  rw [this.2.1, this.2.2.2]
theorem mrgF_step (a b : HL) (k n : Nat) : mrgF a b k (n + 1) = (if (hasK a k || hasK b k) = true then [((k : Int), wrK a k || wrK b k)] else []) ++ mrgF a b (k + 1) n := by
  unfold mrgF
  rw [List.range'_succ, List.filter_cons]
  by_cases h : (hasK a k || hasK b k) = true
  · rw [if_pos h, if_pos h]; rfl
  · rw [if_neg h, if_neg h]; rfl
theorem cons_past {z : Int × Bool} {l : HL} {k j : Nat} (hz : z.1 = (k : Int)) (hj : k + 1 ≤ j) : hasK (z :: l) j = hasK l j ∧ wrK (z :: l) j = wrK l j := by
  have h1 : (z.1 == (j : Int)) = false := by rw [beq_eq_false_iff_ne]; omega
  rw [hasK_cons, wrK_cons, h1]
  exact ⟨by simp, by simp⟩
theorem cons_at {z : Int × Bool} {l : HL} {k : Nat} (hz : z.1 = (k : Int)) (h : Asc (z.1 + 1) l) : hasK (z :: l) k = true ∧ wrK (z :: l) k = z.2 := by
  have h1 : (z.1 == (k : Int)) = true := by rw [beq_iff_eq]; exact hz
  have h2 := h.none (j := k) (by omega)
  rw [hasK_cons, wrK_cons, h1, h2.2]
  exact ⟨by simp, by simp⟩
/-- the program's merging is the model's -/
theorem merge_is (n : Nat) : ∀ (a b : HL) (k : Nat), Asc k a → Asc k b → (∀ z ∈ a, z.1 < ((k + n : Nat) : Int)) → (∀ z ∈ b, z.1 < ((k + n : Nat) : Int)) → mergeR a b = mrgF a b k n := by
  induction n with
  | zero =>
    intro a b k ha hb la lb
    have ea : a = [] := by
      cases a with
      | nil => rfl
      | cons z a => have h1 := ha.1; have h2 := la z (List.mem_cons_self ..); omega
    have eb : b = [] := by
      cases b with
      | nil => rfl
      | cons z b => have h1 := hb.1; have h2 := lb z (List.mem_cons_self ..); omega
    subst ea eb
    rw [mergeR_nilL]; rfl
  | succ n ih =>
    intro a b k ha hb la lb
    have hk1 : ((k : Int) + 1) = ((k + 1 : Nat) : Int) := by omega
    rw [mrgF_step]
    match a, b, ha, hb, la, lb with
    | [], [], _, _, _, _ =>
      have := ih [] [] (k + 1) trivial trivial (fun z hz => absurd hz (by simp)) (fun z hz => absurd hz (by simp))
      rw [← this, mergeR_nilL]; rfl
    | x :: a, [], ha, hb, la, lb =>
      by_cases e : x.1 = (k : Int)
      · have h1 := cons_at e ha.2
        have := ih a [] (k + 1) (by rw [← hk1, ← e]; exact ha.2) trivial (fun z hz => by have := la z (List.mem_cons_of_mem _ hz); omega) (fun z hz => absurd hz (by simp))
        rw [mergeR_nilR] at this ⊢
        rw [h1.1, h1.2, mrgF_congr (a' := a) (b' := []) (fun j hj => ⟨(cons_past e hj).1, (cons_past e hj).2, rfl, rfl⟩), ← this]
        simp [wrK]
        rw [← e]
      · have hx : (k : Int) + 1 ≤ x.1 := by have := ha.1; omega
        have h0 := Asc.none (l := x :: a) (k := (k : Int) + 1) (j := k) ⟨hx, ha.2⟩ (by omega)
        have := ih (x :: a) [] (k + 1) (by rw [← hk1]; exact ⟨hx, ha.2⟩) trivial (fun z hz => by have := la z hz; omega) (fun z hz => absurd hz (by simp))
        rw [this, h0.1]; rfl
    | [], y :: b, ha, hb, la, lb =>
      by_cases e : y.1 = (k : Int)
      · have h1 := cons_at e hb.2
        have := ih [] b (k + 1) trivial (by rw [← hk1, ← e]; exact hb.2) (fun z hz => absurd hz (by simp)) (fun z hz => by have := lb z (List.mem_cons_of_mem _ hz); omega)
        rw [mergeR_nilL] at this ⊢
        rw [h1.1, h1.2, mrgF_congr (a' := []) (b' := b) (fun j hj => ⟨rfl, rfl, (cons_past e hj).1, (cons_past e hj).2⟩), ← this]
        simp [wrK]
        rw [← e]
      · have hx : (k : Int) + 1 ≤ y.1 := by have := hb.1; omega
        have h0 := Asc.none (l := y :: b) (k := (k : Int) + 1) (j := k) ⟨hx, hb.2⟩ (by omega)
        have := ih [] (y :: b) (k + 1) trivial (by rw [← hk1]; exact ⟨hx, hb.2⟩) (fun z hz => absurd hz (by simp)) (fun z hz => by have := lb z hz; omega)
        rw [this, h0.1]; rfl
    | x :: a, y :: b, ha, hb, la, lb =>
      have ha1 := ha.1
      have hb1 := hb.1
      by_cases ea : x.1 = (k : Int)
      · have h1 := cons_at ea ha.2
        by_cases eb : y.1 = (k : Int)
        · have h2 := cons_at eb hb.2
          have := ih a b (k + 1) (by rw [← hk1, ← ea]; exact ha.2) (by rw [← hk1, ← eb]; exact hb.2) (fun z hz => by have := la z (List.mem_cons_of_mem _ hz); omega) (fun z hz => by have := lb z (List.mem_cons_of_mem _ hz); omega)
          rw [mergeR_eq (by omega), h1.1, h1.2, h2.2, mrgF_congr (a' := a) (b' := b) (fun j hj => ⟨(cons_past ea hj).1, (cons_past ea hj).2, (cons_past eb hj).1, (cons_past eb hj).2⟩), ← this]
          simp [ea]
        · have hy : (k : Int) + 1 ≤ y.1 := by omega
          have h0 := Asc.none (l := y :: b) (k := (k : Int) + 1) (j := k) ⟨hy, hb.2⟩ (by omega)
          have := ih a (y :: b) (k + 1) (by rw [← hk1, ← ea]; exact ha.2) (by rw [← hk1]; exact ⟨hy, hb.2⟩) (fun z hz => by have := la z (List.mem_cons_of_mem _ hz); omega) (fun z hz => by have := lb z hz; omega)
          rw [mergeR_lt (by omega), h1.1, h1.2, h0.2, mrgF_congr (a' := a) (b' := y :: b) (fun j hj => ⟨(cons_past ea hj).1, (cons_past ea hj).2, rfl, rfl⟩), ← this]
          simp
          rw [← ea]
      · have hx : (k : Int) + 1 ≤ x.1 := by omega
        have h0 := Asc.none (l := x :: a) (k := (k : Int) + 1) (j := k) ⟨hx, ha.2⟩ (by omega)
        by_cases eb : y.1 = (k : Int)
        · have h2 := cons_at eb hb.2
          have := ih (x :: a) b (k + 1) (by rw [← hk1]; exact ⟨hx, ha.2⟩) (by rw [← hk1, ← eb]; exact hb.2) (fun z hz => by have := la z hz; omega) (fun z hz => by have := lb z (List.mem_cons_of_mem _ hz); omega)
          rw [mergeR_gt (by omega), h2.1, h2.2, h0.2, mrgF_congr (a' := x :: a) (b' := b) (fun j hj => ⟨rfl, rfl, (cons_past eb hj).1, (cons_past eb hj).2⟩), ← this]
          simp
          rw [← eb]
        · have hy : (k : Int) + 1 ≤ y.1 := by omega
          have h3 := Asc.none (l := y :: b) (k := (k : Int) + 1) (j := k) ⟨hy, hb.2⟩ (by omega)
          have := ih (x :: a) (y :: b) (k + 1) (by rw [← hk1]; exact ⟨hx, ha.2⟩) (by rw [← hk1]; exact ⟨hy, hb.2⟩) (fun z hz => by have := la z hz; omega) (fun z hz => by have := lb z hz; omega)
          rw [this, h0.1, h3.1]; rfl
/-- a list that WantsOk takes -/
theorem asc_drop {l : HL} (h : OkTo l l.length) : ∀ (n k : Nat), k + n = l.length → Asc (leastL l k) (l.drop k)
  | 0, k, e => by rw [List.drop_eq_nil_of_le (by omega)]; trivial
  | n + 1, k, e => by
    have hk : k < l.length := by omega
    rw [List.drop_eq_getElem_cons hk, ← hT_get hk]
    have h1 := h k hk
    have ih := asc_drop h n (k + 1) (by omega)
    have e1 : leastL l (k + 1) = hT l k + 1 := by simp [leastL]
    rw [e1] at ih
    refine ⟨?_, ih⟩
    have : ¬ hT l k < leastL l k := fun c => by rw [okW_least c] at h1; cases h1
    show leastL l k ≤ hT l k
    omega
theorem asc_of {l : HL} (h : wantsB l = true) : Asc 0 l := asc_drop (wantsB_get h) l.length 0 (by omega)
theorem le7_of {l : HL} (h : wantsB l = true) : ∀ z ∈ l, z.1 < 8 := fun z hz => by
  obtain ⟨k, hk, rfl⟩ := List.getElem_of_mem hz
  have := okW_range ((wantsB_get h) k hk)
  rw [hT_at hk]
  omega
def mrgO (a b : HL) : HL := mrgF a b 0 8
theorem mergeR_is {a b : HL} (ha : wantsB a = true) (hb : wantsB b = true) : mergeR a b = mrgO a b :=
  merge_is 8 a b 0 (asc_of ha) (asc_of hb) (fun z hz => le7_of ha z hz) (fun z hz => le7_of hb z hz)
theorem mrgO_len (a b : HL) : (mrgO a b).length ≤ 8 := by
  unfold mrgO mrgF
  rw [List.length_map]
  exact Nat.le_trans (List.length_filter_le _ _) (by simp)
theorem asc_len {n : Nat} : ∀ {k : Int} {l : HL}, Asc k l → (∀ z ∈ l, z.1 < k + (n : Int)) → l.length ≤ n := by
  induction n with
  | zero =>
    intro k l h hl
    cases l with
    | nil => simp
    | cons z l => have := h.1; have := hl z (List.mem_cons_self ..); omega
  | succ n ih =>
    intro k l h hl
    cases l with
    | nil => simp
    | cons z l =>
      have := ih (k := z.1 + 1) (l := l) h.2 (fun y hy => by
        have h1 := hl y (List.mem_cons_of_mem _ hy)
        have h2 := h.1
        omega)
      simp; omega
theorem wants_len {l : HL} (h : wantsB l = true) : l.length ≤ 8 := asc_len (n := 8) (asc_of h) (fun z hz => by have := le7_of h z hz; omega)
end Go.Proofs.Ytognfnfbmbfidaa
