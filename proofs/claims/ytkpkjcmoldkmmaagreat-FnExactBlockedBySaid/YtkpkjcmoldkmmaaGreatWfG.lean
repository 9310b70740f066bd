/- slices.Compact at waits: the walk. -/
import Derived.Test.YtkpkjcmoldkmmaaGreatCore
import Derived.Test.YtkpkjcmoldkmmaaGreatWfC
import Derived.Deep.RegionLaw
import Derived.Test.YtkpkjcmoldkmmaaGreatSortW
import Derived.Shelf.SlSortCmp.NoneTotal
import Derived.Lib.SlicesCompact
namespace Go.Proofs.YtkpkjcmoldkmmaaGreat
open Go.RowKit

/-- before, by From and To -/
def wlt (a b : Int × Int) : Prop := a.1 < b.1 ∨ (a.1 = b.1 ∧ a.2 < b.2)
theorem wlt_asymm {a b : Int × Int} (h : wlt a b) (h2 : wlt b a) : False := by
  unfold wlt at h h2
  omega
theorem wlt_irrefl {a : Int × Int} (h : wlt a a) : False := wlt_asymm h h
theorem wlt_trans {a b c : Int × Int} (h : wlt a b) (h2 : wlt b c) : wlt a c := by
  unfold wlt at *
  omega
theorem wlt_total {a b : Int × Int} (h : ¬ wlt a b) (h2 : ¬ wlt b a) : a = b := by
  unfold wlt at h h2
  refine Prod.ext ?_ ?_ <;> omega
/-- two lists in strict order with the same elements are one -/
theorem sorted_eq : ∀ {l m : List (Int × Int)}, l.Pairwise wlt → m.Pairwise wlt → (∀ x, x ∈ l ↔ x ∈ m) → l = m
  | [], [], _, _, _ => rfl
  | [], b :: m, _, _, h => absurd ((h b).2 (List.mem_cons_self ..)) (by simp)
  | a :: l, [], _, _, h => absurd ((h a).1 (List.mem_cons_self ..)) (by simp)
  | a :: l, b :: m, h1, h2, h => by
    have p1 := List.pairwise_cons.1 h1
    have p2 := List.pairwise_cons.1 h2
    have hab : a = b := by
      rcases List.mem_cons.1 ((h a).1 (List.mem_cons_self ..)) with e | ha
      · exact e
      · rcases List.mem_cons.1 ((h b).2 (List.mem_cons_self ..)) with e | hb
        · exact e.symm
        · exact absurd (wlt_asymm (p1.1 b hb) (p2.1 a ha)) id
    subst hab
    rw [sorted_eq p1.2 p2.2 (fun x => ?_)]
    constructor
    · intro hx
      rcases List.mem_cons.1 ((h x).1 (List.mem_cons_of_mem _ hx)) with e | hm
      · exact absurd (wlt_irrefl (e ▸ p1.1 x hx)) id
      · exact hm
    · intro hx
      rcases List.mem_cons.1 ((h x).2 (List.mem_cons_of_mem _ hx)) with e | hm
      · exact absurd (wlt_irrefl (e ▸ p2.1 x hx)) id
      · exact hm
/-- each of n with those of n that it is marked with -/
def pairsUp (n : Nat) (M : Nat → Nat → Bool) : List (Int × Int) := (List.range n).flatMap fun (a : Nat) => ((List.range n).filter (M a)).map fun (b : Nat) => ((a : Int), (b : Int))
theorem mem_pairsUp {n : Nat} {M : Nat → Nat → Bool} {x : Int × Int} : x ∈ pairsUp n M ↔ ∃ a b, a < n ∧ b < n ∧ M a b = true ∧ x = ((a : Int), (b : Int)) := by
  unfold pairsUp
  simp only [List.mem_flatMap, List.mem_map, List.mem_filter, List.mem_range]
  constructor
  · rintro ⟨a, ha, b, ⟨hb, hm⟩, e⟩
    exact ⟨a, b, ha, hb, hm, e.symm⟩
  · rintro ⟨a, b, ha, hb, hm, e⟩
    exact ⟨a, ha, b, ⟨hb, hm⟩, e.symm⟩
theorem range_sorted (n : Nat) : (List.range n).Pairwise (· < ·) := List.pairwise_lt_range
theorem pairsUp_sorted (n : Nat) (M : Nat → Nat → Bool) : (pairsUp n M).Pairwise wlt := by
  unfold pairsUp
  rw [List.flatMap, List.pairwise_flatten]
  refine ⟨fun l hl => ?_, ?_⟩
  · obtain ⟨a, _, rfl⟩ := List.mem_map.1 hl
    rw [List.pairwise_map]
    exact ((range_sorted n).filter _).imp (fun {x y} h => .inr ⟨rfl, by show (x : Int) < y; omega⟩)
  · rw [List.pairwise_map]
    refine (range_sorted n).imp (fun {a b} h => ?_)
    intro x hx y hy
    obtain ⟨_, _, rfl⟩ := List.mem_map.1 hx
    obtain ⟨_, _, rfl⟩ := List.mem_map.1 hy
    exact .inl (by show (a : Int) < b; omega)
theorem pairsUp_len (n : Nat) (M : Nat → Nat → Bool) : (pairsUp n M).length ≤ n * n := by
  unfold pairsUp
  rw [List.length_flatMap]
  have h : ∀ l : List Nat, (l.map fun a => (((List.range n).filter (M a)).map fun (b : Nat) => ((a : Int), (b : Int))).length).sum ≤ l.length * n := fun l => by
    induction l with
    | nil => simp
    | cons a l ih =>
      have := List.length_filter_le (M a) (List.range n)
      simp only [List.map_cons, List.sum_cons, List.length_map, List.length_cons, List.length_range, Nat.add_mul, Nat.one_mul] at *
      omega
  have := h (List.range n)
  rwa [List.length_range] at this
/-- what slices.Compact leaves -/
def compactL : List (Int × Int) → List (Int × Int)
  | [] => []
  | [a] => [a]
  | a :: b :: l => if a = b then compactL (b :: l) else a :: compactL (b :: l)
theorem mem_compact : ∀ {l : List (Int × Int)} {x : Int × Int}, x ∈ compactL l ↔ x ∈ l
  | [], x => Iff.rfl
  | [a], x => Iff.rfl
  | a :: b :: l, x => by
    unfold compactL
    split
    · rename_i e
      rw [mem_compact (l := b :: l)]
      subst e
      simp
    · rw [List.mem_cons, mem_compact (l := b :: l), List.mem_cons (a := x) (b := a)]
theorem compact_sorted : ∀ {l : List (Int × Int)}, l.Pairwise (fun a b => ¬ wlt b a) → (compactL l).Pairwise wlt
  | [], _ => List.Pairwise.nil
  | [a], _ => List.pairwise_singleton _ _
  | a :: b :: l, h => by
    have p := List.pairwise_cons.1 h
    unfold compactL
    split
    · exact compact_sorted p.2
    · rename_i hne
      refine List.pairwise_cons.2 ⟨fun x hx => ?_, compact_sorted p.2⟩
      have hx := mem_compact.1 hx
      have h1 : ¬ wlt b a := p.1 b (List.mem_cons_self ..)
      have hab : wlt a b := Classical.byContradiction fun hn => hne (wlt_total hn h1)
      rcases List.mem_cons.1 hx with e | hm
      · exact e ▸ hab
      · have h2 : ¬ wlt x b := (List.pairwise_cons.1 p.2).1 x hm
        exact Classical.byContradiction fun hn => by
          unfold wlt at *
          omega
end Go.Proofs.YtkpkjcmoldkmmaaGreat

namespace Go.Proofs.YtkpkjcmoldkmmaaGreat
open Go.RowKit

def cmpJ (x y : Int) : Int := if x < y then -1 else if y < x then 1 else 0
theorem cmpJ_lt {x y : Int} (h : x < y) : cmpJ x y = -1 := if_pos h
theorem cmpJ_gt {x y : Int} (h : y < x) : cmpJ x y = 1 := by unfold cmpJ; rw [if_neg (by omega), if_pos h]
theorem cmpJ_eq {x y : Int} (h1 : ¬ x < y) (h2 : ¬ y < x) : cmpJ x y = 0 := by unfold cmpJ; rw [if_neg h1, if_neg h2]
theorem compareJ_any (x y : Int) (w : World) : Calls Tryz.prog 99 #[.int .i64 x, .int .i64 y] w fun e w' => e = .returned (.int .i64 (cmpJ x y)) ∧ w = w' := by
  by_cases h : x < y
  · have HE := Lib.hid (cmpJ_lt h)
    have h' : ¬ y ≤ x := by omega
    go_enter Tryz.func99, Tryz.ntmps99
    go_wp2
    go_ret
    exact ⟨ret_intG HE.out.symm, rfl⟩
  · by_cases h2 : y < x
    · have HE := Lib.hid (cmpJ_gt h2)
      have h' : y ≤ x := by omega
      go_enter Tryz.func99, Tryz.ntmps99
      go_wp2
      go_ret
      exact ⟨ret_intG HE.out.symm, rfl⟩
    · have HE := Lib.hid (cmpJ_eq h h2)
      have h' : y ≤ x := by omega
      have h2' : x ≤ y := by omega
      go_enter Tryz.func99, Tryz.ntmps99
      go_wp2
      go_ret
      exact ⟨ret_intG HE.out.symm, rfl⟩
/-- the first that is not 0, of two -/
def orJ (a b : Int) : Int := if a = 0 then b else a
theorem orJ_any (g : Nat) (a b : Int) (c : Nat) (w : World) (h0 : w.cell? ⟨g, 0, none⟩ = some (.int .i64 a)) (h1 : w.cell? ⟨g, 1, none⟩ = some (.int .i64 b)) :
    Calls Tryz.prog 98 #[.slice (some ⟨g, 0, none⟩) 2 c] w fun e w' => e = .returned (.int .i64 (orJ a b)) ∧ w = w' := by
  go_enter Tryz.func98, Tryz.ntmps98
  go_wp2
  go_loop [8] (fun i => i = .int .i64 0 ∨ (i = .int .i64 1 ∧ a = 0) ∨ (i = .int .i64 2 ∧ a = 0 ∧ b = 0)) (fun i => 2 - (intOf i).toNat)
  case atStart => exact .inl rfl
  case round =>
    rcases hrel with rfl | ⟨rfl, ha⟩ | ⟨rfl, ha, hb⟩
    · by_cases ha : a = 0
      · have ha' : (a != 0) = false := by simpa using ha
        have HA := Lib.hid ha
        clear ha
        go_wp2
        exact ⟨.inr (.inl ⟨rfl, HA.out⟩), by simp [intOf]⟩
      · have HE := Lib.hid (show orJ a b = a from if_neg ha)
        have ha' : (a != 0) = true := by simpa using ha
        clear ha
        go_wp2
        go_ret
        exact ⟨ret_intG HE.out.symm, rfl⟩
    · have HA := Lib.hid ha
      clear ha
      by_cases hb : b = 0
      · have hb' : (b != 0) = false := by simpa using hb
        have HB := Lib.hid hb
        clear hb
        go_wp2
        exact ⟨.inr (.inr ⟨rfl, HA.out, HB.out⟩), by simp [intOf]⟩
      · have HE := Lib.hid (show orJ a b = b from if_pos HA.out)
        have hb' : (b != 0) = true := by simpa using hb
        clear hb
        go_wp2
        go_ret
        exact ⟨ret_intG HE.out.symm, rfl⟩
    · have HE := Lib.hid (show orJ a b = 0 by unfold orJ; rw [if_pos ha]; exact hb)
      clear ha hb
      go_wp2
      go_ret
      exact ⟨ret_intG HE.out.symm, rfl⟩
def cmpW (a b : Int × Int) : Int := orJ (cmpJ a.1 b.1) (cmpJ a.2 b.2)
theorem cmpW_lt (a b : Int × Int) : cmpW a b < 0 ↔ wlt a b := by
  unfold cmpW orJ cmpJ wlt
  repeat' split
  all_goals omega
set_option maxHeartbeats 1600000 in
set_option maxRecDepth 100000 in
theorem compareWaits_any (a b : Int × Int) (w : World) : Calls Tryz.prog 49 #[.agg #[.int .i64 a.1, .int .i64 a.2], .agg #[.int .i64 b.1, .int .i64 b.2]] w fun e w' => e = .returned (.int .i64 (cmpW a b)) ∧ Below w.heap.size w w' := by
  have HE := Lib.hid (show cmpW a b = orJ (cmpJ a.1 b.1) (cmpJ a.2 b.2) from rfl)
  go_enter Tryz.func49, Tryz.ntmps49
  go_upto_region 0 with (fail)
  go_upto_region 1 with (fail)
  have b0 := ((Below.refl w.heap.size w).alloc (Nat.le_refl _) (.cells #[.int .i64 a.1, .int .i64 a.2] 90)).alloc (by simp) (.cells #[.int .i64 b.1, .int .i64 b.2] 90)
  have X := (Bx.new (w := w) (c := #[.int .i64 a.1, .int .i64 a.2]) (t := 90) rfl).alloc (.cells #[.int .i64 b.1, .int .i64 b.2] 90)
  have Y := Bx.new (w := w.alloc (.cells #[.int .i64 a.1, .int .i64 a.2] 90)) (b := w.heap.size + 1) (c := #[.int .i64 b.1, .int .i64 b.2]) (t := 90) (by simp)
  generalize (w.alloc (.cells #[.int .i64 a.1, .int .i64 a.2] 90)).alloc (.cells #[.int .i64 b.1, .int .i64 b.2] 90) = w1 at b0 X Y ⊢
  obtain ⟨⟨x0, x1⟩, _⟩ := X.drew.c2
  obtain ⟨⟨y0, y1⟩, _⟩ := Y.drew.c2
  have Xl := X.lt
  have Yl := Y.lt
  have bd := b0.drew
  have HC := Lib.hid (show (w1.alloc (.cells #[.int .i64 (cmpJ a.1 b.1), .int .i64 (cmpJ a.2 b.2)] 3)).drew.cell? ⟨w1.heap.size, 0, none⟩ = some (.int .i64 (cmpJ a.1 b.1)) ∧ (w1.alloc (.cells #[.int .i64 (cmpJ a.1 b.1), .int .i64 (cmpJ a.2 b.2)] 3)).drew.cell? ⟨w1.heap.size, 1, none⟩ = some (.int .i64 (cmpJ a.2 b.2)) from ⟨by simp, by simp⟩)
  have b1 := Lib.hid ((b0.alloc b0.size (.cells #[.int .i64 (cmpJ a.1 b.1), .int .i64 (cmpJ a.2 b.2)] 3)).drew)
  go_region_law (first | (go_simp; go_at_call 99; refine (compareJ_any _ _ _).mono ?_; rintro o w2 ⟨rfl, rfl⟩) | (go_simp; go_at_call 98; refine (orJ_any w1.heap.size (cmpJ a.1 b.1) (cmpJ a.2 b.2) 2 _ HC.out.1 HC.out.2).mono ?_; rintro o w2 ⟨rfl, rfl⟩))
  all_goals
    go_wp2
    go_ret
    exact ⟨ret_intG HE.out.symm, b1.out⟩
end Go.Proofs.YtkpkjcmoldkmmaaGreat

namespace Go.Proofs.YtkpkjcmoldkmmaaGreat
open Go.RowKit Go.Sort Go.Shelf

/-- a world with new blocks and draws behind it -/
def Gn (w w' : World) : Prop := ∃ q os, w' = grow (w.drewN q) os
theorem Gn.refl (w : World) : Gn w w := ⟨0, #[], by rw [grow_empty]; rfl⟩
theorem Gn.alloc {w w' : World} (h : Gn w w') (o : Obj) : Gn w (w'.alloc o) := by
  obtain ⟨q, os, rfl⟩ := h
  exact ⟨q, os ++ #[o], by rw [alloc_eq_grow, grow_grow]⟩
theorem Gn.drew {w w' : World} (h : Gn w w') : Gn w w'.drew := by
  obtain ⟨q, os, rfl⟩ := h
  exact ⟨q + 1, os, rfl⟩
set_option maxHeartbeats 3200000 in
set_option maxRecDepth 100000 in
theorem compareWaitsG_any (a b : Int × Int) (w : World) : Calls Tryz.prog 49 #[.agg #[.int .i64 a.1, .int .i64 a.2], .agg #[.int .i64 b.1, .int .i64 b.2]] w fun e w' => e = .returned (.int .i64 (cmpW a b)) ∧ Gn w w' := by
  have HE := Lib.hid (show cmpW a b = orJ (cmpJ a.1 b.1) (cmpJ a.2 b.2) from rfl)
  go_enter Tryz.func49, Tryz.ntmps49
  go_upto_region 0 with (fail)
  go_upto_region 1 with (fail)
  have b0 := ((Gn.refl w).alloc (.cells #[.int .i64 a.1, .int .i64 a.2] 90)).alloc (.cells #[.int .i64 b.1, .int .i64 b.2] 90)
  have X := (Bx.new (w := w) (c := #[.int .i64 a.1, .int .i64 a.2]) (t := 90) rfl).alloc (.cells #[.int .i64 b.1, .int .i64 b.2] 90)
  have Y := Bx.new (w := w.alloc (.cells #[.int .i64 a.1, .int .i64 a.2] 90)) (b := w.heap.size + 1) (c := #[.int .i64 b.1, .int .i64 b.2]) (t := 90) (by simp)
  generalize (w.alloc (.cells #[.int .i64 a.1, .int .i64 a.2] 90)).alloc (.cells #[.int .i64 b.1, .int .i64 b.2] 90) = w1 at b0 X Y ⊢
  obtain ⟨⟨x0, x1⟩, _⟩ := X.drew.c2
  obtain ⟨⟨y0, y1⟩, _⟩ := Y.drew.c2
  have Xl := X.lt
  have Yl := Y.lt
  have bd := b0.drew
  have HC := Lib.hid (show (w1.alloc (.cells #[.int .i64 (cmpJ a.1 b.1), .int .i64 (cmpJ a.2 b.2)] 3)).drew.cell? ⟨w1.heap.size, 0, none⟩ = some (.int .i64 (cmpJ a.1 b.1)) ∧ (w1.alloc (.cells #[.int .i64 (cmpJ a.1 b.1), .int .i64 (cmpJ a.2 b.2)] 3)).drew.cell? ⟨w1.heap.size, 1, none⟩ = some (.int .i64 (cmpJ a.2 b.2)) from ⟨by simp, by simp⟩)
  have b1 := Lib.hid ((b0.alloc (.cells #[.int .i64 (cmpJ a.1 b.1), .int .i64 (cmpJ a.2 b.2)] 3)).drew)
  go_region_law (first | (go_simp; go_at_call 99; refine (compareJ_any _ _ _).mono ?_; rintro o w2 ⟨rfl, rfl⟩) | (go_simp; go_at_call 98; refine (orJ_any w1.heap.size (cmpJ a.1 b.1) (cmpJ a.2 b.2) 2 _ HC.out.1 HC.out.2).mono ?_; rintro o w2 ⟨rfl, rfl⟩))
  all_goals
    go_wp2
    go_ret
    exact ⟨ret_intG HE.out.symm, b1.out⟩

instance (a b : Int × Int) : Decidable (wlt a b) := by unfold wlt; infer_instance
def encW (x : Int × Int) : List Value := [.int .i64 x.1, .int .i64 x.2]
theorem ltW (x y : Int × Int) : ltOf cmpW x y = decide (wlt x y) := by
  unfold ltOf
  rw [decide_eq_decide]
  exact cmpW_lt x y
theorem swoW : SWO (ltOf cmpW) where
  irrefl x := by rw [ltW]; exact decide_eq_false wlt_irrefl
  trans x y z h1 h2 := by
    rw [ltW] at *
    simp only [decide_eq_true_eq] at *
    exact wlt_trans h1 h2
  ntrans x y z h1 h2 := by
    rw [ltW] at *
    simp only [decide_eq_false_iff_not] at *
    unfold wlt at *
    omega
theorem cmpLaysW (blk off size : Nat) (w : World) : CmpLays Tryz.prog 49 #[] encW 2 cmpW blk off size w :=
  fun m os dk _ x y => by
    refine (compareWaitsG_any x y _).mono ?_
    rintro e w' ⟨he, q, os', hw⟩
    exact ⟨he, q, os', hw⟩
def sortedW (l : List (Int × Int)) : List (Int × Int) := l.mergeSort fun x y => !(ltOf cmpW) y x
theorem sortW_any (g c : Nat) (l : List (Int × Int)) (w : World) (hH : HoldsK encW 2 w g 0 l.toArray) (hg : g < w.heap.size) (hl : l.length ≤ 1000) :
    Calls Tryz.prog 48 #[.slice (some ⟨g, 0, none⟩) l.length c, .func (.func 49) #[] #[]] w fun e w' =>
      e = .returned (.tuple #[]) ∧ ∃ n os, w' = sortWorldK encW 2 w g 0 n (sortedW l).toArray os := by
  have eg : ∀ args w, (callFunc 49 args).run Tryz.prog w = .ok (.enter 49 args) w := enters_of Tryz.func49 (by kernel_rfl) rfl
  have hcon := AnyQ.slices_SortFunc_total Tryz.sortW 2 Tryz.isAgg90 Tryz.sizeOf90 encW (fun _ => rfl) (fun x v hv => by simp [encW] at hv; rcases hv with rfl | rfl <;> rfl) cmpW swoW 49 #[] g 0 c l.toArray w eg (cmpLaysW g 0 _ w) hH hg (by simp; omega)
    (fun x y h1 h2 => by
      rw [ltW] at h1 h2
      simp only [decide_eq_false_iff_not] at h1 h2
      exact wlt_total h1 h2)
  have hcon : Calls Tryz.prog 48 #[.slice (some ⟨g, 0, none⟩) l.length c, .func (.func 49) #[] #[]] w _ := hcon
  exact hcon
theorem sortW_none (p : Option Addr) (c : Nat) (fv : Value) (w : World) :
    Calls Tryz.prog 48 #[.slice p 0 c, fv] w fun e w' => e = .returned (.tuple #[]) ∧ w' = w := by
  have hcon := AnyF.slices_SortFunc_none Tryz.sortW p c fv w
  exact hcon
theorem sortedW_perm (l : List (Int × Int)) : List.Perm (sortedW l) l := List.mergeSort_perm _ _
theorem sortedW_sorted (l : List (Int × Int)) : (sortedW l).Pairwise (fun a b => ¬ wlt b a) := by
  have h := List.pairwise_mergeSort (le := fun x y => !(ltOf cmpW) y x) (fun a b c h1 h2 => by
    simp only [ltW, Bool.not_eq_true', decide_eq_false_iff_not] at *
    unfold wlt at *
    omega) (fun a b => by
    simp only [ltW, Bool.or_eq_true, Bool.not_eq_true', decide_eq_false_iff_not]
    unfold wlt
    omega) l
  refine h.imp fun {a b} hab => ?_
  simpa [ltW] using hab
end Go.Proofs.YtkpkjcmoldkmmaaGreat

namespace Go.Proofs.YtkpkjcmoldkmmaaGreat
open Go.RowKit Go.Sort Go.Shelf Go.Lib

theorem holdsW_get {w : World} {g k : Nat} {d : Array (Int × Int)} (h : HoldsK encW 2 w g 0 d) (hk : k < d.size) : w.cell? ⟨g, k * 2, none⟩ = some (.int .i64 d[k]!.1) ∧ w.cell? ⟨g, k * 2 + 1, none⟩ = some (.int .i64 d[k]!.2) ∧ w.frozen? ⟨g, k * 2, none⟩ = false ∧ w.frozen? ⟨g, k * 2 + 1, none⟩ = false := by
  have h0 := h.cell (i := k) (c := 0) hk (by omega)
  have h1 := h.cell (i := k) (c := 1) hk (by omega)
  rw [Nat.zero_add] at h0 h1
  exact ⟨h0.1, h1.1, h0.2, h1.2⟩
theorem get_def (a : Array (Int × Int)) (j : Nat) : a[j]! = (a[j]?).getD default := by simp [Array.getElem!_eq_getD, Array.getD_eq_getD_getElem?]
theorem lay_sizeW : ∀ (xs : List (Int × Int)) (d : Array (Int × Int)) (k : Nat), (lay d k xs).size = d.size
  | [], _, _ => rfl
  | x :: r, d, k => by rw [lay, lay_sizeW r]; simp
theorem setMany_lay (d : Array (Int × Int)) (k : Nat) (xs : List (Int × Int)) (h : k + xs.length ≤ d.size) :
    setMany (flatK encW 2 d) (k * 2) (flatK encW 2 xs.toArray).toList = flatK encW 2 (lay d k xs) := by
  refine ext_get! (by simp [lay_sizeW]) fun t ht => ?_
  have ht' : t < d.size * 2 := by simpa using ht
  rw [get_setMany _ _ _ t (by simpa using ht'), get_flatK _ _ _ t ht', get_flatK _ _ _ t (by rw [lay_sizeW]; exact ht'), get_def (lay d k xs), lay_get? _ _ _ _ h]
  have hl : (flatK encW 2 xs.toArray).toList.length = xs.length * 2 := by simp
  rw [hl]
  by_cases c : k ≤ t / 2 ∧ t / 2 < k + xs.length
  · rw [if_pos c, if_pos (by omega)]
    have hu : t - k * 2 < xs.toArray.size * 2 := by simp; omega
    have e1 : (flatK encW 2 xs.toArray).toList[t - k * 2]! = (flatK encW 2 xs.toArray)[t - k * 2]! := by
      rw [getElem!_pos _ _ (by rw [hl]; simpa using hu), getElem!_pos (flatK encW 2 xs.toArray) _ (by simpa using hu)]
      simp
    rw [e1, get_flatK _ _ _ _ hu, show (t - k * 2) / 2 = t / 2 - k by omega, show (t - k * 2) % 2 = t % 2 by omega, get_def]
    simp
  · rw [if_neg c, if_neg (by omega), get_def]
theorem flat_one (x : Int × Int) : (flatK encW 2 [x].toArray).toList = encW x := by
  have h : flatK encW 2 [x].toArray = #[.int .i64 x.1, .int .i64 x.2] := ext_get! (by simp) fun t ht => by
    have ht' : t < 2 := by simpa using ht
    rw [get_flatK _ _ _ t (by simpa using ht')]
    rcases (by omega : t = 0 ∨ t = 1) with rfl | rfl <;> rfl
  rw [h]
  rfl
theorem store_W0 {w wr : World} {n g i : Nat} {dk : Array (Int × Int)} (hi : i < dk.size) (hwr : wr = putRowK encW 2 (Sort.ahead w n) g 0 dk) (x : Int × Int) :
    (wr.setCell ⟨g, i * 2, none⟩ (.int .i64 x.1)).setCell ⟨g, i * 2 + 1, none⟩ (.int .i64 x.2) = putRowK encW 2 (Sort.ahead w n) g 0 (dk.setIfInBounds i x) := by
  subst hwr
  have h := setCells_putRow (Sort.ahead w n) g 0 (encW x) (i * 2) (flatK encW 2 dk) (by simp [encW]; omega)
  have h2 := setMany_lay dk i [x] (by simp; omega)
  rw [flat_one] at h2
  rw [h2] at h
  have e : ((putRowK encW 2 (Sort.ahead w n) g 0 dk).setCell ⟨g, i * 2, none⟩ (.int .i64 x.1)).setCell ⟨g, i * 2 + 1, none⟩ (.int .i64 x.2) = (putRow id (Sort.ahead w n) g 0 (flatK encW 2 dk)).setCells g (0 + i * 2) (encW x) := by
    rw [Nat.zero_add]
    rfl
  rw [e, h]
  rfl
theorem clear_W (w : World) (t e ty : TypeId) (ht : Tryz.prog.underlying t = some (.slice e)) (hv : ∀ w, (zeroValue e).run Tryz.prog w = .ok (.agg #[.int .i64 0, .int .i64 0]) w) (b o n c : Nat) (hn : 0 < n)
    (hc : ∀ j, j < n * 2 → (w.cell? ⟨b, o + j, none⟩).isSome = true) (hf : ∀ j, j < n * 2 → w.frozen? ⟨b, o + j, none⟩ = false) :
    (Builtin.clear_ #[t] ty #[.slice (some ⟨b, o, none⟩) n c]).run Tryz.prog w = .ok (.tuple #[]) (w.setCells b o (flatK encW 2 (List.replicate n ((0 : Int), (0 : Int))).toArray).toList) := by
  have hzc : (Builtin.zeroCells (Value.agg #[.int .i64 0, .int .i64 0]).cells n).toList = (flatK encW 2 (List.replicate n ((0 : Int), (0 : Int))).toArray).toList := by
    have : (Value.agg #[.int .i64 0, .int .i64 0]).cells = #[.int .i64 0, .int .i64 0] := by simp [Value.cells]
    rw [this]
    refine congrArg _ (ext_get! (by simp [Builtin.zeroCells]) fun t ht => ?_)
    have ht' : t < n * 2 := by simpa [Builtin.zeroCells] using ht
    rw [get_flatK _ _ _ t (by simpa using ht')]
    have e : (List.replicate n ((0 : Int), (0 : Int))).toArray[t / 2]! = (0, 0) := by
      rw [getElem!_pos _ _ (by simp; omega)]
      simp
    rw [e]
    rcases (by omega : t % 2 = 0 ∨ t % 2 = 1) with h | h <;> simp [Builtin.zeroCells, ht', h, encW]
  have hst := run_storeCells_cells (P := Tryz.prog) b o (flatK encW 2 (List.replicate n ((0 : Int), (0 : Int))).toArray).toList 0 w (by simpa using hc) (by simpa using hf) (by
    intro v hv'
    rw [← hzc] at hv'
    simp only [Builtin.zeroCells, Array.toList_map, List.mem_map] at hv'
    obtain ⟨a, _, rfl⟩ := hv'
    rcases (by omega : a % 2 = 0 ∨ a % 2 = 1) with h | h <;> simp [Value.cells, h, Value.oneCell'])
  simp only [Nat.add_zero] at hst
  generalize (flatK encW 2 (List.replicate n ((0 : Int), (0 : Int))).toArray).toList = F at hzc hst ⊢
  obtain ⟨m, rfl⟩ : ∃ m, n = m + 1 := ⟨n - 1, by omega⟩
  simp [Builtin.clear_, run_underlying ht, hv, hzc, hst]

theorem compact_mem (d : Array (Int × Int)) (x : Int × Int) : ∀ m, x ∈ compactUpTo d m ↔ ∃ j, j < m ∧ d[j]! = x
  | 0 => by simp [compactUpTo]
  | m + 1 => by
    rw [compactUpTo_succ, List.mem_append, compact_mem d x m]
    constructor
    · rintro (⟨j, hj, e⟩ | h)
      · exact ⟨j, by omega, e⟩
      · split at h
        · simp at h
          exact ⟨m, by omega, h.symm⟩
        · cases h
    · rintro ⟨j, hj, e⟩
      by_cases hjm : j = m
      · subst hjm
        by_cases hk : keeps d j = true
        · right
          rw [if_pos hk]
          simp [e]
        · left
          have : ¬ (j = 0 ∨ d[j]! ≠ d[j - 1]!) := fun h => hk (by unfold keeps; exact decide_eq_true h)
          have h0 : ¬ j = 0 := fun h => this (.inl h)
          have h1 : d[j]! = d[j - 1]! := Classical.byContradiction fun h => this (.inr h)
          exact ⟨j - 1, by omega, by rw [← h1]; exact e⟩
      · exact .inl ⟨j, by omega, e⟩
theorem compact_wlt (d : Array (Int × Int)) (hs : ∀ i j, i < j → j < d.size → ¬ wlt d[j]! d[i]!) : ∀ m, m ≤ d.size → (compactUpTo d m).Pairwise wlt
  | 0, _ => by simp [compactUpTo]
  | m + 1, hm => by
    rw [compactUpTo_succ, List.pairwise_append]
    refine ⟨compact_wlt d hs m (by omega), by split <;> simp, fun x hx y hy => ?_⟩
    split at hy
    · rename_i hk
      simp at hy
      subst hy
      obtain ⟨j, hj, rfl⟩ := (compact_mem d x m).1 hx
      have hk2 : m = 0 ∨ d[m]! ≠ d[m - 1]! := by unfold keeps at hk; exact of_decide_eq_true hk
      have h1 := hs (m - 1) m (by omega) (by omega)
      have h2 : wlt d[m - 1]! d[m]! := Classical.byContradiction fun hn => hk2.elim (fun h => by omega) (fun h => h (wlt_total h1 hn))
      by_cases hjm : j = m - 1
      · rw [hjm]
        exact h2
      · have h3 := hs j (m - 1) (by omega) (by omega)
        unfold wlt at *
        omega
    · cases hy
end Go.Proofs.YtkpkjcmoldkmmaaGreat

namespace Go.Proofs.YtkpkjcmoldkmmaaGreat
open Go.RowKit Go.Sort Go.Shelf Go.Lib

def endW (w : World) (g : Nat) (d : Array (Int × Int)) (q : Nat) : World := putRowK encW 2 (Sort.ahead w q) g 0 (compactUpTo d d.size ++ List.replicate (d.size - (compactUpTo d d.size).length) ((0 : Int), (0 : Int))).toArray
theorem end_all {w : World} {g : Nat} {d : Array (Int × Int)} (hH : HoldsK encW 2 w g 0 d) (q : Nat) (hall : ∀ j, j < d.size → keeps d j = true) : (compactUpTo d d.size).length = d.size ∧ w.drewN q = endW w g d q := by
  have e : compactUpTo d d.size = d.toList := by rw [compactUpTo_all d _ hall, range_map_get]
  unfold endW
  rw [e]
  refine ⟨by simp, ?_⟩
  simp only [Array.length_toList, Nat.sub_self, List.replicate_zero, List.append_nil, Array.toArray_toList]
  exact (putRowK_self encW 2 (Sort.ahead w q) g 0 d (holdsK_ahead encW 2 w q g 0 d hH)).symm
set_option maxHeartbeats 4000000 in
set_option maxRecDepth 1000000 in
theorem compactW_any (g cap : Nat) (d : Array (Int × Int)) (w : World) (hH : HoldsK encW 2 w g 0 d) (hsz : d.size ≤ 1000) (hcap : d.size ≤ cap) :
    Calls Tryz.prog 50 #[.slice (some ⟨g, 0, none⟩) d.size cap] w fun e w' => e = .returned (.slice (some ⟨g, 0, none⟩) (compactUpTo d d.size).length cap) ∧ ∃ q, w' = endW w g d q := by
  have HS := Lib.hid (show ∀ q, (∀ j, j < d.size → keeps d j = true) → (compactUpTo d d.size).length = d.size ∧ w.drewN q = endW w g d q from end_all hH)
  have HH := Lib.hid hH
  clear hH
  by_cases h2 : d.size < 2
  · have hz2 : (d.size : Int) < 2 := by omega
    go_enter Tryz.func50, Tryz.ntmps50
    go_wp2
    go_ret
    obtain ⟨e1, e2⟩ := HS.out 0 (fun j hj => keeps_lt_one d j (by omega))
    exact ⟨by rw [e1]; rfl, 0, e2⟩
  · have hz2 : ¬ (d.size : Int) < 2 := by omega
    go_enter Tryz.func50, Tryz.ntmps50
    go_wp2
    go_loopw [3] (fun s3 wr => ∃ k q : Nat, 1 ≤ k ∧ k ≤ d.size ∧ s3 = .int .i64 k ∧ wr = w.drewN q ∧ Hid (∀ j, j < k → keeps d j = true)) (fun s3 _ => d.size - (intOf s3).toNat)
    case atStart => exact ⟨1, 0, Nat.le_refl _, by omega, rfl, rfl, Lib.hid (keeps_lt_one d)⟩
    case round =>
      obtain ⟨k, q, hk1, hk, rfl, rfl, HA⟩ := hrel
      by_cases hlt : k < d.size
      · have hkz : (k : Int) < d.size := by omega
        have hw1 : IntKind.i64.wrap ((k : Int) - 1) = ((k - 1 : Nat) : Int) := by rw [IntWalk.i64_in _ (by omega)]; omega
        have hwz : ((k - 1 : Nat) : Int) < d.size := by omega
        obtain ⟨c1, c2, _, _⟩ := holdsW_get HH.out hlt
        obtain ⟨p1, p2, _, _⟩ := holdsW_get HH.out (show k - 1 < d.size by omega)
        generalize hx : d[k]! = x at c1 c2
        generalize hy : d[k - 1]! = y at p1 p2
        have B := Lib.hid (show d[k]! = x ∧ d[k - 1]! = y from ⟨hx, hy⟩)
        clear hx hy
        by_cases h0 : x.1 = y.1
        · by_cases h1 : x.2 = y.2
          · obtain rfl : x = y := Prod.ext h0 h1
            clear h0 h1
            go_wp2_with fail
            go_quiet (fail)
            go_wp2
            clear c1 c2 p1 p2 hw1 hwz
            go_loopw [3, 5] (fun s3 s5 wr => ∃ (kk k2 q2 : Nat) (dk : Array (Int × Int)), s3 = .int .i64 kk ∧ s5 = .int .i64 k2 ∧ 1 ≤ k2 ∧ k + k2 ≤ d.size ∧ Hid (wr = putRowK encW 2 (Sort.ahead w q2) g 0 dk) ∧ Hid (CompInv d (k + k2) kk dk)) (fun _ s5 _ => d.size - k - (intOf s5).toNat)
            case atStart => exact ⟨k, 1, q + nq, d, rfl, rfl, Nat.le_refl _, by omega, Lib.hid (putRowK_self encW 2 (Sort.ahead w (q + nq)) g 0 d (holdsK_ahead encW 2 w (q + nq) g 0 d HH.out)).symm, Lib.hid (CompInv.start HA.out (keeps_neg (by omega) (by rw [B.out.1, B.out.2])))⟩
            case round =>
              obtain ⟨kk, k2, q2, dk, rfl, rfl, h1, hle, HW, HI⟩ := hrel
              have hkk := HI.out.lt
              have hds := HI.out.size
              have hHk : HoldsK encW 2 wr g 0 dk := by rw [HW.out]; exact holdsK_putRowK encW 2 _ g 0 d dk (holdsK_ahead encW 2 w q2 g 0 d HH.out) hds
              have hkkz : (kk : Int) < d.size := by omega
              by_cases hlt2 : k + k2 < d.size
              · obtain ⟨m1, m2, _, _⟩ := holdsW_get hHk (show k + k2 < dk.size by omega)
                obtain ⟨n1, n2, _, _⟩ := holdsW_get hHk (show k + k2 - 1 < dk.size by omega)
                obtain ⟨o1, o2, f1, f2⟩ := holdsW_get hHk (show kk < dk.size by omega)
                rw [HI.out.high (k + k2) (by omega), show (k + k2) * 2 = k * 2 + k2 * 2 by omega] at m1 m2
                rw [HI.out.high (k + k2 - 1) (by omega), show (k + k2 - 1) * 2 = k * 2 + (k2 - 1) * 2 by omega] at n1 n2
                have hw2 : IntKind.i64.wrap ((k2 : Int) - 1) = ((k2 - 1 : Nat) : Int) := by rw [IntWalk.i64_in _ (by omega)]; omega
                have hwa : (k2 : Int) < ((d.size - k : Nat) : Int) := by omega
                have hwb : ((k2 - 1 : Nat) : Int) < ((d.size - k : Nat) : Int) := by omega
                clear hHk
                generalize hu : d[k + k2]! = u at m1 m2
                generalize hv : d[k + k2 - 1]! = v at n1 n2
                generalize dk[kk]! = old at o1 o2
                have C := Lib.hid (show d[k + k2]! = u ∧ d[k + k2 - 1]! = v from ⟨hu, hv⟩)
                clear hu hv
                by_cases g0 : u.1 = v.1
                · by_cases g1 : u.2 = v.2
                  · obtain rfl : u = v := Prod.ext g0 g1
                    clear g0 g1
                    go_wp2_with fail
                    go_quiet (fail)
                    go_wp2
                    exact ⟨⟨kk, k2 + 1, _, dk, rfl, by go_num, by omega, by omega, Lib.hid (by rw [HW.out]; exact putRowK_drewN encW 2 w q2 _ g 0 dk), Lib.hid (HI.out.skip (keeps_neg (by omega) (by rw [C.out.1, C.out.2])))⟩, by simp [intOf]; omega⟩
                  · go_wp2_with fail
                    go_quiet (fail)
                    go_wp2
                    exact ⟨⟨kk + 1, k2 + 1, _, dk.setIfInBounds kk u, by go_num, by go_num, by omega, by omega, Lib.hid (by rw [← g0]; exact store_W0 (w := w) (g := g) (i := kk) (wr := wr.drewN nq) (n := q2 + nq) (dk := dk) (by omega) (by rw [HW.out]; exact putRowK_drewN encW 2 w q2 nq g 0 dk) u), Lib.hid (by have h9 := HI.out.keep hlt2 (keeps_pos (by rw [C.out.1, C.out.2]; exact fun e => g1 (by rw [e]))); rwa [C.out.1] at h9)⟩, by simp [intOf]; omega⟩
                · go_wp2_with fail
                  go_quiet (fail)
                  go_wp2
                  exact ⟨⟨kk + 1, k2 + 1, _, dk.setIfInBounds kk u, by go_num, by go_num, by omega, by omega, Lib.hid (store_W0 (w := w) (g := g) (i := kk) (wr := wr.drewN nq) (n := q2 + nq) (dk := dk) (by omega) (by rw [HW.out]; exact putRowK_drewN encW 2 w q2 nq g 0 dk) u), Lib.hid (by have h9 := HI.out.keep hlt2 (keeps_pos (by rw [C.out.1, C.out.2]; exact fun e => g0 (by rw [e]))); rwa [C.out.1] at h9)⟩, by simp [intOf]; omega⟩
              · have hend : k + k2 = d.size := by omega
                have hcl : ∀ ty, (Builtin.clear_ #[45] ty #[.slice (some ⟨g, kk * 2, none⟩) (d.size - kk) (cap - kk)]).run Tryz.prog wr = .ok (.tuple #[]) (wr.setCells g (kk * 2) (flatK encW 2 (List.replicate (d.size - kk) ((0 : Int), (0 : Int))).toArray).toList) :=
                  fun ty => clear_W wr _ _ ty Tryz.underlying45 Tryz.zeroValue90 g (kk * 2) _ _ (by omega)
                    (fun j hj => by
                      have h9 := (hHk (kk * 2 + j) (by simp; omega)).1
                      rw [Nat.zero_add] at h9
                      rw [h9]; rfl)
                    (fun j hj => by
                      have h9 := (hHk (kk * 2 + j) (by simp; omega)).2
                      rwa [Nat.zero_add] at h9)
                have hnz : ¬ (k2 : Int) < ((d.size - k : Nat) : Int) := by omega
                clear hHk
                go_wp2
                go_ret
                have hI := HI.out
                rw [hend] at hI
                refine ⟨by rw [hI.len]; rfl, q2, ?_⟩
                unfold endW
                rw [hI.len, ← hI.done (0, 0), HW.out]
                have h1 := setCells_putRow (Sort.ahead w q2) g 0 (flatK encW 2 (List.replicate (d.size - kk) ((0 : Int), (0 : Int))).toArray).toList (kk * 2) (flatK encW 2 dk) (by simp; omega)
                rw [setMany_lay dk kk _ (by simp; omega), Nat.zero_add] at h1
                exact h1
          · go_wp2_with fail
            go_quiet (fail)
            go_wp2
            refine ⟨⟨k + 1, _, by omega, by omega, by go_num, rfl, Lib.hid fun j hj => ?_⟩, by simp [intOf]; omega⟩
            by_cases e : j = k
            · subst e
              exact keeps_pos (by rw [B.out.1, B.out.2]; exact fun e => h1 (by rw [e]))
            · exact HA.out j (by omega)
        · go_wp2_with fail
          go_quiet (fail)
          go_wp2
          refine ⟨⟨k + 1, _, by omega, by omega, by go_num, rfl, Lib.hid fun j hj => ?_⟩, by simp [intOf]; omega⟩
          by_cases e : j = k
          · subst e
            exact keeps_pos (by rw [B.out.1, B.out.2]; exact fun e => h0 (by rw [e]))
          · exact HA.out j (by omega)
      · obtain rfl : k = d.size := by omega
        go_wp2
        go_ret
        obtain ⟨e1, e2⟩ := HS.out q HA.out
        exact ⟨by rw [e1]; rfl, q, e2⟩
end Go.Proofs.YtkpkjcmoldkmmaaGreat
