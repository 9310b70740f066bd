/- The library's sort at holds, as the program calls it: the holders sorted by id. -/
import Derived.Test.YtcndmdglnohbcaaGreatDoorSort
import Derived.Shelf.SlSortCmp.NoneTotal
import Derived.Test.YtcndmdglnohbcaaGreatDoorLs4
import Derived.Test.YtcndmdglnohbcaaGreatDoorLi1
namespace Go.Proofs.YtcndmdglnohbcaaGreatDoor
open Go.RowKit Go.Sort Go.Shelf

def encH (x : Int × Bool) : List Value := [.int .i64 x.1, .bool x.2]
def cfH (x y : Int × Bool) : Int := cmpI x.1 y.1
theorem ltH (x y : Int × Bool) : ltOf cfH x y = decide (x.1 < y.1) := by
  unfold ltOf cfH
  rw [decide_eq_decide]
  exact cmpI_neg
theorem swoH : SWO (ltOf cfH) where
  irrefl x := by rw [ltH]; simp
  trans x y z h1 h2 := by rw [ltH] at *; simp at *; omega
  ntrans x y z h1 h2 := by rw [ltH] at *; simp at *; omega
theorem cmpLaysH (blk off size : Nat) (w : World) : CmpLays Tryz.prog 76 #[] encH 2 cfH blk off size w :=
  fun m os dk _ x y => by
    refine (compareTids_any x.1 y.1 x.2 y.2 _).mono ?_
    rintro e w' ⟨he, rfl⟩
    exact ⟨he, 0, _, by rw [alloc_eq_grow, alloc_eq_grow, grow_grow]; rfl⟩
theorem hlenH (n : Nat) (W : World) (h : n ≤ 12) : Calls Tryz.prog 87 #[.int .u64 n] W fun e w' => (∃ l : Int, e = .returned (.int .i64 l)) ∧ w' = W :=
  (Tryz.bits_Len n W (by omega) (by omega)).mono fun _ _ ⟨he, hw⟩ => ⟨⟨_, he⟩, hw⟩

theorem flat_get (l : HL) {j : Nat} (hj : j < l.length) : (flatK encH 2 l.toArray)[j * 2]! = .int .i64 (hT l j) ∧ (flatK encH 2 l.toArray)[j * 2 + 1]! = .bool (hW l j) := by
  have e : l.toArray[j]! = (hT l j, hW l j) := by rw [hT_get hj]; simp [hj]
  rw [get_flatK _ _ _ _ (by simp; omega), get_flatK _ _ _ _ (by simp; omega), show j * 2 / 2 = j by omega, show (j * 2 + 1) / 2 = j by omega, show j * 2 % 2 = 0 by omega, show (j * 2 + 1) % 2 = 1 by omega, e]
  exact ⟨rfl, rfl⟩
theorem holdsK_own {w : World} {lo g c : Nat} {l : HL} (h : OwnH w lo (.slice (some ⟨g, 0, none⟩) l.length c) l) : HoldsK encH 2 w g 0 l.toArray := by
  intro j hj
  have hj2 : j < l.length * 2 := by simpa using hj
  have hf := h.frozenAt j
  have hc := h.cellAt j (by omega)
  rw [Nat.zero_add]
  refine ⟨?_, hf⟩
  rw [hc]
  have hk : j / 2 < l.length := by omega
  have h2 := hcs_get hk
  have h3 := flat_get l hk
  rcases (by omega : j = j / 2 * 2 ∨ j = j / 2 * 2 + 1) with e | e
  · rw [e, h2.1, h3.1]; rfl
  · rw [e, h2.2, h3.2]; rfl

theorem sw_block {enc : Int × Bool → List Value} {k blk off n : Nat} {w : World} {d : Array (Int × Bool)} {os : Array Obj} {i : Nat} (hi : i < w.heap.size) (hne : ¬ i = blk) : (sortWorldK enc k w blk off n d os).heap[i]? = w.heap[i]? := by
  have key : (sortWorldK enc k w blk off n d os).heap = (w.heap.modify blk (onCells (putCells id off (flatK enc k d)))) ++ os := rfl
  rw [key, Array.getElem?_append_left (by simpa using hi), Array.getElem?_modify, if_neg (fun e => hne e.symm)]
theorem sw_grown {enc : Int × Bool → List Value} {k blk off n : Nat} {w : World} {d : Array (Int × Bool)} {os : Array Obj} : w.grownBy (sortWorldK enc k w blk off n d os) (some blk) :=
  ⟨rfl, rfl, rfl, size_sortWorldK_c enc k w blk off n d os, fun i hi hne => sw_block hi (fun e => hne (by rw [e]))⟩
theorem sw_frozen {enc : Int × Bool → List Value} {k g off n : Nat} {w : World} {d : Array (Int × Bool)} {os : Array Obj} {cur : Array Value} {t : TypeId} (h : w.heap[g]? = some (.cells cur t (0, 0))) (o : Nat) : (sortWorldK enc k w g off n d os).frozen? ⟨g, o, none⟩ = false := by
  have hg : g < w.heap.size := (Array.getElem?_eq_some_iff.1 h).1
  have e : (sortWorldK enc k w g off n d os).heap[g]? = some (.cells (putCells id off (flatK enc k d) cur) t (0, 0)) := by
    have key : (sortWorldK enc k w g off n d os).heap = (w.heap.modify g (onCells (putCells id off (flatK enc k d)))) ++ os := rfl
    rw [key, Array.getElem?_append_left (by simpa using hg), Array.getElem?_modify, if_pos rfl, h]
    rfl
  simp [World.frozen?, e]

set_option maxHeartbeats 1000000 in
set_option maxRecDepth 100000 in
theorem sortH_any (g c lo : Nat) (l : HL) (w : World) (ho : OwnH w lo (.slice (some ⟨g, 0, none⟩) l.length c) l) (h12 : l.length ≤ 12) :
    Calls Tryz.prog 75 #[.slice (some ⟨g, 0, none⟩) l.length c, .func (.func 76) #[] #[]] w fun e w' =>
      e = .returned (.tuple #[]) ∧ ∃ d : HL, List.Perm d l ∧ (ids d).Pairwise (· ≤ ·) ∧ HOwn w' lo w'.heap.size (some ⟨g, 0, none⟩) d ∧ w.grownBy w' (some g) := by
  have eg : ∀ args w, (callFunc 76 args).run Tryz.prog w = .ok (.enter 76 args) w := enters_of Tryz.func76 (by kernel_rfl) rfl
  have hlt := ho.lt g rfl
  have hcon := AnyQ.slices_SortFunc_small_sorted Tryz.sortH 2 Tryz.isAgg77 Tryz.sizeOf77 encH (fun _ => rfl) (fun x v hv => by simp [encH] at hv; rcases hv with rfl | rfl <;> rfl) cfH 76 #[] swoH g 0 c l.toArray w eg (cmpLaysH g 0 _ w) (holdsK_own ho) hlt.2 (by simpa using h12) hlenH
  have hcon : Calls Tryz.prog 75 #[.slice (some ⟨g, 0, none⟩) l.length c, .func (.func 76) #[] #[]] w _ := hcon
  refine hcon.mono ?_
  rintro e w' ⟨he, d', n, os, hp, hs, hw⟩
  have hsz : d'.size = l.length := by have := hp.1; simpa using this
  refine ⟨he, d'.toList, ?_, ?_, ?_, by rw [hw]; exact sw_grown⟩
  · have := hp.2.2
    rw [Array.extract_eq_self_of_le (by rw [hsz]; simp), Array.extract_eq_self_of_le (by simp)] at this
    simpa using this
  · refine List.pairwise_iff_getElem.2 fun i j hi hj hij => ?_
    have hi' : i < d'.size := by simpa [ids] using hi
    have hj' : j < d'.size := by simpa [ids] using hj
    have := hs i j (Nat.zero_le _) hij (by simp; omega)
    rw [ltH] at this
    simp only [decide_eq_false_iff_not] at this
    rw [getElem!_pos d' i hi', getElem!_pos d' j hj'] at this
    simp only [ids, List.getElem_map, Array.getElem_toList]
    omega
  · intro hpos
    have hHK := holdsK_sortWorldK_c encH 2 w g 0 l.toArray d' n os (holdsK_own ho) hlt.2 (by simpa using hsz)
    refine ⟨g, 0, rfl, hlt.1, by rw [hw]; exact Nat.lt_of_lt_of_le hlt.2 (size_sortWorldK_c encH 2 w g 0 n d' os), fun j hj => ⟨?_, fun o => ?_⟩⟩
    · have hj' : j < d'.size := by simpa using hj
      have q0 := (hHK (j * 2) (by simp; omega)).1
      have q1 := (hHK (j * 2 + 1) (by simp; omega)).1
      have hfl := flat_get d'.toList hj
      rw [Array.toArray_toList] at hfl
      rw [hfl.1] at q0
      rw [hfl.2] at q1
      rw [hw]
      exact ⟨q0, by rw [Nat.zero_add] at q1 ⊢; exact q1⟩
    · rw [hw]
      rcases ho.2 with ⟨e, _⟩ | ⟨g', cap, cur, e, _, hh, _⟩
      · cases e
      · injection e with e _ _
        injection e with e
        injection e with e _ _
        subst e
        exact sw_frozen hh o

theorem sortH_none (p : Option Addr) (c : Nat) (fv : Value) (w : World) :
    Calls Tryz.prog 75 #[.slice p 0 c, fv] w fun e w' => e = .returned (.tuple #[]) ∧ w' = w := by
  have hcon := AnyF.slices_SortFunc_none Tryz.sortH p c fv w
  exact hcon

/-- sorted, whatever there is -/
def Sorted (lo : Nat) (A : Option Addr) (l : HL) (w : World) (e : Ending) (w' : World) : Prop := e = .returned (.tuple #[]) ∧ ∃ d : HL, List.Perm d l ∧ (ids d).Pairwise (· ≤ ·) ∧ HOwn w' lo w'.heap.size A d ∧ ∃ r, w.grownBy w' r ∧ ∀ g, r = some g → lo ≤ g
theorem sort_any (A : Option Addr) (c lo : Nat) (l : HL) (w : World) (ho : OwnH w lo (.slice A l.length c) l) (h12 : l.length ≤ 12) :
    Calls Tryz.prog 75 #[.slice A l.length c, .func (.func 76) #[] #[]] w (Sorted lo A l w) := by
  rcases Nat.eq_zero_or_pos l.length with hz | hpos
  · have hl := List.length_eq_zero_iff.1 hz
    rw [hz]
    refine (sortH_none A c _ w).mono ?_
    rintro e w' ⟨he, rfl⟩
    subst hl
    exact ⟨he, [], List.Perm.refl _, List.Pairwise.nil, HOwn.none rfl, none, ⟨rfl, rfl, rfl, Nat.le_refl _, fun _ _ _ => rfl⟩, fun g hg => by cases hg⟩
  · rcases ho.2 with ⟨e, e0⟩ | ⟨g, cap, cur, e, hg, hrest⟩
    · omega
    · injection e with e _ e2
      subst e e2
      refine (sortH_any g c lo l w ho h12).mono ?_
      rintro e w' ⟨he, d, h1, h2, h3, h4⟩
      exact ⟨he, d, h1, h2, h3, some g, h4, fun g' hg' => by injection hg' with hg'; subst hg'; exact hg⟩
end Go.Proofs.YtcndmdglnohbcaaGreatDoor
