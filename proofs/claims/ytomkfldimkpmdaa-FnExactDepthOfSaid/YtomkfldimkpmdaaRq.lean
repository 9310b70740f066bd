/- Wait graphs: the program's search: the state it keeps in three maps and a path. -/
import Derived.Test.YtomkfldimkpmdaaRp
import Derived.WalkSmall
namespace Go.Proofs.Ytomkfldimkpmdaa
open Go.RowKit
open Go.Maps (Keyed)

theorem zeroRI (w : World) : (zeroValue 3).run Try.prog w = .ok (.int .i64 0) w := by kernel_rfl
def VI (f : Int → Option Value) (v : Int → Nat) : Prop := ∀ x, (f x).getD (.int .i64 0) = .int .i64 (v x)
theorem VI.upd {f : Int → Option Value} {v : Int → Nat} (h : VI f v) (x : Int) (k : Nat) : VI (upd f x (some (.int .i64 k))) (setN v x k) := fun y => by
  unfold Go.Proofs.Ytomkfldimkpmdaa.upd setN
  by_cases e : y = x
  · rw [if_pos e, if_pos e]; rfl
  · rw [if_neg e, if_neg e]; exact h y
def vset (L : WL) : List Int := L.map (·.1) ++ L.map (·.2)
theorem vset_len (L : WL) : (vset L).length = 2 * L.length := by simp [vset]; omega
def sumA (L : WL) (ah : Int → List Int) : Nat := sumF (fun e : Int × Int => (ah e.1).length) L
theorem sumA_pop {L : WL} {ah : Int → List Int} {f t : Int} {r : List Int} (he : (f, t) ∈ L) (ha : ah f = t :: r) : sumA L (setL ah f r) + 1 ≤ sumA L ah := by
  refine sumF_lt (fun e => ?_) (x := (f, t)) ?_ he
  · by_cases ex : e.1 = f
    · rw [ex, setL_at, ha]; simp
    · rw [setL_ne ex]; exact Nat.le_refl _
  · show (setL ah f r f).length < (ah f).length
    rw [setL_at, ha]; simp
theorem sumA_start (L : WL) : sumA L (succs L) ≤ L.length * L.length := sumF_bound (f := fun e : Int × Int => (succs L e.1).length) (c := L.length) (fun e => succs_len e.1) L
def sumV (L : WL) (v : Int → Nat) : Nat := sumF (fun x => 2 - v x) (vset L)
def MM (L : WL) (v : Int → Nat) (len : Nat) : Nat := 2 * sumV L v + (2 * L.length + 1 - len)
theorem sumV_enter {L : WL} {v : Int → Nat} {f : Int} (h : v f ≤ 1) : sumV L (setN v f 1) ≤ sumV L v := sumF_le (fun x => by
  by_cases e : x = f
  · subst e; rw [setN_at]; omega
  · rw [setN_ne e]; exact Nat.le_refl _) _
theorem sumV_leave {L : WL} {v : Int → Nat} {f : Int} (h : v f = 1) (hf : f ∈ vset L) : sumV L (setN v f 2) + 1 ≤ sumV L v := sumF_lt (fun x => by
  by_cases e : x = f
  · subst e; rw [setN_at]; omega
  · rw [setN_ne e]; exact Nat.le_refl _) (x := f) (by rw [setN_at, h]; decide) hf
theorem sumV_start (L : WL) : sumV L (fun _ => 0) ≤ 4 * L.length := by
  have h : sumV L (fun _ => 0) ≤ (vset L).length * 2 := sumF_bound (fun _ => by show 2 - 0 ≤ 2; omega) (vset L)
  rw [vset_len] at h
  omega
theorem mm_push {L : WL} {v : Int → Nat} {f : Int} {len : Nat} (h : v f ≤ 1) (hl : len + 1 ≤ 2 * L.length) : MM L (setN v f 1) (len + 1) + 1 ≤ MM L v len := by
  have := sumV_enter (L := L) h
  unfold MM
  omega
theorem mm_leave {L : WL} {v : Int → Nat} {f : Int} {len : Nat} (h : v f ≤ 1) (hf : f ∈ vset L) (hl : len + 1 ≤ 2 * L.length) : MM L (setN (setN v f 1) f 2) len + 1 ≤ MM L v (len + 1) := by
  have h1 := sumV_enter (L := L) h
  have h2 := sumV_leave (L := L) (v := setN v f 1) (f := f) (setN_at ..) hf
  unfold MM
  omega
theorem mm_one (L : WL) (v : Int → Nat) : MM L v 1 ≤ MM L v 0 := by unfold MM; omega
theorem path_len {L : WL} {ah : Int → List Int} {v dd : Int → Nat} {P : List Int} (h : Srch L ah v dd P) : P.length ≤ 2 * L.length := by
  have := nodup_le h.nd h.seen
  rw [← vset_len]
  exact this
/-- what the maps say, read out of a world -/
noncomputable def visW (b : Nat) (w : World) (x : Int) : Nat := match (Instr.lookup 141 (.map (some b)) (.int .i64 x) false).run Try.prog w with | .ok (.int _ z) _ => z.toNat | _ => 0
theorem visW_is {b n : Nat} {w : World} {f : Int → Option Value} {v : Int → Nat} (hM : MapN Try.prog 3 w b n f) (hv : VI f v) {x : Int} (hx : wfI x) : visW b w x = v x := by
  unfold visW
  rw [(hM.look keyR Try.underlying141 (zeroRI w) (keyR_of hx)).1, hv x]
  simp
noncomputable def lenW (b : Nat) (w : World) (x : Int) : Nat := match (Instr.lookup 187 (.map (some b)) (.int .i64 x) false).run Try.prog w with | .ok (.slice _ n _) _ => n | _ => 0
theorem sumF_congr {α : Type} {f g : α → Nat} : ∀ {l : List α}, (∀ a, a ∈ l → f a = g a) → sumF f l = sumF g l
  | [], _ => rfl
  | x :: l, h => by
    simp only [sumF]
    rw [h x (List.mem_cons_self ..), sumF_congr (fun a ha => h a (List.mem_cons_of_mem _ ha))]
noncomputable def MW (L : WL) (b : Nat) (w : World) (len : Nat) : Nat := 2 * sumF (fun x => 2 - visW b w x) (vset L) + (2 * L.length + 1 - len)
theorem wf_vset {L : WL} (hw : ∀ e, e ∈ L → wfI e.1 ∧ wfI e.2) {x : Int} (hx : x ∈ vset L) : wfI x := by
  rcases List.mem_append.1 hx with h | h
  · obtain ⟨e, he, rfl⟩ := List.mem_map.1 h
    exact (hw e he).1
  · obtain ⟨e, he, rfl⟩ := List.mem_map.1 h
    exact (hw e he).2
theorem MW_is {L : WL} {b n : Nat} {w : World} {f : Int → Option Value} {v : Int → Nat} (hw : ∀ e, e ∈ L → wfI e.1 ∧ wfI e.2) (hM : MapN Try.prog 3 w b n f) (hv : VI f v) (len : Nat) : MW L b w len = MM L v len := by
  unfold MW MM sumV
  rw [sumF_congr (fun x hx => by rw [visW_is hM hv (wf_vset hw hx)])]
/-! the graph's frame -/
theorem SlA.kept {w w' : World} {lo hi : Nat} {A : Option Addr} {l : List Int} {row : Option Nat} (h : SlA w lo hi A l) (hs : hi ≤ w.heap.size) (hg : w.grownBy w' row) (hne : ∀ g, lo < g → g < hi → some g ≠ row) : SlA w' lo hi A l := fun hp => by
  obtain ⟨g, off, e, h1, h2, hc⟩ := h hp
  exact ⟨g, off, e, h1, h2, fun j hj => (hg.cell_far ⟨g, _, none⟩ (show g < w.heap.size by omega) (hne g h1 h2)).trans (hc j hj)⟩
theorem SG.kept {w w' : World} {b hi n : Nat} {f : Int → Option Value} {ah : Int → List Int} {row : Option Nat} (h : SG w b hi n f ah) (hg : w.grownBy w' row) (hb : some b ≠ row) (hne : ∀ g, b < g → g < hi → some g ≠ row) : SG w' b hi n f ah :=
  ⟨h.map.kept hg hb, h.lt, Nat.le_trans h.le hg.size, fun x => (h.row x).imp id (fun ⟨A, c, h1, h2, h3, h4⟩ => ⟨A, c, h1, h2, h3, h4.kept h.le hg hne⟩)⟩
theorem SG.at_ {w : World} {b hi n : Nat} {f : Int → Option Value} {ah : Int → List Int} (h : SG w b hi n f ah) (x : Int) : ∃ A c, (f x).getD (.slice none 0 0) = .slice A (ah x).length c ∧ (ah x).length ≤ c ∧ c ≤ maxLen ∧ SlA w b hi A (ah x) := by
  rcases h.row x with ⟨h1, h2⟩ | ⟨A, c, h1, h2, h3, h4⟩
  · refine ⟨none, 0, by rw [h1, h2]; rfl, by rw [h2]; exact Nat.le_refl _, by unfold maxLen; omega, fun hp => absurd hp (by rw [h2]; exact Nat.lt_irrefl _)⟩
  · exact ⟨A, c, by rw [h1]; rfl, h2, h3, h4⟩
theorem SG.some_ {w : World} {b hi n : Nat} {f : Int → Option Value} {ah : Int → List Int} (h : SG w b hi n f ah) {x t : Int} {r : List Int} (ha : ah x = t :: r) : (f x).isSome = true := by
  rcases h.row x with ⟨_, h2⟩ | ⟨A, c, h1, _⟩
  · rw [h2] at ha; cases ha
  · rw [h1]; rfl
theorem SG.put {w w' : World} {b hi n n' : Nat} {f : Int → Option Value} {ah : Int → List Int} {x : Int} {l : List Int} {A : Option Addr} {c : Nat} (h : SG w b hi n f ah) (hT : w.mapTurned w' b)
    (hM : MapN Try.prog 3 w' b n' (upd f x (some (.slice A l.length c)))) (h1 : l.length ≤ c) (h2 : c ≤ maxLen) (hs : SlA w b hi A l) : SG w' b hi n' (upd f x (some (.slice A l.length c))) (setL ah x l) := by
  have hg := turned_grown hT
  have hne : ∀ g, b < g → g < hi → some g ≠ some b := fun g h1 _ e => by injection e with e; omega
  refine ⟨hM, h.lt, Nat.le_trans h.le hg.size, fun y => ?_⟩
  by_cases e : y = x
  · subst e
    rw [setL_at]
    exact .inr ⟨A, c, by simp [upd], h1, h2, hs.kept h.le hg hne⟩
  · rw [setL_ne e]
    refine (h.row y).imp (fun ⟨a, b⟩ => ⟨by simp [upd, e, a], b⟩) (fun ⟨A', c', a1, a2, a3, a4⟩ => ⟨A', c', by simp [upd, e, a1], a2, a3, a4.kept h.le hg hne⟩)
theorem SlA.tail {w : World} {lo hi : Nat} {g off : Nat} {t : Int} {r : List Int} (h : SlA w lo hi (some ⟨g, off, none⟩) (t :: r)) : SlA w lo hi (some ⟨g, off + 1, none⟩) r := fun hp => by
  obtain ⟨g', off', e, h1, h2, hc⟩ := h (by simp)
  cases e
  refine ⟨g, off + 1, rfl, h1, h2, fun j hj => ?_⟩
  have := hc (j + 1) (by simp; omega)
  rw [show off + 1 + j = off + (j + 1) by omega, this]
  rfl
/-- the search's state -/
structure WS (L : WL) (bA hi : Nat) (w : World) (ah : Int → List Int) (v dd : Int → Nat) (nV : Nat) : Prop where
  sg : ∃ n f, n ≤ L.length ∧ SG w bA hi n f ah
  mD : ∃ n f, n + sumA L ah ≤ L.length * L.length ∧ MapN Try.prog 3 w hi n f ∧ VI f dd
  mV : ∃ f, MapN Try.prog 3 w (hi + 1) nV f ∧ VI f v
  hD : ∀ x, dd x + sumA L ah ≤ L.length * L.length
theorem WS.kept {L : WL} {bA hi nV : Nat} {w w' : World} {ah : Int → List Int} {v dd : Int → Nat} {row : Option Nat} (h : WS L bA hi w ah v dd nV) (hg : w.grownBy w' row) (hr : ∀ g, row = some g → hi + 2 ≤ g) : WS L bA hi w' ah v dd nV := by
  obtain ⟨⟨nA, fA, hnA, hA⟩, ⟨nD, fD, hnD, hD, hvD⟩, ⟨fV, hV, hvV⟩, h4⟩ := h
  have hlt := hA.lt
  have hne : ∀ g, g < hi + 2 → some g ≠ row := fun g h1 e => by have := hr g e.symm; omega
  exact ⟨⟨nA, fA, hnA, hA.kept hg (hne _ (by omega)) (fun g _ h2 => hne g (by omega))⟩, ⟨nD, fD, hnD, hD.kept hg (hne _ (by omega)), hvD⟩, ⟨fV, hV.kept hg (hne _ (by omega)), hvV⟩, h4⟩
theorem WS.visit {L : WL} {bA hi nV n' : Nat} {w w' : World} {ah : Int → List Int} {v v' dd : Int → Nat} {f' : Int → Option Value} (h : WS L bA hi w ah v dd nV) (hT : w.mapTurned w' (hi + 1)) (hM : MapN Try.prog 3 w' (hi + 1) n' f') (hv : VI f' v') : WS L bA hi w' ah v' dd n' := by
  obtain ⟨⟨nA, fA, hnA, hA⟩, ⟨nD, fD, hnD, hD, hvD⟩, _, h4⟩ := h
  have hg := turned_grown hT
  have hlt := hA.lt
  have hne : ∀ g, g < hi + 1 → some g ≠ some (hi + 1) := fun g h1 e => by injection e with e; omega
  exact ⟨⟨nA, fA, hnA, hA.kept hg (hne _ (by omega)) (fun g _ h2 => hne g (by omega))⟩, ⟨nD, fD, hnD, hD.kept hg (hne _ (by omega)), hvD⟩, ⟨f', hM, hv⟩, h4⟩
theorem WS.take {L : WL} {bA hi nV nA nD nA' nD' : Nat} {w w1 w2 : World} {ah : Int → List Int} {v dd : Int → Nat} {fA fD' fV : Int → Option Value} {f t : Int} {r : List Int} {A : Option Addr} {c m : Nat}
    (hA : SG w bA hi nA fA ah) (hV : MapN Try.prog 3 w (hi + 1) nV fV) (hvV : VI fV v) (hnA : nA' ≤ L.length) (hnD : nD' ≤ nD + 1) (hnD2 : nD + sumA L ah ≤ L.length * L.length) (hdd : ∀ x, dd x + sumA L ah ≤ L.length * L.length)
    (he : (f, t) ∈ L) (ha : ah f = t :: r) (hT1 : w.mapTurned w1 hi) (hM1 : MapN Try.prog 3 w1 hi nD' fD') (hv1 : VI fD' (setN dd f m)) (hm : m = max (dd f) (dd t + 1))
    (hT2 : w1.mapTurned w2 bA) (hM2 : MapN Try.prog 3 w2 bA nA' (upd fA f (some (.slice A r.length c)))) (h1 : r.length ≤ c) (h2 : c ≤ maxLen) (hs : SlA w bA hi A r) :
    WS L bA hi w2 (setL ah f r) v (setN dd f m) nV := by
  have hg1 := turned_grown hT1
  have hg2 := turned_grown hT2
  have hlt := hA.lt
  have hp := sumA_pop he ha
  have hne1 : ∀ g, ¬ g = hi → some g ≠ some hi := fun g h e => by injection e with e; exact h e
  have hA1 := hA.kept hg1 (hne1 _ (by omega)) (fun g _ _ => hne1 g (by omega))
  have hs1 := hs.kept hA.le hg1 (fun g _ _ => hne1 g (by omega))
  have hne2 : ∀ g, ¬ g = bA → some g ≠ some bA := fun g h e => by injection e with e; exact h e
  refine ⟨⟨_, _, hnA, hA1.put hT2 hM2 h1 h2 hs1⟩, ⟨nD', fD', by omega, hM1.kept hg2 (hne2 _ (by omega)), hv1⟩, ⟨fV, (hV.kept hg1 (hne1 _ (by omega))).kept hg2 (hne2 _ (by omega)), hvV⟩, fun x => ?_⟩
  by_cases e : x = f
  · subst e
    rw [setN_at, hm]
    have := hdd x
    have := hdd t
    omega
  · rw [setN_ne e]
    have := hdd x
    omega
theorem own_one {w : World} {base : Nat} {x : Value} {t : TypeId} (hb : base ≤ w.heap.size) (hx : x.cells.size = 1) : (w.alloc (.cells #[x] t)).ownsRow base t 1 (.slice (some ⟨w.heap.size, 0, none⟩) 1 1) 1 [x] :=
  have _ := hx
  ⟨rfl, .inr ⟨w.heap.size, 1, #[x], rfl, hb, Go.Deep.blk_alloc_new _ _, Nat.le_refl _, by unfold maxLen; omega, rfl, rfl⟩⟩
def WDOut (L : WL) (w : World) (e : Ending) (w' : World) : Prop :=
  Below w.heap.size w w' ∧ ((Ring L ∧ e = .returned (.tuple #[.map none, .bool false])) ∨
    (¬ Ring L ∧ ∃ b n f dd, e = .returned (.tuple #[.map (some b), .bool true]) ∧ MapN Try.prog 3 w' b n f ∧ VI f dd ∧ ∀ x, IsDep L x (dd x)))
end Go.Proofs.Ytomkfldimkpmdaa
