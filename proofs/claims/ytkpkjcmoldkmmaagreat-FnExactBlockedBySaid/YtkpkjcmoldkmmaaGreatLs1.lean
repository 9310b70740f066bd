/- Contracts of the model's functions on one lock: l03Tid, l03Grants, l01Has, LockOk. -/
import Derived.Test.YtkpkjcmoldkmmaaGreatLh
namespace Go.Proofs.YtkpkjcmoldkmmaaGreat
open Go.RowKit

theorem specTid_any (t : Int) (w : World) :
    Calls Tryz.prog 182 #[.int .i64 t] w fun e w' => e = .returned (.bool (tidB t)) ∧ w = w' := by
  go_enter Tryz.func182, Tryz.ntmps182
  go_wp2_with (go_at_call 28; refine (l01In_any _ _ _ _).mono ?_; rintro e w' ⟨rfl, rfl⟩)
  go_ret
  exact ⟨rfl, rfl⟩

theorem specGrants_any (A A' : Option Addr) (c c' B : Nat) (hs ws : HL) (w : World) (h : LAt w B A A' (hs, ws)) :
    Calls Tryz.prog 184 #[.agg #[.slice A hs.length c, .slice A' ws.length c']] w fun e w' => e = .returned (.bool (grantsS hs ws)) ∧ Below w.heap.size w w' := by
  obtain ⟨h1, h2⟩ := h
  have h1 := h1.lt
  have h2 := h2.lt
  match ws, h2 with
  | [], _ =>
    go_enter Tryz.func184, Tryz.ntmps184
    go_wp2
    go_ret
    exact ⟨rfl, (Below.refl _ _).alloc (Nat.le_refl _) _⟩
  | y :: ws, h2 =>
    match hs, h1 with
    | [], _ =>
      have hp : ¬ ((y :: ws).length : Int) = 0 := by simp; omega
      generalize (y :: ws).length = m at hp ⊢
      go_enter Tryz.func184, Tryz.ntmps184
      go_wp2
      go_ret
      exact ⟨rfl, (Below.refl _ _).alloc (Nat.le_refl _) _⟩
    | x :: hs, h1 =>
      obtain ⟨b, off, rfl, hb, hc⟩ := h1 (by simp)
      obtain ⟨b', off', rfl, hb', hc'⟩ := h2 (by simp)
      have d0 : w.cell? ⟨b, off + 1, none⟩ = some (.bool x.2) := by have := (hc 0 (by simp)).2; simpa [hW] using this
      have d1 : w.cell? ⟨b', off' + 1, none⟩ = some (.bool y.2) := by have := (hc' 0 (by simp)).2; simpa [hW] using this
      clear hc hc' h1 h2
      have hp : ¬ ((y :: ws).length : Int) = 0 := by simp; omega
      have hq : ¬ ((x :: hs).length : Int) = 0 := by simp; omega
      have hp' : (0 : Int) < ((y :: ws).length : Int) := by simp
      have hq' : (0 : Int) < ((x :: hs).length : Int) := by simp
      have HG := Lib.hid (show grantsS (x :: hs) (y :: ws) = (!y.2 && !x.2) from rfl)
      generalize (y :: ws).length = m at hp hp' ⊢
      generalize (x :: hs).length = n at hq hq' ⊢
      cases hy : y.2 with
      | true =>
        rw [hy] at d1
        go_enter Tryz.func184, Tryz.ntmps184
        go_wp2
        go_ret
        exact ⟨ret_bool (by rw [HG.out]; simp [hy]), (Below.refl _ _).alloc (Nat.le_refl _) _⟩
      | false =>
        rw [hy] at d1
        go_enter Tryz.func184, Tryz.ntmps184
        go_wp2
        go_ret
        exact ⟨ret_bool (by rw [HG.out]; simp [hy]), (Below.refl _ _).alloc (Nat.le_refl _) _⟩
/-- the model's test of one holder -/
def ok1 (hs : HL) (k : Nat) : Bool := tidB (hT hs k) && !(hW hs k && decide (1 < hs.length)) && !(decide (0 < k) && decide (hT hs (k - 1) ≥ hT hs k))
theorem ids_get {l : HL} {k : Nat} (h : k < (ids l).length) : (ids l)[k] = hT l k := by
  have h' : k < l.length := by simpa [ids] using h
  simp [ids, hT, List.getD_eq_getElem?_getD, h']
theorem ids_len' (l : HL) : (ids l).length = l.length := by simp [ids]
theorem asc_get {l : HL} (h : (ids l).Pairwise (· ≤ ·)) {i j : Nat} (hij : i < j) (hj : j < l.length) : hT l i ≤ hT l j := by
  have := List.pairwise_iff_getElem.1 h i j (by rw [ids_len']; omega) (by rw [ids_len']; omega) hij
  rwa [ids_get, ids_get] at this
theorem nd_get {l : HL} (h : (ids l).Nodup) {i j : Nat} (hij : i < j) (hj : j < l.length) : ¬ hT l i = hT l j := by
  have := List.pairwise_iff_getElem.1 h i j (by rw [ids_len']; omega) (by rw [ids_len']; omega) hij
  rwa [ids_get, ids_get] at this
theorem hT_mem {l : HL} {k : Nat} (h : k < l.length) : hT l k ∈ ids l := by
  rw [← ids_get (l := l) (k := k) (by rw [ids_len']; exact h)]; exact List.getElem_mem _
theorem hW_mem {l : HL} {k : Nat} (h : k < l.length) : ∃ z ∈ l, z.2 = hW l k := ⟨l[k], List.getElem_mem _, by simp [hW, List.getD_eq_getElem?_getD, h]⟩
theorem get_hW {l : HL} {z : Int × Bool} (h : z ∈ l) : ∃ k, k < l.length ∧ z = (hT l k, hW l k) := by
  obtain ⟨k, hk, e⟩ := List.getElem_of_mem h
  exact ⟨k, hk, by rw [hT_get hk, e]⟩
theorem lockOk_bad1 {hs : HL} {k : Nat} (ws : HL) (hk : k < hs.length) (h : ok1 hs k = false) : lockOk hs ws = false := by
  rw [Bool.eq_false_iff]
  intro hl
  have hp := ((lockOk_iff _ _).1 hl).1
  have h1 : tidB (hT hs k) = true := hp.tid _ (by rw [ids_append]; exact List.mem_append_left _ (hT_mem hk))
  have h2 : ¬ (hW hs k = true ∧ 1 < hs.length) := fun ⟨a, b⟩ => by
    obtain ⟨z, hz, e⟩ := hW_mem hk
    have := (wrOk_iff _).1 hp.wr b z hz
    rw [e, a] at this; cases this
  have h3 : ¬ (0 < k ∧ hT hs (k - 1) ≥ hT hs k) := fun ⟨a, b⟩ => by
    have c := asc_get hp.asc (show k - 1 < k by omega) hk
    have hn := hp.nd
    rw [ids_append, List.nodup_append] at hn
    exact nd_get hn.1 (show k - 1 < k by omega) hk (by omega)
  rw [ok1, h1] at h
  simp only [Bool.true_and, Bool.and_eq_false_iff, Bool.not_eq_false', Bool.and_eq_true, decide_eq_true_eq] at h
  rcases h with h | h
  · exact h2 h
  · exact h3 h
theorem ok1_parts {hs : HL} {k : Nat} (h : ok1 hs k = true) : tidB (hT hs k) = true ∧ ¬ (hW hs k = true ∧ 1 < hs.length) ∧ ¬ (0 < k ∧ hT hs (k - 1) ≥ hT hs k) := by
  simp only [ok1, Bool.and_eq_true, Bool.not_eq_true', Bool.and_eq_false_iff, decide_eq_false_iff_not] at h
  refine ⟨h.1.1, fun ⟨a, b⟩ => ?_, fun ⟨a, b⟩ => ?_⟩
  · rcases h.1.2 with c | c
    · rw [a] at c; cases c
    · exact c b
  · rcases h.2 with c | c
    · exact c a
    · exact c b
theorem ok1_asc {hs : HL} (h : ∀ k, k < hs.length → ok1 hs k = true) : ∀ j i, i < j → j < hs.length → hT hs i < hT hs j := by
  intro j
  induction j with
  | zero => intro i hi; omega
  | succ j ih =>
    intro i hi hj
    have h1 := (ok1_parts (h (j + 1) hj)).2.2
    have h2 : hT hs j < hT hs (j + 1) := by
      have : ¬ (hT hs j ≥ hT hs (j + 1)) := fun e => h1 ⟨by omega, by simpa using e⟩
      omega
    by_cases e : i = j
    · subst e; exact h2
    · have := ih i (by omega) (by omega); omega
theorem lockOk_split {hs : HL} (ws : HL) (h : ∀ k, k < hs.length → ok1 hs k = true) : lockOk hs ws = (idsOk (ids hs) (ids ws) && !grantsS hs ws) := by
  have hasc := ok1_asc h
  have hlt : (ids hs).Pairwise (· < ·) := List.pairwise_iff_getElem.2 fun i j hi hj hij => by
    rw [ids_get, ids_get]; exact hasc j i hij (by rwa [ids_len'] at hj)
  have ha : ascOk hs = true := by
    simp only [ascOk, decide_eq_true_eq]
    exact hlt.imp (fun h => by omega)
  have hw : wrOk hs = true := by
    rw [wrOk_iff]
    intro h1 z hz
    obtain ⟨k, hk, rfl⟩ := get_hW hz
    have := (ok1_parts (h k hk)).2.1
    show hW hs k = false
    rw [Bool.eq_false_iff]
    exact fun e => this ⟨e, h1⟩
  have hi : idsOk [] (ids hs) = true := by
    rw [idsOk_iff]
    refine ⟨fun t ht => ?_, hlt.imp (fun h => by omega), fun _ _ => List.not_mem_nil⟩
    obtain ⟨z, hz, rfl⟩ := List.mem_map.1 ht
    obtain ⟨k, hk, rfl⟩ := get_hW hz
    exact (ok1_parts (h k hk)).1
  rw [lockOk, idsOk_append, hi, ha, hw, grants_blocked hw]
  simp
theorem drop_ids {ws : HL} {k : Nat} (h : k < ws.length) : ids (ws.drop k) = hT ws k :: ids (ws.drop (k + 1)) := by
  rw [List.drop_eq_getElem_cons h, ids_cons, ← hT_get h]
theorem take_ids {ws : HL} {k : Nat} (h : k < ws.length) : ids (ws.take (k + 1)) = ids (ws.take k) ++ [hT ws k] := by
  rw [List.take_succ_eq_append_getElem h, ids_append, ← hT_get h]; rfl

def NotIn (l : List Int) (x : Int) (k : Nat) : Prop := ∀ j, j < k → ¬ l.getD j 0 = x
theorem l01Has_any (A : Option Addr) (cap B : Nat) (l : List Int) (x : Int) (w : World) (hn : l.length ≤ maxLen) (h : IntsAt w B A l.length (fun j => l.getD j 0)) :
    Calls Tryz.prog 183 #[.slice A l.length cap, .int .i64 x] w fun e w' => e = .returned (.bool (l.contains x)) ∧ w = w' := by
  unfold maxLen at hn
  go_enter Tryz.func183, Tryz.ntmps183
  go_wp2
  go_loop [5] (fun i => ∃ k : Nat, k ≤ l.length ∧ i = .int .i64 k ∧ NotIn l x k) (fun i => l.length - (intOf i).toNat)
  case atStart => exact ⟨0, Nat.zero_le _, rfl, fun j hj => absurd hj (by omega)⟩
  case round =>
    obtain ⟨k, hk, rfl, hall⟩ := hrel
    have Hall := Lib.hid hall
    clear hall
    by_cases hkn : k < l.length
    · obtain ⟨b, off, rfl, _, hc⟩ := h (by omega)
      have hkz : (k : Int) < l.length := by omega
      have d0 : w.cell? ⟨b, off + k, none⟩ = some (.int .i64 (l.getD k 0)) := hc k hkn
      clear hc h
      have HE := Lib.hid (show ∀ y, l.getD k 0 = y → ¬ y = x → NotIn l x (k + 1) from fun y e hne j hj => by
        by_cases ej : j = k
        · subst ej; rw [e]; exact hne
        · exact Hall.out j (by omega))
      have Hm := Lib.hid (show l.getD k 0 ∈ l by rw [List.getD_eq_getElem?_getD, List.getElem?_eq_getElem hkn]; exact List.getElem_mem _)
      generalize hy : l.getD k 0 = y at d0 Hm
      have HY := Lib.hid (HE.out y hy)
      clear hy HE
      by_cases e : y = x
      · subst e
        go_wp2
        go_ret
        exact ⟨ret_bool (by have := Hm.out; simpa using this), rfl⟩
      · have e' : (y == x) = false := by simpa using e
        go_wp2
        exact ⟨⟨k + 1, by omega, by go_num, HY.out e⟩, by simp [intOf]; omega⟩
    · obtain rfl : k = l.length := by omega
      go_wp2
      go_ret
      refine ⟨ret_bool ?_, rfl⟩
      symm
      rw [Bool.eq_false_iff]
      intro hm
      obtain ⟨j, hj, e⟩ := List.getElem_of_mem (of_decide_eq_true hm)
      exact Hall.out j hj (by rw [List.getD_eq_getElem?_getD, List.getElem?_eq_getElem hj]; exact e)
end Go.Proofs.YtkpkjcmoldkmmaaGreat
