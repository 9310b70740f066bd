/- Engines: what EngineOk asks, and the data in the formats that the earlier contracts read. -/
import Derived.Test.YtkpkjcmoldkmmaaGf
import Derived.Test.YtkpkjcmoldkmmaaTv
import Derived.Test.YtkpkjcmoldkmmaaTw
import Derived.Test.YtkpkjcmoldkmmaaVnu
import Derived.Test.YtkpkjcmoldkmmaaVju
import Derived.Test.YtkpkjcmoldkmmaaKeysu
import Derived.Test.YtkpkjcmoldkmmaaSu
namespace Go.Proofs.Ytkpkjcmoldkmmaa
open Go.RowKit

/-! the acts of a program, one int behind the other -/
def actF (p : List DAct) (j : Nat) : Int := if j % 3 = 0 then (p.getD (j / 3) (0, 0, 0)).1 else if j % 3 = 1 then (p.getD (j / 3) (0, 0, 0)).2.1 else (p.getD (j / 3) (0, 0, 0)).2.2
theorem actF_key {p : List DAct} {j : Nat} {a : DAct} (h : p[j]? = some a) : actF p (j * 3 + 1) = a.2.1 := by
  unfold actF
  rw [if_neg (by omega), if_pos (by omega), show (j * 3 + 1) / 3 = j by omega, List.getD_eq_getElem?_getD, h]
  rfl
theorem acts_at {w : World} {B : Nat} {A : Option Addr} {p : List DAct} (r : RAt fAct w B A p) : IntsAt w B A (p.length * 3) (actF p) := fun hN => by
  obtain ⟨b, off, e, hb, hc⟩ := r.2 (by omega)
  refine ⟨b, off, e, hb, fun j hj => ?_⟩
  have hk : j / 3 < p.length := by omega
  have hget : p[j / 3]? = some p[j / 3] := List.getElem?_eq_getElem hk
  obtain ⟨v, hv, hat⟩ := hc _ _ hget
  have ev := at_Act hat
  subst ev
  obtain ⟨a0, a1, a2⟩ := hv.c3
  have hd : p.getD (j / 3) (0, 0, 0) = p[j / 3] := by rw [List.getD_eq_getElem?_getD, hget]; rfl
  unfold actF
  rw [hd]
  rw [show fAct.n = 3 from rfl] at a0 a1 a2
  by_cases h0 : j % 3 = 0
  · rw [if_pos h0]
    rw [show off + j / 3 * 3 = off + j by omega] at a0
    exact a0
  · rw [if_neg h0]
    by_cases h1 : j % 3 = 1
    · rw [if_pos h1]
      rw [show off + j / 3 * 3 + 1 = off + j by omega] at a1
      exact a1
    · rw [if_neg h1]
      rw [show off + j / 3 * 3 + 2 = off + j by omega] at a2
      exact a2
theorem ints_at {w : World} {B : Nat} {A : Option Addr} {l : List Int} (r : RAt intF w B A l) : IntsAt w B A l.length (fun j => l.getD j 0) := fun hN => by
  obtain ⟨b, off, e, hb, hc⟩ := r.2 hN
  refine ⟨b, off, e, hb, fun j hj => ?_⟩
  have hget : l[j]? = some l[j] := List.getElem?_eq_getElem hj
  obtain ⟨v, hv, hat⟩ := hc _ _ hget
  cases hat
  have a0 := hv.c1
  rw [show (intF : Fm Int).n = 1 from rfl, Nat.mul_one] at a0
  show _ = some (Value.int .i64 (l.getD j 0))
  rw [List.getD_eq_getElem?_getD, hget]
  exact a0
theorem pairs_at {F : Fm (Int × Bool)} (hF : F.n = 2) (hv : ∀ {w B d vs}, F.At w B d vs → vs = [.int .i64 d.1, .bool d.2]) {w : World} {B : Nat} {A : Option Addr} {l : List (Int × Bool)} (r : RAt F w B A l) : HAt w B A l := fun hN => by
  obtain ⟨b, off, e, hb, hc⟩ := r.2 hN
  refine ⟨b, off, e, hb, fun j hj => ?_⟩
  have hget : l[j]? = some l[j] := List.getElem?_eq_getElem hj
  obtain ⟨v, hvv, hat⟩ := hc _ _ hget
  have ev := hv hat
  subst ev
  obtain ⟨a0, a1⟩ := hvv.c2
  rw [hF] at a0 a1
  have h1 : hT l j = l[j].1 := by unfold hT; rw [List.getD_eq_getElem?_getD, hget]; rfl
  have h2 : hW l j = l[j].2 := by unfold hW; rw [List.getD_eq_getElem?_getD, hget]; rfl
  rw [h1, h2]
  exact ⟨a0, a1⟩
theorem wants_at {w : World} {B : Nat} {A : Option Addr} {l : List DWant} (r : RAt fWant w B A l) : HAt w B A l := pairs_at (F := fWant) rfl (fun h => at_Want h) r
theorem holds_at {w : World} {B : Nat} {A : Option Addr} {l : List DHold} (r : RAt fHold w B A l) : HAt w B A l := pairs_at (F := fHold) rfl (fun h => at_Hold h) r

/-! tables -/
def toC (d : DCell) : CD := ⟨d.1, d.2.1.1, d.2.1.2.1, d.2.1.2.2, d.2.2.1, d.2.2.2⟩
def toT (l : List DCell) : TL := l.map toC
theorem toT_len (l : List DCell) : (toT l).length = l.length := by simp [toT]
theorem toT_cd {l : List DCell} {j : Nat} {d : DCell} (h : l[j]? = some d) : cd (toT l) j = toC d := by
  unfold cd toT
  rw [List.getD_eq_getElem?_getD, List.getElem?_map, h]
  rfl
theorem tab_at {w : World} {B : Nat} {A : Option Addr} {l : List DCell} (r : RAt fCell w B A l) : TAt w B A (toT l) := fun hN => by
  rw [toT_len] at hN
  obtain ⟨b, off, e, hb, hc⟩ := r.2 hN
  have hex : ∀ j : Nat, ∃ q : Pl, j < l.length → CCells w b (off + j * 6) (cd (toT l) j) q ∧ LsAt w B (cd (toT l) j) q := fun j => by
    by_cases hj : j < l.length
    · have hget : l[j]? = some l[j] := List.getElem?_eq_getElem hj
      obtain ⟨v, hv, hat⟩ := hc _ _ hget
      rw [toT_cd hget]
      generalize l[j] = d at hat
      obtain ⟨A4, c4, A5, c5, rfl, r4, r5⟩ := at_Cell hat
      rw [show fCell.n = 6 from rfl] at hv
      obtain ⟨a0, a1, a2, a3, a4, a5⟩ := hv.c6
      exact ⟨⟨A4, c4, A5, c5⟩, fun _ => ⟨⟨a0, a1, a2, a3, a4, a5⟩, holds_at r4, holds_at r5⟩⟩
    · exact ⟨⟨none, 0, none, 0⟩, fun h => absurd h hj⟩
  obtain ⟨q, hq⟩ := Classical.axiomOfChoice hex
  exact ⟨b, off, e, hb, q, fun j hj => hq j (by rw [toT_len] at hj; exact hj)⟩
theorem tot_le : ∀ (l : List DCell) (k : Nat), k ≤ l.length → totT (toT l) k ≤ psum fCell l k
  | _, 0, _ => Nat.zero_le _
  | l, k + 1, h => by
    have hget : l[k]? = some l[k] := List.getElem?_eq_getElem (by omega)
    rw [totT_succ, toT_cd hget, psum_succ hget]
    have h1 := tot_le l k (by omega)
    generalize l[k] = d
    have h2 := cnt_Cell d
    have h3 := cnt_Lock d.2.2
    have h4 := row_cnt fHold d.2.2.1
    have h5 := row_cnt fHold d.2.2.2
    show _ + (d.2.2.1.length + d.2.2.2.length) ≤ _
    omega
theorem tab_fit {l : List DCell} (h : (rowF fCell).cnt l ≤ 1048576) : TFit (toT l) := by
  rw [row_cnt] at h
  have := tot_le l l.length (Nat.le_refl _)
  unfold TFit
  rw [toT_len]
  omega
def progIn (K : Int) (p : List DAct) : Bool := progOk p.length (actF p) && p.all fun a => decide (a.2.1 < K)
def wantIn (K : Int) (a : DWant) : Bool := inB a.1 0 (K - 1)
def seenIn (K : Int) (s : DSeen) : Bool := inB s.1 0 (K - 1)
def putIn (K : Int) (p : DPut) : Bool := inB p.1 0 (K - 1) && inB p.2 (-1000000) 1000000
def pcIn (x : DWorker) : Bool := !decide (x.2.2.1 = 2) || (decide ((x.1.length : Int) ≤ x.2.1) || decide (x.2.2.2.1 < ((x.1.getD x.2.1.toNat []).length : Int)))
def wkHead (x : DWorker) : Bool := decide (0 ≤ x.2.1) && (decide (0 ≤ x.2.2.2.1) && inB x.2.2.1 0 5)
def wkOk (K : Int) (x : DWorker) : Bool := wkHead x && (x.1.all (progIn K) && ((wantsB x.2.2.2.2.2.1 && x.2.2.2.2.2.1.all (wantIn K)) && (x.2.2.2.2.2.2.1.all (seenIn K) && (x.2.2.2.2.2.2.2.1.all (putIn K) && pcIn x))))
def engHead (d : DEngine) : Bool := setupB d.1 && (tabOk (toT d.2.1) && (decide ((d.2.1.length : Int) = d.1.1) && (decide ((d.2.2.1.length : Int) ≤ 4) && (heatB d.2.2.2.1.length (fun j => d.2.2.2.1.getD j 0) && (decide (0 ≤ d.2.2.2.2.1) && inB d.2.2.2.2.2.1 (-1) ((d.2.2.1.length : Int) - 1))))))
def engOk (d : DEngine) : Bool := engHead d && d.2.2.1.all (wkOk d.1.1)
theorem all_noE {α : Type} {l : List α} {p : α → Bool} {k : Nat} {a : α} (h : l[k]? = some a) (hp : p a = false) : l.all p = false := by
  rw [Bool.eq_false_iff]
  intro ha
  rw [List.all_eq_true] at ha
  rw [ha a (List.mem_of_getElem? h)] at hp
  cases hp
theorem all_yesE {α : Type} {l : List α} {p : α → Bool} (h : ∀ j a, j < l.length → l[j]? = some a → p a = true) : l.all p = true := by
  rw [List.all_eq_true]
  intro a ha
  obtain ⟨j, hj⟩ := List.getElem?_of_mem ha
  exact h j a (get_lt hj) hj
/-- an ascending lock list lies below K when its last key does -/
theorem wants_last {K : Int} {l : HL} (hw : wantsB l = true) (hK : 0 < l.length → hT l (l.length - 1) < K) : l.all (wantIn K) = true := by
  have hok := wantsB_get hw
  have hup : ∀ m j, j + m < l.length → hT l j ≤ hT l (j + m) := fun m => by
    induction m with
    | zero => intro j _; exact Int.le_refl _
    | succ m ih =>
      intro j hj
      have h1 := ih j (by omega)
      have h2 := hok (j + m + 1) (by omega)
      simp only [okW, Bool.and_eq_true, Bool.not_eq_true', Bool.and_eq_false_iff, decide_eq_false_iff_not] at h2
      have h3 := h2.2
      rw [show j + m + 1 - 1 = j + m by omega] at h3
      rw [← Nat.add_assoc]
      omega
  refine all_yesE fun j a hj ha => ?_
  have h1 := hup (l.length - 1 - j) j (by omega)
  rw [show j + (l.length - 1 - j) = l.length - 1 by omega] at h1
  have h2 := hok j hj
  have h3 := hK (by omega)
  have e : hT l j = a.1 := by unfold hT; rw [List.getD_eq_getElem?_getD, ha]; rfl
  simp only [okW, inB, Bool.and_eq_true, decide_eq_true_eq] at h2
  rw [e] at h1 h2
  simp only [wantIn, inB, Bool.and_eq_true, decide_eq_true_eq]
  omega
theorem wants_not {K : Int} {l : HL} (hl : 0 < l.length) (hK : K ≤ hT l (l.length - 1)) : l.all (wantIn K) = false := by
  have hget : l[l.length - 1]? = some l[l.length - 1] := List.getElem?_eq_getElem (by omega)
  refine all_noE hget ?_
  have e : hT l (l.length - 1) = l[l.length - 1].1 := by unfold hT; rw [List.getD_eq_getElem?_getD, hget]; rfl
  rw [e] at hK
  simp only [wantIn, inB, Bool.and_eq_false_iff, decide_eq_false_iff_not]
  omega
/-- the last of the keys of a program is the greatest -/
theorem keysUp_pos' {M : Nat → Bool} : ∀ {m : Nat}, (∃ j, j < m ∧ M j = true) → 0 < (keysUp M m).length
  | 0, ⟨_, h, _⟩ => absurd h (by omega)
  | m + 1, ⟨j, hj, hM⟩ => by
    cases hm : M m with
    | true => rw [keysUp_yes hm]; simp
    | false =>
      rw [keysUp_no hm]
      refine keysUp_pos' ⟨j, ?_, hM⟩
      rcases Nat.lt_or_ge j m with h | h
      · exact h
      · obtain rfl : j = m := by omega
        rw [hM] at hm
        cases hm
theorem keysUp_last {M : Nat → Bool} : ∀ {m : Nat}, 0 < (keysUp M m).length → ∃ g : Nat, g < m ∧ M g = true ∧ (keysUp M m).getD ((keysUp M m).length - 1) 0 = (g : Int) ∧ ∀ j, j < m → M j = true → j ≤ g
  | 0, h => by simp [keysUp] at h
  | m + 1, h => by
    cases hm : M m with
    | true =>
      refine ⟨m, by omega, hm, ?_, fun j hj _ => by omega⟩
      rw [keysUp_yes hm]
      simp [List.getD_eq_getElem?_getD]
    | false =>
      rw [keysUp_no hm] at h ⊢
      obtain ⟨g, h1, h2, h3, h4⟩ := keysUp_last h
      refine ⟨g, by omega, h2, h3, fun j hj hM => ?_⟩
      rcases Nat.lt_or_ge j m with hlt | hge
      · exact h4 j hlt hM
      · obtain rfl : j = m := by omega
        rw [hM] at hm
        cases hm
theorem prog_keys {p : List DAct} (h : progOk p.length (actF p) = true) : ∃ g : Nat, g < 8 ∧ 0 < (keysOut (fun _ => true) p.length (actF p)).length ∧ (keysOut (fun _ => true) p.length (actF p)).getD ((keysOut (fun _ => true) p.length (actF p)).length - 1) 0 = (g : Int)
    ∧ (∀ K : Int, (g : Int) < K → progIn K p = true) ∧ ∀ K : Int, K ≤ (g : Int) → progIn K p = false := by
  have e : keysOut (fun _ => true) p.length (actF p) = keysUp (marksTo (fun _ => true) (actF p) p.length) 8 := by unfold keysOut; rw [if_pos h]
  rw [e]
  have hl := prog_len h
  have hmk : ∀ i, i < p.length → ∀ j : Nat, actF p (i * 3 + 1) = (j : Int) → marksTo (fun _ => true) (actF p) p.length j = true := fun i hi j hj => by
    simp only [marksTo, List.any_eq_true, List.mem_range]
    exact ⟨i, hi, by simp [hj]⟩
  have h0 := key_range h (show 0 < p.length by omega)
  obtain ⟨y, hy⟩ : ∃ y : Nat, actF p (0 * 3 + 1) = (y : Int) := ⟨(actF p (0 * 3 + 1)).toNat, by omega⟩
  have hpos := keysUp_pos' (M := marksTo (fun _ => true) (actF p) p.length) (m := 8) ⟨y, by omega, hmk 0 (by omega) y hy⟩
  obtain ⟨g, h1, h2, h3, h4⟩ := keysUp_last hpos
  refine ⟨g, h1, hpos, h3, fun K hK => ?_, fun K hK => ?_⟩
  · unfold progIn
    rw [h, Bool.true_and]
    refine all_yesE fun j a hj ha => ?_
    have hr := key_range h hj
    obtain ⟨z, hz⟩ : ∃ z : Nat, actF p (j * 3 + 1) = (z : Int) := ⟨(actF p (j * 3 + 1)).toNat, by omega⟩
    have h5 := h4 z (by omega) (hmk j hj z hz)
    rw [actF_key ha] at hz
    rw [decide_eq_true_eq]
    omega
  · simp only [marksTo, List.any_eq_true, List.mem_range, Bool.true_and, beq_iff_eq] at h2
    obtain ⟨i, hi, hig⟩ := h2
    have hget : p[i]? = some p[i] := List.getElem?_eq_getElem hi
    rw [actF_key hget] at hig
    unfold progIn
    rw [all_noE hget (by rw [decide_eq_false_iff_not]; omega), Bool.and_false]
end Go.Proofs.Ytkpkjcmoldkmmaa
