/- EngineOk of the program. -/
import Derived.Test.YtkpkjcmoldkmmaaGreatGf
import Derived.Test.YtkpkjcmoldkmmaaGreatTv
import Derived.Test.YtkpkjcmoldkmmaaGreatTw
import Derived.Test.YtkpkjcmoldkmmaaGreatVnu
import Derived.Test.YtkpkjcmoldkmmaaGreatVju
import Derived.Test.YtkpkjcmoldkmmaaGreatKeysu
import Derived.Test.YtkpkjcmoldkmmaaGreatSu
import Derived.Test.YtkpkjcmoldkmmaaGreatEa
import Derived.Test.YtkpkjcmoldkmmaaGreatRg
namespace Go.Proofs.YtkpkjcmoldkmmaaGreat
open Go.RowKit

/-! the acts of a program, one int behind the other -/
def actF (p : List DAct) (j : Nat) : Int := if j % 3 = 0 then (p.getD (j / 3) (0, 0, 0)).1 else if j % 3 = 1 then (p.getD (j / 3) (0, 0, 0)).2.1 else (p.getD (j / 3) (0, 0, 0)).2.2
theorem actF_key {p : List DAct} {j : Nat} {a : DAct} (h : p[j]? = some a) : actF p (j * 3 + 1) = a.2.1 := by
  unfold actF
  rw [if_neg (by omega), if_pos (by omega), show (j * 3 + 1) / 3 = j by omega, List.getD_eq_getElem?_getD, h]
  rfl
theorem acts_at {w : World} {B : Nat} {A : Option Addr} {p : List DAct} (r : RAt fAct w B A p) : IntsAt w B A (p.length * 3) (actF p) := fun hN => by
  obtain ⟨b, off, e, hb, hc⟩ := r.2 (by omega)
  refine ⟨b, off, e, hb, fun j hj => ?_⟩
  have hk : j / 3 < p.length := by omega
  have hget : p[j / 3]? = some p[j / 3] := List.getElem?_eq_getElem hk
  obtain ⟨v, hv, hat⟩ := hc _ _ hget
  have ev := at_Act hat
  subst ev
  obtain ⟨a0, a1, a2⟩ := hv.c3
  have hd : p.getD (j / 3) (0, 0, 0) = p[j / 3] := by rw [List.getD_eq_getElem?_getD, hget]; rfl
  unfold actF
  rw [hd]
  rw [show fAct.n = 3 from rfl] at a0 a1 a2
  by_cases h0 : j % 3 = 0
  · rw [if_pos h0]
    rw [show off + j / 3 * 3 = off + j by omega] at a0
    exact a0
  · rw [if_neg h0]
    by_cases h1 : j % 3 = 1
    · rw [if_pos h1]
      rw [show off + j / 3 * 3 + 1 = off + j by omega] at a1
      exact a1
    · rw [if_neg h1]
      rw [show off + j / 3 * 3 + 2 = off + j by omega] at a2
      exact a2
theorem ints_at {w : World} {B : Nat} {A : Option Addr} {l : List Int} (r : RAt intF w B A l) : IntsAt w B A l.length (fun j => l.getD j 0) := fun hN => by
  obtain ⟨b, off, e, hb, hc⟩ := r.2 hN
  refine ⟨b, off, e, hb, fun j hj => ?_⟩
  have hget : l[j]? = some l[j] := List.getElem?_eq_getElem hj
  obtain ⟨v, hv, hat⟩ := hc _ _ hget
  cases hat
  have a0 := hv.c1
  rw [show (intF : Fm Int).n = 1 from rfl, Nat.mul_one] at a0
  show _ = some (Value.int .i64 (l.getD j 0))
  rw [List.getD_eq_getElem?_getD, hget]
  exact a0
theorem pairs_at {F : Fm (Int × Bool)} (hF : F.n = 2) (hv : ∀ {w B d vs}, F.At w B d vs → vs = [.int .i64 d.1, .bool d.2]) {w : World} {B : Nat} {A : Option Addr} {l : List (Int × Bool)} (r : RAt F w B A l) : HAt w B A l := fun hN => by
  obtain ⟨b, off, e, hb, hc⟩ := r.2 hN
  refine ⟨b, off, e, hb, fun j hj => ?_⟩
  have hget : l[j]? = some l[j] := List.getElem?_eq_getElem hj
  obtain ⟨v, hvv, hat⟩ := hc _ _ hget
  have ev := hv hat
  subst ev
  obtain ⟨a0, a1⟩ := hvv.c2
  rw [hF] at a0 a1
  have h1 : hT l j = l[j].1 := by unfold hT; rw [List.getD_eq_getElem?_getD, hget]; rfl
  have h2 : hW l j = l[j].2 := by unfold hW; rw [List.getD_eq_getElem?_getD, hget]; rfl
  rw [h1, h2]
  exact ⟨a0, a1⟩
theorem wants_at {w : World} {B : Nat} {A : Option Addr} {l : List DWant} (r : RAt fWant w B A l) : HAt w B A l := pairs_at (F := fWant) rfl (fun h => at_Want h) r
theorem holds_at {w : World} {B : Nat} {A : Option Addr} {l : List DHold} (r : RAt fHold w B A l) : HAt w B A l := pairs_at (F := fHold) rfl (fun h => at_Hold h) r

/-! tables -/
def toC (d : DCell) : CD := ⟨d.1, d.2.1.1, d.2.1.2.1, d.2.1.2.2, d.2.2.1, d.2.2.2⟩
def toT (l : List DCell) : TL := l.map toC
theorem toT_len (l : List DCell) : (toT l).length = l.length := by simp [toT]
theorem toT_cd {l : List DCell} {j : Nat} {d : DCell} (h : l[j]? = some d) : cd (toT l) j = toC d := by
  unfold cd toT
  rw [List.getD_eq_getElem?_getD, List.getElem?_map, h]
  rfl
theorem tab_at {w : World} {B : Nat} {A : Option Addr} {l : List DCell} (r : RAt fCell w B A l) : TAt w B A (toT l) := fun hN => by
  rw [toT_len] at hN
  obtain ⟨b, off, e, hb, hc⟩ := r.2 hN
  have hex : ∀ j : Nat, ∃ q : Pl, j < l.length → CCells w b (off + j * 6) (cd (toT l) j) q ∧ LsAt w B (cd (toT l) j) q := fun j => by
    by_cases hj : j < l.length
    · have hget : l[j]? = some l[j] := List.getElem?_eq_getElem hj
      obtain ⟨v, hv, hat⟩ := hc _ _ hget
      rw [toT_cd hget]
      generalize l[j] = d at hat
      obtain ⟨A4, c4, A5, c5, rfl, r4, r5⟩ := at_Cell hat
      rw [show fCell.n = 6 from rfl] at hv
      obtain ⟨a0, a1, a2, a3, a4, a5⟩ := hv.c6
      exact ⟨⟨A4, c4, A5, c5⟩, fun _ => ⟨⟨a0, a1, a2, a3, a4, a5⟩, holds_at r4, holds_at r5⟩⟩
    · exact ⟨⟨none, 0, none, 0⟩, fun h => absurd h hj⟩
  obtain ⟨q, hq⟩ := Classical.axiomOfChoice hex
  exact ⟨b, off, e, hb, q, fun j hj => hq j (by rw [toT_len] at hj; exact hj)⟩
theorem tot_le : ∀ (l : List DCell) (k : Nat), k ≤ l.length → totT (toT l) k ≤ psum fCell l k
  | _, 0, _ => Nat.zero_le _
  | l, k + 1, h => by
    have hget : l[k]? = some l[k] := List.getElem?_eq_getElem (by omega)
    rw [totT_succ, toT_cd hget, psum_succ hget]
    have h1 := tot_le l k (by omega)
    generalize l[k] = d
    have h2 := cnt_Cell d
    have h3 := cnt_Lock d.2.2
    have h4 := row_cnt fHold d.2.2.1
    have h5 := row_cnt fHold d.2.2.2
    show _ + (d.2.2.1.length + d.2.2.2.length) ≤ _
    omega
theorem tab_fit {l : List DCell} (h : (rowF fCell).cnt l ≤ 1048576) : TFit (toT l) := by
  rw [row_cnt] at h
  have := tot_le l l.length (Nat.le_refl _)
  unfold TFit
  rw [toT_len]
  omega
theorem specTabD (A : Option Addr) (c B : Nat) (l : List DCell) (w : World) (hs : (rowF fCell).cnt l ≤ 1048576) (hB : B ≤ w.heap.size) (r : RAt fCell w B A l) :
    Calls Tryz.prog 77 #[.agg #[.slice A l.length c]] w fun e w' => e = .returned (.bool (tabOk (toT l))) ∧ Below w.heap.size w w' := by
  have h := specTabOk_any A c B (toT l) w (tab_fit hs) hB (tab_at r)
  rw [toT_len] at h
  exact h
theorem implTabD (A : Option Addr) (c B : Nat) (l : List DCell) (w : World) (hs : (rowF fCell).cnt l ≤ 1048576) (hB : B ≤ w.heap.size) (r : RAt fCell w B A l) :
    Calls Tryz.prog 87 #[.agg #[.slice A l.length c]] w fun e w' => e = .returned (.bool (tabOk (toT l))) ∧ Below w.heap.size w w' := by
  have h := implTabOk_any A c B (toT l) w (tab_fit hs) hB (tab_at r)
  rw [toT_len] at h
  exact h

/-! what EngineOk asks -/
def progIn (K : Int) (p : List DAct) : Bool := progOk p.length (actF p) && p.all fun a => decide (a.2.1 < K)
def wantIn (K : Int) (a : DWant) : Bool := inB a.1 0 (K - 1)
def seenIn (K : Int) (s : DSeen) : Bool := inB s.1 0 (K - 1)
def putIn (K : Int) (p : DPut) : Bool := inB p.1 0 (K - 1) && inB p.2 (-1000000) 1000000
def pcIn (x : DWorker) : Bool := !decide (x.2.2.1 = 2) || (decide ((x.1.length : Int) ≤ x.2.1) || decide (x.2.2.2.1 < ((x.1.getD x.2.1.toNat []).length : Int)))
def wkHead (x : DWorker) : Bool := decide (0 ≤ x.2.1) && (decide (0 ≤ x.2.2.2.1) && inB x.2.2.1 0 5)
def wkOk (K : Int) (x : DWorker) : Bool := wkHead x && (x.1.all (progIn K) && ((wantsB x.2.2.2.2.2.1 && x.2.2.2.2.2.1.all (wantIn K)) && (x.2.2.2.2.2.2.1.all (seenIn K) && (x.2.2.2.2.2.2.2.1.all (putIn K) && pcIn x))))
def engHead (d : DEngine) : Bool := setupB d.1 && (tabOk (toT d.2.1) && (decide ((d.2.1.length : Int) = d.1.1) && (decide ((d.2.2.1.length : Int) ≤ 4) && (heatB d.2.2.2.1.length (fun j => d.2.2.2.1.getD j 0) && (decide (0 ≤ d.2.2.2.2.1) && inB d.2.2.2.2.2.1 (-1) ((d.2.2.1.length : Int) - 1))))))
def engOk (d : DEngine) : Bool := engHead d && d.2.2.1.all (wkOk d.1.1)
theorem all_noE {α : Type} {l : List α} {p : α → Bool} {k : Nat} {a : α} (h : l[k]? = some a) (hp : p a = false) : l.all p = false := by
  rw [Bool.eq_false_iff]
  intro ha
  rw [List.all_eq_true] at ha
  rw [ha a (List.mem_of_getElem? h)] at hp
  cases hp
theorem all_yesE {α : Type} {l : List α} {p : α → Bool} (h : ∀ j a, j < l.length → l[j]? = some a → p a = true) : l.all p = true := by
  rw [List.all_eq_true]
  intro a ha
  obtain ⟨j, hj⟩ := List.getElem?_of_mem ha
  exact h j a (get_lt hj) hj
/-- an ascending lock list lies below K when its last key does -/
theorem wants_last {K : Int} {l : HL} (hw : wantsB l = true) (hK : 0 < l.length → hT l (l.length - 1) < K) : l.all (wantIn K) = true := by
  have hok := wantsB_get hw
  have hup : ∀ m j, j + m < l.length → hT l j ≤ hT l (j + m) := fun m => by
    induction m with
    | zero => intro j _; exact Int.le_refl _
    | succ m ih =>
      intro j hj
      have h1 := ih j (by omega)
      have h2 := hok (j + m + 1) (by omega)
      simp only [okW, Bool.and_eq_true, Bool.not_eq_true', Bool.and_eq_false_iff, decide_eq_false_iff_not] at h2
      have h3 := h2.2
      rw [show j + m + 1 - 1 = j + m by omega] at h3
      rw [← Nat.add_assoc]
      omega
  refine all_yesE fun j a hj ha => ?_
  have h1 := hup (l.length - 1 - j) j (by omega)
  rw [show j + (l.length - 1 - j) = l.length - 1 by omega] at h1
  have h2 := hok j hj
  have h3 := hK (by omega)
  have e : hT l j = a.1 := by unfold hT; rw [List.getD_eq_getElem?_getD, ha]; rfl
  simp only [okW, inB, Bool.and_eq_true, decide_eq_true_eq] at h2
  rw [e] at h1 h2
  simp only [wantIn, inB, Bool.and_eq_true, decide_eq_true_eq]
  omega
theorem wants_not {K : Int} {l : HL} (hl : 0 < l.length) (hK : K ≤ hT l (l.length - 1)) : l.all (wantIn K) = false := by
  have hget : l[l.length - 1]? = some l[l.length - 1] := List.getElem?_eq_getElem (by omega)
  refine all_noE hget ?_
  have e : hT l (l.length - 1) = l[l.length - 1].1 := by unfold hT; rw [List.getD_eq_getElem?_getD, hget]; rfl
  rw [e] at hK
  simp only [wantIn, inB, Bool.and_eq_false_iff, decide_eq_false_iff_not]
  omega
/-- the last of the keys of a program is the greatest -/
theorem keysUp_pos' {M : Nat → Bool} : ∀ {m : Nat}, (∃ j, j < m ∧ M j = true) → 0 < (keysUp M m).length
  | 0, ⟨_, h, _⟩ => absurd h (by omega)
  | m + 1, ⟨j, hj, hM⟩ => by
    cases hm : M m with
    | true => rw [keysUp_yes hm]; simp
    | false =>
      rw [keysUp_no hm]
      refine keysUp_pos' ⟨j, ?_, hM⟩
      rcases Nat.lt_or_ge j m with h | h
      · exact h
      · obtain rfl : j = m := by omega
        rw [hM] at hm
        cases hm
theorem keysUp_last {M : Nat → Bool} : ∀ {m : Nat}, 0 < (keysUp M m).length → ∃ g : Nat, g < m ∧ M g = true ∧ (keysUp M m).getD ((keysUp M m).length - 1) 0 = (g : Int) ∧ ∀ j, j < m → M j = true → j ≤ g
  | 0, h => by simp [keysUp] at h
  | m + 1, h => by
    cases hm : M m with
    | true =>
      refine ⟨m, by omega, hm, ?_, fun j hj _ => by omega⟩
      rw [keysUp_yes hm]
      simp [List.getD_eq_getElem?_getD]
    | false =>
      rw [keysUp_no hm] at h ⊢
      obtain ⟨g, h1, h2, h3, h4⟩ := keysUp_last h
      refine ⟨g, by omega, h2, h3, fun j hj hM => ?_⟩
      rcases Nat.lt_or_ge j m with hlt | hge
      · exact h4 j hlt hM
      · obtain rfl : j = m := by omega
        rw [hM] at hm
        cases hm
theorem prog_keys {p : List DAct} (h : progOk p.length (actF p) = true) : ∃ g : Nat, g < 8 ∧ 0 < (keysOut (fun _ => true) p.length (actF p)).length ∧ (keysOut (fun _ => true) p.length (actF p)).getD ((keysOut (fun _ => true) p.length (actF p)).length - 1) 0 = (g : Int)
    ∧ (∀ K : Int, (g : Int) < K → progIn K p = true) ∧ ∀ K : Int, K ≤ (g : Int) → progIn K p = false := by
  have e : keysOut (fun _ => true) p.length (actF p) = keysUp (marksTo (fun _ => true) (actF p) p.length) 8 := by unfold keysOut; rw [if_pos h]
  rw [e]
  have hl := prog_len h
  have hmk : ∀ i, i < p.length → ∀ j : Nat, actF p (i * 3 + 1) = (j : Int) → marksTo (fun _ => true) (actF p) p.length j = true := fun i hi j hj => by
    simp only [marksTo, List.any_eq_true, List.mem_range]
    exact ⟨i, hi, by simp [hj]⟩
  have h0 := key_range h (show 0 < p.length by omega)
  obtain ⟨y, hy⟩ : ∃ y : Nat, actF p (0 * 3 + 1) = (y : Int) := ⟨(actF p (0 * 3 + 1)).toNat, by omega⟩
  have hpos := keysUp_pos' (M := marksTo (fun _ => true) (actF p) p.length) (m := 8) ⟨y, by omega, hmk 0 (by omega) y hy⟩
  obtain ⟨g, h1, h2, h3, h4⟩ := keysUp_last hpos
  refine ⟨g, h1, hpos, h3, fun K hK => ?_, fun K hK => ?_⟩
  · unfold progIn
    rw [h, Bool.true_and]
    refine all_yesE fun j a hj ha => ?_
    have hr := key_range h hj
    obtain ⟨z, hz⟩ : ∃ z : Nat, actF p (j * 3 + 1) = (z : Int) := ⟨(actF p (j * 3 + 1)).toNat, by omega⟩
    have h5 := h4 z (by omega) (hmk j hj z hz)
    rw [actF_key ha] at hz
    rw [decide_eq_true_eq]
    omega
  · simp only [marksTo, List.any_eq_true, List.mem_range, Bool.true_and, beq_iff_eq] at h2
    obtain ⟨i, hi, hig⟩ := h2
    have hget : p[i]? = some p[i] := List.getElem?_eq_getElem hi
    rw [actF_key hget] at hig
    unfold progIn
    rw [all_noE hget (by rw [decide_eq_false_iff_not]; omega), Bool.and_false]
end Go.Proofs.YtkpkjcmoldkmmaaGreat

namespace Go.Proofs.YtkpkjcmoldkmmaaGreat
open Go.RowKit

set_option maxHeartbeats 1600000 in
set_option maxRecDepth 100000 in
theorem implProgsOk_any (A : Option Addr) (c B : Nat) (l : List (List DAct)) (K : Int) (w : World) (hB : B ≤ w.heap.size) (r : RAt (rowF fAct) w B A l) :
    Calls Tryz.prog 142 #[.slice A l.length c, .int .i64 K] w fun e w' => e = .returned (.bool (l.all (progIn K))) ∧ Below w.heap.size w w' := by
  have hmx := r.1
  unfold maxLen at hmx
  go_enter Tryz.func142, Tryz.ntmps142
  go_wp2
  go_loopw [11] (fun i wr => ∃ k : Nat, k ≤ l.length ∧ i = .int .i64 k ∧ Below w.heap.size w wr ∧ Hid (∀ j p, j < k → l[j]? = some p → progIn K p = true)) (fun i _ => l.length - (intOf i).toNat)
  case atStart => exact ⟨0, Nat.zero_le _, rfl, Below.refl _ _, Lib.hid (fun j p hj => absurd hj (by omega))⟩
  case round =>
    obtain ⟨k, hk, rfl, hb, HA⟩ := hrel
    by_cases hkn : k < l.length
    · obtain ⟨b, off, rfl, hbB, hc⟩ := r.2 (by omega)
      have hkz : (k : Int) < l.length := by omega
      have hget : l[k]? = some l[k] := List.getElem?_eq_getElem hkn
      obtain ⟨v, hv0, hat0⟩ := hc k _ hget
      have hsz := hb.size
      have hv := hv0.below hb (show b < w.heap.size by omega)
      have hat := (rowF fAct).at_same hat0 (.of hb hB)
      rw [show (rowF fAct).n = 1 from rfl] at hv
      generalize l[k] = p at hget hat hv
      obtain ⟨A0, c0, rfl, r0⟩ := hat
      have a0 := hv.c1
      rw [Nat.mul_one] at a0
      have hpm := r0.1
      unfold maxLen at hpm
      have hBw : B ≤ wr.heap.size := by omega
      have HG := Lib.hid hget
      clear hc hv0 hat0 hv hget
      go_wp2_with fail
      refine (implProgOk_any A0 p.length c0 (actF p) _ (acts_at (r0.up hBw))).mono ?_; rintro e w2 ⟨rfl, hb2⟩
      have r2 := r0.keep hb2 hBw
      have hb3 := hb.trans (hb2.mono hsz)
      clear r0 hb2 a0 hb
      cases hp : progOk p.length (actF p) with
      | false =>
        have HF := Lib.hid (all_noE HG.out (show progIn K p = false by unfold progIn; rw [hp, Bool.false_and]))
        go_wp2
        go_ret
        exact ⟨ret_bool HF.out.symm, hb3⟩
      | true =>
        have HP := Lib.hid hp
        clear hp
        have hs3 := hb3.size
        have hB2 : B ≤ w2.heap.size := by omega
        go_wp2
        go_loopw [20] (fun i wr => ∃ j : Nat, j ≤ p.length ∧ i = .int .i64 j ∧ Below w2.heap.size w2 wr ∧ Hid (∀ q a, q < j → p[q]? = some a → a.2.1 < K)) (fun i _ => p.length - (intOf i).toNat)
        case atStart => exact ⟨0, Nat.zero_le _, rfl, Below.refl _ _, Lib.hid (fun q a hq => absurd hq (by omega))⟩
        case round =>
          obtain ⟨j, hj, rfl, hb, HJ⟩ := hrel
          by_cases hjn : j < p.length
          · obtain ⟨b2, off2, rfl, hbB2, hc2⟩ := r2.2 (by omega)
            have hjz : (j : Int) < p.length := by omega
            have hget : p[j]? = some p[j] := List.getElem?_eq_getElem hjn
            obtain ⟨v, hv0, hat0⟩ := hc2 j _ hget
            have hv := hv0.below hb (show b2 < w2.heap.size by omega)
            generalize p[j] = a at hget hat0
            have ev := at_Act hat0
            subst ev
            rw [show fAct.n = 3 from rfl] at hv
            obtain ⟨a0, a1, a2⟩ := hv.c3
            have hsz := hb.size
            clear hc2 hv0 hat0 hv
            by_cases hK : K ≤ a.2.1
            · have HF := Lib.hid (all_noE HG.out (show progIn K p = false by
                unfold progIn
                rw [all_noE hget (by rw [decide_eq_false_iff_not]; omega), Bool.and_false]))
              clear hget
              go_wp2
              go_ret
              exact ⟨ret_bool HF.out.symm, hb3.trans ((hb.alloc hsz _).mono hs3)⟩
            · have HJ := Lib.hid (show ∀ q a, q < j + 1 → p[q]? = some a → a.2.1 < K from fun q x hq hx => by
                by_cases e : q = j
                · subst e
                  rw [hget] at hx
                  cases hx
                  omega
                · exact HJ.out q x (by omega) hx)
              clear hget
              go_wp2
              exact ⟨⟨j + 1, by omega, by go_num, hb.alloc hsz _, HJ⟩, by simp [intOf]; omega⟩
          · obtain rfl : j = p.length := by omega
            have HA := Lib.hid (show ∀ j q, j < k + 1 → l[j]? = some q → progIn K q = true from fun j q hj hq => by
              by_cases e : j = k
              · subst e
                rw [HG.out] at hq
                cases hq
                unfold progIn
                rw [HP.out, Bool.true_and]
                exact all_yesE (fun i a hi ha => by rw [decide_eq_true_eq]; exact HJ.out i a hi ha)
              · exact HA.out j q (by omega) hq)
            go_wp2
            exact ⟨⟨k + 1, by omega, by go_num, hb3.trans (hb.mono hs3), HA⟩, by simp [intOf]; omega⟩
    · obtain rfl : k = l.length := by omega
      have HT := Lib.hid (all_yesE HA.out)
      go_wp2
      go_ret
      exact ⟨ret_bool HT.out.symm, hb⟩
theorem inK (k K : Int) : inB k 0 (K - 1) = (decide (0 ≤ k) && decide (k < K)) := by
  unfold inB
  rw [show decide (k ≤ K - 1) = decide (k < K) by rw [decide_eq_decide]; omega]
theorem hasKey_any (k K : Int) (P : Nat) (w : World) (hc : w.cell? ⟨P, 0, none⟩ = some (.int .i64 K)) (_hP : P < w.heap.size) :
    Calls Tryz.prog 190 #[.int .i64 k, .pointer (some ⟨P, 0, none⟩)] w fun e w' => e = .returned (.bool (inB k 0 (K - 1))) ∧ w = w' := by
  rw [inK]
  by_cases h0 : 0 ≤ k
  · by_cases h1 : k < K
    · go_enter Tryz.func190, Tryz.ntmps190
      go_wp2
      go_ret
      exact ⟨ret_bool (by simp [h0, h1]), rfl⟩
    · go_enter Tryz.func190, Tryz.ntmps190
      go_wp2
      go_ret
      exact ⟨ret_bool (by simp [h1]), rfl⟩
  · go_enter Tryz.func190, Tryz.ntmps190
    go_wp2
    go_ret
    exact ⟨ret_bool (by simp; omega), rfl⟩
def attB (K : Int) (x : DWorker) : Bool := x.2.2.2.2.2.1.all (wantIn K) && (x.2.2.2.2.2.2.1.all (seenIn K) && (x.2.2.2.2.2.2.2.1.all (putIn K) && wantsB x.2.2.2.2.2.1))
theorem valueOkE_any (v : Int) (w : World) : Calls Tryz.prog 185 #[.int .i64 v] w fun e w' => e = .returned (.bool (inB v (-1000000) 1000000)) ∧ w = w' := by
  by_cases h0 : -1000000 ≤ v
  · by_cases h1 : v ≤ 1000000
    · go_enter Tryz.func185, Tryz.ntmps185
      go_wp2
      go_ret
      exact ⟨ret_bool (by simp [inB, h0, h1]), rfl⟩
    · go_enter Tryz.func185, Tryz.ntmps185
      go_wp2
      go_ret
      exact ⟨ret_bool (by simp [inB, h1]), rfl⟩
  · go_enter Tryz.func185, Tryz.ntmps185
    go_wp2
    go_ret
    exact ⟨ret_bool (by simp [inB]; omega), rfl⟩
set_option maxHeartbeats 6400000 in
set_option maxRecDepth 100000 in
theorem implAttemptOk_any (x : DWorker) (K : Int) (B : Nat) (vs : List Value) (w : World) (hs : fWorker.cnt x ≤ 1048576) (hB : B ≤ w.heap.size) (h : fWorker.At w B x vs) :
    Calls Tryz.prog 143 #[.agg vs.toArray, .int .i64 K] w fun e w' => e = .returned (.bool (attB K x)) ∧ Below w.heap.size w w' := by
  obtain ⟨A0, c0, A5, c5, A6, c6, A7, c7, A8, c8, rfl, r0, r5, r6, r7, r8⟩ := at_Worker h
  rw [cnt_Worker, row_cnt fWant] at hs
  have hm5 := r5.1
  have hm6 := r6.1
  have hm7 := r7.1
  unfold maxLen at hm5 hm6 hm7
  clear h r0 r8
  go_enter Tryz.func143, Tryz.ntmps143
  go_wp2_with fail
  have b := ((Below.refl w.heap.size w).alloc (Nat.le_refl _) (.cells #[.slice A0 (x.1).length c0, .int .i64 x.2.1, .int .i64 x.2.2.1, .int .i64 x.2.2.2.1, .int .i64 x.2.2.2.2.1, .slice A5 (x.2.2.2.2.2.1).length c5, .slice A6 (x.2.2.2.2.2.2.1).length c6, .slice A7 (x.2.2.2.2.2.2.2.1).length c7, .slice A8 (x.2.2.2.2.2.2.2.2).length c8] 73)).alloc (by simp) (.cells #[.int .i64 K] 3)
  have X := (Bx.new (w := w) (c := #[.slice A0 (x.1).length c0, .int .i64 x.2.1, .int .i64 x.2.2.1, .int .i64 x.2.2.2.1, .int .i64 x.2.2.2.2.1, .slice A5 (x.2.2.2.2.2.1).length c5, .slice A6 (x.2.2.2.2.2.2.1).length c6, .slice A7 (x.2.2.2.2.2.2.2.1).length c7, .slice A8 (x.2.2.2.2.2.2.2.2).length c8]) (t := 73) rfl).alloc (.cells #[.int .i64 K] 3)
  have P := Bx.new (w := w.alloc (.cells #[.slice A0 (x.1).length c0, .int .i64 x.2.1, .int .i64 x.2.2.1, .int .i64 x.2.2.2.1, .int .i64 x.2.2.2.2.1, .slice A5 (x.2.2.2.2.2.1).length c5, .slice A6 (x.2.2.2.2.2.2.1).length c6, .slice A7 (x.2.2.2.2.2.2.2.1).length c7, .slice A8 (x.2.2.2.2.2.2.2.2).length c8] 73)) (b := w.heap.size + 1) (c := #[.int .i64 K]) (t := 3) (by simp)
  generalize (w.alloc (.cells #[.slice A0 (x.1).length c0, .int .i64 x.2.1, .int .i64 x.2.2.1, .int .i64 x.2.2.2.1, .int .i64 x.2.2.2.2.1, .slice A5 (x.2.2.2.2.2.1).length c5, .slice A6 (x.2.2.2.2.2.2.1).length c6, .slice A7 (x.2.2.2.2.2.2.2.1).length c7, .slice A8 (x.2.2.2.2.2.2.2.2).length c8] 73)).alloc (.cells #[.int .i64 K] 3) = w1 at b X P ⊢
  obtain ⟨⟨x0, x1, x2, x3, x4, x5, x6, x7, x8⟩, _⟩ := X.c9
  have Xl := X.lt
  go_wp2_with fail
  clear x0 x1 x2 x3 x4 x5 x6 x7 x8 Xl
  go_loopw [16] (fun i wr => ∃ k : Nat, k ≤ x.2.2.2.2.2.1.length ∧ i = .int .i64 k ∧ Below w.heap.size w wr ∧ Bx wr w.heap.size [.slice A0 (x.1).length c0, .int .i64 x.2.1, .int .i64 x.2.2.1, .int .i64 x.2.2.2.1, .int .i64 x.2.2.2.2.1, .slice A5 (x.2.2.2.2.2.1).length c5, .slice A6 (x.2.2.2.2.2.2.1).length c6, .slice A7 (x.2.2.2.2.2.2.2.1).length c7, .slice A8 (x.2.2.2.2.2.2.2.2).length c8] ∧ Bx wr (w.heap.size + 1) [.int .i64 K] ∧ Hid (∀ j a, j < k → x.2.2.2.2.2.1[j]? = some a → wantIn K a = true)) (fun i _ => x.2.2.2.2.2.1.length - (intOf i).toNat)
  case atStart => exact ⟨0, Nat.zero_le _, rfl, b, X, P, Lib.hid (fun j a hj => absurd hj (by omega))⟩
  case round =>
    clear b X P
    obtain ⟨k, hk, rfl, b, X, P, HA0⟩ := hrel
    obtain ⟨⟨x0, x1, x2, x3, x4, x5, x6, x7, x8⟩, _⟩ := X.c9
    have Xl := X.lt
    have p0 := P.cell 0 _ rfl
    have Pl := P.lt
    have hsz := b.size
    by_cases hkn : k < x.2.2.2.2.2.1.length
    · obtain ⟨bb, off, eA, hbB, hc⟩ := r5.2 (by omega)
      subst eA
      have hkz : (k : Int) < x.2.2.2.2.2.1.length := by omega
      have hget : x.2.2.2.2.2.1[k]? = some x.2.2.2.2.2.1[k] := List.getElem?_eq_getElem hkn
      obtain ⟨v, hv0, hat0⟩ := hc k _ hget
      have hv := hv0.below b (show bb < w.heap.size by omega)
      generalize x.2.2.2.2.2.1[k] = a at hget hat0
      have ev := at_Want hat0
      subst ev
      rw [show fWant.n = 2 from rfl] at hv
      obtain ⟨a0, a1⟩ := hv.c2
      have HG := Lib.hid hget
      clear hc hv0 hat0 hv
      have b2 := b.alloc hsz (.cells #[.int .i64 a.1, .bool a.2] 139)
      have X2 := X.alloc (.cells #[.int .i64 a.1, .bool a.2] 139)
      have P2 := P.alloc (.cells #[.int .i64 a.1, .bool a.2] 139)
      have p2 := P2.cell 0 _ rfl
      have Pl2 := P2.lt
      clear b X P hget
      cases hq0 : inB a.1 0 (K - 1) with
      | false =>
        have HF := Lib.hid (show attB K x = false by
          have hq : wantIn K a = false := by unfold wantIn; simp [hq0]
          unfold attB
          rw [all_noE HG.out hq]
          simp)
        go_wp2_with fail
        refine (hasKey_any a.1 K _ _ p2 Pl2).mono ?_; rintro o w' ⟨rfl, rfl⟩
        rw [hq0]
        clear p0 p2
        go_wp2
        go_ret
        exact ⟨ret_bool HF.out.symm, b2⟩
      | true =>
        have HA0 := Lib.hid (show ∀ j u, j < k + 1 → x.2.2.2.2.2.1[j]? = some u → wantIn K u = true from fun j u hj hu => by
          by_cases e : j = k
          · subst e
            rw [HG.out] at hu
            cases hu
            exact hq0
          · exact HA0.out j u (by omega) hu)
        go_wp2_with fail
        refine (hasKey_any a.1 K _ _ p2 Pl2).mono ?_; rintro o w' ⟨rfl, rfl⟩
        rw [hq0]
        clear p0 p2
        go_wp2
        exact ⟨⟨k + 1, by omega, by go_num, b2, X2, P2, HA0⟩, by simp [intOf]; omega⟩
    · obtain rfl : k = x.2.2.2.2.2.1.length := by omega
      have HT0 := Lib.hid (all_yesE HA0.out)
      clear HA0
      go_wp2_with fail
      clear x0 x1 x2 x3 x4 x5 x6 x7 x8 Xl p0 Pl hkn hk
      go_loopw [29] (fun i wr => ∃ k : Nat, k ≤ x.2.2.2.2.2.2.1.length ∧ i = .int .i64 k ∧ Below w.heap.size w wr ∧ Bx wr w.heap.size [.slice A0 (x.1).length c0, .int .i64 x.2.1, .int .i64 x.2.2.1, .int .i64 x.2.2.2.1, .int .i64 x.2.2.2.2.1, .slice A5 (x.2.2.2.2.2.1).length c5, .slice A6 (x.2.2.2.2.2.2.1).length c6, .slice A7 (x.2.2.2.2.2.2.2.1).length c7, .slice A8 (x.2.2.2.2.2.2.2.2).length c8] ∧ Bx wr (w.heap.size + 1) [.int .i64 K] ∧ Hid (∀ j a, j < k → x.2.2.2.2.2.2.1[j]? = some a → seenIn K a = true)) (fun i _ => x.2.2.2.2.2.2.1.length - (intOf i).toNat)
      case atStart => exact ⟨0, Nat.zero_le _, rfl, b, X, P, Lib.hid (fun j a hj => absurd hj (by omega))⟩
      case round =>
        clear b X P
        obtain ⟨k, hk, rfl, b, X, P, HA1⟩ := hrel
        obtain ⟨⟨x0, x1, x2, x3, x4, x5, x6, x7, x8⟩, _⟩ := X.c9
        have Xl := X.lt
        have p0 := P.cell 0 _ rfl
        have Pl := P.lt
        have hsz := b.size
        by_cases hkn : k < x.2.2.2.2.2.2.1.length
        · obtain ⟨bb, off, eA, hbB, hc⟩ := r6.2 (by omega)
          subst eA
          have hkz : (k : Int) < x.2.2.2.2.2.2.1.length := by omega
          have hget : x.2.2.2.2.2.2.1[k]? = some x.2.2.2.2.2.2.1[k] := List.getElem?_eq_getElem hkn
          obtain ⟨v, hv0, hat0⟩ := hc k _ hget
          have hv := hv0.below b (show bb < w.heap.size by omega)
          generalize x.2.2.2.2.2.2.1[k] = a at hget hat0
          have ev := at_Seen hat0
          subst ev
          rw [show fSeen.n = 5 from rfl] at hv
          obtain ⟨a0, a1, a2, a3, a4⟩ := hv.c5
          have HG := Lib.hid hget
          clear hc hv0 hat0 hv
          have b2 := b.alloc hsz (.cells #[.int .i64 a.1, .int .i64 a.2.1.1, .int .i64 a.2.1.2.1, .bool a.2.1.2.2, .int .i64 a.2.2] 141)
          have X2 := X.alloc (.cells #[.int .i64 a.1, .int .i64 a.2.1.1, .int .i64 a.2.1.2.1, .bool a.2.1.2.2, .int .i64 a.2.2] 141)
          have P2 := P.alloc (.cells #[.int .i64 a.1, .int .i64 a.2.1.1, .int .i64 a.2.1.2.1, .bool a.2.1.2.2, .int .i64 a.2.2] 141)
          have p2 := P2.cell 0 _ rfl
          have Pl2 := P2.lt
          clear b X P hget
          cases hq0 : inB a.1 0 (K - 1) with
          | false =>
            have HF := Lib.hid (show attB K x = false by
              have hq : seenIn K a = false := by unfold seenIn; simp [hq0]
              unfold attB
              rw [all_noE HG.out hq]
              simp)
            go_wp2_with fail
            refine (hasKey_any a.1 K _ _ p2 Pl2).mono ?_; rintro o w' ⟨rfl, rfl⟩
            rw [hq0]
            clear p0 p2
            go_wp2
            go_ret
            exact ⟨ret_bool HF.out.symm, b2⟩
          | true =>
            have HA1 := Lib.hid (show ∀ j u, j < k + 1 → x.2.2.2.2.2.2.1[j]? = some u → seenIn K u = true from fun j u hj hu => by
              by_cases e : j = k
              · subst e
                rw [HG.out] at hu
                cases hu
                exact hq0
              · exact HA1.out j u (by omega) hu)
            go_wp2_with fail
            refine (hasKey_any a.1 K _ _ p2 Pl2).mono ?_; rintro o w' ⟨rfl, rfl⟩
            rw [hq0]
            clear p0 p2
            go_wp2
            exact ⟨⟨k + 1, by omega, by go_num, b2, X2, P2, HA1⟩, by simp [intOf]; omega⟩
        · obtain rfl : k = x.2.2.2.2.2.2.1.length := by omega
          have HT1 := Lib.hid (all_yesE HA1.out)
          clear HA1
          go_wp2_with fail
          clear x0 x1 x2 x3 x4 x5 x6 x7 x8 Xl p0 Pl hkn hk
          go_loopw [42] (fun i wr => ∃ k : Nat, k ≤ x.2.2.2.2.2.2.2.1.length ∧ i = .int .i64 k ∧ Below w.heap.size w wr ∧ Bx wr w.heap.size [.slice A0 (x.1).length c0, .int .i64 x.2.1, .int .i64 x.2.2.1, .int .i64 x.2.2.2.1, .int .i64 x.2.2.2.2.1, .slice A5 (x.2.2.2.2.2.1).length c5, .slice A6 (x.2.2.2.2.2.2.1).length c6, .slice A7 (x.2.2.2.2.2.2.2.1).length c7, .slice A8 (x.2.2.2.2.2.2.2.2).length c8] ∧ Bx wr (w.heap.size + 1) [.int .i64 K] ∧ Hid (∀ j a, j < k → x.2.2.2.2.2.2.2.1[j]? = some a → putIn K a = true)) (fun i _ => x.2.2.2.2.2.2.2.1.length - (intOf i).toNat)
          case atStart => exact ⟨0, Nat.zero_le _, rfl, b, X, P, Lib.hid (fun j a hj => absurd hj (by omega))⟩
          case round =>
            clear b X P
            obtain ⟨k, hk, rfl, b, X, P, HA2⟩ := hrel
            obtain ⟨⟨x0, x1, x2, x3, x4, x5, x6, x7, x8⟩, _⟩ := X.c9
            have Xl := X.lt
            have p0 := P.cell 0 _ rfl
            have Pl := P.lt
            have hsz := b.size
            by_cases hkn : k < x.2.2.2.2.2.2.2.1.length
            · obtain ⟨bb, off, eA, hbB, hc⟩ := r7.2 (by omega)
              subst eA
              have hkz : (k : Int) < x.2.2.2.2.2.2.2.1.length := by omega
              have hget : x.2.2.2.2.2.2.2.1[k]? = some x.2.2.2.2.2.2.2.1[k] := List.getElem?_eq_getElem hkn
              obtain ⟨v, hv0, hat0⟩ := hc k _ hget
              have hv := hv0.below b (show bb < w.heap.size by omega)
              generalize x.2.2.2.2.2.2.2.1[k] = a at hget hat0
              have ev := at_Put hat0
              subst ev
              rw [show fPut.n = 2 from rfl] at hv
              obtain ⟨a0, a1⟩ := hv.c2
              have HG := Lib.hid hget
              clear hc hv0 hat0 hv
              have b2 := b.alloc hsz (.cells #[.int .i64 a.1, .int .i64 a.2] 75)
              have X2 := X.alloc (.cells #[.int .i64 a.1, .int .i64 a.2] 75)
              have P2 := P.alloc (.cells #[.int .i64 a.1, .int .i64 a.2] 75)
              have p2 := P2.cell 0 _ rfl
              have Pl2 := P2.lt
              clear b X P hget
              cases hq0 : inB a.1 0 (K - 1) with
              | false =>
                have HF := Lib.hid (show attB K x = false by
                  have hq : putIn K a = false := by unfold putIn; simp [hq0]
                  unfold attB
                  rw [all_noE HG.out hq]
                  simp)
                go_wp2_with fail
                refine (hasKey_any a.1 K _ _ p2 Pl2).mono ?_; rintro o w' ⟨rfl, rfl⟩
                rw [hq0]
                clear p0 p2
                go_wp2
                go_ret
                exact ⟨ret_bool HF.out.symm, b2⟩
              | true =>
                cases hq1 : inB a.2 (-1000000) 1000000 with
                | false =>
                  have HF := Lib.hid (show attB K x = false by
                    have hq : putIn K a = false := by unfold putIn; simp [hq1]
                    unfold attB
                    rw [all_noE HG.out hq]
                    simp)
                  go_wp2_with fail
                  refine (hasKey_any a.1 K _ _ p2 Pl2).mono ?_; rintro o w' ⟨rfl, rfl⟩
                  rw [hq0]
                  clear p0 p2
                  go_wp2_with fail
                  refine (valueOkE_any a.2 _).mono ?_; rintro o w' ⟨rfl, rfl⟩
                  rw [hq1]
                  go_wp2
                  go_ret
                  exact ⟨ret_bool HF.out.symm, b2⟩
                | true =>
                  have HA2 := Lib.hid (show ∀ j u, j < k + 1 → x.2.2.2.2.2.2.2.1[j]? = some u → putIn K u = true from fun j u hj hu => by
                    by_cases e : j = k
                    · subst e
                      rw [HG.out] at hu
                      cases hu
                      unfold putIn
                      rw [hq0, hq1]
                      rfl
                    · exact HA2.out j u (by omega) hu)
                  go_wp2_with fail
                  refine (hasKey_any a.1 K _ _ p2 Pl2).mono ?_; rintro o w' ⟨rfl, rfl⟩
                  rw [hq0]
                  clear p0 p2
                  go_wp2_with fail
                  refine (valueOkE_any a.2 _).mono ?_; rintro o w' ⟨rfl, rfl⟩
                  rw [hq1]
                  go_wp2
                  exact ⟨⟨k + 1, by omega, by go_num, b2, X2, P2, HA2⟩, by simp [intOf]; omega⟩
            · obtain rfl : k = x.2.2.2.2.2.2.2.1.length := by omega
              have HT2 := Lib.hid (all_yesE HA2.out)
              clear HA2
              go_wp2_with fail
              clear x0 x1 x2 x3 x4 x5 x6 x7 x8 Xl p0 Pl hkn hk
              have hw : wantsB x.2.2.2.2.2.1 = attB K x := by
                unfold attB
                rw [HT0.out, HT1.out, HT2.out]
                simp
              refine (implWantsOk_any A5 c5 B x.2.2.2.2.2.1 _ (by omega) (wants_at (r5.keep b hB))).mono ?_; rintro o w2 ⟨rfl, hb⟩
              rw [hw]
              go_wp2
              go_ret
              exact ⟨rfl, b.trans (hb.mono hsz)⟩
end Go.Proofs.YtkpkjcmoldkmmaaGreat

namespace Go.Proofs.YtkpkjcmoldkmmaaGreat
open Go.RowKit

theorem clsE (w1 : World) : ∃ (I : Type) (F : I → World), Nonempty I ∧ (∃ n, w1.drew = F n) ∧ (∀ n, Below w1.heap.size w1 (F n)) ∧ ∀ n w2, Below (F n).heap.size (F n) w2 → ∃ m, w2 = F m := by
  obtain ⟨I, F, hI, h0, hF, hi⟩ := cls (S := fun W => Below w1.heap.size w1 W) (Below.refl w1.heap.size w1).drew
  exact ⟨I, F, hI, h0, hF, fun n w2 hb => hi w2 ((hF n).trans (hb.mono (hF n).size))⟩
theorem wk_att (K : Int) (x : DWorker) : wkOk K x = (wkHead x && (x.1.all (progIn K) && (attB K x && pcIn x))) := by
  unfold wkOk attB
  cases wkHead x <;> cases x.1.all (progIn K) <;> cases wantsB x.2.2.2.2.2.1 <;> cases x.2.2.2.2.2.1.all (wantIn K) <;> cases x.2.2.2.2.2.2.1.all (seenIn K) <;> cases x.2.2.2.2.2.2.2.1.all (putIn K) <;> simp
theorem head_no {x : DWorker} (h : x.2.1 < 0 ∨ x.2.2.2.1 < 0 ∨ x.2.2.1 < 0 ∨ 5 < x.2.2.1) : wkHead x = false := by
  unfold wkHead inB
  rcases h with h | h | h | h
  · rw [decide_eq_false (show ¬ 0 ≤ x.2.1 by omega), Bool.false_and]
  · rw [decide_eq_false (show ¬ 0 ≤ x.2.2.2.1 by omega), Bool.false_and, Bool.and_false]
  · rw [decide_eq_false (show ¬ 0 ≤ x.2.2.1 by omega), Bool.false_and, Bool.and_false, Bool.and_false]
  · rw [decide_eq_false (show ¬ x.2.2.1 ≤ 5 by omega), Bool.and_false, Bool.and_false, Bool.and_false]
theorem head_yes {x : DWorker} (h1 : ¬ x.2.1 < 0) (h2 : ¬ x.2.2.2.1 < 0) (h3 : ¬ x.2.2.1 < 0) (h4 : ¬ 5 < x.2.2.1) : wkHead x = true := by
  unfold wkHead inB
  rw [decide_eq_true (show 0 ≤ x.2.1 by omega), decide_eq_true (show 0 ≤ x.2.2.2.1 by omega), decide_eq_true (show 0 ≤ x.2.2.1 by omega), decide_eq_true (show x.2.2.1 ≤ 5 by omega)]
  rfl
set_option maxHeartbeats 6400000 in
set_option maxRecDepth 100000 in
theorem implWorkerOk_any (x : DWorker) (K : Int) (B : Nat) (vs : List Value) (w : World) (hs : fWorker.cnt x ≤ 1048576) (hB : B ≤ w.heap.size) (h : fWorker.At w B x vs) :
    Calls Tryz.prog 89 #[.agg vs.toArray, .int .i64 K] w fun e w' => e = .returned (.bool (wkOk K x)) ∧ Below w.heap.size w w' := by
  rw [wk_att]
  obtain ⟨A0, c0, A5, c5, A6, c6, A7, c7, A8, c8, rfl, r0, r5, r6, r7, r8⟩ := at_Worker h
  have HVS := Lib.hid h
  clear h
  by_cases hq : x.2.1 < 0
  · rw [head_no (.inl hq), Bool.false_and]
    go_enter Tryz.func89, Tryz.ntmps89
    go_wp2_with fail
    have b := (Below.refl w.heap.size w).alloc (Nat.le_refl _) (.cells #[.slice A0 (x.1).length c0, .int .i64 x.2.1, .int .i64 x.2.2.1, .int .i64 x.2.2.2.1, .int .i64 x.2.2.2.2.1, .slice A5 (x.2.2.2.2.2.1).length c5, .slice A6 (x.2.2.2.2.2.2.1).length c6, .slice A7 (x.2.2.2.2.2.2.2.1).length c7, .slice A8 (x.2.2.2.2.2.2.2.2).length c8] 73)
    have X := Bx.new (w := w) (c := #[.slice A0 (x.1).length c0, .int .i64 x.2.1, .int .i64 x.2.2.1, .int .i64 x.2.2.2.1, .int .i64 x.2.2.2.2.1, .slice A5 (x.2.2.2.2.2.1).length c5, .slice A6 (x.2.2.2.2.2.2.1).length c6, .slice A7 (x.2.2.2.2.2.2.2.1).length c7, .slice A8 (x.2.2.2.2.2.2.2.2).length c8]) (t := 73) rfl
    generalize w.alloc (.cells #[.slice A0 (x.1).length c0, .int .i64 x.2.1, .int .i64 x.2.2.1, .int .i64 x.2.2.2.1, .int .i64 x.2.2.2.2.1, .slice A5 (x.2.2.2.2.2.1).length c5, .slice A6 (x.2.2.2.2.2.2.1).length c6, .slice A7 (x.2.2.2.2.2.2.2.1).length c7, .slice A8 (x.2.2.2.2.2.2.2.2).length c8] 73) = w1 at b X ⊢
    obtain ⟨⟨x0, x1, x2, x3, x4, x5, x6, x7, x8⟩, _⟩ := X.c9
    have Xl := X.lt
    go_wp2
    go_ret
    exact ⟨rfl, b⟩
  have hq0 := hq
  clear hq
  by_cases hq : x.2.2.2.1 < 0
  · rw [head_no (.inr (.inl hq)), Bool.false_and]
    go_enter Tryz.func89, Tryz.ntmps89
    go_wp2_with fail
    have b := (Below.refl w.heap.size w).alloc (Nat.le_refl _) (.cells #[.slice A0 (x.1).length c0, .int .i64 x.2.1, .int .i64 x.2.2.1, .int .i64 x.2.2.2.1, .int .i64 x.2.2.2.2.1, .slice A5 (x.2.2.2.2.2.1).length c5, .slice A6 (x.2.2.2.2.2.2.1).length c6, .slice A7 (x.2.2.2.2.2.2.2.1).length c7, .slice A8 (x.2.2.2.2.2.2.2.2).length c8] 73)
    have X := Bx.new (w := w) (c := #[.slice A0 (x.1).length c0, .int .i64 x.2.1, .int .i64 x.2.2.1, .int .i64 x.2.2.2.1, .int .i64 x.2.2.2.2.1, .slice A5 (x.2.2.2.2.2.1).length c5, .slice A6 (x.2.2.2.2.2.2.1).length c6, .slice A7 (x.2.2.2.2.2.2.2.1).length c7, .slice A8 (x.2.2.2.2.2.2.2.2).length c8]) (t := 73) rfl
    generalize w.alloc (.cells #[.slice A0 (x.1).length c0, .int .i64 x.2.1, .int .i64 x.2.2.1, .int .i64 x.2.2.2.1, .int .i64 x.2.2.2.2.1, .slice A5 (x.2.2.2.2.2.1).length c5, .slice A6 (x.2.2.2.2.2.2.1).length c6, .slice A7 (x.2.2.2.2.2.2.2.1).length c7, .slice A8 (x.2.2.2.2.2.2.2.2).length c8] 73) = w1 at b X ⊢
    obtain ⟨⟨x0, x1, x2, x3, x4, x5, x6, x7, x8⟩, _⟩ := X.c9
    have Xl := X.lt
    go_wp2
    go_ret
    exact ⟨rfl, b⟩
  have hq1 := hq
  clear hq
  by_cases hq : x.2.2.1 < 0
  · rw [head_no (.inr (.inr (.inl hq))), Bool.false_and]
    go_enter Tryz.func89, Tryz.ntmps89
    go_wp2_with fail
    have b := (Below.refl w.heap.size w).alloc (Nat.le_refl _) (.cells #[.slice A0 (x.1).length c0, .int .i64 x.2.1, .int .i64 x.2.2.1, .int .i64 x.2.2.2.1, .int .i64 x.2.2.2.2.1, .slice A5 (x.2.2.2.2.2.1).length c5, .slice A6 (x.2.2.2.2.2.2.1).length c6, .slice A7 (x.2.2.2.2.2.2.2.1).length c7, .slice A8 (x.2.2.2.2.2.2.2.2).length c8] 73)
    have X := Bx.new (w := w) (c := #[.slice A0 (x.1).length c0, .int .i64 x.2.1, .int .i64 x.2.2.1, .int .i64 x.2.2.2.1, .int .i64 x.2.2.2.2.1, .slice A5 (x.2.2.2.2.2.1).length c5, .slice A6 (x.2.2.2.2.2.2.1).length c6, .slice A7 (x.2.2.2.2.2.2.2.1).length c7, .slice A8 (x.2.2.2.2.2.2.2.2).length c8]) (t := 73) rfl
    generalize w.alloc (.cells #[.slice A0 (x.1).length c0, .int .i64 x.2.1, .int .i64 x.2.2.1, .int .i64 x.2.2.2.1, .int .i64 x.2.2.2.2.1, .slice A5 (x.2.2.2.2.2.1).length c5, .slice A6 (x.2.2.2.2.2.2.1).length c6, .slice A7 (x.2.2.2.2.2.2.2.1).length c7, .slice A8 (x.2.2.2.2.2.2.2.2).length c8] 73) = w1 at b X ⊢
    obtain ⟨⟨x0, x1, x2, x3, x4, x5, x6, x7, x8⟩, _⟩ := X.c9
    have Xl := X.lt
    go_wp2
    go_ret
    exact ⟨rfl, b⟩
  have hq2 := hq
  clear hq
  by_cases hq : 5 < x.2.2.1
  · rw [head_no (.inr (.inr (.inr hq))), Bool.false_and]
    go_enter Tryz.func89, Tryz.ntmps89
    go_wp2_with fail
    have b := (Below.refl w.heap.size w).alloc (Nat.le_refl _) (.cells #[.slice A0 (x.1).length c0, .int .i64 x.2.1, .int .i64 x.2.2.1, .int .i64 x.2.2.2.1, .int .i64 x.2.2.2.2.1, .slice A5 (x.2.2.2.2.2.1).length c5, .slice A6 (x.2.2.2.2.2.2.1).length c6, .slice A7 (x.2.2.2.2.2.2.2.1).length c7, .slice A8 (x.2.2.2.2.2.2.2.2).length c8] 73)
    have X := Bx.new (w := w) (c := #[.slice A0 (x.1).length c0, .int .i64 x.2.1, .int .i64 x.2.2.1, .int .i64 x.2.2.2.1, .int .i64 x.2.2.2.2.1, .slice A5 (x.2.2.2.2.2.1).length c5, .slice A6 (x.2.2.2.2.2.2.1).length c6, .slice A7 (x.2.2.2.2.2.2.2.1).length c7, .slice A8 (x.2.2.2.2.2.2.2.2).length c8]) (t := 73) rfl
    generalize w.alloc (.cells #[.slice A0 (x.1).length c0, .int .i64 x.2.1, .int .i64 x.2.2.1, .int .i64 x.2.2.2.1, .int .i64 x.2.2.2.2.1, .slice A5 (x.2.2.2.2.2.1).length c5, .slice A6 (x.2.2.2.2.2.2.1).length c6, .slice A7 (x.2.2.2.2.2.2.2.1).length c7, .slice A8 (x.2.2.2.2.2.2.2.2).length c8] 73) = w1 at b X ⊢
    obtain ⟨⟨x0, x1, x2, x3, x4, x5, x6, x7, x8⟩, _⟩ := X.c9
    have Xl := X.lt
    go_wp2
    go_ret
    exact ⟨rfl, b⟩
  have hq3 := hq
  clear hq
  rw [head_yes hq0 hq1 hq2 hq3, Bool.true_and]
  go_enter Tryz.func89, Tryz.ntmps89
  go_wp2_with fail
  have b := (Below.refl w.heap.size w).alloc (Nat.le_refl _) (.cells #[.slice A0 (x.1).length c0, .int .i64 x.2.1, .int .i64 x.2.2.1, .int .i64 x.2.2.2.1, .int .i64 x.2.2.2.2.1, .slice A5 (x.2.2.2.2.2.1).length c5, .slice A6 (x.2.2.2.2.2.2.1).length c6, .slice A7 (x.2.2.2.2.2.2.2.1).length c7, .slice A8 (x.2.2.2.2.2.2.2.2).length c8] 73)
  have X := Bx.new (w := w) (c := #[.slice A0 (x.1).length c0, .int .i64 x.2.1, .int .i64 x.2.2.1, .int .i64 x.2.2.2.1, .int .i64 x.2.2.2.2.1, .slice A5 (x.2.2.2.2.2.1).length c5, .slice A6 (x.2.2.2.2.2.2.1).length c6, .slice A7 (x.2.2.2.2.2.2.2.1).length c7, .slice A8 (x.2.2.2.2.2.2.2.2).length c8]) (t := 73) rfl
  generalize w.alloc (.cells #[.slice A0 (x.1).length c0, .int .i64 x.2.1, .int .i64 x.2.2.1, .int .i64 x.2.2.2.1, .int .i64 x.2.2.2.2.1, .slice A5 (x.2.2.2.2.2.1).length c5, .slice A6 (x.2.2.2.2.2.2.1).length c6, .slice A7 (x.2.2.2.2.2.2.2.1).length c7, .slice A8 (x.2.2.2.2.2.2.2.2).length c8] 73) = w1 at b X ⊢
  obtain ⟨⟨x0, x1, x2, x3, x4, x5, x6, x7, x8⟩, _⟩ := X.c9
  have Xl := X.lt
  go_wp2_with fail
  clear x0 x1 x2 x3 x4 x5 x6 x7 x8 Xl
  refine (implProgsOk_any A0 c0 B x.1 K _ (Nat.le_trans hB b.size) (r0.keep b hB)).mono ?_; rintro o w2 ⟨rfl, hb⟩
  have X := X.next hb
  have b := b.trans (hb.mono b.size)
  clear hb
  obtain ⟨⟨x0, x1, x2, x3, x4, x5, x6, x7, x8⟩, _⟩ := X.c9
  have Xl := X.lt
  cases hp : x.1.all (progIn K) with
  | false =>
    go_wp2
    go_ret
    exact ⟨ret_bool (by rw [hp]; rfl), b⟩
  | true =>
    go_wp2_with fail
    clear x0 x1 x2 x3 x4 x5 x6 x7 x8 Xl
    refine (implAttemptOk_any x K B _ _ hs (Nat.le_trans hB b.size) (fWorker.at_same HVS.out (.of b hB))).mono ?_; rintro o w3 ⟨rfl, hb⟩
    have X := X.next hb
    have b := b.trans (hb.mono b.size)
    clear hb
    obtain ⟨⟨x0, x1, x2, x3, x4, x5, x6, x7, x8⟩, _⟩ := X.c9
    have Xl := X.lt
    cases ha : attB K x with
    | false =>
      go_wp2
      go_ret
      exact ⟨ret_bool (by rw [hp, ha]; rfl), b⟩
    | true =>
      go_wp2_with fail
      clear x0 x1 x2 x3 x4 x5 x6 x7 x8 Xl
      obtain ⟨I, F, hI, hF0, hF, hFn⟩ := clsE w3
      have hBw : B ≤ w3.heap.size := Nat.le_trans hB b.size
      have hat3 := fWorker.at_same HVS.out (.of b hB)
      have r03 := r0.keep b hB
      have f0 := fun n => ((X.next (hF n)).c9.1).1
      have f1 := fun n => ((X.next (hF n)).c9.1).2.1
      have f2 := fun n => ((X.next (hF n)).c9.1).2.2.1
      have f3 := fun n => ((X.next (hF n)).c9.1).2.2.2.1
      have f4 := fun n => ((X.next (hF n)).c9.1).2.2.2.2.1
      have f5 := fun n => ((X.next (hF n)).c9.1).2.2.2.2.2.1
      have f6 := fun n => ((X.next (hF n)).c9.1).2.2.2.2.2.2.1
      have f7 := fun n => ((X.next (hF n)).c9.1).2.2.2.2.2.2.2.1
      have f8 := fun n => ((X.next (hF n)).c9.1).2.2.2.2.2.2.2.2
      have f9 := fun n => (X.next (hF n)).lt
      have HAT := Lib.hid (fun n => fWorker.at_same hat3 (.of (hF n) hBw))
      have HFn := Lib.hid hFn
      have HF := Lib.hid hF
      have HF0 := Lib.hid hF0
      clear hFn hF0 X hat3
      cases hd : doneW x with
      | true =>
        have HPC := Lib.hid (show pcIn x = true by
          have h1 : decide ((x.1.length : Int) ≤ x.2.1) = true := hd
          unfold pcIn
          rw [h1]
          simp)
        clear hF
        refine wp_region_cls (by kernel_rfl) (by kernel_rfl) HF0.out ?_
        repeat (go_big_quiet_step ((go_at_call 94; refine (implDone_any x B _ _ (HAT.out _)).mono ?_; rintro o w2 ⟨rfl, hb2⟩; rw [hd]; exact ⟨rfl, HFn.out _ _ hb2⟩)))
        refine wpQuiet_nil ?_
        rintro _ ⟨nq, rfl⟩
        have b := b.trans ((HF.out nq).mono b.size)
        clear f0 f1 f2 f3 f4 f5 f6 f7 f8 f9
        go_wp2
        go_ret
        exact ⟨ret_bool (by first | (rw [HPC.out]; done) | (rw [hp, ha, HPC.out]; rfl) | simp_all), b⟩
      | false =>
        have hnd : ¬ (x.1.length : Int) ≤ x.2.1 := of_decide_eq_false hd
        by_cases h2 : x.2.2.1 = 2
        case neg =>
          have hbn : (x.2.2.1 != 2) = true := by simpa using h2
          have HPC := Lib.hid (show pcIn x = true by
            unfold pcIn
            rw [decide_eq_false h2]
            simp)
          clear hF
          refine wp_region_cls (by kernel_rfl) (by kernel_rfl) HF0.out ?_
          repeat (go_big_quiet_step ((go_at_call 94; refine (implDone_any x B _ _ (HAT.out _)).mono ?_; rintro o w2 ⟨rfl, hb2⟩; rw [hd]; exact ⟨rfl, HFn.out _ _ hb2⟩)))
          refine wpQuiet_nil ?_
          rintro _ ⟨nq, rfl⟩
          have b := b.trans ((HF.out nq).mono b.size)
          clear f0 f1 f2 f3 f4 f5 f6 f7 f8 f9
          go_wp2
          go_ret
          exact ⟨ret_bool (by first | (rw [HPC.out]; done) | (rw [hp, ha, HPC.out]; rfl) | simp_all), b⟩
        have hbn : (x.2.2.1 != 2) = false := by simp [h2]
        obtain ⟨t, ht⟩ : ∃ t : Nat, x.2.1 = (t : Int) := ⟨x.2.1.toNat, by omega⟩
        obtain ⟨b0, off0, eA, hb0, hc0⟩ := r03.2 (by omega)
        have hget : x.1[t]? = some x.1[t] := List.getElem?_eq_getElem (by omega)
        obtain ⟨v, hv, Ap, cp, ev, rp⟩ := hc0 t _ hget
        subst ev
        subst eA
        have a0 := hv.c1
        rw [show (rowF fAct).n = 1 from rfl, Nat.mul_one] at a0
        have f10 := fun n => ((hF n).cell (p := ⟨b0, off0 + t, none⟩) (by show b0 < _; omega)).trans a0
        have e : pcIn x = decide (x.2.2.2.1 < (x.1[t].length : Int)) := by
          unfold pcIn
          rw [decide_eq_true h2, decide_eq_false hnd, ht, show (t : Int).toNat = t from rfl, List.getD_eq_getElem?_getD, hget]
          rfl
        have hpm := rp.1
        unfold maxLen at hpm
        have htl : (t : Int) < x.1.length := by omega
        generalize x.1[t].length = m at f10 hpm e
        have HEE := Lib.hid e
        rw [ht] at f1
        rw [h2] at f2
        have HAT := Lib.hid (fun n => by
          have h := HAT.out n
          rw [ht, h2] at h
          exact h)
        clear hF hc0 hget hv a0 e rp
        by_cases hm : x.2.2.2.1 < (m : Int)
        · have HPC := Lib.hid (HEE.out.trans (decide_eq_true hm))
          refine wp_region_cls (by kernel_rfl) (by kernel_rfl) HF0.out ?_
          repeat (go_big_quiet_step ((go_at_call 94; refine (implDone_any x B _ _ (HAT.out _)).mono ?_; rintro o w2 ⟨rfl, hb2⟩; rw [hd]; exact ⟨rfl, HFn.out _ _ hb2⟩)))
          refine wpQuiet_nil ?_
          rintro _ ⟨nq, rfl⟩
          have b := b.trans ((HF.out nq).mono b.size)
          clear f0 f1 f2 f3 f4 f5 f6 f7 f8 f9 f10
          go_wp2
          go_ret
          exact ⟨ret_bool (by first | (rw [HPC.out]; done) | (rw [hp, ha, HPC.out]; rfl) | simp_all), b⟩
        · have HPC := Lib.hid (HEE.out.trans (decide_eq_false hm))
          refine wp_region_cls (by kernel_rfl) (by kernel_rfl) HF0.out ?_
          repeat (go_big_quiet_step ((go_at_call 94; refine (implDone_any x B _ _ (HAT.out _)).mono ?_; rintro o w2 ⟨rfl, hb2⟩; rw [hd]; exact ⟨rfl, HFn.out _ _ hb2⟩)))
          refine wpQuiet_nil ?_
          rintro _ ⟨nq, rfl⟩
          have b := b.trans ((HF.out nq).mono b.size)
          clear f0 f1 f2 f3 f4 f5 f6 f7 f8 f9 f10
          go_wp2
          go_ret
          exact ⟨ret_bool (by first | (rw [HPC.out]; done) | (rw [hp, ha, HPC.out]; rfl) | simp_all), b⟩
theorem eng_1 {d : DEngine} (h : setupB d.1 = false) : engOk d = false := by unfold engOk engHead; rw [h]; rfl
theorem eng_2 {d : DEngine} (h : tabOk (toT d.2.1) = false) : engOk d = false := by unfold engOk engHead; rw [h]; simp
theorem eng_3 {d : DEngine} (h : ¬ (d.2.1.length : Int) = d.1.1) : engOk d = false := by unfold engOk engHead; rw [decide_eq_false h]; simp
theorem eng_4 {d : DEngine} (h : ¬ (d.2.2.1.length : Int) ≤ 4) : engOk d = false := by unfold engOk engHead; rw [decide_eq_false h]; simp
theorem eng_5 {d : DEngine} (h : heatB d.2.2.2.1.length (fun j => d.2.2.2.1.getD j 0) = false) : engOk d = false := by unfold engOk engHead; rw [h]; simp
theorem eng_6 {d : DEngine} (h : d.2.2.2.2.1 < 0) : engOk d = false := by unfold engOk engHead; rw [decide_eq_false (show ¬ 0 ≤ d.2.2.2.2.1 by omega)]; simp
theorem eng_7 {d : DEngine} (h : inB d.2.2.2.2.2.1 (-1) ((d.2.2.1.length : Int) - 1) = false) : engOk d = false := by unfold engOk engHead; rw [h]; simp
theorem eng_8 {d : DEngine} {k : Nat} {x : DWorker} (hg : d.2.2.1[k]? = some x) (h : wkOk d.1.1 x = false) : engOk d = false := by unfold engOk; rw [all_noE hg h, Bool.and_false]
theorem eng_9 {d : DEngine} (h1 : setupB d.1 = true) (h2 : tabOk (toT d.2.1) = true) (h3 : (d.2.1.length : Int) = d.1.1) (h4 : (d.2.2.1.length : Int) ≤ 4) (h5 : heatB d.2.2.2.1.length (fun j => d.2.2.2.1.getD j 0) = true)
    (h6 : ¬ d.2.2.2.2.1 < 0) (h7 : inB d.2.2.2.2.2.1 (-1) ((d.2.2.1.length : Int) - 1) = true) (h8 : ∀ j x, j < d.2.2.1.length → d.2.2.1[j]? = some x → wkOk d.1.1 x = true) : engOk d = true := by
  unfold engOk engHead
  rw [h1, h2, decide_eq_true h3, decide_eq_true h4, h5, decide_eq_true (show 0 ≤ d.2.2.2.2.1 by omega), h7, all_yesE h8]
  rfl
end Go.Proofs.YtkpkjcmoldkmmaaGreat

namespace Go.Proofs.YtkpkjcmoldkmmaaGreat
open Go.RowKit

set_option maxHeartbeats 6400000 in
set_option maxRecDepth 100000 in
theorem implEngineOk_any (d : DEngine) (B : Nat) (vs : List Value) (w : World) (hs : fEngine.cnt d ≤ 1048576) (hB : B ≤ w.heap.size) (h : fEngine.At w B d vs) :
    Calls Tryz.prog 44 #[.agg vs.toArray] w fun e w' => e = .returned (.bool (engOk d)) ∧ Below w.heap.size w w' := by
  obtain ⟨A5, c5, A6, c6, A7, c7, A10, c10, rfl, r5, r6, r7, r10⟩ := at_Engine h
  clear h
  have hct := cnt_Engine d
  have hc2 := cnt_Table d.2.1
  have hc3 : (rowF fCell).cnt d.2.1 ≤ 1048576 := by omega
  have hc4 : (rowF fWorker).cnt d.2.2.1 ≤ 1048576 := by omega
  have hc5 : (rowF intF).cnt d.2.2.2.1 ≤ 1048576 := by omega
  have hm6 := r6.1
  unfold maxLen at hm6
  have HC := Lib.hid hc4
  clear hs hct hc2 r10
  go_enter Tryz.func44, Tryz.ntmps44
  go_wp2_with fail
  have b := (Below.refl w.heap.size w).alloc (Nat.le_refl _) (.cells #[.int .i64 d.1.1, .int .i64 d.1.2.1, .int .i64 d.1.2.2.1, .bool d.1.2.2.2.1, .int .i64 d.1.2.2.2.2, .slice A5 (d.2.1).length c5, .slice A6 (d.2.2.1).length c6, .slice A7 (d.2.2.2.1).length c7, .int .i64 d.2.2.2.2.1, .int .i64 d.2.2.2.2.2.1, .slice A10 (d.2.2.2.2.2.2.1).length c10, .int .i64 d.2.2.2.2.2.2.2.1, .int .i64 d.2.2.2.2.2.2.2.2] 41)
  have X := Bx.new (w := w) (c := #[.int .i64 d.1.1, .int .i64 d.1.2.1, .int .i64 d.1.2.2.1, .bool d.1.2.2.2.1, .int .i64 d.1.2.2.2.2, .slice A5 (d.2.1).length c5, .slice A6 (d.2.2.1).length c6, .slice A7 (d.2.2.2.1).length c7, .int .i64 d.2.2.2.2.1, .int .i64 d.2.2.2.2.2.1, .slice A10 (d.2.2.2.2.2.2.1).length c10, .int .i64 d.2.2.2.2.2.2.2.1, .int .i64 d.2.2.2.2.2.2.2.2]) (t := 41) rfl
  generalize w.alloc (.cells #[.int .i64 d.1.1, .int .i64 d.1.2.1, .int .i64 d.1.2.2.1, .bool d.1.2.2.2.1, .int .i64 d.1.2.2.2.2, .slice A5 (d.2.1).length c5, .slice A6 (d.2.2.1).length c6, .slice A7 (d.2.2.2.1).length c7, .int .i64 d.2.2.2.2.1, .int .i64 d.2.2.2.2.2.1, .slice A10 (d.2.2.2.2.2.2.1).length c10, .int .i64 d.2.2.2.2.2.2.2.1, .int .i64 d.2.2.2.2.2.2.2.2] 41) = w1 at b X ⊢
  obtain ⟨⟨x0, x1, x2, x3, x4, x5, x6, x7, x8, x9, x10, x11, x12⟩, _⟩ := X.c13
  have Xl := X.lt
  go_wp2_with fail
  clear x0 x1 x2 x3 x4 x5 x6 x7 x8 x9 x10 x11 x12 Xl
  refine (implSetupOk_any d.1 _).mono ?_; rintro o w2 ⟨rfl, hb⟩
  have X := X.next hb
  have b := b.trans (hb.mono b.size)
  clear hb
  obtain ⟨⟨x0, x1, x2, x3, x4, x5, x6, x7, x8, x9, x10, x11, x12⟩, _⟩ := X.c13
  have Xl := X.lt
  cases h1 : setupB d.1 with
  | false =>
    have HF := Lib.hid (eng_1 h1)
    go_wp2
    go_ret
    exact ⟨ret_bool HF.out.symm, b⟩
  | true =>
    have H1 := Lib.hid h1
    clear h1
    go_wp2_with fail
    clear x0 x1 x2 x3 x4 x5 x6 x7 x8 x9 x10 x11 x12 Xl
    refine (implTabD A5 c5 B d.2.1 _ hc3 (Nat.le_trans hB b.size) (r5.keep b hB)).mono ?_; rintro o w3 ⟨rfl, hb⟩
    have X := X.next hb
    have b := b.trans (hb.mono b.size)
    clear hb
    obtain ⟨⟨x0, x1, x2, x3, x4, x5, x6, x7, x8, x9, x10, x11, x12⟩, _⟩ := X.c13
    have Xl := X.lt
    cases h2 : tabOk (toT d.2.1) with
    | false =>
      have HF := Lib.hid (eng_2 h2)
      go_wp2
      go_ret
      exact ⟨ret_bool HF.out.symm, b⟩
    | true =>
      have H2 := Lib.hid h2
      clear h2
      by_cases h3 : (d.2.1.length : Int) = d.1.1
      case neg =>
        have HF := Lib.hid (eng_3 h3)
        go_wp2
        go_ret
        exact ⟨ret_bool HF.out.symm, b⟩
      by_cases h4 : (d.2.2.1.length : Int) ≤ 4
      case neg =>
        have HF := Lib.hid (eng_4 h4)
        go_wp2
        go_ret
        exact ⟨ret_bool HF.out.symm, b⟩
      go_wp2_with fail
      clear x0 x1 x2 x3 x4 x5 x6 x7 x8 x9 x10 x11 x12 Xl
      refine (implHeat_any A7 d.2.2.2.1.length c7 B _ _ (Nat.le_trans hB b.size) (ints_at (r7.keep b hB))).mono ?_; rintro o w4 ⟨rfl, hb⟩
      have X := X.next hb
      have b := b.trans (hb.mono b.size)
      clear hb
      obtain ⟨⟨x0, x1, x2, x3, x4, x5, x6, x7, x8, x9, x10, x11, x12⟩, _⟩ := X.c13
      have Xl := X.lt
      cases h5 : heatB d.2.2.2.1.length (fun j => d.2.2.2.1.getD j 0) with
      | false =>
        have HF := Lib.hid (eng_5 h5)
        go_wp2
        go_ret
        exact ⟨ret_bool HF.out.symm, b⟩
      | true =>
        have H5 := Lib.hid h5
        clear h5
        by_cases h6 : d.2.2.2.2.1 < 0
        · have HF := Lib.hid (eng_6 h6)
          go_wp2
          go_ret
          exact ⟨ret_bool HF.out.symm, b⟩
        by_cases h7 : d.2.2.2.2.2.1 < -1
        · have HF := Lib.hid (eng_7 (show inB _ _ _ = false by unfold inB; rw [decide_eq_false (show ¬ -1 ≤ d.2.2.2.2.2.1 by omega)]; rfl))
          go_wp2
          go_ret
          exact ⟨ret_bool HF.out.symm, b⟩
        by_cases h8 : (d.2.2.1.length : Int) ≤ d.2.2.2.2.2.1
        · have HF := Lib.hid (eng_7 (show inB _ _ _ = false by unfold inB; rw [decide_eq_false (show ¬ d.2.2.2.2.2.1 ≤ (d.2.2.1.length : Int) - 1 by omega)]; simp))
          go_wp2
          go_ret
          exact ⟨ret_bool HF.out.symm, b⟩
        have H7 := Lib.hid (show inB d.2.2.2.2.2.1 (-1) ((d.2.2.1.length : Int) - 1) = true by unfold inB; rw [decide_eq_true (show -1 ≤ d.2.2.2.2.2.1 by omega), decide_eq_true (show d.2.2.2.2.2.1 ≤ (d.2.2.1.length : Int) - 1 by omega)]; rfl)
        go_wp2
        clear x0 x1 x2 x3 x4 x5 x6 x7 x8 x9 x10 x11 x12 Xl
        go_loopw [54] (fun i wr => ∃ k : Nat, k ≤ d.2.2.1.length ∧ i = .int .i64 k ∧ Below w.heap.size w wr ∧ Bx wr w.heap.size [.int .i64 d.1.1, .int .i64 d.1.2.1, .int .i64 d.1.2.2.1, .bool d.1.2.2.2.1, .int .i64 d.1.2.2.2.2, .slice A5 (d.2.1).length c5, .slice A6 (d.2.2.1).length c6, .slice A7 (d.2.2.2.1).length c7, .int .i64 d.2.2.2.2.1, .int .i64 d.2.2.2.2.2.1, .slice A10 (d.2.2.2.2.2.2.1).length c10, .int .i64 d.2.2.2.2.2.2.2.1, .int .i64 d.2.2.2.2.2.2.2.2] ∧ Hid (∀ j x, j < k → d.2.2.1[j]? = some x → wkOk d.1.1 x = true)) (fun i _ => d.2.2.1.length - (intOf i).toNat)
        case atStart => exact ⟨0, Nat.zero_le _, rfl, b, X, Lib.hid (fun j x hj => absurd hj (by omega))⟩
        case round =>
          clear b X
          obtain ⟨k, hk, rfl, b, X, HA⟩ := hrel
          obtain ⟨⟨x0, x1, x2, x3, x4, x5, x6, x7, x8, x9, x10, x11, x12⟩, _⟩ := X.c13
          have Xl := X.lt
          by_cases hkn : k < d.2.2.1.length
          · obtain ⟨bb, off, eA, hbB, hc⟩ := r6.2 (by omega)
            have hkz : (k : Int) < d.2.2.1.length := by omega
            have hget : d.2.2.1[k]? = some d.2.2.1[k] := List.getElem?_eq_getElem hkn
            obtain ⟨v, hv0, hat0⟩ := hc k _ hget
            have hsz := b.size
            have hat := fWorker.at_same hat0 (.of b hB)
            have hv := hv0.below b (show bb < w.heap.size by omega)
            rw [show fWorker.n = 9 from rfl] at hv
            have hcx := cnt_at (F := fWorker) hget
            clear hv0 hat0
            generalize d.2.2.1[k] = x at hget hat hcx
            have HAT := Lib.hid hat
            obtain ⟨A0w, c0w, A5w, c5w, A6w, c6w, A7w, c7w, A8w, c8w, rfl, _, _, _, _, _⟩ := at_Worker hat
            subst eA
            obtain ⟨a0, a1, a2, a3, a4, a5, a6, a7, a8⟩ := hv.c9
            have HG := Lib.hid hget
            have hcx : fWorker.cnt x ≤ 1048576 := by have := HC.out; omega
            clear hc hv hat hget
            have hA := (Below.refl wr.heap.size wr).alloc (Nat.le_refl _) (.cells #[.slice A0w (x.1).length c0w, .int .i64 x.2.1, .int .i64 x.2.2.1, .int .i64 x.2.2.2.1, .int .i64 x.2.2.2.2.1, .slice A5w (x.2.2.2.2.2.1).length c5w, .slice A6w (x.2.2.2.2.2.2.1).length c6w, .slice A7w (x.2.2.2.2.2.2.2.1).length c7w, .slice A8w (x.2.2.2.2.2.2.2.2).length c8w] 73)
            have b := b.alloc hsz (.cells #[.slice A0w (x.1).length c0w, .int .i64 x.2.1, .int .i64 x.2.2.1, .int .i64 x.2.2.2.1, .int .i64 x.2.2.2.2.1, .slice A5w (x.2.2.2.2.2.1).length c5w, .slice A6w (x.2.2.2.2.2.2.1).length c6w, .slice A7w (x.2.2.2.2.2.2.2.1).length c7w, .slice A8w (x.2.2.2.2.2.2.2.2).length c8w] 73)
            have X := X.next hA
            have HAT2 := Lib.hid (fWorker.at_same HAT.out (.of hA (by omega)))
            have hs2 := hA.size
            clear hA
            go_wp2_with fail
            clear a0 a1 a2 a3 a4 a5 a6 a7 a8 x0 x1 x2 x3 x4 x5 x6 x7 x8 x9 x10 x11 x12 Xl
            refine (implWorkerOk_any x d.1.1 B _ _ hcx (by omega) HAT2.out).mono ?_; rintro o w6 ⟨rfl, hb⟩
            have X := X.next hb
            have b := b.trans (hb.mono b.size)
            clear hb HAT2
            cases hd : wkOk d.1.1 x with
            | true =>
              have HA := Lib.hid (show ∀ j u, j < k + 1 → d.2.2.1[j]? = some u → wkOk d.1.1 u = true from fun j u hj hu => by
                by_cases e : j = k
                · subst e
                  rw [HG.out] at hu
                  cases hu
                  exact hd
                · exact HA.out j u (by omega) hu)
              go_wp2
              exact ⟨⟨k + 1, by omega, by go_num, b, X, HA⟩, by simp [intOf]; omega⟩
            | false =>
              have HF := Lib.hid (eng_8 HG.out hd)
              go_wp2
              go_ret
              exact ⟨ret_bool HF.out.symm, b⟩
          · obtain rfl : k = d.2.2.1.length := by omega
            have HT := Lib.hid (eng_9 H1.out H2.out h3 h4 H5.out (by omega) H7.out HA.out)
            go_wp2
            go_ret
            exact ⟨ret_bool HT.out.symm, b⟩
end Go.Proofs.YtkpkjcmoldkmmaaGreat
