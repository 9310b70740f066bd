/- FnTables: the table behind the law's variable. -/
import Derived.Test.YtcndmdglnohbcaaGreatDoorUg
import Derived.Test.YtcndmdglnohbcaaGreatDoorWNext
import Derived.Test.YtcndmdglnohbcaaGreatDoorLi8
import Derived.Test.YtcndmdglnohbcaaGreatDoorLi7f
import Derived.Deep.RegionLaw
import Derived.Deep.AppendLies
import Derived.Deep.RegionLawGrows
import Derived.Deep.RegionHeld3
import Derived.Test.YtcndmdglnohbcaaGreatDoorLs2
import Derived.Test.YtcndmdglnohbcaaGreatDoorLi2
import Derived.Test.YtcndmdglnohbcaaGreatDoorTt
import Derived.Test.YtcndmdglnohbcaaGreatDoorLi3
import Derived.Test.YtcndmdglnohbcaaGreatDoorTv
import Derived.Test.YtcndmdglnohbcaaGreatDoorTq
import Derived.Test.YtcndmdglnohbcaaGreatDoorWHold
import Derived.Test.YtcndmdglnohbcaaGreatDoorWLead
import Derived.Test.YtcndmdglnohbcaaGreatDoorRg
import Derived.Test.YtcndmdglnohbcaaGreatDoorTw
import Derived.Test.YtcndmdglnohbcaaGreatDoorTg
import Derived.Test.YtcndmdglnohbcaaGreatDoorLk
import Derived.Test.YtcndmdglnohbcaaGreatDoorLb
import Derived.Deep.QuietTactic
namespace Go.Proofs.YtcndmdglnohbcaaGreatDoor
open Go.RowKit
open Go.Maps (Keyed)

/-- the next word -/
def nwB (e s ep : Int) : Bool := inW ep 0 1023 && (decide (e < ep) || decide (s < 65535))
def nwE (e ep : Int) : Int := if e < ep then ep else e
def nwS (e s ep : Int) : Int := if e < ep then 0 else s + 1
def nwV (e s ep : Int) : Value := if nwB e s ep then .agg #[.int .i64 (nwE e ep), .int .i64 (nwS e s ep), .bool false] else .agg #[.int .i64 0, .int .i64 0, .bool false]
theorem nw_no {e s ep : Int} (h : nwB e s ep = false) : nwV e s ep = .agg #[.int .i64 0, .int .i64 0, .bool false] := by simp [nwV, h]
theorem nw_yes {e s ep : Int} (h : nwB e s ep = true) : nwV e s ep = .agg #[.int .i64 (nwE e ep), .int .i64 (nwS e s ep), .bool false] := by simp [nwV, h]
theorem nw_badE {e s ep : Int} (h : inW ep 0 1023 = false) : nwB e s ep = false := by simp [nwB, h]
theorem nw_up {e s ep : Int} (h : inW ep 0 1023 = true) (hl : e < ep) : nwB e s ep = true ∧ nwE e ep = ep ∧ nwS e s ep = 0 := by simp [nwB, nwE, nwS, h, hl]
theorem nw_full {e s ep : Int} (hl : ep ≤ e) (hs : s = 65535) : nwB e s ep = false := by
  have : ¬ e < ep := by omega
  simp [nwB, this, hs]
theorem nw_on {e s ep : Int} (h : inW ep 0 1023 = true) (ho : wordOk e s = true) (hl : ep ≤ e) (hs : ¬ s = 65535) : nwB e s ep = true ∧ nwE e ep = e ∧ nwS e s ep = s + 1 := by
  have h1 : ¬ e < ep := by omega
  have h2 := wordOk_iff.1 ho
  have h3 : s < 65535 := by omega
  simp [nwB, nwE, nwS, h, h1, h3]
theorem nw_ok {e s ep : Int} (h : nwB e s ep = true) (ho : wordOk e s = true) : wordOk (nwE e ep) (nwS e s ep) = true := by
  simp only [nwB, Bool.and_eq_true, Bool.or_eq_true, decide_eq_true_eq, inW] at h
  have h2 := wordOk_iff.1 ho
  rw [wordOk_iff]
  unfold nwE nwS
  split
  · omega
  · omega
theorem implNextW_any (e s : Int) (h : Bool) (ep : Int) (ho : wordOk e s = true) (ad : Addr) (w : World) (hF : Full w ad) :
    Calls Tryz.prog 31 #[.agg #[.int .i64 e, .int .i64 s, .bool h], .int .i64 ep] w fun o w' => o = .returned (.tuple #[nwV e s ep, .bool (nwB e s ep)]) ∧ Below w.heap.size w w' := by
  cases he : inW ep 0 1023 with
  | false => rw [nw_no (nw_badE he), nw_badE he]; exact implNext_badE e s h ep ho he w
  | true =>
    by_cases hl : e < ep
    · obtain ⟨h1, h2, h3⟩ := nw_up (s := s) he hl
      rw [nw_yes h1, h1, h2, h3]; exact implNext_up e s h ep ho he ad hl w hF
    · by_cases hs : s = 65535
      · have h1 := nw_full (e := e) (ep := ep) (by omega) hs
        rw [nw_no h1, h1]; exact implNext_full e s h ep ho he ad (by omega) hs w hF
      · obtain ⟨h1, h2, h3⟩ := nw_on he ho (by omega) hs
        rw [nw_yes h1, h1, h2, h3]; exact implNext_on e s h ep ho he ad (by omega) hs w hF

/-- a cell with another value and word -/
def valC (c : CD) (v e s : Int) : CD := ⟨v, e, s, true, c.hs, c.ws⟩
def scK (T : TL) (k : Nat) (tid v ep : Int) : Bool := (decide (stands T tid k = 2) && valB v) && nwB (cd T k).e (cd T k).s ep
def scB (T : TL) (key tid v ep : Int) : Bool := thereB T key && scK T key.toNat tid v ep
def scT (T : TL) (key tid v ep : Int) : TL := if scB T key tid v ep then putT T key.toNat (valC (cAt T key) v (nwE (cAt T key).e ep) (nwS (cAt T key).e (cAt T key).s ep)) else T
theorem sc_not {T : TL} {key tid v ep : Int} (h : thereB T key = false) : scB T key tid v ep = false ∧ scT T key tid v ep = T := by
  have : scB T key tid v ep = false := by simp [scB, h]
  simp [scT, this]
theorem sc_no {T : TL} {k : Nat} {tid v ep : Int} (h : scK T k tid v ep = false) : scB T k tid v ep = false ∧ scT T k tid v ep = T := by
  have : scB T k tid v ep = false := by simp [scB, h]
  simp [scT, this]
theorem sc_yes {T : TL} {k : Nat} {tid v ep : Int} (ht : thereB T (k : Int) = true) (h : scK T k tid v ep = true) : scB T k tid v ep = true ∧ scT T k tid v ep = putT T k (valC (cd T k) v (nwE (cd T k).e ep) (nwS (cd T k).e (cd T k).s ep)) := by
  have : scB T k tid v ep = true := by simp [scB, ht, h]
  simp [scT, this, cAt]
theorem sc_k1 {T : TL} {k : Nat} {tid v ep : Int} (h : ¬ stands T tid k = 2) : scK T k tid v ep = false := by simp [scK, h]
theorem sc_k2 {T : TL} {k : Nat} {tid v ep : Int} (h : valB v = false) : scK T k tid v ep = false := by simp [scK, h]
theorem sc_k3 {T : TL} {k : Nat} {tid v ep : Int} (h : nwB (cd T k).e (cd T k).s ep = false) : scK T k tid v ep = false := by simp [scK, h]
theorem sc_k4 {T : TL} {k : Nat} {tid v ep : Int} (h : stands T tid k = 2) (h2 : valB v = true) (h3 : nwB (cd T k).e (cd T k).s ep = true) : scK T k tid v ep = true := by simp [scK, h, h2, h3]
theorem writes_two {hs ws : HL} {t : Int} (h : holdsL hs ws t = 2) : wrote hs = true := by
  unfold holdsL holdsAt at h
  split at h
  · split at h
    · rename_i x hx
      split at h
      · rename_i hw
        exact List.any_eq_true.2 ⟨x, List.mem_of_find?_eq_some hx, hw⟩
      · omega
    · split at h <;> omega
  · omega
theorem putV_ok {T : TL} {k : Nat} {tid v ep : Int} (h : tabOk T = true) (hk : k < T.length) (h1 : stands T tid k = 2) (h2 : valB v = true) (h3 : nwB (cd T k).e (cd T k).s ep = true) :
    tabOk (putT T k (valC (cd T k) v (nwE (cd T k).e ep) (nwS (cd T k).e (cd T k).s ep))) = true := by
  have hl := tabOk_len h
  unfold tabOk
  rw [Bool.and_eq_true]
  refine ⟨?_, all_yes (fun j hj => ?_)⟩
  · rw [putT_len]; unfold inB; simp; omega
  · rw [putT_len] at hj
    rw [putT_at _ _ _ _ hj]
    by_cases e : j = k
    · subst e
      rw [if_pos rfl]
      obtain ⟨p1, p2, p3, p4⟩ := cellOk_parts (tabOk_at h hj)
      have hw := writes_two h1
      have ho := nw_ok h3 p2
      unfold cellOk valC
      simp [h2, ho, p3, hw]
    · rw [if_neg e]; exact tabOk_at h hj
theorem scT_fit {T : TL} {key tid v ep : Int} (h : TFit T) : TFit (scT T key tid v ep) := by
  unfold scT
  split
  · rename_i hb
    simp only [scB, scK, Bool.and_eq_true, decide_eq_true_eq] at hb
    obtain ⟨ht, ⟨h1, h2⟩, h3⟩ := hb
    obtain ⟨h4, _, h5⟩ := there_iff.1 ht
    unfold cAt
    exact tab_fit (putV_ok h4 h5 h1 h2 h3)
  · exact h
/-- the maps behind the store -/
theorem slots_val {T : TL} {k : Nat} (hk : k < T.length) (v e s : Int) (j : Int) : upd (slotsF T T.length) (k : Int) (some (sv (pk e s true) v)) j = slotsF (putT T k (valC (cd T k) v e s)) (putT T k (valC (cd T k) v e s)).length j := by
  unfold upd slotsF
  rw [putT_len]
  by_cases hj : 0 ≤ j ∧ j < (T.length : Int)
  · obtain ⟨i, rfl⟩ := Int.eq_ofNat_of_zero_le hj.1
    have hi : i < T.length := by omega
    have hc : ci (putT T k (valC (cd T k) v e s)) (i : Int) = if i = k then valC (cd T k) v e s else cd T i := putT_at _ _ _ _ hi
    rw [if_pos hj, if_pos hj, hc]
    by_cases e' : i = k
    · subst e'; simp [valC]
    · have e2 : ¬ ((i : Int) = (k : Int)) := by omega
      rw [if_neg e2, if_neg e']; rfl
  · have e' : ¬ (j = (k : Int)) := by omega
    rw [if_neg e', if_neg hj, if_neg hj]
theorem locks_val {T : TL} {q : Nat → Pl} {k : Nat} (h : tabOk T = true) (v e s : Int) {j : Nat} (hj : j < T.length) :
    (locksF T q T.length (j : Int)).getD (.agg #[.slice none 0 0, .slice none 0 0]) = lkq (cd (putT T k (valC (cd T k) v e s)) j) (lkP T q j) := by
  rw [putT_at _ _ _ _ hj, locks_get h hj]
  by_cases e' : j = k
  · subst e'; rw [if_pos rfl]; rfl
  · rw [if_neg e']
theorem lists_val {w : World} {B : Nat} {T : TL} {q : Nat → Pl} {k : Nat} (h : tabOk T = true) (v e s : Int) (hl : ∀ j, j < T.length → LsAt w B (cd T j) (q j)) {j : Nat} (hj : j < T.length) :
    LsAt w B (cd (putT T k (valC (cd T k) v e s)) j) (lkP T q j) := by
  rw [putT_at _ _ _ _ hj]
  by_cases e' : j = k
  · subst e'; rw [if_pos rfl]; exact locks_at h hj (hl j hj)
  · rw [if_neg e']; exact locks_at h hj (hl j hj)
/-- one cell of a copied table written -/
theorem TG.store {w : World} {lo g n : Nat} {f : Nat → CD} {q : Nat → Pl} (h : TG w lo g n f q) {k i : Nat} (hk : k < n) (hi : i < 6) (u : Value) {c' : CD} (hc : CCells (w.setCell ⟨g, k * 6 + i, none⟩ u) g (k * 6) c' (q k)) (h1 : c'.hs = (f k).hs) (h2 : c'.ws = (f k).ws) :
    TG (w.setCell ⟨g, k * 6 + i, none⟩ u) lo g n (fun j => if j = k then c' else f j) q := by
  refine ⟨h.low, by simpa [World.setCell] using h.lt, fun o => by rw [World.frozen?_setCell]; exact h.free o, fun j hj => ?_, fun j hj => ?_, fun j hj => ?_⟩
  · by_cases e : j = k
    · subst e; simpa using hc
    · simp only [if_neg e]
      exact (h.cell j hj).far _ (fun i' hi' e' => by injection e' with _ e' _; omega)
  · by_cases e : j = k
    · subst e; simp only [if_true]; rw [h1]; exact (h.hs j hj).far _ (.inr rfl)
    · simp only [if_neg e]; exact (h.hs j hj).far _ (.inr rfl)
  · by_cases e : j = k
    · subst e; simp only [if_true]; rw [h2]; exact (h.ws j hj).far _ (.inr rfl)
    · simp only [if_neg e]; exact (h.ws j hj).far _ (.inr rfl)
/-- value and word of cell k written -/
theorem TG.val {w : World} {lo g : Nat} {T : TL} {q : Nat → Pl} (h : TG w lo g T.length (cd T) q) {k : Nat} (hk : k < T.length) (v e s : Int) :
    TG ((((w.setCell ⟨g, k * 6, none⟩ (.int .i64 v)).setCell ⟨g, k * 6 + 1, none⟩ (.int .i64 e)).setCell ⟨g, k * 6 + 2, none⟩ (.int .i64 s)).setCell ⟨g, k * 6 + 3, none⟩ (.bool true)) lo g (putT T k (valC (cd T k) v e s)).length (cd (putT T k (valC (cd T k) v e s))) q := by
  have t1 := h.store (i := 0) hk (by omega) (.int .i64 v) ((h.cell k hk).setv v) rfl rfl
  have c1 := t1.cell k hk
  simp only [if_true] at c1
  have t2 := t1.store (i := 1) hk (by omega) (.int .i64 e) (c1.sete e) (by simp) (by simp)
  have c2 := t2.cell k hk
  simp only [if_true] at c2
  have t3 := t2.store (i := 2) hk (by omega) (.int .i64 s) (c2.sets s) (by simp) (by simp)
  have c3 := t3.cell k hk
  simp only [if_true] at c3
  have t4 := t3.store (i := 3) hk (by omega) (.bool true) (c3.seth true) (by simp) (by simp)
  rw [putT_len]
  exact t4.congr fun j hj => by
    rw [putT_at _ _ _ _ hj]
    by_cases e' : j = k
    · subst e'; simp [valC]
    · simp [e']
end Go.Proofs.YtcndmdglnohbcaaGreatDoor

namespace Go.Proofs.YtcndmdglnohbcaaGreatDoor
open Go.RowKit
open Go.Maps (Keyed)

theorem tcapl_own {w w' : World} {lo B : Nat} {A : Option Addr} {T : TL} (ho : TOwn w lo B A T) (h : TCapL w A T) (hb : Below w.heap.size w w') : TCapL w' A T := fun b off e j hj => by
  subst e
  obtain ⟨b', off', e, q, L, H, hr⟩ := ho (by omega)
  injection e with e
  injection e with e1 _ _
  subst e1
  have hl : b < w.heap.size := by
    obtain ⟨G, c, G', c', h1, _⟩ := h b off rfl j hj
    exact World.block_lt_of_cell? _ _ h1.1
  exact h.below hb hl b off rfl j hj
theorem lcC_not {T : TL} {key tid : Int} {wr : Bool} (h : thereB T key = false) : lcC T key tid wr = 2 ∧ lcT T key tid wr = T := by
  have h1 : lcC T key tid wr = 2 := by simp [lcC, h]
  exact ⟨h1, by simp [lcT, h1]⟩
theorem lcC_yes {T : TL} {k : Nat} {tid : Int} {wr : Bool} (h : thereB T (k : Int) = true) : lcC T k tid wr = askC (cd T k).hs (cd T k).ws tid wr := by
  simp only [lcC, h, if_true]; rfl
theorem lcT_bad {T : TL} {key tid : Int} {wr : Bool} (h : lcC T key tid wr = 2) : lcT T key tid wr = T := by simp [lcT, h]
theorem lcT_put {T : TL} {k : Nat} {tid : Int} {wr : Bool} (h : ¬ lcC T k tid wr = 2) : lcT T k tid wr = putT T k (lockC (cd T k) (askL (cd T k).hs (cd T k).ws tid wr)) := by
  simp only [lcT, h, if_false]; rfl
theorem ask_twoC {hs ws : HL} {tid : Int} {wr : Bool} (h : ¬ askC hs ws tid wr = 2) : lockOk (askL hs ws tid wr).1 (askL hs ws tid wr).2 = true := by
  have hb : askBad hs ws tid = false := by
    cases hb : askBad hs ws tid with
    | false => rfl
    | true => exact absurd (askC_bad hb).1 h
  have hp := pre_ask wr hb
  have e : askL hs ws tid wr = askG hs ws tid wr := by simp [askL, hb]
  rw [e]
  exact grant_ok hp
theorem tc_hit {T : TL} {key tid : Int} {wr : Bool} (h : lcC T key tid wr = 0) : tcT T key tid wr = lcT T key tid wr ∧ tcB T key tid wr = true := by simp [tcT, tcB, h]
theorem tc_miss {T : TL} {key tid : Int} {wr : Bool} (h : ¬ lcC T key tid wr = 0) : tcT T key tid wr = T ∧ tcB T key tid wr = false := by simp [tcT, tcB, h]
set_option maxHeartbeats 1600000 in
set_option maxRecDepth 100000 in
theorem implLockCellC_any (b off c B : Nat) (T : TL) (key tid : Int) (wr : Bool) (w : World) (hkey : keyOf Tryz.prog 3 (.int .i64 key) = some (.int .i64 key)) (hs : TFit T) (hB : B ≤ w.heap.size) (h : TAt w B (some ⟨b, off, none⟩) T) :
    Calls Tryz.prog 7 #[.agg #[.slice (some ⟨b, off, none⟩) T.length c], .int .i64 key, .int .i64 tid, .bool wr] w (RetTOC w (lcT T key tid wr) fun v => .tuple #[v, .int .i64 (lcC T key tid wr)]) := by
  go_enter Tryz.func7, Tryz.ntmps7
  go_wp2_with fail
  have b0 := ((Below.refl w.heap.size w).alloc (Nat.le_refl _) (.cells #[.slice (some ⟨b, off, none⟩) T.length c] 26)).alloc (by simp) (.cells #[.slice none 0 0] 26)
  have X := (Box.new (w := w) (c := #[.slice (some ⟨b, off, none⟩) T.length c]) (t := 26) rfl).alloc (.cells #[.slice none 0 0] 26)
  have R := Box.new (w := w.alloc (.cells #[.slice (some ⟨b, off, none⟩) T.length c] 26)) (b := w.heap.size + 1) (c := #[.slice none 0 0]) (t := 26) (by simp)
  have hz0 : w.heap.size + 2 ≤ ((w.alloc (.cells #[.slice (some ⟨b, off, none⟩) T.length c] 26)).alloc (.cells #[.slice none 0 0] 26)).heap.size := by simp
  generalize (w.alloc (.cells #[.slice (some ⟨b, off, none⟩) T.length c] 26)).alloc (.cells #[.slice none 0 0] 26) = w0 at b0 X R hz0 ⊢
  cases hT : tabOk T with
  | false =>
    have HE := Lib.hid (lcC_not (tid := tid) (wr := wr) (show thereB T key = false by simp [thereB, hT]))
    refine (storeOf_bad _ c B T _ hs (Nat.le_trans hB b0.size) (h.keep b0 hB) hT).mono ?_; rintro o w1 ⟨rfl, hb1⟩
    have hA := ((Below.refl w1.heap.size w1).alloc (Nat.le_refl _) (.cells #[.map none, .map none] 57)).alloc (by simp) (.cells #[.int .i64 0, .int .i64 0] 61)
    have hbA := hb1.trans (hA.mono hb1.size)
    have X := X.next hbA
    have R := R.next hbA
    have b2 := b0.trans (hbA.mono b0.size)
    have hz2 := Nat.le_trans hz0 hbA.size
    obtain ⟨x0, xf⟩ := (X).c1
    have Xl := X.lt
    have hlk := Go.Maps.look_nil (w := w1.alloc (.cells #[.map none, .map none] 57)) true keyI Tryz.underlying54 (zeroSlot _) hkey
    clear hb1 hT X xf hA hbA
    go_upto_region 3 with (fail)
    generalize (w1.alloc (.cells #[.map none, .map none] 57)).alloc (.cells #[.int .i64 0, .int .i64 0] 61) = w2 at R b2 hz2 x0 Xl ⊢
    clear hlk
    go_wp2_with fail
    refine (copiedTableC_any b off c B T _ hs (Nat.le_trans hB b2.size) (h.keep b2 hB)).mono ?_; rintro o w8 ⟨A8, c8, rfl, ht, hb8, hcx⟩
    have R8 := R.next hb8
    have b8 := b2.trans (hb8.mono b2.size)
    have HO := Lib.hid ((ht.put (a := w.heap.size + 1) (.slice A8 T.length c8) (by omega)).more (lo' := w.heap.size) (B' := (w8.setCell ⟨w.heap.size + 1, 0, none⟩ (.slice A8 T.length c8)).heap.size) (by omega) (by simp))
    have HB8 := Lib.hid (b8.setCell (p := ⟨w.heap.size + 1, 0, none⟩) (by simp) (.slice A8 T.length c8))
    have HCX := Lib.hid (capl_far ht hcx (a := ⟨w.heap.size + 1, 0, none⟩) (.slice A8 T.length c8) (by show w.heap.size + 1 < _; omega))
    obtain ⟨r8, rf8⟩ := R8.c1
    have Rl8 := R8.lt
    clear ht hcx hb8 R8 b8 R b2 x0 Xl
    go_wp2
    exact bodyPost_ret (v := .tuple #[.agg #[.slice A8 T.length c8], .int .i64 2]) (by simp [results, Tryz.results7, go_sem, r8]) rfl (by
      rw [HE.out.1, HE.out.2]
      exact ⟨A8, c8, rfl, HO.out, HB8.out, HCX.out⟩)
  | true =>
    have hl8 := tabOk_len hT
    have hTE : thereB T key = decide (0 ≤ key ∧ key < (T.length : Int)) := by
      rw [Bool.eq_iff_iff, there_iff, decide_eq_true_eq]
      constructor
      · rintro ⟨_, h1, h2⟩; omega
      · rintro ⟨h1, h2⟩; exact ⟨hT, h1, by omega⟩
    have HT := Lib.hid hT
    obtain ⟨bb, off', e, hbB, q, hc⟩ := h (by omega)
    injection e with e
    injection e with e1 e2 _
    subst e1 e2
    have hcl0 : TCl w0 B b off T q := ⟨hbB, fun j hj => ⟨(hc j hj).1.below b0 (by omega), LAt.keep (hc j hj).2 b0 hB⟩⟩
    have q0H : ∃ q : Nat → Pl, ∀ j, j < T.length → CCells w b (off + j * 6) (cd T j) (q j) ∧ LsAt w B (cd T j) (q j) := ⟨q, hc⟩
    have HLs := Lib.hid (fun j (hj : j < T.length) => (hc j hj).2)
    refine (storeOf_ok b off c B T q _ hs (Nat.le_trans hB b0.size) hcl0 hT).mono ?_; rintro o w1 ⟨m1, m2, mm, rfl, hne, hm1, hm2, M1, hmm, M2, hb1⟩
    have X := X.next hb1
    have R := R.next hb1
    have b1 := b0.trans (hb1.mono b0.size)
    have hz1 := Nat.le_trans hz0 hb1.size
    have hm1l := M1.lt
    have hm2l := M2.lt
    have hA := (Below.refl w1.heap.size w1).alloc (Nat.le_refl _) (.cells #[.map (some m1), .map (some m2)] 57)
    have St := Box.new (w := w1) (c := #[.map (some m1), .map (some m2)]) (t := 57) rfl
    have M1 := M1.next hA
    have M2 := M2.next hA
    have X := X.next hA
    have R := R.next hA
    have b1 := b1.trans (hA.mono b1.size)
    have hz2 : w1.heap.size < (w1.alloc (.cells #[.map (some m1), .map (some m2)] 57)).heap.size := by simp
    clear hb1 hcl0 hc hT hA b0
    go_upto_region 2 with (fail)
    generalize w1.alloc (.cells #[.map (some m1), .map (some m2)] 57) = w2 at M1 M2 St X R b1 hz2 ⊢
    obtain ⟨t0, t1, tf⟩ := St.c2
    have Tl := St.lt
    by_cases hk : 0 ≤ key ∧ key < (T.length : Int)
    · obtain ⟨k, rfl⟩ := Int.eq_ofNat_of_zero_le hk.1
      have hkn : k < T.length := by omega
      have hkk := hk
      have HCo := Lib.hid (lcC_yes (tid := tid) (wr := wr) (show thereB T (k : Int) = true by rw [hTE, decide_eq_true hk]))
      have hwo := tabOk_wordOk HT.out hkn
      have HSl := Lib.hid (show slotsF T T.length (k : Int) = some (.agg #[.int .i64 (pk (cd T k).e (cd T k).s (cd T k).h), .int .i64 (cd T k).v]) by unfold slotsF; rw [if_pos hk]; rfl)
      have HLk := Lib.hid (locks_get (q := q) HT.out hkn)
      have hlk := hs.at_ hkn
      clear hTE hk tf
      go_upto_region 5 with (first | (at_lookup; refine wp_look_ok _ rfl _ _ rfl keyI Tryz.underlying54 (zeroSlot _) rfl M1 (k : Int) rfl hkey (.agg #[.int .i64 (pk (cd T k).e (cd T k).s (cd T k).h), .int .i64 (cd T k).v]) (by rw [HSl.out]; rfl) true (by rw [HSl.out]; rfl) ?_) | fail)
      have hA := (Below.refl w2.heap.size w2).alloc (Nat.le_refl _) (.cells #[.int .i64 (pk (cd T k).e (cd T k).s (cd T k).h), .int .i64 (cd T k).v] 61)
      have X := X.next hA
      have R := R.next hA
      have St := St.next hA
      have M1 := M1.next hA
      have M2 := M2.next hA
      have b2 := b1.trans (hA.mono b1.size)
      have hz3 := Nat.lt_of_lt_of_le hz2 hA.size
      clear hA b1 t0 t1 Tl
      generalize w2.alloc (.cells #[.int .i64 (pk (cd T k).e (cd T k).s (cd T k).h), .int .i64 (cd T k).v] 61) = w3 at X R St M1 M2 b2 hz3 ⊢
      obtain ⟨t0, t1, tf⟩ := St.c2
      have Tl := St.lt
      have hfl := field_locks (some m1) (some m2) w3
      have hLA : LAt w3 B (lkP T q k).G (lkP T q k).G' ((cd T k).hs, (cd T k).ws) := LAt.keep (locks_at HT.out hkn (HLs.out k hkn)) b2 hB
      go_wp2_with (first | (at_lookup; refine wp_look _ rfl _ _ rfl keyI Tryz.underlying55 (zeroLock _) rfl M2 (k : Int) rfl hkey (.agg #[.slice (lkP T q k).G (cd T k).hs.length (lkP T q k).c, .slice (lkP T q k).G' (cd T k).ws.length (lkP T q k).c']) (by rw [HLk.out]; rfl) ?_) | fail)
      refine (implAsk_any _ _ _ _ B (cd T k).hs (cd T k).ws tid wr _ hlk.1 hlk.2 hLA).mono ?_; rintro o w4 ⟨G1, d1, G2, d2, rfl, hown, hb⟩
      have X := X.next hb
      have R := R.next hb
      have St := St.next hb
      have M1 := M1.next hb
      have M2 := M2.next hb
      have b2 := b2.trans (hb.mono b2.size)
      have hz4 := Nat.lt_of_lt_of_le hz3 hb.size
      clear hb t0 t1 tf Tl hLA hfl
      have HOk := Lib.hid (fun h => ask_twoC (hs := (cd T k).hs) (ws := (cd T k).ws) (tid := tid) (wr := wr) h)
      have HPut := Lib.hid (fun h => lcT_put (T := T) (k := k) (tid := tid) (wr := wr) h)
      have HBad := Lib.hid (fun h => lcT_bad (T := T) (key := k) (tid := tid) (wr := wr) h)
      rw [HCo.out] at HPut HBad
      generalize askC (cd T k).hs (cd T k).ws tid wr = code at HOk HPut HBad HCo ⊢
      generalize askL (cd T k).hs (cd T k).ws tid wr = m at hown HOk HPut ⊢
      have hA := (Below.refl w4.heap.size w4).alloc (Nat.le_refl _) (.cells #[.slice G1 m.1.length d1, .slice G2 m.2.length d2] 40)
      have L := Box.new (w := w4) (c := #[.slice G1 m.1.length d1, .slice G2 m.2.length d2]) (t := 40) rfl
      have X := X.next hA
      have R := R.next hA
      have St := St.next hA
      have M1 := M1.next hA
      have M2 := M2.next hA
      have b2 := b2.trans (hA.mono b2.size)
      have hown := LOwn.below hown hA (Nat.le_refl _)
      have hz5 : w4.heap.size < (w4.alloc (.cells #[.slice G1 m.1.length d1, .slice G2 m.2.length d2] 40)).heap.size := by simp
      clear hA
      go_upto_region 6 with (fail)
      generalize w4.alloc (.cells #[.slice G1 m.1.length d1, .slice G2 m.2.length d2] 40) = w5 at X R St M1 M2 b2 hown L hz5 ⊢
      have hz25 : w.heap.size + 2 ≤ w5.heap.size := by omega
      by_cases h2 : code = 2
      · subst h2
        have HE := Lib.hid (And.intro HCo.out (HBad.out rfl))
        obtain ⟨x0, xf⟩ := X.c1
        have Xl := X.lt
        have h : TAt w B (some ⟨b, off, none⟩) T := fun _ => ⟨b, off, rfl, hbB, q0H⟩
        clear L hown M1 M2 St X xf HPut HBad HOk
        go_wp2_with fail
        refine (copiedTableC_any b off c B T _ hs (Nat.le_trans hB b2.size) (h.keep b2 hB)).mono ?_; rintro o w8 ⟨A8, c8, rfl, ht, hb8, hcx⟩
        have R8 := R.next hb8
        have b8 := b2.trans (hb8.mono b2.size)
        have HO := Lib.hid ((ht.put (a := w.heap.size + 1) (.slice A8 T.length c8) (by omega)).more (lo' := w.heap.size) (B' := (w8.setCell ⟨w.heap.size + 1, 0, none⟩ (.slice A8 T.length c8)).heap.size) (by omega) (by simp))
        have HB8 := Lib.hid (b8.setCell (p := ⟨w.heap.size + 1, 0, none⟩) (by simp) (.slice A8 T.length c8))
        have HCX := Lib.hid (capl_far ht hcx (a := ⟨w.heap.size + 1, 0, none⟩) (.slice A8 T.length c8) (by show w.heap.size + 1 < _; omega))
        obtain ⟨r8, rf8⟩ := R8.c1
        have Rl8 := R8.lt
        clear ht hcx hb8 R8 b8 R b2 x0 Xl
        go_wp2
        exact bodyPost_ret (v := .tuple #[.agg #[.slice A8 T.length c8], .int .i64 2]) (by simp [results, Tryz.results7, go_sem, r8]) rfl (by
          rw [HE.out.1, HE.out.2]
          exact ⟨A8, c8, rfl, HO.out, HB8.out, HCX.out⟩)
      · have HE := Lib.hid (And.intro HCo.out (HPut.out h2))
        have hmo := HOk.out h2
        have hm8 := ((lockOk_iff _ _).1 hmo).1.len
        have HMO := Lib.hid hmo
        obtain ⟨t0, t1, tf⟩ := St.c2
        obtain ⟨l0, l1, lf⟩ := L.c2
        have Tl := St.lt
        have Ll := L.lt
        have hlt : LAt w5 w5.heap.size G1 G2 (m.1, m.2) := (LOwn.at_ hown).up (Nat.le_of_lt hz5)
        clear HPut HBad HOk tf lf X hmo
        go_wp2_with fail
        refine (setLock_any m1 m2 T.length mm w5.heap.size (slotsF T T.length) (locksF T q T.length) (k : Int) (cd T k).v (cd T k).e (cd T k).s (cd T k).h G1 G2 d1 d2 m.1 m.2 _ (by omega) (by omega) (by omega) hne HSl.out hwo (by omega) (by omega) M1 M2 (Nat.le_refl _) hlt).mono ?_; rintro o w6 ⟨rfl, N1, ⟨mm', hmm', N2⟩, hU⟩
        have St := St.but hU (by omega) (by omega)
        have R := R.but hU (by omega) (by omega)
        have b6 := b2.trans (hU.below (L := w.heap.size) (by omega) (by omega) b2.size)
        have hz6 := hU.size
        have hnew : LAt w6 w6.heap.size G1 G2 m := (LOwn.at_ (lown_but2 hown hU (by omega) (by omega) (Nat.le_of_lt hz5))).up (by omega)
        have hto := put_ok HT.out hkn HMO.out
        have N1 := N1.congr (slots_put hkn m)
        rw [← putT_len T k (lockC (cd T k) m)] at N1
        obtain ⟨t0, t1, tf⟩ := St.c2
        have Tl := St.lt
        clear l0 l1 Ll M1 M2 hown hlt b2 L hU St tf
        go_wp2_with fail
        refine (tableC_any m1 m2 mm' w6.heap.size (putT T k (lockC (cd T k) m)) (putP T q k m ⟨G1, d1, G2, d2⟩) _ _ (tab_fit hto) (Nat.le_refl _) (fun j hj => tabOk_wordOk hto hj) N1 N2 (fun j hj => locks_put HT.out m HMO.out ⟨G1, d1, G2, d2⟩ (by rw [putT_len] at hj; exact hj)) (fun j hj => putP_at HT.out HMO.out (P := ⟨G1, d1, G2, d2⟩) hnew (fun i hi => (LAt.keep (HLs.out i hi) b6 hB).up (Nat.le_trans hB b6.size)) (by rw [putT_len] at hj; exact hj))).mono ?_; rintro o w8 ⟨A8, c8, rfl, ht, hb8, hcx⟩
        have R8 := R.next hb8
        have b8 := b6.trans (hb8.mono b6.size)
        generalize putT T k (lockC (cd T k) m) = T8 at HE ht hcx
        have HO := Lib.hid ((ht.put (a := w.heap.size + 1) (.slice A8 T8.length c8) (by omega)).more (lo' := w.heap.size) (B' := (w8.setCell ⟨w.heap.size + 1, 0, none⟩ (.slice A8 T8.length c8)).heap.size) (by omega) (by simp))
        have HB8 := Lib.hid (b8.setCell (p := ⟨w.heap.size + 1, 0, none⟩) (by simp) (.slice A8 T8.length c8))
        have HCX := Lib.hid (capl_far ht hcx (a := ⟨w.heap.size + 1, 0, none⟩) (.slice A8 T8.length c8) (by show w.heap.size + 1 < _; omega))
        obtain ⟨r8, rf8⟩ := R8.c1
        have Rl8 := R8.lt
        clear ht hcx hb8 R8 b8 R t0 t1 Tl N1 N2 b6 hnew hto
        go_wp2
        exact bodyPost_ret (v := .tuple #[.agg #[.slice A8 T8.length c8], .int .i64 code]) (by simp [results, Tryz.results7, go_sem, r8]) rfl (by
          rw [HE.out.1, HE.out.2]
          exact ⟨A8, c8, rfl, HO.out, HB8.out, HCX.out⟩)
    · have HE := Lib.hid (lcC_not (tid := tid) (wr := wr) (show thereB T key = false by rw [hTE, decide_eq_false hk]))
      have HSl := Lib.hid (show slotsF T T.length key = none by unfold slotsF; rw [if_neg hk])
      have hA := (Below.refl w2.heap.size w2).alloc (Nat.le_refl _) (.cells #[.int .i64 0, .int .i64 0] 61)
      have X := X.next hA
      have R := R.next hA
      have b2 := b1.trans (hA.mono b1.size)
      have hz3 := Nat.le_trans (Nat.le_trans hz1 (Nat.le_of_lt hz2)) hA.size
      obtain ⟨x0, xf⟩ := X.c1
      have Xl := X.lt
      clear hTE hk X xf hA b1 tf
      go_wp2_with (first | (at_lookup; refine wp_look_ok _ rfl _ _ rfl keyI Tryz.underlying54 (zeroSlot _) rfl M1 key rfl hkey (.agg #[.int .i64 0, .int .i64 0]) (by rw [HSl.out]; rfl) false (by rw [HSl.out]; rfl) ?_) | fail)
      refine (copiedTableC_any b off c B T _ hs (Nat.le_trans hB b2.size) (h.keep b2 hB)).mono ?_; rintro o w8 ⟨A8, c8, rfl, ht, hb8, hcx⟩
      have R8 := R.next hb8
      have b8 := b2.trans (hb8.mono b2.size)
      have HO := Lib.hid ((ht.put (a := w.heap.size + 1) (.slice A8 T.length c8) (by omega)).more (lo' := w.heap.size) (B' := (w8.setCell ⟨w.heap.size + 1, 0, none⟩ (.slice A8 T.length c8)).heap.size) (by omega) (by simp))
      have HB8 := Lib.hid (b8.setCell (p := ⟨w.heap.size + 1, 0, none⟩) (by simp) (.slice A8 T.length c8))
      have HCX := Lib.hid (capl_far ht hcx (a := ⟨w.heap.size + 1, 0, none⟩) (.slice A8 T.length c8) (by show w.heap.size + 1 < _; omega))
      obtain ⟨r8, rf8⟩ := R8.c1
      have Rl8 := R8.lt
      clear ht hcx hb8 R8 b8 R b2 x0 Xl
      go_wp2
      exact bodyPost_ret (v := .tuple #[.agg #[.slice A8 T.length c8], .int .i64 2]) (by simp [results, Tryz.results7, go_sem, r8]) rfl (by
        rw [HE.out.1, HE.out.2]
        exact ⟨A8, c8, rfl, HO.out, HB8.out, HCX.out⟩)
theorem lcT_fit {T : TL} {key tid : Int} {wr : Bool} (h : TFit T) : TFit (lcT T key tid wr) := by
  unfold lcT
  split
  · exact h
  · rename_i h2
    have ht : thereB T key = true := by
      cases hh : thereB T key with
      | true => rfl
      | false => simp [lcC, hh] at h2
    obtain ⟨h1, h3, h4⟩ := there_iff.1 ht
    have h2' : ¬ askC (cAt T key).hs (cAt T key).ws tid wr = 2 := by simpa [lcC, ht] using h2
    exact tab_fit (put_ok h1 h4 (ask_twoC h2'))
set_option maxHeartbeats 800000 in
set_option maxRecDepth 100000 in
theorem implTryCellC_any (b off c B : Nat) (T : TL) (key tid : Int) (wr : Bool) (w : World) (hkey : keyOf Tryz.prog 3 (.int .i64 key) = some (.int .i64 key)) (hs : TFit T) (hB : B ≤ w.heap.size) (h : TAt w B (some ⟨b, off, none⟩) T) :
    Calls Tryz.prog 8 #[.agg #[.slice (some ⟨b, off, none⟩) T.length c], .int .i64 key, .int .i64 tid, .bool wr] w (RetTOC w (tcT T key tid wr) fun v => .tuple #[v, .bool (tcB T key tid wr)]) := by
  go_enter Tryz.func8, Tryz.ntmps8
  go_wp2_with fail
  have b0 := ((Below.refl w.heap.size w).alloc (Nat.le_refl _) (.cells #[.slice (some ⟨b, off, none⟩) T.length c] 26)).alloc (by simp) (.cells #[.slice none 0 0] 26)
  have X := (Box.new (w := w) (c := #[.slice (some ⟨b, off, none⟩) T.length c]) (t := 26) rfl).alloc (.cells #[.slice none 0 0] 26)
  have R := Box.new (w := w.alloc (.cells #[.slice (some ⟨b, off, none⟩) T.length c] 26)) (b := w.heap.size + 1) (c := #[.slice none 0 0]) (t := 26) (by simp)
  have hz0 : w.heap.size + 2 ≤ ((w.alloc (.cells #[.slice (some ⟨b, off, none⟩) T.length c] 26)).alloc (.cells #[.slice none 0 0] 26)).heap.size := by simp
  generalize (w.alloc (.cells #[.slice (some ⟨b, off, none⟩) T.length c] 26)).alloc (.cells #[.slice none 0 0] 26) = w0 at b0 X R hz0 ⊢
  refine (implLockCellC_any b off c B T key tid wr _ hkey hs (Nat.le_trans hB b0.size) (h.keep b0 hB)).mono ?_; rintro o w1 ⟨A2, c2, rfl, ta, hb, hcx⟩
  have X := X.next hb
  have R := R.next hb
  have b1 := b0.trans (hb.mono b0.size)
  have hz1 : w.heap.size + 2 ≤ w1.heap.size := Nat.le_trans hz0 hb.size
  have hcl := ta
  have ta := ta.more hz0 (Nat.le_refl _)
  have HH := Lib.hid (tc_hit (T := T) (key := key) (tid := tid) (wr := wr))
  have HM := Lib.hid (tc_miss (T := T) (key := key) (tid := tid) (wr := wr))
  generalize lcT T key tid wr = T' at ta hcl hcx HH ⊢
  generalize lcC T key tid wr = code at HH HM ⊢
  have hA := (Below.refl w1.heap.size w1).alloc (Nat.le_refl _) (.cells #[.slice A2 T'.length c2] 26)
  have U := Box.new (w := w1) (c := #[.slice A2 T'.length c2]) (t := 26) rfl
  have X := X.next hA
  have R := R.next hA
  have b1 := b1.trans (hA.mono b1.size)
  have hcx := tcapl_own hcl hcx hA
  have ta := ta.below hA (Nat.le_refl _)
  clear hcl
  have hz2 : w1.heap.size < (w1.alloc (.cells #[.slice A2 T'.length c2] 26)).heap.size := by simp
  clear hb hz0 hA
  go_upto_region 2 with (fail)
  generalize w1.alloc (.cells #[.slice A2 T'.length c2] 26) = w2 at X R U b1 ta hcx hz2 ⊢
  obtain ⟨x0, xf⟩ := X.c1
  have Xl := X.lt
  by_cases h0 : code = 0
  · subst h0
    have HE := Lib.hid (HH.out rfl)
    obtain ⟨y0, yf⟩ := U.c1
    obtain ⟨r0, rf⟩ := R.c1
    have Rl := R.lt
    have Ul := U.lt
    have HO := Lib.hid ((ta.put (a := w.heap.size + 1) (.slice A2 T'.length c2) (by omega)).more (lo' := w.heap.size) (B' := (w2.setCell ⟨w.heap.size + 1, 0, none⟩ (.slice A2 T'.length c2)).heap.size) (by omega) (by simp; omega))
    have HB8 := Lib.hid (b1.setCell (p := ⟨w.heap.size + 1, 0, none⟩) (by simp) (.slice A2 T'.length c2))
    have HCX := Lib.hid (capl_far ta hcx (a := ⟨w.heap.size + 1, 0, none⟩) (.slice A2 T'.length c2) (by show w.heap.size + 1 < _; omega))
    clear ta hcx b1 U R X yf
    go_wp2
    exact bodyPost_ret (v := .tuple #[.agg #[.slice A2 T'.length c2], .bool true]) (by simp [results, Tryz.results8, go_sem, r0]) rfl (by
      rw [HE.out.1, HE.out.2]
      exact ⟨A2, c2, rfl, HO.out, HB8.out, HCX.out⟩)
  · have HE := Lib.hid (HM.out h0)
    clear ta hcx U
    go_wp2_with fail
    refine (copiedTableC_any b off c B T _ hs (Nat.le_trans hB b1.size) (h.keep b1 hB)).mono ?_; rintro o w8 ⟨A8, c8, rfl, ht, hb8, hcx⟩
    have R8 := R.next hb8
    have b8 := b1.trans (hb8.mono b1.size)
    have HO := Lib.hid ((ht.put (a := w.heap.size + 1) (.slice A8 T.length c8) (by omega)).more (lo' := w.heap.size) (B' := (w8.setCell ⟨w.heap.size + 1, 0, none⟩ (.slice A8 T.length c8)).heap.size) (by omega) (by simp))
    have HB8 := Lib.hid (b8.setCell (p := ⟨w.heap.size + 1, 0, none⟩) (by simp) (.slice A8 T.length c8))
    have HCX := Lib.hid (capl_far ht hcx (a := ⟨w.heap.size + 1, 0, none⟩) (.slice A8 T.length c8) (by show w.heap.size + 1 < _; omega))
    obtain ⟨r8, rf8⟩ := R8.c1
    have Rl8 := R8.lt
    clear ht hcx hb8 R8 b8 b1 R X x0 xf Xl
    go_wp2
    exact bodyPost_ret (v := .tuple #[.agg #[.slice A8 T.length c8], .bool false]) (by simp [results, Tryz.results8, go_sem, r8]) rfl (by
      rw [HE.out.1, HE.out.2]
      exact ⟨A8, c8, rfl, HO.out, HB8.out, HCX.out⟩)
theorem tcT_fit {T : TL} {key tid : Int} {wr : Bool} (h : TFit T) : TFit (tcT T key tid wr) := by
  unfold tcT
  split
  · exact lcT_fit h
  · exact h
end Go.Proofs.YtcndmdglnohbcaaGreatDoor

namespace Go.Proofs.YtcndmdglnohbcaaGreatDoor
open Go.RowKit

theorem offL_take {l : HL} {t : Int} {k : Nat} (hk : k < l.length) : offL (l.take (k + 1)) t = offL (l.take k) t ++ (if hT l k = t then [] else [(hT l k, hW l k)]) := by
  unfold offL
  rw [List.take_succ_eq_append_getElem hk, List.filter_append, ← hT_get hk]
  by_cases e : hT l k = t
  · simp [e]
  · simp [e]
theorem off_eq {l : HL} {t : Int} {k : Nat} (hk : k < l.length) (e : hT l k = t) : offL (l.take (k + 1)) t = offL (l.take k) t := by rw [offL_take hk, if_pos e, List.append_nil]
theorem off_ne {l : HL} {t : Int} {k : Nat} (hk : k < l.length) (e : ¬ hT l k = t) : offL (l.take (k + 1)) t = offL (l.take k) t ++ [(hT l k, hW l k)] := by rw [offL_take hk, if_neg e]
theorem off_len (l : HL) (t : Int) : (offL l t).length ≤ l.length := List.length_filter_le _ _
theorem leave_no {hs ws : HL} {t : Int} (h : holdsL hs ws t = 0) : leaveL hs ws t = (hs, ws) ∧ leaveB hs ws t = false := by simp [leaveL, leaveB, h]
theorem leave_yes {hs ws : HL} {t : Int} (h : ¬ holdsL hs ws t = 0) : leaveL hs ws t = grantS (offL hs t) (offL ws t) ∧ leaveB hs ws t = true := by simp [leaveL, leaveB, h]
theorem leave_lock {hs ws : HL} {t : Int} (h : ¬ holdsL hs ws t = 0) : lockOk hs ws = true := by
  unfold holdsL at h
  cases hl : lockOk hs ws with
  | true => rfl
  | false => rw [hl] at h; simp at h
theorem leave_len {hs ws : HL} {t : Int} (h : ¬ holdsL hs ws t = 0) : hs.length + ws.length ≤ 8 := ((lockOk_iff _ _).1 (leave_lock h)).1.len

/-- the first loop of LeaveLock, after k holders -/
def LvA (hs : HL) (t : Int) (xs : List Value) (w : World) (ob k : Nat) (wr : World) : Prop := ob < wr.heap.size ∧ ∃ v, Box wr w.heap.size xs ∧ OwnH wr (ob + 1) v (offL (hs.take k) t) ∧ Box wr ob [v, .slice none 0 0] ∧ Box wr (w.heap.size + 1) [.slice none 0 0, .slice none 0 0] ∧ Below w.heap.size w wr
/-- the second loop, after k waiters -/
def LvB (hs ws : HL) (t : Int) (xs : List Value) (w : World) (ob m k : Nat) (wr : World) : Prop := ob < wr.heap.size ∧ ∃ v1 v2, Box wr w.heap.size xs ∧ OwnH wr (ob + 1) v1 (offL hs t) ∧ (∀ q, v1.ownBlock = some q → q < m) ∧ OwnH wr m v2 (offL (ws.take k) t) ∧ Box wr ob [v1, v2] ∧ Box wr (w.heap.size + 1) [.slice none 0 0, .slice none 0 0] ∧ Below w.heap.size w wr ∧ m ≤ wr.heap.size

end Go.Proofs.YtcndmdglnohbcaaGreatDoor

namespace Go.Proofs.YtcndmdglnohbcaaGreatDoor
open Go.RowKit

theorem erase_eq (l : HL) (k : Nat) : l.eraseIdx k = l.take k ++ l.drop (k + 1) := List.eraseIdx_eq_take_drop_succ l k
theorem hcs_sub {w : World} {g off n : Nat} {l P S R : HL} (hl : l = P ++ (S ++ R)) (hc : ∀ j, j < l.length → w.cell? ⟨g, off + j * 2, none⟩ = some (.int .i64 (hT l j)) ∧ w.cell? ⟨g, off + j * 2 + 1, none⟩ = some (.bool (hW l j))) (hn : P.length = n) : ∀ j u, (hcs S)[j]? = some u → w.cell? ((⟨g, off + n * 2, none⟩ : Addr).add j) = some u := by
  intro j u hu
  have hj : j < S.length * 2 := by
    have := (List.getElem?_eq_some_iff.1 hu).1
    rw [hcs_length] at this; exact this
  have hlen : l.length = n + (S.length + R.length) := by rw [hl, List.length_append, List.length_append, hn]
  have hadd : (⟨g, off + n * 2, none⟩ : Addr).add j = ⟨g, off + n * 2 + j, none⟩ := by
    by_cases e : j = 0
    · subst e; simp [Addr.add]
    · simp [Addr.add, e]
  rw [hadd]
  have hget : (hcs l)[n * 2 + j]? = some u := by
    rw [hl, hcs_append, hcs_append, List.getElem?_append_right (by rw [hcs_length, hn]; omega), hcs_length, hn, Nat.add_sub_cancel_left, List.getElem?_append_left (by rw [hcs_length]; exact hj)]
    exact hu
  have hh := hc (n + j / 2) (by omega)
  have hx := hcs_get (l := l) (k := n + j / 2) (by omega)
  have h3 : j % 2 = 0 ∨ j % 2 = 1 := by omega
  rcases h3 with h3 | h3
  · have e1 : n * 2 + j = (n + j / 2) * 2 := by omega
    have e2 : off + n * 2 + j = off + (n + j / 2) * 2 := by omega
    rw [e1, hx.1] at hget
    rw [e2, hh.1, ← Option.some.inj hget]
  · have e1 : n * 2 + j = (n + j / 2) * 2 + 1 := by omega
    have e2 : off + n * 2 + j = off + (n + j / 2) * 2 + 1 := by omega
    rw [e1, hx.2] at hget
    rw [e2, hh.2, ← Option.some.inj hget]
set_option maxHeartbeats 3200000 in
set_option maxRecDepth 100000 in
theorem without_any (A : Option Addr) (B : Nat) (l : HL) (k : Nat) (w : World) (hn : l.length ≤ 1048576) (hk : k < l.length) (h : HAt w B A l) :
    Calls Tryz.prog 54 #[.slice A l.length l.length, .int .i64 k] w fun e w' => ∃ A' c', e = .returned (.slice A' (l.eraseIdx k).length c') ∧ HAt w' w'.heap.size A' (l.eraseIdx k) ∧ Below w.heap.size w w' := by
  have h := h.lt
  obtain ⟨i0, hi, hz0, hz1, hz2⟩ := info_parts infoHold
  have Hi := Lib.hid hi
  have Hz0 := Lib.hid hz0
  have Hz1 := Lib.hid hz1
  have Hz2 := Lib.hid hz2
  clear hi hz0 hz1 hz2
  obtain ⟨g, off, rfl, hB, hcc⟩ := h (by omega)
  have hkz : (k : Int) < l.length := by omega
  have hkn : k ≤ l.length := by omega
  have hle : (k : Int) ≤ (k : Int) + 1 := by omega
  have hwr : IntKind.i64.wrap ((k : Int) + 1) = (k : Int) + 1 := IntWalk.i64_in _ (by omega)
  have h01 : (0 : Int) ≤ (k : Int) + 1 := by omega
  have h1l : (k : Int) + 1 ≤ l.length := by omega
  by_cases hm : k + 1 < l.length
  · have hmz : ((k : Int) + 1) < l.length := by omega
    have hnl : ¬ l.length = k + 1 := by omega
    have dr := (Below.refl w.heap.size w).drew
    have hcc : ∀ j, j < l.length → w.drew.cell? ⟨g, off + j * 2, none⟩ = some (.int .i64 (hT l j)) ∧ w.drew.cell? ⟨g, off + j * 2 + 1, none⟩ = some (.bool (hW l j)) := fun j hj => ⟨(dr.cell (p := ⟨g, off + j * 2, none⟩) hB).trans (hcc j hj).1, (dr.cell (p := ⟨g, off + j * 2 + 1, none⟩) hB).trans (hcc j hj).2⟩
    have LO : Hid ((hcs (l.take k)).length = k * 2) := Lib.hid (by rw [hcs_length, List.length_take]; omega)
    have LN : Hid ((hcs (l.drop (k + 1))).length = (l.length - (k + 1)) * 2) := Lib.hid (by rw [hcs_length, List.length_drop])
    have HO : Hid (∀ b, (some (⟨g, off, none⟩ : Addr)) = some b → ∀ j u, (hcs (l.take k))[j]? = some u → w.drew.cell? (b.add j) = some u) := Lib.hid (fun b hb => by
      obtain rfl := Option.some.inj hb
      exact hcs_sub (n := 0) (P := []) (S := l.take k) (R := l.drop k) (by simp) hcc rfl)
    have HN : Hid (∀ j u, (hcs (l.drop (k + 1)))[j]? = some u → w.drew.cell? ((⟨g, off + (k + 1) * 2, none⟩ : Addr).add j) = some u) := Lib.hid (hcs_sub (n := k + 1) (P := l.take (k + 1)) (S := l.drop (k + 1)) (R := []) (by simp) hcc (by rw [List.length_take]; omega))
    clear hcc
    go_enter Tryz.func54, Tryz.ntmps54
    go_wp2_with fail
    go_region_law (refine step_append_grows rfl _ _ 38 rfl 77 i0 (.agg #[.int .i64 0, .bool false]) 2 16 Tryz.underlying38 Hi.out Hz0.out Hz1.out Hz2.out rfl (by decide) (some ⟨g, off, none⟩) k k (hcs (l.take k)) (by simp [Act.eval, Act.put]) (fun h => by cases h) LO.out HO.out ⟨g, off + (k + 1) * 2, none⟩ (l.length - (k + 1)) (l.length - (k + 1)) (hcs (l.drop (k + 1))) (by simp [Act.eval, Act.put]) LN.out HN.out (hcs_one _) (by omega) (by unfold maxLen; omega) (by omega) ?_; intro v' w' hown hgrow)
    all_goals
      have hE : hcs (l.eraseIdx k) = hcs (l.take k) ++ hcs (l.drop (k + 1)) := by rw [erase_eq, hcs_append]
      rw [← hE] at hown
      obtain ⟨A', c', rfl, hN, ho⟩ := HOwn.of_owns hown
      have hB' : Below w.heap.size w w' := dr.grown hgrow (Nat.le_refl _) (fun q hq => by cases hq)
      have HA := Lib.hid ho.at_
      clear hown hgrow ho hE LO HO LN HN
      go_wp2
      go_ret
      exact ⟨A', c', rfl, HA.out, hB'⟩
  · have hl : l.length = k + 1 := by omega
    have dr := (Below.refl w.heap.size w).drew
    have HE : l.eraseIdx k = l.take k := by rw [erase_eq, List.drop_eq_nil_of_le (by omega), List.append_nil]
    have hlen : (l.take k).length = k := by rw [List.length_take]; omega
    have HA : Hid (HAt w.drew w.drew.heap.size (some ⟨g, off, none⟩) (l.take k)) := Lib.hid (fun _ => ⟨g, off, rfl, hB, fun j hj => by
      have hj' : j < k := by rw [hlen] at hj; exact hj
      rw [hT_take, hW_take, if_pos hj', if_pos hj']
      exact ⟨(dr.cell (p := ⟨g, off + j * 2, none⟩) hB).trans (hcc j (by omega)).1, (dr.cell (p := ⟨g, off + j * 2 + 1, none⟩) hB).trans (hcc j (by omega)).2⟩⟩)
    rw [hl, HE]
    have HL := Lib.hid hlen
    clear hlen HE hcc h
    go_enter Tryz.func54, Tryz.ntmps54
    go_wp2_with fail
    go_region_law (fail)
    all_goals
      go_wp2
      go_ret
      exact ⟨some ⟨g, off, none⟩, k, by rw [HL.out]; rfl, HA.out, dr⟩
end Go.Proofs.YtcndmdglnohbcaaGreatDoor

namespace Go.Proofs.YtcndmdglnohbcaaGreatDoor
open Go.RowKit

theorem off_notin {l : HL} {t : Int} (h : ¬ t ∈ ids l) : offL l t = l := List.filter_eq_self.2 fun z hz => by
  have : ¬ z.1 = t := fun e => h (e ▸ List.mem_map_of_mem (f := (·.1)) hz)
  simpa using this
theorem off_hit {l : HL} {t : Int} {k : Nat} (hk : k < l.length) (e : hT l k = t) (hn : (ids l).Nodup) : offL l t = l.eraseIdx k := by
  have hx : l[k].1 = t := by rw [← hT_get hk]; exact e
  have hl : l = l.take k ++ (l[k] :: l.drop (k + 1)) := by rw [List.getElem_cons_drop]; exact (List.take_append_drop k l).symm
  have hi := congrArg ids hl
  rw [ids_append, ids_cons, hx] at hi
  rw [hi, List.nodup_append] at hn
  have n1 : ¬ t ∈ ids (l.take k) := fun hm => hn.2.2 t hm t (List.mem_cons_self ..) rfl
  have n2 : ¬ t ∈ ids (l.drop (k + 1)) := (List.nodup_cons.1 hn.2.1).1
  have h1 : offL l t = offL (l.take k) t ++ offL (l[k] :: l.drop (k + 1)) t := by
    have h2 : offL (l.take k ++ (l[k] :: l.drop (k + 1))) t = offL (l.take k) t ++ offL (l[k] :: l.drop (k + 1)) t := List.filter_append ..
    rw [← h2, ← hl]
  have h3 : offL (l[k] :: l.drop (k + 1)) t = offL (l.drop (k + 1)) t := List.filter_cons_of_neg (by rw [hx]; simp)
  rw [h1, h3, off_notin n1, off_notin n2, erase_eq]
theorem leave_bad {hs ws : HL} {t : Int} (h : lockOk hs ws = false) : leaveL hs ws t = (hs, ws) ∧ leaveB hs ws t = false := leave_no (by simp [holdsL, h])
theorem leave_none {hs ws : HL} {t : Int} (h1 : NoT hs t hs.length) (h2 : NoT ws t ws.length) : leaveL hs ws t = (hs, ws) ∧ leaveB hs ws t = false := leave_no (by
  unfold holdsL
  split
  · exact holds_none h1 h2
  · rfl)
theorem leave_hold {hs ws : HL} {t : Int} {k : Nat} (h : lockOk hs ws = true) (hk : k < hs.length) (e : hT hs k = t) (hn : NoT hs t k) : leaveL hs ws t = grantS (hs.eraseIdx k) ws ∧ leaveB hs ws t = true ∧ PreG (hs.eraseIdx k) ws := by
  have hp := ((lockOk_iff _ _).1 h).1
  have nd := hp.nd
  rw [ids_append, List.nodup_append] at nd
  have e1 := off_hit hk e nd.1
  have hm : t ∈ ids hs := e ▸ hT_mem hk
  have e2 : offL ws t = ws := off_notin fun hw => nd.2.2 t hm t hw rfl
  have hy : ¬ holdsL hs ws t = 0 := by
    rw [holdsL, if_pos h, holds_hit ws hk e hn]; split <;> omega
  have hq := pre_off t hp
  have hy := leave_yes hy
  rw [e1, e2] at hq hy
  exact ⟨hy.1, hy.2, hq⟩
theorem leave_wait {hs ws : HL} {t : Int} {k : Nat} (h : lockOk hs ws = true) (h0 : NoT hs t hs.length) (hk : k < ws.length) (e : hT ws k = t) : leaveL hs ws t = grantS hs (ws.eraseIdx k) ∧ leaveB hs ws t = true ∧ PreG hs (ws.eraseIdx k) := by
  have hp := ((lockOk_iff _ _).1 h).1
  have nd := hp.nd
  rw [ids_append, List.nodup_append] at nd
  have e1 := off_hit hk e nd.2.1
  have e2 : offL hs t = hs := off_notin (noT_ids h0)
  have hy : ¬ holdsL hs ws t = 0 := by
    rw [holdsL, if_pos h, holds_wait h0 hk e]; omega
  have hq := pre_off t hp
  have hy := leave_yes hy
  rw [e1, e2] at hq hy
  exact ⟨hy.1, hy.2, hq⟩

set_option maxHeartbeats 3200000 in
set_option maxRecDepth 100000 in
theorem implLeave_any (A A' : Option Addr) (B : Nat) (hs ws : HL) (t : Int) (w : World) (hn : hs.length ≤ 1048576) (hn' : ws.length ≤ 1048576) (h : LAt w B A A' (hs, ws)) :
    Calls Tryz.prog 29 #[.agg #[.slice A hs.length hs.length, .slice A' ws.length ws.length], .int .i64 t] w (RetLock w (leaveL hs ws t) fun v => .tuple #[v, .bool (leaveB hs ws t)]) := by
  have hh : LAt w w.heap.size A A' (hs, ws) := ⟨h.1.lt, h.2.lt⟩
  clear h
  go_enter Tryz.func29, Tryz.ntmps29
  go_wp2_with fail
  have b := (((Below.refl w.heap.size w).alloc (Nat.le_refl _) (.cells #[.slice A hs.length hs.length, .slice A' ws.length ws.length] 40)).alloc (by simp) (.cells #[.slice none 0 0, .slice none 0 0] 40))
  have X := ((Box.new (w := w) (c := #[.slice A hs.length hs.length, .slice A' ws.length ws.length]) (t := 40) rfl).alloc (.cells #[.slice none 0 0, .slice none 0 0] 40))
  have R := (Box.new (w := w.alloc (.cells #[.slice A hs.length hs.length, .slice A' ws.length ws.length] 40)) (b := w.heap.size + 1) (c := #[.slice none 0 0, .slice none 0 0]) (t := 40) (by simp))
  refine (implLockOk_any _ _ _ _ _ hs ws _ hn hn' (hh.below b b.size)).mono ?_; rintro e w1 ⟨rfl, hb1⟩
  have hlo := R.lt
  have hs0 : w.heap.size + 2 ≤ w1.heap.size := by have := hb1.size; simp at this; omega
  have X := X.next hb1
  have R := R.next hb1
  have b := b.trans (hb1.mono b.size)
  clear hb1 hlo
  cases hl : lockOk hs ws with
  | false =>
    have HB := Lib.hid (leave_bad (t := t) hl)
    clear hl
    obtain ⟨x0, x1, xf⟩ := X.c2
    clear xf
    go_wp2_with fail
    refine (implCopy_any _ _ _ _ _ hs ws _ hn hn' (hh.below b b.size)).mono ?_; rintro e w9 ⟨v1, v2, rfl, ho, hb9⟩
    obtain ⟨A3, c3, A4, c4, rfl, rfl, _⟩ := ho.lock
    have hlR := R.lt
    have R := R.next hb9
    have b9 := b.trans (hb9.mono b.size)
    obtain ⟨r0, r1, rf⟩ := R.c2
    have hOB := Lib.hid (ho.far (a := ⟨w.heap.size + 1, 0, none⟩) (.slice A3 hs.length c3) (by simpa using hlR))
    have hOB := Lib.hid (hOB.out.far (a := ⟨w.heap.size + 1, 1, none⟩) (.slice A4 ws.length c4) (by simpa using hlR))
    have hltR : w.heap.size + 1 < w9.heap.size := R.lt
    clear x0 x1 hb9 X R ho hlR
    go_wp2
    exact bodyPost_ret (v := .tuple #[.agg #[.slice A3 hs.length c3, .slice A4 ws.length c4], .bool false]) (by simp [results, Tryz.results29, go_sem, r0, r1]) rfl (RetOwn.lock ⟨_, _, by rw [HB.out.2], by rw [HB.out.1]; exact hOB.out.less b.size, (b9.setCell (p := ⟨w.heap.size + 1, 0, none⟩) (by simp) _).setCell (p := ⟨w.heap.size + 1, 1, none⟩) (by simp) _⟩)
  | true =>
    have HLK := Lib.hid hl
    clear hl
    obtain ⟨x0, x1, xf⟩ := X.c2
    clear xf
    go_wp2_with fail
    refine (indexOf_any A _ _ hs t _ hn (hh.1.below b b.size)).mono ?_; rintro e w2 ⟨rfl, hb2⟩
    have X := X.next hb2
    have R := R.next hb2
    have s2 := hb2.size
    have b := b.trans (hb2.mono b.size)
    clear hb2 x0 x1
    obtain ⟨x0, x1, xf⟩ := X.c2
    have hltX := X.lt
    have Xk := Lib.hid X
    clear xf X
    rcases idxT_cases hs t with ⟨k, hk, he, hno, hi⟩ | ⟨hno, hi⟩
    · rw [hi]
      obtain ⟨e1, e2, e3⟩ := leave_hold HLK.out hk he hno
      have E1 := Lib.hid e1
      have E2 := Lib.hid e2
      have E3 := Lib.hid e3
      clear hi he hno e1 e2 e3
      have WW := Lib.hid (fun B w h => without_any A B hs k w hn hk h)
      generalize hs.eraseIdx k = P at E1 E3 WW
      have GA := Lib.hid (fun A c B lo q bs w hq h => granted_any A c B lo q bs P ws w E3.out hq h)
      generalize grantS P ws = G at E1 GA
      have HD := Lib.hid (hh.below b.drew b.size)
      have XD := Lib.hid Xk.out.drew
      have RD := Lib.hid R.drew
      go_wp2_with fail
      go_region_law (first
        | (go_simp; go_at_call 54; refine (WW.out _ _ HD.out.1).mono ?_; rintro o w3 ⟨A3, c3, rfl, hA3, hb3⟩; obtain ⟨z0, z1, zf⟩ := (XD.out.next hb3).c2)
        | (go_simp; go_at_call 50; refine (queueFrom_any A' _ _ ws _ hn' (HD.out.2.below hb3 hb3.size)).mono ?_; rintro o w4 ⟨q, bs, rfl, hq, hb4⟩)
        | (go_simp; go_at_call 52; refine (GA.out A3 c3 _ _ q bs _ hq (hA3.below hb4 hb4.size)).mono ?_; rintro o w5 ⟨A5, c5, A6, c6, rfl, hG, hb5⟩; have RR := ((RD.out.next hb3).next hb4).below hb5 (Nat.lt_of_lt_of_le R.lt hb3.size); obtain ⟨r0, r1, rf⟩ := RR.c2))
      all_goals
        have hz3 : w2.heap.size ≤ w3.heap.size := hb3.size
        have hz4 := hb4.size
        have b5 := ((b.drew.trans (hb3.mono (Nat.le_trans b.size (Nat.le_refl _)))).trans (hb4.mono (Nat.le_trans b.size hz3))).trans (hb5.mono (Nat.le_trans b.size hz3))
        have hz5 := hb5.size
        have hltR := RR.lt
        have hOB := Lib.hid (((hG.far (a := ⟨w.heap.size + 1, 0, none⟩) (.slice A5 G.1.length c5) (.inl (by show w.heap.size + 1 < w4.heap.size; omega))).far (a := ⟨w.heap.size + 1, 1, none⟩) (.slice A6 G.2.length c6) (.inl (by show w.heap.size + 1 < w4.heap.size; omega))).more (lo' := w.heap.size) (by omega) (B' := w5.heap.size) (by omega))
        clear hG hb3 hb4 hb5 hq hA3 RR Xk R XD RD HD WW GA z0 z1 zf x0 x1
        go_wp2
        exact bodyPost_ret (v := .tuple #[.agg #[.slice A5 G.1.length c5, .slice A6 G.2.length c6], .bool true]) (by simp [results, Tryz.results29, go_sem, r0, r1]) rfl ⟨A5, c5, A6, c6, by rw [E2.out, E1.out], by rw [E1.out]; exact hOB.out.more (Nat.le_refl _) (by simp), (b5.setCell (p := ⟨w.heap.size + 1, 0, none⟩) (by simp) _).setCell (p := ⟨w.heap.size + 1, 1, none⟩) (by simp) _⟩
    · rw [hi]
      have Hno := Lib.hid hno
      clear hi hno
      go_wp2_with fail
      refine (indexOf_any A' _ _ ws t _ hn' (hh.2.below b b.size)).mono ?_; rintro e w3 ⟨rfl, hb3⟩
      have X := Xk.out.next hb3
      have R := R.next hb3
      have s3 := hb3.size
      have b := b.trans (hb3.mono b.size)
      clear hb3 x0 x1 hltX Xk
      rcases idxT_cases ws t with ⟨k, hk, he, _, hi⟩ | ⟨hno2, hi⟩
      · rw [hi]
        obtain ⟨e1, e2, e3⟩ := leave_wait HLK.out Hno.out hk he
        have E1 := Lib.hid e1
        have E2 := Lib.hid e2
        have E3 := Lib.hid e3
        clear hi he e1 e2 e3
        obtain ⟨x0, x1, xf⟩ := X.c2
        have hltX := X.lt
        have Xk := Lib.hid X
        have WW := Lib.hid (fun B w h => without_any A' B ws k w hn' hk h)
        have PL : (ws.eraseIdx k).length ≤ 1048576 := by rw [List.length_eraseIdx]; split <;> omega
        generalize ws.eraseIdx k = P at E1 E3 WW PL
        have GA := Lib.hid (fun A c B lo q bs w hq h => granted_any A c B lo q bs hs P w E3.out hq h)
        generalize grantS hs P = G at E1 GA
        have HD := Lib.hid (hh.below b.drew b.size)
        have XD := Lib.hid Xk.out.drew
        have RD := Lib.hid R.drew
        clear xf X
        go_wp2_with fail
        go_region_law (first
          | (go_simp; go_at_call 54; refine (WW.out _ _ HD.out.2).mono ?_; rintro o w4 ⟨A3, c3, rfl, hA3, hb3⟩; obtain ⟨z0, z1, zf⟩ := (XD.out.next hb3).c2)
          | (go_simp; go_at_call 50; refine (queueFrom_any A3 c3 _ P _ PL hA3).mono ?_; rintro o w5 ⟨q, bs, rfl, hq, hb4⟩; obtain ⟨y0, y1, yf⟩ := ((XD.out.next hb3).next hb4).c2)
          | (go_simp; go_at_call 52; refine (GA.out A _ _ _ q bs _ hq ((HD.out.1.below hb3 hb3.size).below hb4 hb4.size)).mono ?_; rintro o w6 ⟨A5, c5, A6, c6, rfl, hG, hb5⟩; have RR := ((RD.out.next hb3).next hb4).below hb5 (Nat.lt_of_lt_of_le R.lt hb3.size); obtain ⟨r0, r1, rf⟩ := RR.c2))
        all_goals
          have hz3 : w3.heap.size ≤ w4.heap.size := hb3.size
          have hz4 := hb4.size
          have b5 := ((b.drew.trans (hb3.mono (Nat.le_trans b.size (Nat.le_refl _)))).trans (hb4.mono (Nat.le_trans b.size hz3))).trans (hb5.mono (Nat.le_trans b.size hz3))
          have hz5 := hb5.size
          have hltR := RR.lt
          have hOB := Lib.hid (((hG.far (a := ⟨w.heap.size + 1, 0, none⟩) (.slice A5 G.1.length c5) (.inl (by show w.heap.size + 1 < w5.heap.size; omega))).far (a := ⟨w.heap.size + 1, 1, none⟩) (.slice A6 G.2.length c6) (.inl (by show w.heap.size + 1 < w5.heap.size; omega))).more (lo' := w.heap.size) (by omega) (B' := w6.heap.size) (by omega))
          clear hG hb3 hb4 hb5 hq hA3 RR Xk R XD RD HD WW GA z0 z1 zf y0 y1 yf x0 x1
          go_wp2
          exact bodyPost_ret (v := .tuple #[.agg #[.slice A5 G.1.length c5, .slice A6 G.2.length c6], .bool true]) (by simp [results, Tryz.results29, go_sem, r0, r1]) rfl ⟨A5, c5, A6, c6, by rw [E2.out, E1.out], by rw [E1.out]; exact hOB.out.more (Nat.le_refl _) (by simp), (b5.setCell (p := ⟨w.heap.size + 1, 0, none⟩) (by simp) _).setCell (p := ⟨w.heap.size + 1, 1, none⟩) (by simp) _⟩
      · rw [hi]
        have HB := Lib.hid (leave_none Hno.out hno2)
        clear hi hno2
        obtain ⟨x0, x1, xf⟩ := X.c2
        clear xf
        go_wp2_with fail
        refine (implCopy_any _ _ _ _ _ hs ws _ hn hn' (hh.below b b.size)).mono ?_; rintro e w9 ⟨v1, v2, rfl, ho, hb9⟩
        obtain ⟨A3, c3, A4, c4, rfl, rfl, _⟩ := ho.lock
        have hlR := R.lt
        have R := R.next hb9
        have b9 := b.trans (hb9.mono b.size)
        obtain ⟨r0, r1, rf⟩ := R.c2
        have hOB := Lib.hid (ho.far (a := ⟨w.heap.size + 1, 0, none⟩) (.slice A3 hs.length c3) (by simpa using hlR))
        have hOB := Lib.hid (hOB.out.far (a := ⟨w.heap.size + 1, 1, none⟩) (.slice A4 ws.length c4) (by simpa using hlR))
        have hltR : w.heap.size + 1 < w9.heap.size := R.lt
        clear x0 x1 hb9 X R ho hlR
        go_wp2
        exact bodyPost_ret (v := .tuple #[.agg #[.slice A3 hs.length c3, .slice A4 ws.length c4], .bool false]) (by simp [results, Tryz.results29, go_sem, r0, r1]) rfl (RetOwn.lock ⟨_, _, by rw [HB.out.2], by rw [HB.out.1]; exact hOB.out.less b.size, (b9.setCell (p := ⟨w.heap.size + 1, 0, none⟩) (by simp) _).setCell (p := ⟨w.heap.size + 1, 1, none⟩) (by simp) _⟩)
end Go.Proofs.YtcndmdglnohbcaaGreatDoor

namespace Go.Proofs.YtcndmdglnohbcaaGreatDoor
open Go.RowKit

theorem leaveL_len (hs ws : HL) (t : Int) : (leaveL hs ws t).1.length + (leaveL hs ws t).2.length ≤ hs.length + ws.length := by
  unfold leaveL
  split
  · have h1 := off_len hs t
    have h2 := off_len ws t
    have := grant_len (offL hs t) (offL ws t)
    omega
  · simp
end Go.Proofs.YtcndmdglnohbcaaGreatDoor

namespace Go.Proofs.YtcndmdglnohbcaaGreatDoor
open Go.RowKit
open Go.Maps (Keyed)


section
variable {w w' : World} {lo g n : Nat} {A : Option Addr} {l : HL} {f : Nat → CD} {q : Nat → Pl}
end
section
variable {w w' : World} {lo lo' : Nat} {A : Option Addr} {T : TL}
end
theorem vc_not {T : TL} {key tid : Int} (h : thereB T key = false) : vcB T key tid = false ∧ vcT T key tid = T := by
  have h1 : vcB T key tid = false := by simp [vcB, h]
  exact ⟨h1, by simp [vcT, h1]⟩
theorem vc_yes {T : TL} {k : Nat} {tid : Int} (h : thereB T (k : Int) = true) : vcB T k tid = leaveB (cd T k).hs (cd T k).ws tid := by
  simp only [vcB, h, Bool.true_and]; rfl
theorem vcT_bad {T : TL} {key tid : Int} (h : vcB T key tid = false) : vcT T key tid = T := by simp [vcT, h]
theorem vcT_put {T : TL} {k : Nat} {tid : Int} (h : vcB T k tid = true) : vcT T k tid = putT T k (lockC (cd T k) (leaveL (cd T k).hs (cd T k).ws tid)) := by
  simp only [vcT, h, if_true]; rfl
/-- the lists of the table's cells have no more room than they need -/
def TCap (w : World) (A : Option Addr) (T : TL) : Prop := ∀ b off, A = some ⟨b, off, none⟩ → ∀ j, j < T.length → ∃ G G', w.cell? ⟨b, off + j * 6 + 4, none⟩ = some (.slice G (cd T j).hs.length (cd T j).hs.length) ∧ w.cell? ⟨b, off + j * 6 + 5, none⟩ = some (.slice G' (cd T j).ws.length (cd T j).ws.length)
theorem TCap.next {w w' : World} {A : Option Addr} {T : TL} (h : TCap w A T) (hb : Below w.heap.size w w') : TCap w' A T := fun b off e j hj => by
  obtain ⟨G, G', h4, h5⟩ := h b off e j hj
  exact ⟨G, G', (hb.cell (p := ⟨b, _, none⟩) (World.block_lt_of_cell? w _ h4)).trans h4, (hb.cell (p := ⟨b, _, none⟩) (World.block_lt_of_cell? w _ h5)).trans h5⟩


set_option maxHeartbeats 3200000 in
set_option maxRecDepth 100000 in
theorem withoutC_any (A : Option Addr) (B c : Nat) (l : HL) (k : Nat) (w : World) (hn : l.length ≤ 1048576) (hk : k < l.length) (hc0 : l.length ≤ c) (h : HAt w B A l) :
    Calls Tryz.prog 54 #[.slice A l.length c, .int .i64 k] w fun e w' => ∃ A' c', e = .returned (.slice A' (l.eraseIdx k).length c') ∧ HAt w' w'.heap.size A' (l.eraseIdx k) ∧ Below w.heap.size w w' := by
  have h := h.lt
  obtain ⟨i0, hi, hz0, hz1, hz2⟩ := info_parts infoHold
  have Hi := Lib.hid hi
  have Hz0 := Lib.hid hz0
  have Hz1 := Lib.hid hz1
  have Hz2 := Lib.hid hz2
  clear hi hz0 hz1 hz2
  obtain ⟨g, off, rfl, hB, hcc⟩ := h (by omega)
  have hkz : (k : Int) < l.length := by omega
  have hkn : k ≤ l.length := by omega
  have hkc : k ≤ c := by omega
  have hlc : l.length ≤ c := hc0
  have hkcz : (k : Int) ≤ c := by omega
  have hlcz : (l.length : Int) ≤ c := by omega
  have h1c : (k : Int) + 1 ≤ c := by omega
  clear hc0
  have hle : (k : Int) ≤ (k : Int) + 1 := by omega
  have hwr : IntKind.i64.wrap ((k : Int) + 1) = (k : Int) + 1 := IntWalk.i64_in _ (by omega)
  have h01 : (0 : Int) ≤ (k : Int) + 1 := by omega
  have h1l : (k : Int) + 1 ≤ l.length := by omega
  by_cases hm : k + 1 < l.length
  · have hmz : ((k : Int) + 1) < l.length := by omega
    have hnl : ¬ l.length = k + 1 := by omega
    have hnc : ¬ c = k + 1 := by omega
    have dr := (Below.refl w.heap.size w).drew
    have hcc : ∀ j, j < l.length → w.drew.cell? ⟨g, off + j * 2, none⟩ = some (.int .i64 (hT l j)) ∧ w.drew.cell? ⟨g, off + j * 2 + 1, none⟩ = some (.bool (hW l j)) := fun j hj => ⟨(dr.cell (p := ⟨g, off + j * 2, none⟩) hB).trans (hcc j hj).1, (dr.cell (p := ⟨g, off + j * 2 + 1, none⟩) hB).trans (hcc j hj).2⟩
    have LO : Hid ((hcs (l.take k)).length = k * 2) := Lib.hid (by rw [hcs_length, List.length_take]; omega)
    have LN : Hid ((hcs (l.drop (k + 1))).length = (l.length - (k + 1)) * 2) := Lib.hid (by rw [hcs_length, List.length_drop])
    have HO : Hid (∀ b, (some (⟨g, off, none⟩ : Addr)) = some b → ∀ j u, (hcs (l.take k))[j]? = some u → w.drew.cell? (b.add j) = some u) := Lib.hid (fun b hb => by
      obtain rfl := Option.some.inj hb
      exact hcs_sub (n := 0) (P := []) (S := l.take k) (R := l.drop k) (by simp) hcc rfl)
    have HN : Hid (∀ j u, (hcs (l.drop (k + 1)))[j]? = some u → w.drew.cell? ((⟨g, off + (k + 1) * 2, none⟩ : Addr).add j) = some u) := Lib.hid (hcs_sub (n := k + 1) (P := l.take (k + 1)) (S := l.drop (k + 1)) (R := []) (by simp) hcc (by rw [List.length_take]; omega))
    clear hcc
    go_enter Tryz.func54, Tryz.ntmps54
    go_wp2_with fail
    go_region_law (refine step_append_grows rfl _ _ 38 rfl 77 i0 (.agg #[.int .i64 0, .bool false]) 2 16 Tryz.underlying38 Hi.out Hz0.out Hz1.out Hz2.out rfl (by decide) (some ⟨g, off, none⟩) k k (hcs (l.take k)) (by simp [Act.eval, Act.put]) (fun h => by cases h) LO.out HO.out ⟨g, off + (k + 1) * 2, none⟩ (l.length - (k + 1)) (c - (k + 1)) (hcs (l.drop (k + 1))) (by simp [Act.eval, Act.put]) LN.out HN.out (hcs_one _) (by omega) (by unfold maxLen; omega) (by omega) ?_; intro v' w' hown hgrow)
    all_goals
      have hE : hcs (l.eraseIdx k) = hcs (l.take k) ++ hcs (l.drop (k + 1)) := by rw [erase_eq, hcs_append]
      rw [← hE] at hown
      obtain ⟨A', c', rfl, hN, ho⟩ := HOwn.of_owns hown
      have hB' : Below w.heap.size w w' := dr.grown hgrow (Nat.le_refl _) (fun q hq => by cases hq)
      have HA := Lib.hid ho.at_
      clear hown hgrow ho hE LO HO LN HN
      go_wp2
      go_ret
      exact ⟨A', c', rfl, HA.out, hB'⟩
  · have hl : l.length = k + 1 := by omega
    have dr := (Below.refl w.heap.size w).drew
    have HE : l.eraseIdx k = l.take k := by rw [erase_eq, List.drop_eq_nil_of_le (by omega), List.append_nil]
    have hlen : (l.take k).length = k := by rw [List.length_take]; omega
    have HA : Hid (HAt w.drew w.drew.heap.size (some ⟨g, off, none⟩) (l.take k)) := Lib.hid (fun _ => ⟨g, off, rfl, hB, fun j hj => by
      have hj' : j < k := by rw [hlen] at hj; exact hj
      rw [hT_take, hW_take, if_pos hj', if_pos hj']
      exact ⟨(dr.cell (p := ⟨g, off + j * 2, none⟩) hB).trans (hcc j (by omega)).1, (dr.cell (p := ⟨g, off + j * 2 + 1, none⟩) hB).trans (hcc j (by omega)).2⟩⟩)
    rw [hl] at hlc hlcz
    rw [hl, HE]
    have HL := Lib.hid hlen
    clear hlen HE hcc h
    by_cases hck : c = k + 1
    · subst hck
      go_enter Tryz.func54, Tryz.ntmps54
      go_wp2_with fail
      go_region_law (fail)
      all_goals
        go_wp2
        go_ret
        exact ⟨some ⟨g, off, none⟩, k, by rw [HL.out]; rfl, HA.out, dr⟩
    · go_enter Tryz.func54, Tryz.ntmps54
      go_wp2_with fail
      go_region_law (fail)
      all_goals
        go_wp2
        go_ret
        exact ⟨some ⟨g, off, none⟩, k, by rw [HL.out]; rfl, HA.out, dr⟩


set_option maxHeartbeats 3200000 in
set_option maxRecDepth 100000 in
theorem implLeaveC_any (A A' : Option Addr) (c c' B : Nat) (hs ws : HL) (t : Int) (w : World) (hn : hs.length ≤ 1048576) (hn' : ws.length ≤ 1048576) (hc : hs.length ≤ c) (hc' : ws.length ≤ c') (h : LAt w B A A' (hs, ws)) :
    Calls Tryz.prog 29 #[.agg #[.slice A hs.length c, .slice A' ws.length c'], .int .i64 t] w (RetLock w (leaveL hs ws t) fun v => .tuple #[v, .bool (leaveB hs ws t)]) := by
  have hh : LAt w w.heap.size A A' (hs, ws) := ⟨h.1.lt, h.2.lt⟩
  clear h
  go_enter Tryz.func29, Tryz.ntmps29
  go_wp2_with fail
  have b := (((Below.refl w.heap.size w).alloc (Nat.le_refl _) (.cells #[.slice A hs.length c, .slice A' ws.length c'] 40)).alloc (by simp) (.cells #[.slice none 0 0, .slice none 0 0] 40))
  have X := ((Box.new (w := w) (c := #[.slice A hs.length c, .slice A' ws.length c']) (t := 40) rfl).alloc (.cells #[.slice none 0 0, .slice none 0 0] 40))
  have R := (Box.new (w := w.alloc (.cells #[.slice A hs.length c, .slice A' ws.length c'] 40)) (b := w.heap.size + 1) (c := #[.slice none 0 0, .slice none 0 0]) (t := 40) (by simp))
  refine (implLockOk_any _ _ _ _ _ hs ws _ hn hn' (hh.below b b.size)).mono ?_; rintro e w1 ⟨rfl, hb1⟩
  have hlo := R.lt
  have hs0 : w.heap.size + 2 ≤ w1.heap.size := by have := hb1.size; simp at this; omega
  have X := X.next hb1
  have R := R.next hb1
  have b := b.trans (hb1.mono b.size)
  clear hb1 hlo
  cases hl : lockOk hs ws with
  | false =>
    have HB := Lib.hid (leave_bad (t := t) hl)
    clear hl
    obtain ⟨x0, x1, xf⟩ := X.c2
    clear xf
    go_wp2_with fail
    refine (implCopy_any _ _ _ _ _ hs ws _ hn hn' (hh.below b b.size)).mono ?_; rintro e w9 ⟨v1, v2, rfl, ho, hb9⟩
    obtain ⟨A3, c3, A4, c4, rfl, rfl, _⟩ := ho.lock
    have hlR := R.lt
    have R := R.next hb9
    have b9 := b.trans (hb9.mono b.size)
    obtain ⟨r0, r1, rf⟩ := R.c2
    have hOB := Lib.hid (ho.far (a := ⟨w.heap.size + 1, 0, none⟩) (.slice A3 hs.length c3) (by simpa using hlR))
    have hOB := Lib.hid (hOB.out.far (a := ⟨w.heap.size + 1, 1, none⟩) (.slice A4 ws.length c4) (by simpa using hlR))
    have hltR : w.heap.size + 1 < w9.heap.size := R.lt
    clear x0 x1 hb9 X R ho hlR
    go_wp2
    exact bodyPost_ret (v := .tuple #[.agg #[.slice A3 hs.length c3, .slice A4 ws.length c4], .bool false]) (by simp [results, Tryz.results29, go_sem, r0, r1]) rfl (RetOwn.lock ⟨_, _, by rw [HB.out.2], by rw [HB.out.1]; exact hOB.out.less b.size, (b9.setCell (p := ⟨w.heap.size + 1, 0, none⟩) (by simp) _).setCell (p := ⟨w.heap.size + 1, 1, none⟩) (by simp) _⟩)
  | true =>
    have HLK := Lib.hid hl
    clear hl
    obtain ⟨x0, x1, xf⟩ := X.c2
    clear xf
    go_wp2_with fail
    refine (indexOf_any A _ _ hs t _ hn (hh.1.below b b.size)).mono ?_; rintro e w2 ⟨rfl, hb2⟩
    have X := X.next hb2
    have R := R.next hb2
    have s2 := hb2.size
    have b := b.trans (hb2.mono b.size)
    clear hb2 x0 x1
    obtain ⟨x0, x1, xf⟩ := X.c2
    have hltX := X.lt
    have Xk := Lib.hid X
    clear xf X
    rcases idxT_cases hs t with ⟨k, hk, he, hno, hi⟩ | ⟨hno, hi⟩
    · rw [hi]
      obtain ⟨e1, e2, e3⟩ := leave_hold HLK.out hk he hno
      have E1 := Lib.hid e1
      have E2 := Lib.hid e2
      have E3 := Lib.hid e3
      clear hi he hno e1 e2 e3
      have WW := Lib.hid (fun B w h => withoutC_any A B c hs k w hn hk hc h)
      generalize hs.eraseIdx k = P at E1 E3 WW
      have GA := Lib.hid (fun A c B lo q bs w hq h => granted_any A c B lo q bs P ws w E3.out hq h)
      generalize grantS P ws = G at E1 GA
      have HD := Lib.hid (hh.below b.drew b.size)
      have XD := Lib.hid Xk.out.drew
      have RD := Lib.hid R.drew
      go_wp2_with fail
      go_region_law (first
        | (go_simp; go_at_call 54; refine (WW.out _ _ HD.out.1).mono ?_; rintro o w3 ⟨A3, c3, rfl, hA3, hb3⟩; obtain ⟨z0, z1, zf⟩ := (XD.out.next hb3).c2)
        | (go_simp; go_at_call 50; refine (queueFrom_any A' _ _ ws _ hn' (HD.out.2.below hb3 hb3.size)).mono ?_; rintro o w4 ⟨q, bs, rfl, hq, hb4⟩)
        | (go_simp; go_at_call 52; refine (GA.out A3 c3 _ _ q bs _ hq (hA3.below hb4 hb4.size)).mono ?_; rintro o w5 ⟨A5, c5, A6, c6, rfl, hG, hb5⟩; have RR := ((RD.out.next hb3).next hb4).below hb5 (Nat.lt_of_lt_of_le R.lt hb3.size); obtain ⟨r0, r1, rf⟩ := RR.c2))
      all_goals
        have hz3 : w2.heap.size ≤ w3.heap.size := hb3.size
        have hz4 := hb4.size
        have b5 := ((b.drew.trans (hb3.mono (Nat.le_trans b.size (Nat.le_refl _)))).trans (hb4.mono (Nat.le_trans b.size hz3))).trans (hb5.mono (Nat.le_trans b.size hz3))
        have hz5 := hb5.size
        have hltR := RR.lt
        have hOB := Lib.hid (((hG.far (a := ⟨w.heap.size + 1, 0, none⟩) (.slice A5 G.1.length c5) (.inl (by show w.heap.size + 1 < w4.heap.size; omega))).far (a := ⟨w.heap.size + 1, 1, none⟩) (.slice A6 G.2.length c6) (.inl (by show w.heap.size + 1 < w4.heap.size; omega))).more (lo' := w.heap.size) (by omega) (B' := w5.heap.size) (by omega))
        clear hG hb3 hb4 hb5 hq hA3 RR Xk R XD RD HD WW GA z0 z1 zf x0 x1
        go_wp2
        exact bodyPost_ret (v := .tuple #[.agg #[.slice A5 G.1.length c5, .slice A6 G.2.length c6], .bool true]) (by simp [results, Tryz.results29, go_sem, r0, r1]) rfl ⟨A5, c5, A6, c6, by rw [E2.out, E1.out], by rw [E1.out]; exact hOB.out.more (Nat.le_refl _) (by simp), (b5.setCell (p := ⟨w.heap.size + 1, 0, none⟩) (by simp) _).setCell (p := ⟨w.heap.size + 1, 1, none⟩) (by simp) _⟩
    · rw [hi]
      have Hno := Lib.hid hno
      clear hi hno
      go_wp2_with fail
      refine (indexOf_any A' _ _ ws t _ hn' (hh.2.below b b.size)).mono ?_; rintro e w3 ⟨rfl, hb3⟩
      have X := Xk.out.next hb3
      have R := R.next hb3
      have s3 := hb3.size
      have b := b.trans (hb3.mono b.size)
      clear hb3 x0 x1 hltX Xk
      rcases idxT_cases ws t with ⟨k, hk, he, _, hi⟩ | ⟨hno2, hi⟩
      · rw [hi]
        obtain ⟨e1, e2, e3⟩ := leave_wait HLK.out Hno.out hk he
        have E1 := Lib.hid e1
        have E2 := Lib.hid e2
        have E3 := Lib.hid e3
        clear hi he e1 e2 e3
        obtain ⟨x0, x1, xf⟩ := X.c2
        have hltX := X.lt
        have Xk := Lib.hid X
        have WW := Lib.hid (fun B w h => withoutC_any A' B c' ws k w hn' hk hc' h)
        have PL : (ws.eraseIdx k).length ≤ 1048576 := by rw [List.length_eraseIdx]; split <;> omega
        generalize ws.eraseIdx k = P at E1 E3 WW PL
        have GA := Lib.hid (fun A c B lo q bs w hq h => granted_any A c B lo q bs hs P w E3.out hq h)
        generalize grantS hs P = G at E1 GA
        have HD := Lib.hid (hh.below b.drew b.size)
        have XD := Lib.hid Xk.out.drew
        have RD := Lib.hid R.drew
        clear xf X
        go_wp2_with fail
        go_region_law (first
          | (go_simp; go_at_call 54; refine (WW.out _ _ HD.out.2).mono ?_; rintro o w4 ⟨A3, c3, rfl, hA3, hb3⟩; obtain ⟨z0, z1, zf⟩ := (XD.out.next hb3).c2)
          | (go_simp; go_at_call 50; refine (queueFrom_any A3 c3 _ P _ PL hA3).mono ?_; rintro o w5 ⟨q, bs, rfl, hq, hb4⟩; obtain ⟨y0, y1, yf⟩ := ((XD.out.next hb3).next hb4).c2)
          | (go_simp; go_at_call 52; refine (GA.out A _ _ _ q bs _ hq ((HD.out.1.below hb3 hb3.size).below hb4 hb4.size)).mono ?_; rintro o w6 ⟨A5, c5, A6, c6, rfl, hG, hb5⟩; have RR := ((RD.out.next hb3).next hb4).below hb5 (Nat.lt_of_lt_of_le R.lt hb3.size); obtain ⟨r0, r1, rf⟩ := RR.c2))
        all_goals
          have hz3 : w3.heap.size ≤ w4.heap.size := hb3.size
          have hz4 := hb4.size
          have b5 := ((b.drew.trans (hb3.mono (Nat.le_trans b.size (Nat.le_refl _)))).trans (hb4.mono (Nat.le_trans b.size hz3))).trans (hb5.mono (Nat.le_trans b.size hz3))
          have hz5 := hb5.size
          have hltR := RR.lt
          have hOB := Lib.hid (((hG.far (a := ⟨w.heap.size + 1, 0, none⟩) (.slice A5 G.1.length c5) (.inl (by show w.heap.size + 1 < w5.heap.size; omega))).far (a := ⟨w.heap.size + 1, 1, none⟩) (.slice A6 G.2.length c6) (.inl (by show w.heap.size + 1 < w5.heap.size; omega))).more (lo' := w.heap.size) (by omega) (B' := w6.heap.size) (by omega))
          clear hG hb3 hb4 hb5 hq hA3 RR Xk R XD RD HD WW GA z0 z1 zf y0 y1 yf x0 x1
          go_wp2
          exact bodyPost_ret (v := .tuple #[.agg #[.slice A5 G.1.length c5, .slice A6 G.2.length c6], .bool true]) (by simp [results, Tryz.results29, go_sem, r0, r1]) rfl ⟨A5, c5, A6, c6, by rw [E2.out, E1.out], by rw [E1.out]; exact hOB.out.more (Nat.le_refl _) (by simp), (b5.setCell (p := ⟨w.heap.size + 1, 0, none⟩) (by simp) _).setCell (p := ⟨w.heap.size + 1, 1, none⟩) (by simp) _⟩
      · rw [hi]
        have HB := Lib.hid (leave_none Hno.out hno2)
        clear hi hno2
        obtain ⟨x0, x1, xf⟩ := X.c2
        clear xf
        go_wp2_with fail
        refine (implCopy_any _ _ _ _ _ hs ws _ hn hn' (hh.below b b.size)).mono ?_; rintro e w9 ⟨v1, v2, rfl, ho, hb9⟩
        obtain ⟨A3, c3, A4, c4, rfl, rfl, _⟩ := ho.lock
        have hlR := R.lt
        have R := R.next hb9
        have b9 := b.trans (hb9.mono b.size)
        obtain ⟨r0, r1, rf⟩ := R.c2
        have hOB := Lib.hid (ho.far (a := ⟨w.heap.size + 1, 0, none⟩) (.slice A3 hs.length c3) (by simpa using hlR))
        have hOB := Lib.hid (hOB.out.far (a := ⟨w.heap.size + 1, 1, none⟩) (.slice A4 ws.length c4) (by simpa using hlR))
        have hltR : w.heap.size + 1 < w9.heap.size := R.lt
        clear x0 x1 hb9 X R ho hlR
        go_wp2
        exact bodyPost_ret (v := .tuple #[.agg #[.slice A3 hs.length c3, .slice A4 ws.length c4], .bool false]) (by simp [results, Tryz.results29, go_sem, r0, r1]) rfl (RetOwn.lock ⟨_, _, by rw [HB.out.2], by rw [HB.out.1]; exact hOB.out.less b.size, (b9.setCell (p := ⟨w.heap.size + 1, 0, none⟩) (by simp) _).setCell (p := ⟨w.heap.size + 1, 1, none⟩) (by simp) _⟩)


theorem leave_empty (t : Int) : leaveL [] [] t = ([], []) ∧ leaveB [] [] t = false := leave_no (by
  unfold holdsL
  split
  · simp [holdsAt, ids]
  · rfl)
theorem implLeave_zero (tid : Int) (w : World) : Calls Tryz.prog 29 #[.agg #[.slice none 0 0, .slice none 0 0], .int .i64 tid] w fun e w' => ∃ G1 d1 G2 d2, e = .returned (.tuple #[.agg #[.slice G1 0 d1, .slice G2 0 d2], .bool false]) ∧ Below w.heap.size w w' := by
  have h := implLeaveC_any none none 0 0 0 [] [] tid w (by simp) (by simp) (by simp) (by simp) ⟨fun h => absurd h (by simp), fun h => absurd h (by simp)⟩
  rw [(leave_empty tid).1, (leave_empty tid).2] at h
  exact h.mono fun e w' ⟨A, c, A', c', e1, _, hb⟩ => ⟨A, c, A', c', e1, hb⟩
theorem capl_of {w : World} {A : Option Addr} {T : TL} (h : TCap w A T) : TCapL w A T := fun b off e j hj => by
  obtain ⟨G, G', h1, h2⟩ := h b off e j hj
  exact ⟨G, _, G', _, ⟨h1, h2⟩, Nat.le_refl _, Nat.le_refl _⟩
/-- the room that the store's lock has -/
theorem lkP_cap {w : World} {b off : Nat} {T : TL} {q : Nat → Pl} (hc : TCapL w (some ⟨b, off, none⟩) T) (hT : tabOk T = true) (h : ∀ j, j < T.length → CCells w b (off + j * 6) (cd T j) (q j)) {k : Nat} (hk : k < T.length) : (cd T k).hs.length ≤ (lkP T q k).c ∧ (cd T k).ws.length ≤ (lkP T q k).c' := by
  unfold lkP
  by_cases h0 : (cd T k).hs.length = 0
  · rw [if_pos h0]
    obtain ⟨e1, e2⟩ := lock_empty (tabOk_lockOk hT hk) h0
    simp [e1, e2]
  · rw [if_neg h0]
    obtain ⟨G, cc, G', cc', ⟨h4, h5⟩, h6, h7⟩ := hc b off rfl k hk
    have e4 := h4.symm.trans (h k hk).c4
    have e5 := h5.symm.trans (h k hk).c5
    injection e4 with e4
    injection e4 with _ _ e4
    injection e5 with e5
    injection e5 with _ _ e5
    omega
set_option maxHeartbeats 1600000 in
set_option maxRecDepth 100000 in
theorem implLeaveCellC_any (b off c B : Nat) (T : TL) (key tid : Int) (w : World) (hkey : keyOf Tryz.prog 3 (.int .i64 key) = some (.int .i64 key)) (hs : TFit T) (hB : B ≤ w.heap.size) (h : TAt w B (some ⟨b, off, none⟩) T) (hcap : TCapL w (some ⟨b, off, none⟩) T) :
    Calls Tryz.prog 9 #[.agg #[.slice (some ⟨b, off, none⟩) T.length c], .int .i64 key, .int .i64 tid] w (RetTOC w (vcT T key tid) fun v => .tuple #[v, .bool (vcB T key tid)]) := by
  go_enter Tryz.func9, Tryz.ntmps9
  go_wp2_with fail
  have b0 := ((Below.refl w.heap.size w).alloc (Nat.le_refl _) (.cells #[.slice (some ⟨b, off, none⟩) T.length c] 26)).alloc (by simp) (.cells #[.slice none 0 0] 26)
  have X := (Box.new (w := w) (c := #[.slice (some ⟨b, off, none⟩) T.length c]) (t := 26) rfl).alloc (.cells #[.slice none 0 0] 26)
  have R := Box.new (w := w.alloc (.cells #[.slice (some ⟨b, off, none⟩) T.length c] 26)) (b := w.heap.size + 1) (c := #[.slice none 0 0]) (t := 26) (by simp)
  have hz0 : w.heap.size + 2 ≤ ((w.alloc (.cells #[.slice (some ⟨b, off, none⟩) T.length c] 26)).alloc (.cells #[.slice none 0 0] 26)).heap.size := by simp
  generalize (w.alloc (.cells #[.slice (some ⟨b, off, none⟩) T.length c] 26)).alloc (.cells #[.slice none 0 0] 26) = w0 at b0 X R hz0 ⊢
  cases hT : tabOk T with
  | false =>
    have HE := Lib.hid (vc_not (tid := tid) (show thereB T key = false by simp [thereB, hT]))
    refine (storeOf_bad _ c B T _ hs (Nat.le_trans hB b0.size) (h.keep b0 hB) hT).mono ?_; rintro o w1 ⟨rfl, hb1⟩
    have hA := (Below.refl w1.heap.size w1).alloc (Nat.le_refl _) (.cells #[.map none, .map none] 57)
    have hbA := hb1.trans (hA.mono hb1.size)
    have X := X.next hbA
    have R := R.next hbA
    have b2 := b0.trans (hbA.mono b0.size)
    have hz2 := Nat.le_trans hz0 hbA.size
    have hlk := Go.Maps.look_nil (w := w1.alloc (.cells #[.map none, .map none] 57)) false keyI Tryz.underlying55 (zeroLock _) hkey
    clear hb1 hT hA hbA hcap
    go_wp2_with fail
    refine (implLeave_zero tid _).mono ?_; rintro o w4 ⟨G1, d1, G2, d2, rfl, hb4⟩
    have hA4 := (Below.refl w4.heap.size w4).alloc (Nat.le_refl _) (.cells #[.slice G1 0 d1, .slice G2 0 d2] 40)
    have hb4A := hb4.trans (hA4.mono hb4.size)
    have X := X.next hb4A
    have R := R.next hb4A
    have b2 := b2.trans (hb4A.mono b2.size)
    have hz5 := Nat.le_trans hz2 hb4A.size
    clear hb4 hA4 hb4A hlk
    go_upto_region 3 with (fail)
    generalize w4.alloc (.cells #[.slice G1 0 d1, .slice G2 0 d2] 40) = w5 at X R b2 hz5 ⊢
    obtain ⟨x0, xf⟩ := X.c1
    have Xl := X.lt
    clear X xf
    go_wp2_with fail
    refine (copiedTableC_any b off c B T _ hs (Nat.le_trans hB b2.size) (h.keep b2 hB)).mono ?_; rintro o w8 ⟨A8, c8, rfl, ht, hb8, hcx⟩
    have R8 := R.next hb8
    have b8 := b2.trans (hb8.mono b2.size)
    have HO := Lib.hid ((ht.put (a := w.heap.size + 1) (.slice A8 T.length c8) (by omega)).more (lo' := w.heap.size) (B' := (w8.setCell ⟨w.heap.size + 1, 0, none⟩ (.slice A8 T.length c8)).heap.size) (by omega) (by simp))
    have HB8 := Lib.hid (b8.setCell (p := ⟨w.heap.size + 1, 0, none⟩) (by simp) (.slice A8 T.length c8))
    have HCX := Lib.hid (capl_far ht hcx (a := ⟨w.heap.size + 1, 0, none⟩) (.slice A8 T.length c8) (by show w.heap.size + 1 < _; omega))
    obtain ⟨r8, rf8⟩ := R8.c1
    have Rl8 := R8.lt
    clear ht hcx hb8 R8 b8 R b2 x0 Xl
    go_wp2
    exact bodyPost_ret (v := .tuple #[.agg #[.slice A8 T.length c8], .bool false]) (by simp [results, Tryz.results9, go_sem, r8]) rfl (by
      rw [HE.out.1, HE.out.2]
      exact ⟨A8, c8, rfl, HO.out, HB8.out, HCX.out⟩)
  | true =>
    have hl8 := tabOk_len hT
    have hTE : thereB T key = decide (0 ≤ key ∧ key < (T.length : Int)) := by
      rw [Bool.eq_iff_iff, there_iff, decide_eq_true_eq]
      constructor
      · rintro ⟨_, h1, h2⟩; omega
      · rintro ⟨h1, h2⟩; exact ⟨hT, h1, by omega⟩
    have HT := Lib.hid hT
    obtain ⟨bb, off', e, hbB, q, hc⟩ := h (by omega)
    injection e with e
    injection e with e1 e2 _
    subst e1 e2
    have hcl0 : TCl w0 B b off T q := ⟨hbB, fun j hj => ⟨(hc j hj).1.below b0 (by omega), LAt.keep (hc j hj).2 b0 hB⟩⟩
    have HCap := Lib.hid (fun k (hk : k < T.length) => lkP_cap hcap hT (fun j hj => (hc j hj).1) hk)
    have q0H : ∃ q : Nat → Pl, ∀ j, j < T.length → CCells w b (off + j * 6) (cd T j) (q j) ∧ LsAt w B (cd T j) (q j) := ⟨q, hc⟩
    have HLs := Lib.hid (fun j (hj : j < T.length) => (hc j hj).2)
    refine (storeOf_ok b off c B T q _ hs (Nat.le_trans hB b0.size) hcl0 hT).mono ?_; rintro o w1 ⟨m1, m2, mm, rfl, hne, hm1, hm2, M1, hmm, M2, hb1⟩
    have X := X.next hb1
    have R := R.next hb1
    have b1 := b0.trans (hb1.mono b0.size)
    have hz1 := Nat.le_trans hz0 hb1.size
    have hm1l := M1.lt
    have hm2l := M2.lt
    have hA := (Below.refl w1.heap.size w1).alloc (Nat.le_refl _) (.cells #[.map (some m1), .map (some m2)] 57)
    have St := Box.new (w := w1) (c := #[.map (some m1), .map (some m2)]) (t := 57) rfl
    have M1 := M1.next hA
    have M2 := M2.next hA
    have X := X.next hA
    have R := R.next hA
    have b1 := b1.trans (hA.mono b1.size)
    have hz2 : w1.heap.size < (w1.alloc (.cells #[.map (some m1), .map (some m2)] 57)).heap.size := by simp
    clear hb1 hcl0 hc hT hA b0 hcap
    go_upto_region 2 with (fail)
    generalize w1.alloc (.cells #[.map (some m1), .map (some m2)] 57) = w2 at M1 M2 St X R b1 hz2 ⊢
    obtain ⟨t0, t1, tf⟩ := St.c2
    have Tl := St.lt
    have hfl := field_locks (some m1) (some m2) w2
    by_cases hk : 0 ≤ key ∧ key < (T.length : Int)
    · obtain ⟨k, rfl⟩ := Int.eq_ofNat_of_zero_le hk.1
      have hkn : k < T.length := by omega
      have hkk := hk
      have HCo := Lib.hid (vc_yes (tid := tid) (show thereB T (k : Int) = true by rw [hTE, decide_eq_true hk]))
      have hwo := tabOk_wordOk HT.out hkn
      have HSl := Lib.hid (show slotsF T T.length (k : Int) = some (.agg #[.int .i64 (pk (cd T k).e (cd T k).s (cd T k).h), .int .i64 (cd T k).v]) by unfold slotsF; rw [if_pos hk]; rfl)
      have HLk := Lib.hid (locks_get (q := q) HT.out hkn)
      have hlk := hs.at_ hkn
      clear hTE hk tf
      have b2 := b1
      have hOkk := leave_ok tid (tabOk_lockOk HT.out hkn)
      have HOk := Lib.hid hOkk
      clear hOkk
      obtain ⟨hcp1, hcp2⟩ := HCap.out k hkn
      have hLA : LAt w2 B (lkP T q k).G (lkP T q k).G' ((cd T k).hs, (cd T k).ws) := LAt.keep (locks_at HT.out hkn (HLs.out k hkn)) b2 hB
      go_wp2_with (first | (at_lookup; refine wp_look _ rfl _ _ rfl keyI Tryz.underlying55 (zeroLock _) rfl M2 (k : Int) rfl hkey (.agg #[.slice (lkP T q k).G (cd T k).hs.length (lkP T q k).c, .slice (lkP T q k).G' (cd T k).ws.length (lkP T q k).c']) (by rw [HLk.out]; rfl) ?_) | fail)
      refine (implLeaveC_any _ _ _ _ B (cd T k).hs (cd T k).ws tid _ hlk.1 hlk.2 hcp1 hcp2 hLA).mono ?_; rintro o w4 ⟨G1, d1, G2, d2, rfl, hown, hb⟩
      have X := X.next hb
      have R := R.next hb
      have St := St.next hb
      have M1 := M1.next hb
      have M2 := M2.next hb
      have b2 := b2.trans (hb.mono b2.size)
      have hz4 := Nat.lt_of_lt_of_le hz2 hb.size
      clear hb t0 t1 Tl hLA hfl
      have HPut := Lib.hid (fun h => vcT_put (T := T) (k := k) (tid := tid) h)
      have HBad := Lib.hid (fun h => vcT_bad (T := T) (key := k) (tid := tid) h)
      rw [HCo.out] at HPut HBad
      generalize leaveB (cd T k).hs (cd T k).ws tid = code at HPut HBad HCo ⊢
      generalize leaveL (cd T k).hs (cd T k).ws tid = m at hown HOk HPut ⊢
      have hA := (Below.refl w4.heap.size w4).alloc (Nat.le_refl _) (.cells #[.slice G1 m.1.length d1, .slice G2 m.2.length d2] 40)
      have L := Box.new (w := w4) (c := #[.slice G1 m.1.length d1, .slice G2 m.2.length d2]) (t := 40) rfl
      have X := X.next hA
      have R := R.next hA
      have St := St.next hA
      have M1 := M1.next hA
      have M2 := M2.next hA
      have b2 := b2.trans (hA.mono b2.size)
      have hown := LOwn.below hown hA (Nat.le_refl _)
      have hz5 : w4.heap.size < (w4.alloc (.cells #[.slice G1 m.1.length d1, .slice G2 m.2.length d2] 40)).heap.size := by simp
      clear hA
      go_upto_region 3 with (fail)
      generalize w4.alloc (.cells #[.slice G1 m.1.length d1, .slice G2 m.2.length d2] 40) = w5 at X R St M1 M2 b2 hown L hz5 ⊢
      have hz25 : w.heap.size + 2 ≤ w5.heap.size := by omega
      cases code with
      | false =>
        have HE := Lib.hid (And.intro HCo.out (HBad.out rfl))
        obtain ⟨x0, xf⟩ := X.c1
        have Xl := X.lt
        have h : TAt w B (some ⟨b, off, none⟩) T := fun _ => ⟨b, off, rfl, hbB, q0H⟩
        clear L hown M1 M2 St X xf HPut HBad HOk
        go_wp2_with fail
        refine (copiedTableC_any b off c B T _ hs (Nat.le_trans hB b2.size) (h.keep b2 hB)).mono ?_; rintro o w8 ⟨A8, c8, rfl, ht, hb8, hcx⟩
        have R8 := R.next hb8
        have b8 := b2.trans (hb8.mono b2.size)
        have HO := Lib.hid ((ht.put (a := w.heap.size + 1) (.slice A8 T.length c8) (by omega)).more (lo' := w.heap.size) (B' := (w8.setCell ⟨w.heap.size + 1, 0, none⟩ (.slice A8 T.length c8)).heap.size) (by omega) (by simp))
        have HB8 := Lib.hid (b8.setCell (p := ⟨w.heap.size + 1, 0, none⟩) (by simp) (.slice A8 T.length c8))
        have HCX := Lib.hid (capl_far ht hcx (a := ⟨w.heap.size + 1, 0, none⟩) (.slice A8 T.length c8) (by show w.heap.size + 1 < _; omega))
        obtain ⟨r8, rf8⟩ := R8.c1
        have Rl8 := R8.lt
        clear ht hcx hb8 R8 b8 R b2 x0 Xl
        go_wp2
        exact bodyPost_ret (v := .tuple #[.agg #[.slice A8 T.length c8], .bool false]) (by simp [results, Tryz.results9, go_sem, r8]) rfl (by
          rw [HE.out.1, HE.out.2]
          exact ⟨A8, c8, rfl, HO.out, HB8.out, HCX.out⟩)
      | true =>
        have HE := Lib.hid (And.intro HCo.out (HPut.out rfl))
        have hmo := HOk.out
        have hm8 := ((lockOk_iff _ _).1 hmo).1.len
        have HMO := Lib.hid hmo
        obtain ⟨t0, t1, tf⟩ := St.c2
        obtain ⟨l0, l1, lf⟩ := L.c2
        have Tl := St.lt
        have Ll := L.lt
        have hlt : LAt w5 w5.heap.size G1 G2 (m.1, m.2) := (LOwn.at_ hown).up (Nat.le_of_lt hz5)
        clear HPut HBad HOk tf lf X hmo
        go_wp2_with fail
        refine (setLock_any m1 m2 T.length mm w5.heap.size (slotsF T T.length) (locksF T q T.length) (k : Int) (cd T k).v (cd T k).e (cd T k).s (cd T k).h G1 G2 d1 d2 m.1 m.2 _ (by omega) (by omega) (by omega) hne HSl.out hwo (by omega) (by omega) M1 M2 (Nat.le_refl _) hlt).mono ?_; rintro o w6 ⟨rfl, N1, ⟨mm', hmm', N2⟩, hU⟩
        have St := St.but hU (by omega) (by omega)
        have R := R.but hU (by omega) (by omega)
        have b6 := b2.trans (hU.below (L := w.heap.size) (by omega) (by omega) b2.size)
        have hz6 := hU.size
        have hnew : LAt w6 w6.heap.size G1 G2 m := (LOwn.at_ (lown_but2 hown hU (by omega) (by omega) (Nat.le_of_lt hz5))).up (by omega)
        have hto := put_ok HT.out hkn HMO.out
        have N1 := N1.congr (slots_put hkn m)
        rw [← putT_len T k (lockC (cd T k) m)] at N1
        obtain ⟨t0, t1, tf⟩ := St.c2
        have Tl := St.lt
        clear l0 l1 Ll M1 M2 hown hlt b2 L hU St tf
        go_wp2_with fail
        refine (tableC_any m1 m2 mm' w6.heap.size (putT T k (lockC (cd T k) m)) (putP T q k m ⟨G1, d1, G2, d2⟩) _ _ (tab_fit hto) (Nat.le_refl _) (fun j hj => tabOk_wordOk hto hj) N1 N2 (fun j hj => locks_put HT.out m HMO.out ⟨G1, d1, G2, d2⟩ (by rw [putT_len] at hj; exact hj)) (fun j hj => putP_at HT.out HMO.out (P := ⟨G1, d1, G2, d2⟩) hnew (fun i hi => (LAt.keep (HLs.out i hi) b6 hB).up (Nat.le_trans hB b6.size)) (by rw [putT_len] at hj; exact hj))).mono ?_; rintro o w8 ⟨A8, c8, rfl, ht, hb8, hcx⟩
        have R8 := R.next hb8
        have b8 := b6.trans (hb8.mono b6.size)
        generalize putT T k (lockC (cd T k) m) = T8 at HE ht hcx
        have HO := Lib.hid ((ht.put (a := w.heap.size + 1) (.slice A8 T8.length c8) (by omega)).more (lo' := w.heap.size) (B' := (w8.setCell ⟨w.heap.size + 1, 0, none⟩ (.slice A8 T8.length c8)).heap.size) (by omega) (by simp))
        have HB8 := Lib.hid (b8.setCell (p := ⟨w.heap.size + 1, 0, none⟩) (by simp) (.slice A8 T8.length c8))
        have HCX := Lib.hid (capl_far ht hcx (a := ⟨w.heap.size + 1, 0, none⟩) (.slice A8 T8.length c8) (by show w.heap.size + 1 < _; omega))
        obtain ⟨r8, rf8⟩ := R8.c1
        have Rl8 := R8.lt
        clear ht hcx hb8 R8 b8 R t0 t1 Tl N1 N2 b6 hnew hto
        go_wp2
        exact bodyPost_ret (v := .tuple #[.agg #[.slice A8 T8.length c8], .bool true]) (by simp [results, Tryz.results9, go_sem, r8]) rfl (by
          rw [HE.out.1, HE.out.2]
          exact ⟨A8, c8, rfl, HO.out, HB8.out, HCX.out⟩)
    · have HE := Lib.hid (vc_not (tid := tid) (show thereB T key = false by rw [hTE, decide_eq_false hk]))
      have HSl := Lib.hid (show locksF T q T.length key = none by unfold locksF; rw [if_neg (fun h => hk h.1)])
      have hz2 : w.heap.size + 2 ≤ w2.heap.size := by omega
      have b2 := b1
      have h : TAt w B (some ⟨b, off, none⟩) T := fun _ => ⟨b, off, rfl, hbB, q0H⟩
      clear hTE hk b1 tf
      go_wp2_with (first | (at_lookup; refine wp_look _ rfl _ _ rfl keyI Tryz.underlying55 (zeroLock _) rfl M2 key rfl hkey (.agg #[.slice none 0 0, .slice none 0 0]) (by rw [HSl.out]; rfl) ?_) | fail)
      refine (implLeave_zero tid _).mono ?_; rintro o w4 ⟨G1, d1, G2, d2, rfl, hb4⟩
      have hA4 := (Below.refl w4.heap.size w4).alloc (Nat.le_refl _) (.cells #[.slice G1 0 d1, .slice G2 0 d2] 40)
      have hb4A := hb4.trans (hA4.mono hb4.size)
      have X := X.next hb4A
      have R := R.next hb4A
      have b2 := b2.trans (hb4A.mono b2.size)
      have hz5 := Nat.le_trans hz2 hb4A.size
      clear hb4 hA4 hb4A t0 t1 Tl hfl
      go_upto_region 3 with (fail)
      generalize w4.alloc (.cells #[.slice G1 0 d1, .slice G2 0 d2] 40) = w5 at X R b2 hz5 ⊢
      obtain ⟨x0, xf⟩ := X.c1
      have Xl := X.lt
      clear X xf
      go_wp2_with fail
      refine (copiedTableC_any b off c B T _ hs (Nat.le_trans hB b2.size) (h.keep b2 hB)).mono ?_; rintro o w8 ⟨A8, c8, rfl, ht, hb8, hcx⟩
      have R8 := R.next hb8
      have b8 := b2.trans (hb8.mono b2.size)
      have HO := Lib.hid ((ht.put (a := w.heap.size + 1) (.slice A8 T.length c8) (by omega)).more (lo' := w.heap.size) (B' := (w8.setCell ⟨w.heap.size + 1, 0, none⟩ (.slice A8 T.length c8)).heap.size) (by omega) (by simp))
      have HB8 := Lib.hid (b8.setCell (p := ⟨w.heap.size + 1, 0, none⟩) (by simp) (.slice A8 T.length c8))
      have HCX := Lib.hid (capl_far ht hcx (a := ⟨w.heap.size + 1, 0, none⟩) (.slice A8 T.length c8) (by show w.heap.size + 1 < _; omega))
      obtain ⟨r8, rf8⟩ := R8.c1
      have Rl8 := R8.lt
      clear ht hcx hb8 R8 b8 R b2 x0 Xl
      go_wp2
      exact bodyPost_ret (v := .tuple #[.agg #[.slice A8 T.length c8], .bool false]) (by simp [results, Tryz.results9, go_sem, r8]) rfl (by
        rw [HE.out.1, HE.out.2]
        exact ⟨A8, c8, rfl, HO.out, HB8.out, HCX.out⟩)
theorem implLeaveCell_any (b off c B : Nat) (T : TL) (key tid : Int) (w : World) (hkey : keyOf Tryz.prog 3 (.int .i64 key) = some (.int .i64 key)) (hs : TFit T) (hB : B ≤ w.heap.size) (h : TAt w B (some ⟨b, off, none⟩) T) (hcap : TCap w (some ⟨b, off, none⟩) T) :
    Calls Tryz.prog 9 #[.agg #[.slice (some ⟨b, off, none⟩) T.length c], .int .i64 key, .int .i64 tid] w (RetTO w (vcT T key tid) fun v => .tuple #[v, .bool (vcB T key tid)]) :=
  (implLeaveCellC_any b off c B T key tid w hkey hs hB h (capl_of hcap)).mono fun _ _ h => h.less
theorem vcT_fit {T : TL} {key tid : Int} (h : TFit T) : TFit (vcT T key tid) := by
  unfold vcT
  split
  · rename_i h2
    have ht : thereB T key = true := by
      cases hh : thereB T key with
      | true => rfl
      | false => simp [vcB, hh] at h2
    obtain ⟨h1, _, h4⟩ := there_iff.1 ht
    exact tab_fit (put_ok h1 h4 (leave_ok tid (tabOk_lockOk h1 h4)))
  · exact h
end Go.Proofs.YtcndmdglnohbcaaGreatDoor

namespace Go.Proofs.YtcndmdglnohbcaaGreatDoor
open Go.RowKit

/-- the marked keys below m, ascending -/
def keysUp (M : Nat → Bool) (m : Nat) : List Int := ((List.range m).filter M).map Int.ofNat
theorem keysUp_yes {M : Nat → Bool} {m : Nat} (h : M m = true) : keysUp M (m + 1) = keysUp M m ++ [(m : Int)] := by simp [keysUp, List.range_succ, List.filter_append, h]
theorem keysUp_no {M : Nat → Bool} {m : Nat} (h : M m = false) : keysUp M (m + 1) = keysUp M m := by simp [keysUp, List.range_succ, List.filter_append, h]
theorem keysUp_le (M : Nat → Bool) (m : Nat) : (keysUp M m).length ≤ m := by
  have := List.length_filter_le M (List.range m)
  simpa [keysUp] using this

/-- the answer is a slice of the call's own that holds l; nothing that was there has turned -/
def OwnsOut (w : World) (l : List Int) (e : Ending) (w' : World) : Prop :=
  ∃ v, e = .returned v ∧ w'.ownsRow w.heap.size 3 1 v l.length (l.map (.int .i64)) ∧ Below w.heap.size w w'

theorem ownsRow_base {w : World} {base base' size n : Nat} {e : TypeId} {v : Value} {xs : List Value} (h : w.ownsRow base' e size v n xs) (hb : base ≤ base') : w.ownsRow base e size v n xs := by
  refine ⟨h.1, ?_⟩
  rcases h.2 with h' | ⟨g, cap, cur, h1, h2, h3⟩
  · exact .inl h'
  · exact .inr ⟨g, cap, cur, h1, by omega, h3⟩



set_option maxHeartbeats 400000 in
theorem markedKeys_any (M : Nat → Bool) (w : World) :
    Calls Tryz.prog 72 #[.agg #[.bool (M 0), .bool (M 1), .bool (M 2), .bool (M 3), .bool (M 4), .bool (M 5), .bool (M 6), .bool (M 7)]] w (OwnsOut w (keysUp M 8)) := by
  obtain ⟨i0, hi, hz0, hz1, hz2⟩ := info_parts infoInt
  go_enter Tryz.func72, Tryz.ntmps72
  go_wp2
  go_loopw [3, 7] (fun v i wr => ∃ k : Nat, k ≤ 8 ∧ i = .int .i64 k ∧ wr.ownsRow w.heap.size 3 1 v (keysUp M k).length ((keysUp M k).map (.int .i64)) ∧ Below w.heap.size w wr) (fun _ i _ => 8 - (intOf i).toNat)
  case atStart => exact ⟨0, Nat.zero_le _, rfl, World.ownsRow_nil _ _ _ _, (Below.refl _ _).alloc (Nat.le_refl _) _⟩
  case round =>
    obtain ⟨k, hk, rfl, hown, hb⟩ := hrel
    by_cases hkn : k < 8
    · have hkz : (k : Int) < 8 := by omega
      have hle := keysUp_le M k
      have hs := hb.size
      have hidx : ∀ w, (Instr.index 106 (.agg #[.bool (M 0), .bool (M 1), .bool (M 2), .bool (M 3), .bool (M 4), .bool (M 5), .bool (M 6), .bool (M 7)]) (.int .i64 (k : Int))).run Tryz.prog w = .ok (.bool (M k)) w := by
        have h8 : k = 0 ∨ k = 1 ∨ k = 2 ∨ k = 3 ∨ k = 4 ∨ k = 5 ∨ k = 6 ∨ k = 7 := by omega
        rcases h8 with rfl | rfl | rfl | rfl | rfl | rfl | rfl | rfl <;> (intro w; kernel_rfl)
      cases hM : M k with
      | true =>
        rw [hM] at hidx
        have Hy := Lib.hid (keysUp_yes hM)
        clear hM
        go_wp2_with (at_builtin; refine wpList_append_own _ rfl _ _ 47 rfl w.heap.size 3 i0 (.int .i64 0) 1 8 Tryz.underlying47 hi hz0 hz1 hz2 rfl (by decide) _ _ _ rfl (hown.alloc _) ⟨wr.heap.size, 0, none⟩ 1 1 [.int .i64 k] rfl rfl ?c1 ?c2 ?c3 ?c4 ?c5 ?_)
        case c1 =>
          intro j u hj
          match j, hj with
          | 0, hj => simp at hj; subst hj; simp [Addr.add]
        case c2 => intro u hu; simp at hu; subst hu; rfl
        case c3 => unfold maxLen; omega
        case c4 => omega
        case c5 => simp; omega
        intro v' w1 hown' hgrow _
        have hb' := (hb.alloc hs _).grown hgrow (by simp; omega) (fun q hq => (hown.lt q hq).1)
        have hown2 : w1.ownsRow w.heap.size 3 1 v' (keysUp M (k + 1)).length ((keysUp M (k + 1)).map (.int .i64)) := by rw [Hy.out]; simpa using hown'
        clear hown' hgrow hown hb hidx hi hz0 hz1 hz2
        go_wp2
        exact ⟨⟨k + 1, by omega, by go_num, hown2, hb'⟩, by simp [intOf]; omega⟩
      | false =>
        rw [hM] at hidx
        have hown2 := hown
        rw [← keysUp_no hM] at hown2
        clear hM hown hi hz0 hz1 hz2
        go_wp2
        exact ⟨⟨k + 1, by omega, by go_num, hown2, hb⟩, by simp [intOf]; omega⟩
    · obtain rfl : k = 8 := by omega
      go_wp2
      go_ret
      exact ⟨_, rfl, hown, hb⟩
end Go.Proofs.YtcndmdglnohbcaaGreatDoor

namespace Go.Proofs.YtcndmdglnohbcaaGreatDoor
open Go.RowKit

def queueL (hs ws : HL) : List Int := if lockOk hs ws then ids ws else []
theorem ws_len {hs ws : HL} (h : lockOk hs ws = true) : hs.length + ws.length ≤ 8 := ((lockOk_iff _ _).1 h).1.len
theorem queue_len (hs ws : HL) : (queueL hs ws).length ≤ 8 := by
  unfold queueL
  split
  · rename_i h; have := ws_len h; rw [ids_len']; omega
  · simp
/-- a slice of integers of the call's own -/
def RetI (w : World) (l : List Int) (e : Ending) (w' : World) : Prop := ∃ A cap, e = .returned (.slice A l.length cap) ∧ OwnI w' w.heap.size w'.heap.size A l.length (fun j => l.getD j 0) ∧ Below w.heap.size w w'
theorem RetI.nil {w w' : World} (h : Below w.heap.size w w') : RetI w [] (.returned (.slice none 0 0)) w' := ⟨none, 0, rfl, fun h => absurd h (by simp), h⟩
theorem RetI.of {w w' : World} {v : Value} {l : List Int} {lo : Nat} {e : TypeId} (h : w'.ownsRow lo e 1 v l.length (l.map (.int .i64))) (hlo : w.heap.size ≤ lo) (hb : Below w.heap.size w w') : RetI w l (.returned v) w' := by
  obtain ⟨A, cap, rfl, _, hI⟩ := OwnI.of_owns h
  exact ⟨A, cap, rfl, hI.more hlo (Nat.le_refl _), hb⟩

end Go.Proofs.YtcndmdglnohbcaaGreatDoor

namespace Go.Proofs.YtcndmdglnohbcaaGreatDoor
open Go.RowKit
open Go.Maps (Keyed)

def IdxI (w : World) (l : List Int) (x : Int) (e : Ending) (w' : World) : Prop := ∃ z : Int, e = .returned (.int .i64 z) ∧ decide (0 ≤ z) = l.contains x ∧ w = w'
theorem index_any (A : Option Addr) (c B : Nat) (l : List Int) (x : Int) (w : World) (hn : l.length ≤ 1048576) (h : IntsAt w B A l.length (fun i => l.getD i 0)) :
    Calls Tryz.prog 85 #[.slice A l.length c, .int .i64 x] w (IdxI w l x) := by
  go_enter Tryz.func85, Tryz.ntmps85
  go_wp2
  go_loop [8] (fun i => ∃ k : Nat, k ≤ l.length ∧ i = .int .i64 k ∧ (∀ j, j < k → ¬ l.getD j 0 = x)) (fun i => l.length - (intOf i).toNat)
  case atStart => exact ⟨0, Nat.zero_le _, rfl, fun j hj => absurd hj (by omega)⟩
  case round =>
    obtain ⟨k, hk, rfl, hno⟩ := hrel
    have Hno := Lib.hid hno
    clear hno
    by_cases hkn : k < l.length
    · obtain ⟨b, off, rfl, hB, hc⟩ := h (by omega)
      have hkz : (k : Int) < l.length := by omega
      have d0 : w.cell? ⟨b, off + k, none⟩ = some (.int .i64 (l.getD k 0)) := hc k hkn
      clear hc h
      by_cases e : x = l.getD k 0
      · have HE := Lib.hid (show l.contains x = true by
          rw [List.contains_eq_mem, decide_eq_true_eq, e, List.getD_eq_getElem?_getD, List.getElem?_eq_getElem hkn]
          exact List.getElem_mem hkn)
        have e' : (x == l.getD k 0) = true := by simpa using e
        clear e
        generalize l.getD k 0 = y at d0 e'
        go_wp2
        go_ret
        exact ⟨k, rfl, by rw [HE.out]; simp, rfl⟩
      · have HN := Lib.hid (show ∀ j, j < k + 1 → ¬ l.getD j 0 = x from fun j hj => by
          by_cases ej : j = k
          · subst ej; exact fun h => e h.symm
          · exact Hno.out j (by omega))
        have e' : (x == l.getD k 0) = false := by simpa using e
        clear e
        generalize l.getD k 0 = y at d0 e'
        go_wp2
        exact ⟨⟨k + 1, by omega, by go_num, HN.out⟩, by simp [intOf]; omega⟩
    · obtain rfl : k = l.length := by omega
      have HE := Lib.hid (show l.contains x = false by
        rw [List.contains_eq_mem, decide_eq_false_iff_not]
        intro hm
        obtain ⟨j, hj, e⟩ := List.getElem_of_mem hm
        exact Hno.out j hj (by rw [List.getD_eq_getElem?_getD, List.getElem?_eq_getElem hj]; exact e))
      clear h
      go_wp2
      go_ret
      exact ⟨-1, rfl, by rw [HE.out]; simp, rfl⟩
theorem contains_any (A : Option Addr) (c B : Nat) (l : List Int) (x : Int) (w : World) (hn : l.length ≤ 1048576) (h : IntsAt w B A l.length (fun i => l.getD i 0)) :
    Calls Tryz.prog 71 #[.slice A l.length c, .int .i64 x] w fun e w' => e = .returned (.bool (l.contains x)) ∧ w = w' := by
  go_enter Tryz.func71, Tryz.ntmps71
  go_wp2_with fail
  refine (index_any A c B l x _ hn h).mono ?_; rintro e w1 ⟨z, rfl, hz, rfl⟩
  cases hw : l.contains x with
  | true =>
    rw [hw] at hz
    have HW := Lib.hid hw
    clear hw
    go_wp2
    go_ret
    exact ⟨ret_bool HW.out.symm, rfl⟩
  | false =>
    rw [hw] at hz
    have HW := Lib.hid hw
    clear hw
    go_wp2
    go_ret
    exact ⟨ret_bool HW.out.symm, rfl⟩
/-- the keys marked in the end -/
def whereB (T : TL) (ss : List Int) (tid : Int) (j : Nat) : Bool := decide (j < T.length ∧ ¬ (cd T j).hs.length = 0) && ss.contains (stands T tid j)
theorem locksF_some {T : TL} {q : Nat → Pl} {x : Int} {v : Value} (h : locksF T q T.length x = some v) : ∃ k : Nat, x = k ∧ k < T.length ∧ ¬ (cd T k).hs.length = 0 ∧ v = lkq (cd T k) (q k) := by
  unfold locksF at h
  by_cases hc : (0 ≤ x ∧ x < (T.length : Int)) ∧ ¬ (ci T x).hs.length = 0
  · rw [if_pos hc] at h
    exact ⟨x.toNat, by omega, by omega, hc.2, by injection h with h; exact h.symm⟩
  · rw [if_neg hc] at h; cases h
theorem locksF_is {T : TL} {q : Nat → Pl} (k : Nat) : (locksF T q T.length k).isSome = decide (k < T.length ∧ ¬ (cd T k).hs.length = 0) := by
  unfold locksF
  have h2 : ci T (k : Int) = cd T k := by simp [ci]
  rw [h2]
  by_cases hc : k < T.length ∧ ¬ (cd T k).hs.length = 0
  · rw [if_pos (by omega), decide_eq_true hc]; rfl
  · rw [if_neg (by omega), decide_eq_false hc]; rfl
set_option maxHeartbeats 1600000 in
set_option maxRecDepth 100000 in
theorem keysWhere_any (m1 m2 m B : Nat) (T : TL) (q : Nat → Pl) (A : Option Addr) (c : Nat) (ss : List Int) (tid : Int) (w : World) (hs : TFit T) (h8 : T.length ≤ 8) (hB : B ≤ w.heap.size) (hL : ∀ j, j < T.length → LsAt w B (cd T j) (q j)) (M2 : MapN Tryz.prog 3 w m2 m (locksF T q T.length))
    (hn : ss.length ≤ 1048576) (hi : IntsAt w w.heap.size A ss.length (fun i => ss.getD i 0)) :
    Calls Tryz.prog 45 #[.agg #[.map (some m1), .map (some m2)], .int .i64 tid, .slice A ss.length c] w (OwnsOut w (keysUp (whereB T ss tid) 8)) := by
  go_enter Tryz.func45, Tryz.ntmps45
  go_wp2_with (first | (at_range; refine wp_range _ rfl _ rfl keyI Tryz.underlying55 rfl ((M2.next ((Below.refl _ _).alloc (Nat.le_refl _) _)).next ((Below.refl _ _).alloc (Nat.le_refl _) _)) ?_; intro w0 hR0 hg0 hs0) | fail)
  go_frame
  have hr1 : ((w.alloc (.cells #[.map (some m1), .map (some m2)] 57)).alloc (.cells #[.bool false, .bool false, .bool false, .bool false, .bool false, .bool false, .bool false, .bool false] 106)).heap.size = w.heap.size + 1 + 1 := by simp
  have hb0 := ((Below.refl w.heap.size w).alloc (Nat.le_refl _) (.cells #[.map (some m1), .map (some m2)] 57)).alloc (by simp) (.cells #[.bool false, .bool false, .bool false, .bool false, .bool false, .bool false, .bool false, .bool false] 106)
  have row0 : ((w.alloc (.cells #[.map (some m1), .map (some m2)] 57)).alloc (.cells #[.bool false, .bool false, .bool false, .bool false, .bool false, .bool false, .bool false, .bool false] 106)).rowIs (w.heap.size + 1) 106 8 (fun _ => .bool false) := by
    have := World.rowIs_alloc (w.alloc (.cells #[.map (some m1), .map (some m2)] 57)) #[.bool false, .bool false, .bool false, .bool false, .bool false, .bool false, .bool false, .bool false] 106 (fun _ => .bool false) (fun i hi => by
      have h8 : i = 0 ∨ i = 1 ∨ i = 2 ∨ i = 3 ∨ i = 4 ∨ i = 5 ∨ i = 6 ∨ i = 7 := by simp at hi; omega
      rcases h8 with rfl | rfl | rfl | rfl | rfl | rfl | rfl | rfl <;> rfl)
    simpa using this
  rw [hr1] at hR0 ⊢
  generalize (w.alloc (.cells #[.map (some m1), .map (some m2)] 57)).alloc (.cells #[.bool false, .bool false, .bool false, .bool false, .bool false, .bool false, .bool false, .bool false] 106) = wa at hb0 row0 hg0 hs0 hr1
  have hbw : Below w.heap.size w w0 := hb0.trans ⟨hg0.os, hg0.tape, hg0.output, hg0.size, fun k hk => hg0.block k (by omega) (by simp)⟩
  have row0 : w0.rowIs (w.heap.size + 1) 106 8 (fun j => .bool (whereB T ss tid j && !(locksF T q T.length (j : Int)).isSome)) := (row0.of_block (hg0.block _ (by omega) (by simp))).congr (fun j _ => by
    rw [locksF_is]
    unfold whereB
    generalize decide (j < T.length ∧ ¬ (cd T j).hs.length = 0) = d
    cases d <;> simp)
  clear hb0 hg0 hr1 hs0
  have hm2 := M2.lt
  have HL := Lib.hid hL
  clear hL M2
  go_loopw [8] (fun _ wr => ∃ left cnt, RanN Tryz.prog 3 wr m2 (w.heap.size + 1 + 1) m (locksF T q T.length) left cnt ∧ wr.rowIs (w.heap.size + 1) 106 8 (fun j => .bool (whereB T ss tid j && !left (j : Int))) ∧ Below w.heap.size w wr) (fun _ wr => wr.rangeLeft m2 (w.heap.size + 1 + 1))
  case atStart => exact ⟨_, _, hR0, row0, hbw⟩
  case round =>
    clear hR0 row0 hbw
    obtain ⟨left, cnt, hR, hrow, hb⟩ := hrel
    have hsz := hb.size
    have hlr := hrow.lt
    go_wp2_with (first | (at_next; refine wp_next _ rfl _ rfl keyI Tryz.underlying3 (fun x => .agg #[.slice (q x.toNat).G (cd T x.toNat).hs.length (q x.toNat).c, .slice (q x.toNat).G' (cd T x.toNat).ws.length (q x.toNat).c']) (fun j v hv => by obtain ⟨k, rfl, _, _, rfl⟩ := locksF_some hv; rfl) rfl hR ?c1 ?c2) | fail)
    case c1 =>
      intro _ hl0
      have hrow := hrow.congr (g := fun j => .bool (whereB T ss tid j)) (fun j _ => by rw [hl0]; simp)
      have e0 := hrow.cell (i := 0) (by omega)
      have e1 := hrow.cell (i := 1) (by omega)
      have e2 := hrow.cell (i := 2) (by omega)
      have e3 := hrow.cell (i := 3) (by omega)
      have e4 := hrow.cell (i := 4) (by omega)
      have e5 := hrow.cell (i := 5) (by omega)
      have e6 := hrow.cell (i := 6) (by omega)
      have e7 := hrow.cell (i := 7) (by omega)
      have HL0 := Lib.hid hl0
      clear hl0 hR hrow
      go_wp2_with fail
      refine (markedKeys_any (whereB T ss tid) _).mono ?_; rintro e w2 ⟨v, rfl, hown, hb2⟩
      have HO := Lib.hid (ownsRow_base hown hsz)
      have hb3 := hb.trans (hb2.mono hsz)
      clear hown hb2 e0 e1 e2 e3 e4 e5 e6 e7
      go_wp2
      go_ret
      exact ⟨_, rfl, HO.out, hb3⟩
    case c2 =>
      intro x w1 cnt1 hlx hfx hwf hR1 hlt hg1 hs1 hen
      obtain ⟨k, rfl, hkT, hk0, _⟩ := locksF_some hfx
      have hk3 : ((k : Int)).toNat = k := by simp
      simp only [hk3] at hen ⊢
      have hfc := Lib.hid hfx
      have hlh := hs.at_ hkT
      have hb1 : Below w.heap.size w w1 := hb.trans ⟨hg1.os, hg1.tape, hg1.output, hg1.size, fun j hj => hg1.block j (by omega) (fun e => by injection e with e; omega)⟩
      have hrow1 := hrow.of_block (hg1.block _ hlr (fun e => by injection e with e; omega))
      have hz1 : wr.heap.size ≤ w1.heap.size := by omega
      have hle := Lib.hid (show w1.rangeLeft m2 (w.heap.size + 1 + 1) < wr.rangeLeft m2 (w.heap.size + 1 + 1) by rw [hR1.left_eq, hR.left_eq]; exact hlt)
      have hrl1 := hR1.lt.1
      have Hc := Lib.hid hR1.left_eq
      clear hfx hwf hk0 hg1 hlx hrow hb hR hlt hk3
      go_wp2_with fail
      have hA := (Below.refl w1.heap.size w1).alloc (Nat.le_refl _) (.cells #[.slice (q k).G (cd T k).hs.length (q k).c, .slice (q k).G' (cd T k).ws.length (q k).c'] 40)
      have hbA := hb1.trans (hA.mono (Nat.le_trans hsz hz1))
      have hIL : LAt _ B (q k).G (q k).G' ((cd T k).hs, (cd T k).ws) := LAt.keep (HL.out k hkT) hbA hB
      generalize w1.alloc (.cells #[.slice (q k).G (cd T k).hs.length (q k).c, .slice (q k).G' (cd T k).ws.length (q k).c'] 40) = w2 at hA hbA hIL ⊢
      refine (implHolds_any _ _ _ _ B (cd T k).hs (cd T k).ws tid _ hlh.1 hlh.2 hIL).mono ?_; rintro e w3 ⟨rfl, hb3⟩
      have hb13 := hA.trans (hb3.mono hA.size)
      have hbw := hb1.trans (hb13.mono (Nat.le_trans hsz hz1))
      clear hA hbA hb3 hIL hb1 hen
      have Hst := Lib.hid (show holdsL (cd T k).hs (cd T k).ws tid = stands T tid k from rfl)
      rw [Hst.out]
      have HW := Lib.hid (show whereB T ss tid k = ss.contains (stands T tid k) by
        unfold whereB
        rw [← locksF_is (q := q), hfc.out]; rfl)
      generalize stands T tid k = z at HW ⊢
      go_wp2_with fail
      refine (contains_any A c _ ss z _ hn (hi.below hbw (Nat.le_refl _))).mono ?_; rintro e w4 ⟨rfl, rfl⟩
      have hrow3 := hrow1.of_block (hb13.block _ (by omega))
      have hR3 := hR1.below hb13 (by omega) (by omega)
      have hk8 : k < 8 := by omega
      have hkz : (k : Int) < 8 := by omega
      have d0 := hrow3.cell (i := k) hk8
      have f0 : w3.frozen? ⟨w.heap.size + 1, k, none⟩ = false := hrow3.frozen _
      have hl3 : w.heap.size + 1 < w3.heap.size := hrow3.lt
      rw [HW.out] at d0
      have HR := Lib.hid hrow3
      have HRan := Lib.hid hR3
      have HBw := Lib.hid hbw
      clear hrow1 hrow3 hR1 hR3 hb13 hbw hfc
      generalize ss.contains z = v at HW d0 ⊢
      generalize (v && !left (k : Int)) = u at d0
      go_wp2
      have t := (Onlys.refl (w.heap.size + 1) (w.heap.size + 1 + 1) w3).setCell (p := ⟨w.heap.size + 1, k, none⟩) (Nat.le_refl _) (Nat.lt_succ_self _) (.bool v)
      refine ⟨⟨_, _, HRan.out.block (t.block _ (.inl (by omega))) (t.block _ (.inr (Nat.le_refl _))), (HR.out.set k (.bool v)).congr (fun j _ => ?_), HBw.out.trans (t.below (Nat.le_succ _))⟩, ?_⟩
      · by_cases e : j = k
        · subst e; rw [if_pos rfl, HW.out]; simp
        · rw [if_neg e]
          have e' : ¬ ((j : Int) = (k : Int)) := by omega
          simp [e']
      · have h3 := (HRan.out.block (w' := w3.setCell ⟨w.heap.size + 1, k, none⟩ (.bool v)) (t.block _ (.inl (by omega))) (t.block _ (.inr (Nat.le_refl _)))).left_eq
        rw [h3, ← Hc.out]
        exact hle.out
end Go.Proofs.YtcndmdglnohbcaaGreatDoor

namespace Go.Proofs.YtcndmdglnohbcaaGreatDoor
open Go.RowKit
open Go.Maps (Keyed)

theorem keysUp_congr {M M' : Nat → Bool} : ∀ {m : Nat}, (∀ j, j < m → M j = M' j) → keysUp M m = keysUp M' m := by
  intro m
  induction m with
  | zero => intro _; rfl
  | succ m ih =>
    intro h
    have h1 := ih (fun j hj => h j (by omega))
    have h2 := h m (by omega)
    cases hM : M m with
    | true => rw [keysUp_yes hM, keysUp_yes (h2 ▸ hM), h1]
    | false => rw [keysUp_no hM, keysUp_no (h2 ▸ hM), h1]
theorem keysUp_cut {M : Nat → Bool} {n : Nat} (h : ∀ j, n ≤ j → M j = false) : ∀ d, keysUp M (n + d) = keysUp M n
  | 0 => rfl
  | d + 1 => by rw [show n + (d + 1) = (n + d) + 1 by omega, keysUp_no (h _ (by omega)), keysUp_cut h d]
theorem keysUp_none {M : Nat → Bool} {k : Nat} (h : ∀ j, j < k → M j = false) : keysUp M k = [] := by
  rw [keysUp_congr (M' := fun _ => false) h]
  simp [keysUp]
theorem keysUp_first {M : Nat → Bool} {k : Nat} (h : ∀ j, j < k → M j = false) (hk : M k = true) : ∀ d, (keysUp M (k + 1 + d)).head? = some (k : Int)
  | 0 => by rw [Nat.add_zero, keysUp_yes hk, keysUp_none h]; rfl
  | d + 1 => by
    have ih := keysUp_first h hk d
    rw [show k + 1 + (d + 1) = (k + 1 + d) + 1 by omega]
    cases hM : M (k + 1 + d) with
    | true =>
      rw [keysUp_yes hM]
      cases hl : keysUp M (k + 1 + d) with
      | nil => rw [hl] at ih; cases ih
      | cons a l => rw [hl] at ih; exact ih
    | false => rw [keysUp_no hM]; exact ih
/-- an empty valid lock: nobody stands there -/
theorem stands_empty {T : TL} (tid : Int) {j : Nat} (h : lockOk (cd T j).hs (cd T j).ws = true) (h0 : (cd T j).hs.length = 0) : stands T tid j = 0 := by
  have e : (cd T j).hs = [] := List.length_eq_zero_iff.1 h0
  have hb := ((lockOk_iff _ _).1 h).2
  rw [e] at hb
  have e2 : (cd T j).ws = [] := by
    cases hw : (cd T j).ws with
    | nil => rfl
    | cons a l => rw [hw] at hb; simp [blocked, canJoin] at hb
  unfold stands holdsL
  rw [e, e2]
  split <;> simp [holdsAt, ids]
def standB (T : TL) (ss : List Int) (tid : Int) (j : Nat) : Bool := ss.contains (stands T tid j)
theorem where_is {T : TL} (hT : tabOk T = true) (ss : List Int) (h0 : ss.contains 0 = false) (tid : Int) : keysUp (whereB T ss tid) 8 = keysUp (standB T ss tid) T.length := by
  have hl := tabOk_len hT
  have e := keysUp_cut (M := whereB T ss tid) (n := T.length) (fun j hj => by unfold whereB; rw [decide_eq_false (by omega)]; rfl) (8 - T.length)
  rw [show T.length + (8 - T.length) = 8 by omega] at e
  rw [e]
  refine keysUp_congr (fun j hj => ?_)
  unfold whereB standB
  by_cases hz : (cd T j).hs.length = 0
  · rw [decide_eq_false (by omega), stands_empty tid (tabOk_lockOk hT hj) hz, h0]; rfl
  · rw [decide_eq_true ⟨hj, hz⟩]; rfl
def heldL (T : TL) (tid : Int) : List Int := if tabOk T then keysUp (standB T [1, 2] tid) T.length else []
def waitL (T : TL) (tid : Int) : List Int := if tabOk T then keysUp (standB T [3] tid) T.length else []
def waitK (T : TL) (tid : Int) : Int := (waitL T tid).head?.getD (-1)
theorem heldL_len (T : TL) (tid : Int) : (heldL T tid).length ≤ 8 := by
  unfold heldL
  split
  · rename_i h; have := tabOk_len h; have := keysUp_le (standB T [1, 2] tid) T.length; omega
  · simp
theorem contains12 (z : Int) : ([1, 2] : List Int).contains z = inB z 1 2 := by
  rw [Bool.eq_iff_iff]
  simp [inB]; omega
theorem keysWhere_nil (A : Option Addr) (c : Nat) (n : Nat) (tid : Int) (w : World) :
    Calls Tryz.prog 45 #[.agg #[.map none, .map none], .int .i64 tid, .slice A n c] w (OwnsOut w []) := by
  have hrn := fun w => run_range_nilMap (P := Tryz.prog) w 55 3 40 Tryz.underlying55
  go_enter Tryz.func45, Tryz.ntmps45
  go_wp2_with fail
  have hnx := fun ty => run_next_nilMap (P := Tryz.prog) ((w.alloc (.cells #[.map none, .map none] 57)).alloc (.cells #[.bool false, .bool false, .bool false, .bool false, .bool false, .bool false, .bool false, .bool false] 106)) ty 0 0 #[]
  have hr1 : ((w.alloc (.cells #[.map none, .map none] 57)).alloc (.cells #[.bool false, .bool false, .bool false, .bool false, .bool false, .bool false, .bool false, .bool false] 106)).heap.size = w.heap.size + 1 + 1 := by simp
  rw [hr1] at hnx
  clear hrn hr1
  have hb := (((Below.refl w.heap.size w).alloc (Nat.le_refl _) (.cells #[.map none, .map none] 57)).alloc (by simp) (.cells #[.bool false, .bool false, .bool false, .bool false, .bool false, .bool false, .bool false, .bool false] 106)).alloc (by simp; omega) (.mapIter none 0 #[] 0)
  refine wp_loop_rounds 1 ?_; rw [rounds_succ]
  go_wp2_with fail
  refine (markedKeys_any (fun _ => false) _).mono ?_; rintro e w2 ⟨v, rfl, hown, hb2⟩
  have hk : keysUp (fun _ => false) 8 = [] := rfl
  rw [hk] at hown
  have HO := Lib.hid (ownsRow_base (base := w.heap.size) hown (by simp; omega))
  have hb3 := hb.trans (hb2.mono hb.size)
  clear hown hb2 hnx hk hb
  go_wp2
  go_ret
  exact ⟨_, rfl, HO.out, hb3⟩
theorem implHeld_any (A : Option Addr) (c B : Nat) (T : TL) (tid : Int) (w : World) (hs : TFit T) (hB : B ≤ w.heap.size) (h : TAt w B A T) :
    Calls Tryz.prog 18 #[.agg #[.slice A T.length c], .int .i64 tid] w (RetI w (heldL T tid)) := by
  go_enter Tryz.func18, Tryz.ntmps18
  go_wp2_with fail
  have b0 := (Below.refl w.heap.size w).alloc (Nat.le_refl _) (.cells #[.slice A T.length c] 26)
  generalize w.alloc (.cells #[.slice A T.length c] 26) = w0 at b0 ⊢
  cases hT : tabOk T with
  | false =>
    have HE := Lib.hid (show heldL T tid = [] by simp [heldL, hT])
    refine (storeOf_bad A c B T _ hs (Nat.le_trans hB b0.size) (h.keep b0 hB) hT).mono ?_; rintro e w1 ⟨rfl, hb1⟩
    have b1 := b0.trans (hb1.mono b0.size)
    clear b0 hb1 hT
    go_wp2_with fail
    have b2 := b1.alloc b1.size (.cells #[.int .i64 1, .int .i64 2] 3)
    refine (keysWhere_nil _ _ _ tid _).mono ?_; rintro e w2 ⟨v, rfl, hown, hb2⟩
    have hsz := b1.size
    have HO := Lib.hid (RetI.of (w := w) hown (by simp; omega) (b2.trans (hb2.mono b2.size)))
    clear hown hb2 b1 b2
    go_wp2
    go_ret
    rw [HE.out]
    exact HO.out
  | true =>
    have hl8 := tabOk_len hT
    have HE := Lib.hid (show heldL T tid = keysUp (whereB T [1, 2] tid) 8 by rw [where_is hT _ rfl]; simp [heldL, hT])
    obtain ⟨bb, off, rfl, hbB, q, hc⟩ := h (by omega)
    have hcl : TCl w B bb off T q := ⟨hbB, hc⟩
    have hcl0 : TCl w0 B bb off T q := ⟨hbB, fun j hj => ⟨(hcl.2 j hj).1.below b0 (by omega), LAt.keep (hcl.2 j hj).2 b0 hB⟩⟩
    refine (storeOf_ok bb off c B T q _ hs (Nat.le_trans hB b0.size) hcl0 hT).mono ?_; rintro e w1 ⟨m1, m2, mm, rfl, hne, hm1, hm2, M1, hmm, M2, hb1⟩
    have b1 := b0.trans (hb1.mono b0.size)
    have hsz := b1.size
    clear b0 hb1 hcl0 hc hT M1
    go_wp2_with fail
    have hA := (Below.refl w1.heap.size w1).alloc (Nat.le_refl _) (.cells #[.int .i64 1, .int .i64 2] 3)
    have b2 := b1.trans (hA.mono hsz)
    have hI : IntsAt (w1.alloc (.cells #[.int .i64 1, .int .i64 2] 3)) (w1.alloc (.cells #[.int .i64 1, .int .i64 2] 3)).heap.size (some ⟨w1.heap.size, 0, none⟩) ([1, 2] : List Int).length (fun i => ([1, 2] : List Int).getD i 0) := fun _ => ⟨w1.heap.size, 0, rfl, by simp, fun j hj => by
      have h2 : j = 0 ∨ j = 1 := by simp at hj; omega
      rcases h2 with rfl | rfl <;> simp⟩
    have hL : ∀ j, j < T.length → LsAt (w1.alloc (.cells #[.int .i64 1, .int .i64 2] 3)) B (cd T j) (q j) := fun j hj => LAt.keep (hcl.2 j hj).2 b2 hB
    have M2 := M2.next hA
    refine (keysWhere_any m1 m2 mm B T q (some ⟨w1.heap.size, 0, none⟩) 2 [1, 2] tid _ hs hl8.2 (Nat.le_trans hB b2.size) hL M2 (by simp) hI).mono ?_; rintro e w2 ⟨v, rfl, hown, hb2⟩
    have HO := Lib.hid (RetI.of (w := w) hown (by simp; omega) (b2.trans (hb2.mono b2.size)))
    clear hown hb2 b1 b2 M2 hL hI hA
    go_wp2
    go_ret
    rw [HE.out]
    exact HO.out
theorem implWaits_any (A : Option Addr) (c B : Nat) (T : TL) (tid : Int) (w : World) (hs : TFit T) (hB : B ≤ w.heap.size) (h : TAt w B A T) :
    Calls Tryz.prog 20 #[.agg #[.slice A T.length c], .int .i64 tid] w fun e w' => e = .returned (.int .i64 (waitK T tid)) ∧ Below w.heap.size w w' := by
  go_enter Tryz.func20, Tryz.ntmps20
  go_wp2_with fail
  have b0 := (Below.refl w.heap.size w).alloc (Nat.le_refl _) (.cells #[.slice A T.length c] 26)
  generalize w.alloc (.cells #[.slice A T.length c] 26) = w0 at b0 ⊢
  cases hT : tabOk T with
  | false =>
    have HE := Lib.hid (show waitK T tid = -1 by simp [waitK, waitL, hT])
    refine (storeOf_bad A c B T _ hs (Nat.le_trans hB b0.size) (h.keep b0 hB) hT).mono ?_; rintro e w1 ⟨rfl, hb1⟩
    have b1 := b0.trans (hb1.mono b0.size)
    clear b0 hb1 hT
    go_wp2_with fail
    have b2 := b1.alloc b1.size (.cells #[.int .i64 3] 3)
    refine (keysWhere_nil _ _ _ tid _).mono ?_; rintro e w2 ⟨v, rfl, hown, hb2⟩
    have hsz := b1.size
    obtain ⟨A2, c2, rfl, _, _⟩ := OwnI.of_owns hown
    have b3 := b2.trans (hb2.mono b2.size)
    clear hown hb2 b1 b2
    go_wp2
    go_ret
    exact ⟨by rw [HE.out]; rfl, b3⟩
  | true =>
    have hl8 := tabOk_len hT
    have HE := Lib.hid (show waitK T tid = (keysUp (whereB T [3] tid) 8).head?.getD (-1) by rw [where_is hT _ rfl]; simp [waitK, waitL, hT])
    obtain ⟨bb, off, rfl, hbB, q, hc⟩ := h (by omega)
    have hcl : TCl w B bb off T q := ⟨hbB, hc⟩
    have hcl0 : TCl w0 B bb off T q := ⟨hbB, fun j hj => ⟨(hcl.2 j hj).1.below b0 (by omega), LAt.keep (hcl.2 j hj).2 b0 hB⟩⟩
    refine (storeOf_ok bb off c B T q _ hs (Nat.le_trans hB b0.size) hcl0 hT).mono ?_; rintro e w1 ⟨m1, m2, mm, rfl, hne, hm1, hm2, M1, hmm, M2, hb1⟩
    have b1 := b0.trans (hb1.mono b0.size)
    have hsz := b1.size
    clear b0 hb1 hcl0 hc hT M1
    go_wp2_with fail
    have hA := (Below.refl w1.heap.size w1).alloc (Nat.le_refl _) (.cells #[.int .i64 3] 3)
    have b2 := b1.trans (hA.mono hsz)
    have hI : IntsAt (w1.alloc (.cells #[.int .i64 3] 3)) (w1.alloc (.cells #[.int .i64 3] 3)).heap.size (some ⟨w1.heap.size, 0, none⟩) ([3] : List Int).length (fun i => ([3] : List Int).getD i 0) := fun _ => ⟨w1.heap.size, 0, rfl, by simp, fun j hj => by
      have h2 : j = 0 := by simp at hj; omega
      subst h2; simp⟩
    have hL : ∀ j, j < T.length → LsAt (w1.alloc (.cells #[.int .i64 3] 3)) B (cd T j) (q j) := fun j hj => LAt.keep (hcl.2 j hj).2 b2 hB
    have M2 := M2.next hA
    refine (keysWhere_any m1 m2 mm B T q (some ⟨w1.heap.size, 0, none⟩) 1 [3] tid _ hs hl8.2 (Nat.le_trans hB b2.size) hL M2 (by simp) hI).mono ?_; rintro e w2 ⟨v, rfl, hown, hb2⟩
    generalize keysUp (whereB T [3] tid) 8 = l at hown HE
    obtain ⟨A2, c2, rfl, _, hI2⟩ := OwnI.of_owns hown
    have hI2 := hI2.at_
    have b3 := b2.trans (hb2.mono b2.size)
    clear hown hb2 b1 b2 M2 hL hI hA
    match l, HE, hI2 with
    | [], HE, hI2 =>
      go_wp2
      go_ret
      exact ⟨by rw [HE.out]; rfl, b3⟩
    | a :: l, HE, hI2 =>
      obtain ⟨b', o', rfl, _, hc⟩ := hI2 (by simp)
      have d0 := hc 0 (by simp)
      simp only [Nat.add_zero, List.getD_cons_zero] at d0
      have hl : ¬ (((a :: l).length : Nat) : Int) = 0 := by simp; omega
      have hl2 : (0 : Int) < (((a :: l).length : Nat) : Int) := by simp
      generalize (a :: l).length = n at hl hl2 ⊢
      clear hc hI2
      go_wp2
      go_ret
      exact ⟨by rw [HE.out]; rfl, b3⟩
set_option maxHeartbeats 800000 in
set_option maxRecDepth 100000 in
theorem specHeld_any (A : Option Addr) (c B : Nat) (T : TL) (tid : Int) (w : World) (hs : TFit T) (hB : B ≤ w.heap.size) (h2 : TAt w B A T) :
    Calls Tryz.prog 19 #[.agg #[.slice A T.length c], .int .i64 tid] w (RetI w (heldL T tid)) := by
  obtain ⟨i0, hi, hz0, hz1, hz2⟩ := info_parts infoInt
  have Hi := Lib.hid hi
  have Hz0 := Lib.hid hz0
  have Hz1 := Lib.hid hz1
  have Hz2 := Lib.hid hz2
  clear hi hz0 hz1 hz2
  go_enter Tryz.func19, Tryz.ntmps19
  go_wp2_with fail
  have b0 := ((Below.refl w.heap.size w).alloc (Nat.le_refl _) (.cells #[.slice A T.length c] 26)).alloc (by simp) (.cells #[] 3)
  have X := (Box.new (w := w) (c := #[.slice A T.length c]) (t := 26) rfl).alloc (.cells #[] 3)
  have hown0 := World.ownsRow_made (base := w.heap.size + 1) (size := 1) (e := 3) (w.alloc (.cells #[.slice A T.length c] 26)) #[] 0 (by simp) (Nat.zero_le _) rfl
  refine (specTabOk_any _ _ _ T _ hs (Nat.le_trans hB b0.size) (h2.keep b0 hB)).mono ?_; rintro e w1 ⟨rfl, hb1⟩
  have X := X.next hb1
  have b1 := b0.trans (hb1.mono b0.size)
  have hown := ownsRow_block' hown0 (fun k hk _ => hb1.block k hk)
  have Hown := Lib.hid (show w1.ownsRow (w.heap.size + 1) 3 1 (.slice (some ⟨w.heap.size + 1, 0, none⟩) 0 0) (keysUp (standB T [1, 2] tid) 0).length ((keysUp (standB T [1, 2] tid) 0).map (.int .i64)) by simpa [keysUp] using hown)
  clear hb1 b0 hown0 hown
  cases hl : tabOk T with
  | false =>
    have HE := Lib.hid (show heldL T tid = [] by simp [heldL, hl])
    clear hl
    go_wp2
    go_ret
    rw [HE.out]
    exact RetI.nil b1
  | true =>
    have HE := Lib.hid (show heldL T tid = keysUp (standB T [1, 2] tid) T.length by simp [heldL, hl])
    have hlen := tabOk_len hl
    have Hsb := Lib.hid (fun k => show standB T [1, 2] tid k = inB (stands T tid k) 1 2 from contains12 _)
    clear hl
    go_wp2
    go_loopw [5, 6] (fun v i wr => ∃ k : Nat, k ≤ T.length ∧ i = .int .i64 k ∧ wr.ownsRow (w.heap.size + 1) 3 1 v (keysUp (standB T [1, 2] tid) k).length ((keysUp (standB T [1, 2] tid) k).map (.int .i64)) ∧ Below w.heap.size w wr ∧ Box wr w.heap.size [.slice A T.length c]) (fun _ i _ => T.length - (intOf i).toNat)
    case atStart => exact ⟨0, Nat.zero_le _, rfl, Hown.out, b1, X⟩
    case round =>
      clear X b1 Hown
      obtain ⟨k, hk, rfl, hown, hb, X⟩ := hrel
      obtain ⟨x0, xf⟩ := X.c1
      have hsz := hb.size
      have hlt := X.lt
      by_cases hkn : k < T.length
      · obtain ⟨b, off, rfl, hbB, q, hc⟩ := h2 (by omega)
        have hkz : (k : Int) < T.length := by omega
        obtain ⟨a0, a1, a2, a3, a4, a5⟩ := (hc k hkn).1.below hb (show b < w.heap.size by omega)
        have hl2 : (keysUp (standB T [1, 2] tid) k).length ≤ 8 := by have := keysUp_le (standB T [1, 2] tid) k; omega
        have hlk := hs.at_ hkn
        have i1 : LAt wr B (q k).G (q k).G' ((cd T k).hs, (cd T k).ws) := LAt.keep (hc k hkn).2 hb hB
        have HY := Lib.hid (keysUp_yes (M := standB T [1, 2] tid) (m := k))
        have HN := Lib.hid (keysUp_no (M := standB T [1, 2] tid) (m := k))
        have HS := Lib.hid (Hsb.out k)
        have hst := Lib.hid (show holdsL (cd T k).hs (cd T k).ws tid = stands T tid k from rfl)
        clear hc h2 xf
        generalize keysUp (standB T [1, 2] tid) k = L at hown hl2 HY HN
        go_wp2_with fail
        refine (specHolds_any _ _ _ _ B (cd T k).hs (cd T k).ws tid _ hlk.1 hlk.2 i1).mono ?_; rintro e w2 ⟨rfl, hb2⟩
        rw [hst.out]
        have X := X.next hb2
        obtain ⟨x0, xf⟩ := X.c1
        have hlt := X.lt
        have hown := ownsRow_block' hown (fun k hk _ => hb2.block k hk)
        have hb := hb.trans (hb2.mono hsz)
        have hsz := hb.size
        clear a0 a1 a2 a3 a4 a5 i1 hb2 xf
        generalize stands T tid k = z at HS ⊢
        go_wp2_with fail
        refine (l01In_any _ _ _ _).mono ?_; rintro e w3 ⟨rfl, rfl⟩
        cases hz : inB z 1 2 with
        | true =>
          have HN := Lib.hid (HY.out (by rw [HS.out, hz]))
          clear hz HY
          go_wp2_with (at_builtin; refine wpList_append_own _ rfl _ _ 47 rfl (w.heap.size + 1) 3 i0 (.int .i64 0) 1 8 Tryz.underlying47 Hi.out Hz0.out Hz1.out Hz2.out rfl (by decide) _ _ _ rfl (hown.alloc _) ⟨w2.heap.size, 0, none⟩ 1 1 [.int .i64 (k : Int)] rfl rfl ?c1 ?c2 ?c3 ?c4 ?c5 ?_)
          case c1 =>
            intro j u hj
            match j, hj with
            | 0, hj => simp at hj; subst hj; simp [Addr.add]
          case c2 => intro u hu; simp at hu; subst hu; rfl
          case c3 => unfold maxLen; omega
          case c4 => omega
          case c5 => simp; omega
          intro v' w3 hown' hgrow _
          have X3 := (X.alloc (.cells #[.int .i64 (k : Int)] 3)).grown hgrow (fun q hq => by have := (hown.lt q hq).1; omega)
          have hb3 := (hb.alloc hsz (.cells #[.int .i64 (k : Int)] 3)).grown hgrow (by simp; omega) (fun q hq => by have := (hown.lt q hq).1; omega)
          have hown3 : w3.ownsRow (w.heap.size + 1) 3 1 v' (keysUp (standB T [1, 2] tid) (k + 1)).length ((keysUp (standB T [1, 2] tid) (k + 1)).map (.int .i64)) := by rw [HN.out]; simpa using hown'
          clear hown' hgrow hown hb X x0
          go_wp2
          exact ⟨⟨k + 1, by omega, by go_num, hown3, hb3, X3⟩, by simp [intOf]; omega⟩
        | false =>
          have HN := Lib.hid (HN.out (by rw [HS.out, hz]))
          have hown3 := hown
          rw [← HN.out] at hown3
          have Hown3 := Lib.hid hown3
          clear hz HY hown hown3
          go_wp2
          exact ⟨⟨k + 1, by omega, by go_num, Hown3.out, hb, X⟩, by simp [intOf]; omega⟩
      · obtain rfl : k = T.length := by omega
        have HO := Lib.hid hown
        clear hown
        go_wp2
        go_ret
        rw [HE.out]
        exact RetI.of HO.out (by omega) hb

set_option maxHeartbeats 800000 in
set_option maxRecDepth 100000 in
theorem specWaits_any (A : Option Addr) (c B : Nat) (T : TL) (tid : Int) (w : World) (hs : TFit T) (hB : B ≤ w.heap.size) (h2 : TAt w B A T) :
    Calls Tryz.prog 21 #[.agg #[.slice A T.length c], .int .i64 tid] w fun e w' => e = .returned (.int .i64 (waitK T tid)) ∧ Below w.heap.size w w' := by
  go_enter Tryz.func21, Tryz.ntmps21
  go_wp2_with fail
  have b0 := (Below.refl w.heap.size w).alloc (Nat.le_refl _) (.cells #[.slice A T.length c] 26)
  have X := Box.new (w := w) (c := #[.slice A T.length c]) (t := 26) rfl
  generalize w.alloc (.cells #[.slice A T.length c] 26) = w0 at b0 X ⊢
  refine (specTabOk_any A c B T _ hs (Nat.le_trans hB b0.size) (h2.keep b0 hB)).mono ?_; rintro e w1 ⟨rfl, hb1⟩
  have X := X.next hb1
  have b1 := b0.trans (hb1.mono b0.size)
  clear hb1 b0
  cases hl : tabOk T with
  | false =>
    have HE := Lib.hid (show waitK T tid = -1 by simp [waitK, waitL, hl])
    clear hl
    go_wp2
    go_ret
    exact ⟨by rw [HE.out]; rfl, b1⟩
  | true =>
    have hlen := tabOk_len hl
    have HE := Lib.hid (show waitK T tid = (keysUp (standB T [3] tid) T.length).head?.getD (-1) by simp [waitK, waitL, hl])
    clear hl
    go_wp2
    go_loopw [5] (fun i wr => ∃ k : Nat, k ≤ T.length ∧ i = .int .i64 k ∧ (∀ j, j < k → standB T [3] tid j = false) ∧ Below w.heap.size w wr ∧ Box wr w.heap.size [.slice A T.length c]) (fun i _ => T.length - (intOf i).toNat)
    case atStart => exact ⟨0, Nat.zero_le _, rfl, fun j hj => absurd hj (by omega), b1, X⟩
    case round =>
      clear X b1
      obtain ⟨k, hk, rfl, hno, hb, X⟩ := hrel
      have Hno := Lib.hid hno
      obtain ⟨x0, xf⟩ := X.c1
      have hsz := hb.size
      have hlt := X.lt
      clear hno xf
      by_cases hkn : k < T.length
      · obtain ⟨b, off, rfl, hbB, q, hc⟩ := h2 (by omega)
        have hkz : (k : Int) < T.length := by omega
        obtain ⟨a0, a1, a2, a3, a4, a5⟩ := (hc k hkn).1.below hb (show b < w.heap.size by omega)
        have hlk := hs.at_ hkn
        have i1 : LAt wr B (q k).G (q k).G' ((cd T k).hs, (cd T k).ws) := LAt.keep (hc k hkn).2 hb hB
        have HS := Lib.hid (show standB T [3] tid k = (stands T tid k == 3) by unfold standB; rw [Bool.eq_iff_iff]; simp)
        have hst := Lib.hid (show holdsL (cd T k).hs (cd T k).ws tid = stands T tid k from rfl)
        clear hc h2
        go_wp2_with fail
        refine (specHolds_any _ _ _ _ B (cd T k).hs (cd T k).ws tid _ hlk.1 hlk.2 i1).mono ?_; rintro e w2 ⟨rfl, hb2⟩
        rw [hst.out]
        have X := X.next hb2
        have hb := hb.trans (hb2.mono hsz)
        clear a0 a1 a2 a3 a4 a5 i1 hb2 x0
        generalize stands T tid k = z at HS ⊢
        cases hz : (z == 3) with
        | true =>
          have HF := Lib.hid (show waitK T tid = k by
            rw [HE.out]
            have := keysUp_first Hno.out (HS.out.trans hz) (T.length - (k + 1))
            rw [show k + 1 + (T.length - (k + 1)) = T.length by omega] at this
            rw [this]; rfl)
          clear HE Hno HS
          go_wp2
          go_ret
          exact ⟨by rw [HF.out]; rfl, hb⟩
        | false =>
          have HN := Lib.hid (show ∀ j, j < k + 1 → standB T [3] tid j = false from fun j hj => by
            by_cases ej : j = k
            · subst ej; exact HS.out.trans hz
            · exact Hno.out j (by omega))
          clear Hno HS
          go_wp2
          exact ⟨⟨k + 1, by omega, by go_num, HN.out, hb, X⟩, by simp [intOf]; omega⟩
      · obtain rfl : k = T.length := by omega
        have HF := Lib.hid (show waitK T tid = -1 by rw [HE.out, keysUp_none Hno.out]; rfl)
        clear HE Hno
        go_wp2
        go_ret
        exact ⟨by rw [HF.out]; rfl, hb⟩
end Go.Proofs.YtcndmdglnohbcaaGreatDoor

namespace Go.Proofs.YtcndmdglnohbcaaGreatDoor
open Go.RowKit
open Go.Maps (Keyed)

theorem vcT_len (T : TL) (x tid : Int) : (vcT T x tid).length = T.length := by
  unfold vcT
  split
  · rw [putT_len]
  · rfl
theorem vcT_ok {T : TL} {x tid : Int} (h : tabOk T = true) : tabOk (vcT T x tid) = true := by
  unfold vcT
  split
  · rename_i hv
    have ht : thereB T x = true := by unfold vcB at hv; rw [Bool.and_eq_true] at hv; exact hv.1
    obtain ⟨_, h0, h1⟩ := there_iff.1 ht
    unfold cAt
    exact put_ok h h1 (leave_ok tid (tabOk_lockOk h h1))
  · exact h
theorem vcT_at {T : TL} {x tid : Int} {j : Nat} (hj : j < T.length) (hne : ¬ (j : Int) = x) : cd (vcT T x tid) j = cd T j := by
  unfold vcT
  split
  · rename_i hv
    have ht : thereB T x = true := by unfold vcB at hv; rw [Bool.and_eq_true] at hv; exact hv.1
    obtain ⟨_, h0, h1⟩ := there_iff.1 ht
    rw [putT_at _ _ _ _ hj, if_neg (by omega)]
  · rfl
/-- the table after leaving these keys one after the other -/
def laF (T : TL) (tid : Int) (l : List Int) : TL := l.foldl (fun U x => vcT U x tid) T
theorem laF_snoc (T : TL) (tid : Int) (l : List Int) (x : Int) : laF T tid (l ++ [x]) = vcT (laF T tid l) x tid := by simp [laF]
theorem laF_inv {tid : Int} : ∀ (l : List Int) (T : TL), tabOk T = true → tabOk (laF T tid l) = true ∧ (laF T tid l).length = T.length ∧ ∀ j, j < T.length → (∀ x, x ∈ l → ¬ (j : Int) = x) → cd (laF T tid l) j = cd T j
  | [], T, h => ⟨h, rfl, fun _ _ _ => rfl⟩
  | x :: l, T, h => by
    obtain ⟨h1, h2, h3⟩ := laF_inv l (vcT T x tid) (vcT_ok h)
    refine ⟨h1, h2.trans (vcT_len T x tid), fun j hj hne => ?_⟩
    have e := h3 j (by rw [vcT_len]; exact hj) (fun y hy => hne y (List.mem_cons_of_mem _ hy))
    exact e.trans (vcT_at hj (hne x (List.mem_cons_self ..)))
theorem laF_leaves {T : TL} {tid : Int} {l : List Int} {k : Nat} (h : tabOk T = true) (hk : k < T.length) (hne : ∀ x, x ∈ l → ¬ (k : Int) = x) : vcB (laF T tid l) (k : Int) tid = !(stands T tid k == 0) := by
  obtain ⟨h1, h2, h3⟩ := laF_inv (tid := tid) l T h
  rw [vc_yes (there_nat h1 (by omega)), h3 k hk hne]
  rfl
theorem contains3 {z : Int} (h : 0 ≤ z ∧ z ≤ 3) : ([1, 2, 3] : List Int).contains z = !(z == 0) := by
  have : z = 0 ∨ z = 1 ∨ z = 2 ∨ z = 3 := by omega
  rcases this with rfl | rfl | rfl | rfl <;> decide
theorem holdsL_range (hs ws : HL) (t : Int) : 0 ≤ holdsL hs ws t ∧ holdsL hs ws t ≤ 3 := by
  unfold holdsL holdsAt
  repeat' split
  all_goals omega
theorem standB3 (T : TL) (tid : Int) (j : Nat) : standB T [1, 2, 3] tid j = !(stands T tid j == 0) := contains3 (holdsL_range _ _ _)
theorem keysUp_lt {M : Nat → Bool} {m : Nat} {x : Int} (h : x ∈ keysUp M m) : ∃ k : Nat, x = k ∧ k < m ∧ M k = true := by
  simp only [keysUp, List.mem_map, List.mem_filter, List.mem_range] at h
  obtain ⟨k, ⟨h1, h2⟩, rfl⟩ := h
  exact ⟨k, rfl, h1, h2⟩
/-- LeaveAll -/
def laK (T : TL) (tid : Int) : List Int := keysUp (standB T [1, 2, 3] tid) T.length
def laR (T : TL) (tid : Int) : TL := if tabOk T then laF T tid (laK T tid) else T
def laB (T : TL) (tid : Int) : Bool := tabOk T && decide (0 < (laK T tid).length)
theorem laR_no {T : TL} {tid : Int} (h : tabOk T = false) : laB T tid = false ∧ laR T tid = T := by simp [laB, laR, h]
theorem laR_yes {T : TL} {tid : Int} (h : tabOk T = true) : laB T tid = decide (0 < (laK T tid).length) ∧ laR T tid = laF T tid (laK T tid) := by simp [laB, laR, h]
theorem laR_len (T : TL) (tid : Int) : (laR T tid).length = T.length := by
  unfold laR
  split
  · rename_i h
    exact (laF_inv _ T h).2.1
  · rfl
theorem laR_fit {T : TL} {tid : Int} (h : TFit T) : TFit (laR T tid) := by
  unfold laR
  split
  · rename_i h2
    exact tab_fit (laF_inv _ T h2).1
  · exact h
/-- the keys ascend: the next one is not among those before -/
theorem keysUp_apart {M : Nat → Bool} : ∀ {m : Nat} {i : Nat} {x : Int}, (keysUp M m)[i]? = some x → ∀ y, y ∈ (keysUp M m).take i → y < x
  | 0, i, x, h => by simp [keysUp] at h
  | m + 1, i, x, h => by
    intro y hy
    cases hM : M m with
    | false =>
      rw [keysUp_no hM] at h hy
      exact keysUp_apart h y hy
    | true =>
      rw [keysUp_yes hM] at h hy
      by_cases hi : i < (keysUp M m).length
      · rw [List.getElem?_append_left hi] at h
        rw [List.take_append_of_le_length (by omega)] at hy
        exact keysUp_apart h y hy
      · rw [List.getElem?_append_right (by omega)] at h
        have hx : x = (m : Int) ∧ i = (keysUp M m).length := by
          rcases Nat.eq_zero_or_pos (i - (keysUp M m).length) with e | e
          · rw [e] at h
            simp at h
            exact ⟨h.symm, by omega⟩
          · rw [List.getElem?_eq_none (by simp; omega)] at h
            cases h
        obtain ⟨rfl, rfl⟩ := hx
        rw [List.take_append_of_le_length (Nat.le_refl _), List.take_length] at hy
        obtain ⟨k, rfl, hk, _⟩ := keysUp_lt hy
        omega
theorem laK_next {T : TL} {tid : Int} {m : Nat} {x : Int} (h : tabOk T = true) (hx : (laK T tid)[m]? = some x) : ∃ k : Nat, x = k ∧ k < T.length ∧ vcB (laF T tid ((laK T tid).take m)) (k : Int) tid = true := by
  have hmem := List.mem_of_getElem? hx
  obtain ⟨k, rfl, hk, hM⟩ := keysUp_lt hmem
  refine ⟨k, rfl, hk, ?_⟩
  rw [laF_leaves h hk (fun y hy => by have := keysUp_apart hx y hy; omega), ← standB3]
  exact hM
theorem laK_step {T : TL} {tid : Int} {k : Nat} (h : tabOk T = true) (hk : k < T.length) : vcB (laF T tid (keysUp (standB T [1, 2, 3] tid) k)) (k : Int) tid = standB T [1, 2, 3] tid k := by
  rw [laF_leaves h hk (fun y hy => by obtain ⟨j, rfl, hj, _⟩ := keysUp_lt hy; omega), standB3]
end Go.Proofs.YtcndmdglnohbcaaGreatDoor

namespace Go.Proofs.YtcndmdglnohbcaaGreatDoor
open Go.RowKit
open Go.Maps (Keyed)

theorem stale_eq {hs ws : HL} (h : lockOk hs ws = true) (tid : Int) : (wroteS hs && !decide (hT hs 0 = tid)) = (wrote hs && !decide (holdsL hs ws tid = 2)) := by
  rw [← wrote_lock h]
  match hs, h with
  | [], _ => rfl
  | [x], h =>
    unfold holdsL
    rw [if_pos h]
    cases hx : x.2 with
    | false => simp [wroteS, hx]
    | true =>
      by_cases e : x.1 = tid
      · simp [wroteS, hx, hT, holdsAt, e]
      · by_cases hw : (ids ws).contains tid = true
        · simp [wroteS, hx, hT, holdsAt, e]; split <;> omega
        · simp [wroteS, hx, hT, holdsAt, e]; split <;> omega
  | x :: y :: l, h =>
    have h2 : x.2 = false := (wrOk_iff _).1 ((lockOk_iff _ _).1 h).1.wr (by simp) x (by simp)
    simp [wroteS, h2]
/-- what StaleFor gives -/
def staleC (c : CD) (tid e s : Int) : Bool := !sameW c.e c.s e s || (wroteS c.hs && !decide (hT c.hs 0 = tid))
def staleB (T : TL) (key tid e s : Int) : Bool := !thereB T key || staleC (cAt T key) tid e s
theorem staleC_eq {c : CD} (h : lockOk c.hs c.ws = true) (tid e s : Int) : staleC c tid e s = (!sameW c.e c.s e s || (wrote c.hs && !decide (holdsL c.hs c.ws tid = 2))) := by
  unfold staleC; rw [stale_eq h]
set_option maxHeartbeats 800000 in
set_option maxRecDepth 100000 in
theorem implStale_any (A : Option Addr) (c B : Nat) (T : TL) (key tid e s : Int) (g : Bool) (w : World) (hkey : keyOf Tryz.prog 3 (.int .i64 key) = some (.int .i64 key)) (hs : TFit T) (hB : B ≤ w.heap.size) (h : TAt w B A T) :
    Calls Tryz.prog 13 #[.agg #[.slice A T.length c], .int .i64 key, .int .i64 tid, .agg #[.int .i64 e, .int .i64 s, .bool g]] w fun o w' => o = .returned (.bool (staleB T key tid e s)) ∧ Below w.heap.size w w' := by
  go_enter Tryz.func13, Tryz.ntmps13
  go_wp2_with fail
  have b0 := ((Below.refl w.heap.size w).alloc (Nat.le_refl _) (.cells #[.slice A T.length c] 26)).alloc (by simp) (.cells #[.int .i64 e, .int .i64 s, .bool g] 37)
  have R := Box.new (w := w.alloc (.cells #[.slice A T.length c] 26)) (b := w.heap.size + 1) (c := #[.int .i64 e, .int .i64 s, .bool g]) (t := 37) (by simp)
  generalize (w.alloc (.cells #[.slice A T.length c] 26)).alloc (.cells #[.int .i64 e, .int .i64 s, .bool g] 37) = w0 at b0 R ⊢
  cases hT : tabOk T with
  | false =>
    have HE := Lib.hid (show staleB T key tid e s = true by simp [staleB, hT, thereB])
    refine (storeOf_bad A c B T _ hs (Nat.le_trans hB b0.size) (h.keep b0 hB) hT).mono ?_; rintro o w1 ⟨rfl, hb1⟩
    have b1 := b0.trans (hb1.mono b0.size)
    have hA := (b1.alloc b1.size (.cells #[.map none, .map none] 57))
    clear b0 hb1 hT R b1
    go_wp2_with fail
    have hlk := Go.Maps.look_nil (w := w1.alloc (.cells #[.map none, .map none] 57)) true keyI Tryz.underlying54 (zeroSlot _) hkey
    go_wp2_with fail
    have hB2 := Lib.hid (show Below w.heap.size w (((w1.alloc (.cells #[.map none, .map none] 57)).alloc (.cells #[.int .i64 0, .int .i64 0] 61)).drew) from (hA.alloc hA.size _).drew)
    obtain ⟨I, F, hI, hF0, hF, hFi⟩ := cls (S := fun W => Below w.heap.size w W) hB2.out
    have HF0 := Lib.hid hF0
    have HF := Lib.hid hF
    clear hF0 hF hFi hlk hA hB2
    refine wp_region_cls (by kernel_rfl) (by kernel_rfl) HF0.out ?_
    repeat (go_big_quiet_step (fail))
    refine wpQuiet_nil ?_
    rintro _ ⟨nq, rfl⟩
    have hbq := HF.out nq
    clear HF0
    generalize F nq = w2 at hbq ⊢
    go_wp2
    go_ret
    exact ⟨ret_bool HE.out.symm, hbq⟩
  | true =>
    have hl8 := tabOk_len hT
    have hTE : thereB T key = decide (0 ≤ key ∧ key < (T.length : Int)) := by
      rw [Bool.eq_iff_iff, there_iff, decide_eq_true_eq]
      constructor
      · rintro ⟨_, h1, h2⟩; omega
      · rintro ⟨h1, h2⟩; exact ⟨hT, h1, by omega⟩
    have HW := Lib.hid (fun k (hk : k < T.length) => cellOk_parts (tabOk_at hT hk))
    obtain ⟨bb, off, rfl, hbB, q, hc⟩ := h (by omega)
    have hcl0 : TCl w0 B bb off T q := ⟨hbB, fun j hj => ⟨(hc j hj).1.below b0 (by omega), LAt.keep (hc j hj).2 b0 hB⟩⟩
    refine (storeOf_ok bb off c B T q _ hs (Nat.le_trans hB b0.size) hcl0 hT).mono ?_; rintro o w1 ⟨m1, m2, mm, rfl, hne, hm1, hm2, M1, hmm, M2, hb1⟩
    have R := R.next hb1
    have b1 := b0.trans (hb1.mono b0.size)
    have hB1 := Lib.hid (Nat.le_trans hB b1.size)
    have hL := fun k (hk : k < T.length) => LAt.keep (hc k hk).2 b1 hB
    clear b0 hb1 hcl0 hc hT
    by_cases hk : 0 ≤ key ∧ key < (T.length : Int)
    · have hkn : key.toNat < T.length := by omega
      obtain ⟨_, hwo, hlo, hhe⟩ := HW.out key.toNat hkn
      have hlk := hs.at_ hkn
      have HLo := Lib.hid (show lockOk (cAt T key).hs (cAt T key).ws = true from hlo)
      have HE := Lib.hid (show staleB T key tid e s = (!sameW (cAt T key).e (cAt T key).s e s || ((cAt T key).h && !decide (holdsL (cAt T key).hs (cAt T key).ws tid = 2))) by
        have h1 : staleB T key tid e s = staleC (cAt T key) tid e s := by rw [staleB, hTE, decide_eq_true hk]; rfl
        rw [h1, staleC_eq HLo.out, show (cAt T key).h = wrote (cAt T key).hs from hhe])
      have HWo := Lib.hid (show wordOk (cAt T key).e (cAt T key).s = true from hwo)
      have hsl : slotsF T T.length key = some (.agg #[.int .i64 (pk (cAt T key).e (cAt T key).s (cAt T key).h), .int .i64 (cAt T key).v]) := by unfold slotsF; rw [if_pos hk]; rfl
      have hll : ¬ (cAt T key).hs.length = 0 → locksF T q T.length key = some (lkq (cAt T key) (q key.toNat)) := fun h0 => by unfold locksF; rw [if_pos ⟨hk, h0⟩]; rfl
      have hn0 : (cAt T key).h = true → ¬ (cAt T key).hs.length = 0 := fun h1 h0 => by
        rw [show (cAt T key).h = wrote (cAt T key).hs from hhe, List.length_eq_zero_iff.1 h0] at h1; cases h1
      have i1 : LAt w1 B (q key.toNat).G (q key.toNat).G' ((cAt T key).hs, (cAt T key).ws) := hL _ hkn
      have HSl := Lib.hid hsl
      have HLl := Lib.hid (fun h => hll (hn0 h))
      have hlk : (cAt T key).hs.length ≤ 1048576 ∧ (cAt T key).ws.length ≤ 1048576 := hlk
      clear hsl hwo hlo hhe hll hn0 hL HLo hTE
      generalize cAt T key = C at HE HSl HWo HLl i1 hlk
      generalize q key.toNat = qk at HLl i1
      have M1' := M1.next ((Below.refl w1.heap.size w1).alloc (Nat.le_refl _) (.cells #[.map (some m1), .map (some m2)] 57))
      go_wp2_with (first | (at_lookup; refine wp_look_ok _ rfl _ _ rfl keyI Tryz.underlying54 (zeroSlot _) rfl M1' key rfl hkey (.agg #[.int .i64 (pk C.e C.s C.h), .int .i64 C.v]) (by rw [HSl.out]; rfl) true (by rw [HSl.out]; rfl) ?_) | fail)
      have hA := ((Below.refl w1.heap.size w1).alloc (Nat.le_refl _) (.cells #[.map (some m1), .map (some m2)] 57)).alloc (by simp) (.cells #[.int .i64 (pk C.e C.s C.h), .int .i64 C.v] 61)
      have Z := (Box.new (w := w1) (c := #[.map (some m1), .map (some m2)]) (t := 57) rfl).alloc (.cells #[.int .i64 (pk C.e C.s C.h), .int .i64 C.v] 61)
      have D := Box.new (w := w1.alloc (.cells #[.map (some m1), .map (some m2)] 57)) (b := w1.heap.size + 1) (c := #[.int .i64 (pk C.e C.s C.h), .int .i64 C.v]) (t := 61) (by simp)
      have R := R.next hA
      generalize (w1.alloc (.cells #[.map (some m1), .map (some m2)] 57)).alloc (.cells #[.int .i64 (pk C.e C.s C.h), .int .i64 C.v] 61) = w3 at hA Z D R ⊢
      obtain ⟨I, F, hI, hF0, hF, hFi⟩ := cls (S := fun W => (Box W (w1.heap.size + 1) [.int .i64 (pk C.e C.s C.h), .int .i64 C.v] ∧ Box W (w.heap.size + 1) [.int .i64 e, .int .i64 s, .bool g]) ∧ Box W w1.heap.size [.map (some m1), .map (some m2)] ∧ Below w1.heap.size w1 W) ⟨⟨D.drew, R.drew⟩, Z.drew, hA.drew⟩
      have HFn := Lib.hid (show ∀ n w2, Below (F n).heap.size (F n) w2 → ∃ m, w2 = F m from fun n w2 h => hFi w2 ⟨⟨(hF n).1.1.next h, (hF n).1.2.next h⟩, (hF n).2.1.next h, (hF n).2.2.trans (h.mono (hF n).2.2.size)⟩)
      have f0 := fun n => (hF n).1.1.c2.1
      have f1 := fun n => (hF n).1.1.c2.2.1
      have g0 := fun n => (hF n).1.2.c3.1
      have g1 := fun n => (hF n).1.2.c3.2.1
      have g2 := fun n => (hF n).1.2.c3.2.2.1
      have HF0 := Lib.hid hF0
      have HF := Lib.hid hF
      have HM := Lib.hid M2
      have HI := Lib.hid i1
      have HB := Lib.hid b1
      clear hF0 hF hFi hA Z D R M1 M1' M2 i1 b1
      cases hsm : sameW C.e C.s e s with
      | false =>
        have HSm := Lib.hid hsm
        have HE := Lib.hid (show staleB T key tid e s = true by rw [HE.out, hsm]; rfl)
        clear hsm
        refine wp_region_cls (by kernel_rfl) (by kernel_rfl) HF0.out ?_
        repeat (go_big_quiet_step (((first
          | (go_at_call 32; refine (word_pk C.e C.s C.h HWo.out _).mono ?_; rintro o w5 ⟨rfl, hb5⟩; exact ⟨rfl, HFn.out _ _ hb5⟩)
          | (go_at_call 36; refine (implSame_any C.e C.s e s C.h g _).mono ?_; rintro o w5 ⟨rfl, hb5⟩; exact ⟨by rw [HSm.out], HFn.out _ _ hb5⟩)))))
        refine wpQuiet_nil ?_
        rintro _ ⟨nq, rfl⟩
        have hbq := HB.out.trans ((HF.out nq).2.2.mono HB.out.size)
        clear f0 f1 g0 g1 g2 HF0
        generalize F nq = w2 at hbq ⊢
        go_wp2
        go_ret
        exact ⟨ret_bool HE.out.symm, hbq⟩
      | true =>
        have HSm := Lib.hid hsm
        have HE := Lib.hid (show staleB T key tid e s = (C.h && !decide (holdsL C.hs C.ws tid = 2)) by rw [HE.out, hsm]; rfl)
        clear hsm
        refine wp_region_cls (by kernel_rfl) (by kernel_rfl) HF0.out ?_
        repeat (go_big_quiet_step (((first
          | (go_at_call 32; refine (word_pk C.e C.s C.h HWo.out _).mono ?_; rintro o w5 ⟨rfl, hb5⟩; exact ⟨rfl, HFn.out _ _ hb5⟩)
          | (go_at_call 36; refine (implSame_any C.e C.s e s C.h g _).mono ?_; rintro o w5 ⟨rfl, hb5⟩; exact ⟨by rw [HSm.out], HFn.out _ _ hb5⟩)))))
        refine wpQuiet_nil ?_
        rintro _ ⟨nq, rfl⟩
        obtain ⟨⟨D, _⟩, Z, hbq⟩ := HF.out nq
        clear f0 f1 g0 g1 g2 HF0
        generalize F nq = w2 at hbq D Z ⊢
        have M2 := HM.out.next hbq
        have i1 := LAt.keep HI.out hbq hB1.out
        have b2 := HB.out.trans (hbq.mono HB.out.size)
        obtain ⟨d0, d1, df⟩ := D.c2
        obtain ⟨z0, z1, zf⟩ := Z.c2
        have dl := D.lt
        have zl := Z.lt
        have hpr := pk_range C.h HWo.out
        have hfl := field_locks (some m1) (some m2) w2
        clear hbq D Z df zf
        go_wp2_with fail
        refine (held_any _ hpr.1 hpr.2 _).mono ?_; rintro o w3 ⟨rfl, rfl⟩
        have hph : (pk C.e C.s C.h % 2 == 1) = C.h := by
          cases C.h <;> simp [pk] <;> omega
        rw [hph]
        clear hph hpr
        cases hh : C.h with
        | false =>
          have HE := Lib.hid (show staleB T key tid e s = false by rw [HE.out, hh]; rfl)
          clear hh
          go_wp2
          go_ret
          exact ⟨ret_bool HE.out.symm, b2⟩
        | true =>
          have HE := Lib.hid (show staleB T key tid e s = !decide (holdsL C.hs C.ws tid = 2) by rw [HE.out, hh]; rfl)
          have HLl := Lib.hid (HLl.out hh)
          clear hh
          have hlo := (M2.look keyI Tryz.underlying55 (zeroLock w2) hkey).1
          rw [HLl.out, Option.getD_some] at hlo
          unfold lkq lkv at hlo
          go_wp2_with fail
          refine (implHolds_any _ _ _ _ B C.hs C.ws tid _ hlk.1 hlk.2 i1).mono ?_; rintro o w3 ⟨rfl, hb3⟩
          have b3 := b2.trans (hb3.mono b2.size)
          generalize holdsL C.hs C.ws tid = z at HE ⊢
          clear b2 hb3 i1 M2 z0 z1 d0 d1 dl zl hlo
          go_wp2
          go_ret
          exact ⟨ret_bool (by rw [HE.out]; rfl), b3⟩
    · have HE := Lib.hid (show staleB T key tid e s = true by rw [staleB, hTE, decide_eq_false hk]; rfl)
      have HSl := Lib.hid (show slotsF T T.length key = none by unfold slotsF; rw [if_neg hk])
      have M1' := M1.next ((Below.refl w1.heap.size w1).alloc (Nat.le_refl _) (.cells #[.map (some m1), .map (some m2)] 57))
      clear hTE hk R
      go_wp2_with (first | (at_lookup; refine wp_look_ok _ rfl _ _ rfl keyI Tryz.underlying54 (zeroSlot _) rfl M1' key rfl hkey (.agg #[.int .i64 0, .int .i64 0]) (by rw [HSl.out]; rfl) false (by rw [HSl.out]; rfl) ?_) | fail)
      have hA := (b1.alloc b1.size (.cells #[.map (some m1), .map (some m2)] 57))
      have hB2 := Lib.hid (show Below w.heap.size w (((w1.alloc (.cells #[.map (some m1), .map (some m2)] 57)).alloc (.cells #[.int .i64 0, .int .i64 0] 61)).drew) from (hA.alloc hA.size _).drew)
      obtain ⟨I, F, hI, hF0, hF, hFi⟩ := cls (S := fun W => Below w.heap.size w W) hB2.out
      have HF0 := Lib.hid hF0
      have HF := Lib.hid hF
      clear hF0 hF hFi hA hB2 M1 M2 M1'
      refine wp_region_cls (by kernel_rfl) (by kernel_rfl) HF0.out ?_
      repeat (go_big_quiet_step (fail))
      refine wpQuiet_nil ?_
      rintro _ ⟨nq, rfl⟩
      have hbq := HF.out nq
      clear HF0
      generalize F nq = w2 at hbq ⊢
      go_wp2
      go_ret
      exact ⟨ret_bool HE.out.symm, hbq⟩
end Go.Proofs.YtcndmdglnohbcaaGreatDoor

namespace Go.Proofs.YtcndmdglnohbcaaGreatDoor
open Go.RowKit

/-- an answer that is a table of the call's own -/
def RetT (w : World) (T : TL) (f : Value → Value) (e : Ending) (w' : World) : Prop := ∃ A c, e = .returned (f (.agg #[.slice A T.length c])) ∧ TOwn w' w.heap.size w'.heap.size A T ∧ Below w.heap.size w w'
/-- an answer that is a table that can be read -/
def RetA (w : World) (T : TL) (f : Value → Value) (e : Ending) (w' : World) : Prop := ∃ A c, e = .returned (f (.agg #[.slice A T.length c])) ∧ TAt w' w'.heap.size A T ∧ Below w.heap.size w w'
theorem RetT.ret {w w' : World} {T : TL} {f : Value → Value} {e : Ending} (h : RetT w T f e w') : RetA w T f e w' := by
  obtain ⟨A, c, h1, h2, h3⟩ := h
  exact ⟨A, c, h1, h2.at_, h3⟩
def zeros (n : Nat) : TL := List.replicate n CD.zero
theorem zeros_at (n j : Nat) : cd (zeros n) j = CD.zero := by
  unfold cd zeros
  rw [List.getD_eq_getElem?_getD, List.getElem?_replicate]
  split <;> rfl
theorem zeros_len (n : Nat) : (zeros n).length = n := by simp [zeros]
def newT (n : Int) : TL := if inB n 1 8 then zeros n.toNat else []
theorem zeros_own {w : World} {g t n lo : Nat} (h : w.rowIs g t (n * 6) (tval (fun _ => CD.zero) (fun _ => Pl.zero))) (hlo : lo ≤ g) : TOwn w lo w.heap.size (some ⟨g, 0, none⟩) (zeros n) := fun _ =>
  ⟨g, 0, rfl, fun _ => Pl.zero, fun _ => w.heap.size, fun _ => w.heap.size, by
    rw [zeros_len]
    have hg := h.lt
    refine (TRow.of_row (lo := lo) (B := w.heap.size) h hlo hg (fun _ _ => by omega) (fun _ _ => Nat.le_refl _) (fun _ _ => .inl hg) (fun j _ => ?_) (fun _ _ _ _ _ => .inl (Nat.le_refl _))).congr (fun j _ => (zeros_at n j).symm)
    exact ⟨fun h => absurd h (by simp [CD.zero, CD.p]), fun h => absurd h (by simp [CD.zero, CD.p]), fun h => absurd h (by simp [CD.zero, CD.p])⟩⟩

theorem implNew_any (n : Int) (w : World) : Calls Tryz.prog 5 #[.int .i64 n] w (RetT w (newT n) fun v => .tuple #[v, .bool (inB n 1 8)]) := by
  have hmk := fun (m : Nat) (h : m ≤ 1048576) => run_make_cells m h
  go_enter Tryz.func5, Tryz.ntmps5
  go_wp2_with fail
  refine (countOk_any _ _).mono ?_; rintro e w1 ⟨rfl, rfl⟩
  cases hL : inB n 1 8 with
  | false =>
    have HE := Lib.hid (show newT n = [] by simp [newT, hL])
    have HL := Lib.hid hL
    clear hmk hL
    go_wp2
    exact bodyPost_ret (v := .tuple #[.agg #[.slice none 0 0], .bool false]) (by simp [results, Tryz.results5, go_sem]) rfl (by
      rw [HE.out]
      exact ⟨none, 0, by rw [HL.out]; rfl, fun h => absurd h (by simp), (Below.refl _ _).alloc (Nat.le_refl _) _⟩)
  | true =>
    have hn : 1 ≤ n ∧ n ≤ 8 := by simpa only [inB, Bool.and_eq_true, decide_eq_true_eq] using hL
    have HE := Lib.hid (show newT n = zeros n.toNat by simp [newT, hL])
    have HL := Lib.hid hL
    clear hL
    obtain ⟨m, rfl⟩ := Int.eq_ofNat_of_zero_le (show 0 ≤ n by omega)
    have hmk := hmk m (by omega)
    clear hn
    go_wp2
    have hr := made_cells (w.alloc (.cells #[.slice (some ⟨w.heap.size + 1, 0, none⟩) m m] 26)) m 42
    have hb := ((Below.refl w.heap.size w).alloc (Nat.le_refl _) (.cells #[.slice (some ⟨w.heap.size + 1, 0, none⟩) m m] 26)).alloc (by simp) (.cells (madeCells #[.int .i64 0, .int .i64 0, .int .i64 0, .bool false, .slice none 0 0, .slice none 0 0] (m * 6)) 42)
    exact bodyPost_ret (v := .tuple #[.agg #[.slice (some ⟨w.heap.size + 1, 0, none⟩) m m], .bool true]) (by simp [results, Tryz.results5, go_sem]) rfl (by
      rw [HE.out]
      refine ⟨some ⟨w.heap.size + 1, 0, none⟩, m, ?_, ?_, hb⟩
      · rw [HL.out]; simp [zeros_len]
      · have := zeros_own (lo := w.heap.size) hr (by simp)
        simpa using this)

theorem vals_len (T : TL) : (vals T).length ≤ 8 := by
  unfold vals
  split
  · rename_i h; have := tabOk_len h; simp; omega
  · simp
theorem take_vals {T : TL} {k : Nat} (h : k < T.length) : (T.take (k + 1)).map (·.v) = (T.take k).map (·.v) ++ [(cd T k).v] := by
  rw [List.take_succ_eq_append_getElem h, List.map_append, cd_get h]; rfl
set_option maxHeartbeats 800000 in
set_option maxRecDepth 100000 in
theorem cellValues_any (A : Option Addr) (c B : Nat) (T : TL) (w : World) (hT : T.length ≤ 1048576) (hB : B ≤ w.heap.size) (h2 : TAt w B A T) :
    Calls Tryz.prog 44 #[.slice A T.length c] w (RetI w (T.map (·.v))) := by
  obtain ⟨i0, hi, hz0, hz1, hz2⟩ := info_parts infoInt
  have Hi := Lib.hid hi
  have Hz0 := Lib.hid hz0
  have Hz1 := Lib.hid hz1
  have Hz2 := Lib.hid hz2
  clear hi hz0 hz1 hz2
  go_enter Tryz.func44, Tryz.ntmps44
  go_wp2
  go_loopw [3, 8] (fun v i wr => ∃ k : Nat, k ≤ T.length ∧ i = .int .i64 k ∧ wr.ownsRow w.heap.size 3 1 v ((T.take k).map (·.v)).length (((T.take k).map (·.v)).map (.int .i64)) ∧ Below w.heap.size w wr) (fun _ i _ => T.length - (intOf i).toNat)
  case atStart => exact ⟨0, Nat.zero_le _, rfl, World.ownsRow_nil _ _ _ _, Below.refl _ _⟩
  case round =>
    obtain ⟨k, hk, rfl, hown, hb⟩ := hrel
    have hsz := hb.size
    by_cases hkn : k < T.length
    · obtain ⟨b, off, rfl, hbB, q, hc⟩ := h2 (by omega)
      have hkz : (k : Int) < T.length := by omega
      obtain ⟨a0, a1, a2, a3, a4, a5⟩ := (hc k hkn).1.below hb (show b < w.heap.size by omega)
      have hl2 : ((T.take k).map (·.v)).length ≤ 1048576 := by rw [List.length_map, List.length_take]; omega
      have HN := Lib.hid (take_vals hkn)
      clear hc h2
      generalize (T.take k).map (·.v) = L at hown hl2 HN
      go_wp2_with (at_builtin; refine wpList_append_own _ rfl _ _ 47 rfl w.heap.size 3 i0 (.int .i64 0) 1 8 Tryz.underlying47 Hi.out Hz0.out Hz1.out Hz2.out rfl (by decide) _ _ _ rfl ((hown.alloc _).alloc _) ⟨wr.heap.size + 1, 0, none⟩ 1 1 [.int .i64 (cd T k).v] rfl rfl ?c1 ?c2 ?c3 ?c4 ?c5 ?_)
      case c1 =>
        intro j u hj
        match j, hj with
        | 0, hj => simp at hj; subst hj; simp [Addr.add]
      case c2 => intro u hu; simp at hu; subst hu; rfl
      case c3 => unfold maxLen; omega
      case c4 => omega
      case c5 => simp; omega
      intro v' w3 hown' hgrow _
      have hb3 := ((hb.alloc hsz (.cells #[.int .i64 (cd T k).v, .int .i64 (cd T k).e, .int .i64 (cd T k).s, .bool (cd T k).h, .slice (q k).G (cd T k).hs.length (q k).c, .slice (q k).G' (cd T k).ws.length (q k).c'] 42)).alloc (by simp; omega) (.cells #[.int .i64 (cd T k).v] 3)).grown hgrow (by simp; omega) (fun q hq => (hown.lt q hq).1)
      have hown3 : w3.ownsRow w.heap.size 3 1 v' ((T.take (k + 1)).map (·.v)).length (((T.take (k + 1)).map (·.v)).map (.int .i64)) := by rw [HN.out]; simpa using hown'
      clear hown' hgrow hown hb a0 a1 a2 a3 a4 a5
      go_wp2
      exact ⟨⟨k + 1, by omega, by go_num, hown3, hb3⟩, by simp [intOf]; omega⟩
    · obtain rfl : k = T.length := by omega
      rw [List.take_length] at hown
      have HO := Lib.hid hown
      clear hown
      go_wp2
      go_ret
      exact RetI.of HO.out (Nat.le_refl _) hb
set_option maxHeartbeats 800000 in
set_option maxRecDepth 100000 in
theorem implVals_any (A : Option Addr) (c B : Nat) (T : TL) (w : World) (hs : TFit T) (hB : B ≤ w.heap.size) (h2 : TAt w B A T) :
    Calls Tryz.prog 16 #[.agg #[.slice A T.length c]] w (RetI w (vals T)) := by
  obtain ⟨i0, hi, hz0, hz1, hz2⟩ := info_parts infoInt
  have Hi := Lib.hid hi
  have Hz0 := Lib.hid hz0
  have Hz1 := Lib.hid hz1
  have Hz2 := Lib.hid hz2
  clear hi hz0 hz1 hz2
  go_enter Tryz.func16, Tryz.ntmps16
  go_wp2_with fail
  have b0 := (Below.refl w.heap.size w).alloc (Nat.le_refl _) (.cells #[.slice A T.length c] 26)
  have X := Box.new (w := w) (c := #[.slice A T.length c]) (t := 26) rfl
  refine (implTabOk_any _ _ _ T _ hs (Nat.le_trans hB b0.size) (h2.keep b0 hB)).mono ?_; rintro e w1 ⟨rfl, hb1⟩
  have X := X.next hb1
  have b1 := b0.trans (hb1.mono b0.size)
  clear hb1 b0
  cases hl : tabOk T with
  | false =>
    have HE := Lib.hid (show vals T = [] by simp [vals, hl])
    clear hl
    go_wp2
    go_ret
    rw [HE.out]
    exact RetI.nil b1
  | true =>
    have HE := Lib.hid (show vals T = T.map (·.v) by simp [vals, hl])
    have hlen := tabOk_len hl
    clear hl
    obtain ⟨x0, xf⟩ := X.c1
    clear xf
    go_wp2_with fail
    (with_reducible refine (cellValues_any A c B T _ (by omega) (Nat.le_trans hB b1.size) (h2.keep b1 hB)).mono ?_); rintro o w2 ⟨A2, c2, rfl, OI, hb2⟩
    have OI := Lib.hid OI
    clear x0
    go_wp2
    go_ret
    rw [HE.out]
    exact ⟨A2, c2, by rw [List.length_map]; rfl, OI.out.more b1.size (Nat.le_refl _), b1.trans (hb2.mono b1.size)⟩
end Go.Proofs.YtcndmdglnohbcaaGreatDoor

namespace Go.Proofs.YtcndmdglnohbcaaGreatDoor

theorem holdsL_none {hs ws : HL} {tid : Int} (h : ¬ tid ∈ ids (hs ++ ws)) : holdsL hs ws tid = 0 := by
  unfold holdsL
  split
  · exact holdsAt_zero.2 h
  · rfl
theorem not_off {l : HL} {tid : Int} : ¬ tid ∈ ids (offL l tid) := by
  intro hm
  obtain ⟨x, hx, e⟩ := List.mem_map.1 hm
  have := (List.mem_filter.1 hx).2
  simp [e] at this
/-- who has left is nowhere -/
theorem leave_gone {hs ws : HL} {tid : Int} (h : leaveB hs ws tid = true) : holdsL (leaveL hs ws tid).1 (leaveL hs ws tid).2 tid = 0 := by
  apply holdsL_none
  intro hm
  unfold leaveL at hm
  rw [if_pos h] at hm
  have hp := (grant_perm (offL ws tid) (offL hs tid)).map (fun x : Int × Bool => x.1)
  have h2 : tid ∈ ids (offL hs tid ++ offL ws tid) := hp.mem_iff.1 hm
  rw [ids_append, List.mem_append] at h2
  rcases h2 with h2 | h2
  · exact not_off h2
  · exact not_off h2
theorem leave_pos {hs ws : HL} {tid : Int} (h : 0 < holdsL hs ws tid) : leaveB hs ws tid = true := by
  unfold leaveB
  have : ¬ holdsL hs ws tid = 0 := by omega
  simp [this]
theorem ask_fine {hs ws : HL} {tid : Int} (h : lockOk hs ws = true) (ht : tidB tid = true) (h0 : ¬ 0 < holdsL hs ws tid) : askBad hs ws tid = false := by
  have h1 : 0 ≤ holdsL hs ws tid := by
    unfold holdsL holdsAt
    repeat' split
    all_goals omega
  have h2 : holdsL hs ws tid = 0 := by omega
  simp [askBad, h, ht, h2]
theorem ask_two {hs ws : HL} {tid : Int} {wr : Bool} (h : askBad hs ws tid = false) : askC hs ws tid wr = 0 ∨ askC hs ws tid wr = 1 := by
  unfold askC
  rw [if_neg (by simp [h])]
  split
  · exact .inl rfl
  · exact .inr rfl
/-- behind somebody who waits one waits -/
theorem ask_waits {hs ws : HL} {tid : Int} {wr : Bool} (h : lockOk hs ws = true) (hb : askBad hs ws tid = false) (hw : ¬ ws = []) : askC hs ws tid wr = 1 := by
  have h0 : ¬ tid ∈ ids (hs ++ ws) := by
    simp only [askBad, Bool.or_eq_false_iff, Bool.not_eq_false', beq_iff_eq] at hb
    have h3 := hb.2
    rw [holdsL, if_pos h, holdsAt_zero] at h3
    exact h3
  have hp := (lockOk_iff _ _).1 h
  have hbl := hp.2
  rw [grants_blocked hp.1.wr] at hbl
  have e : askG hs ws tid wr = (hs, ws ++ [(tid, wr)]) := by
    unfold askG
    match ws, hw, hbl with
    | w :: l, _, hbl =>
      have hg : grantsS hs (w :: (l ++ [(tid, wr)])) = false := by
        have : grantsS hs (w :: l) = false := by simpa using hbl
        exact this
      show grantS hs (w :: (l ++ [(tid, wr)])) = (hs, w :: (l ++ [(tid, wr)]))
      rw [grantS, hg]
      rfl
  unfold askC
  rw [if_neg (by simp [hb]), e]
  have h1 : ¬ tid ∈ ids hs := fun hm => h0 (by rw [ids_append]; exact List.mem_append.2 (.inl hm))
  simp [h1]
theorem any_take {l : HL} {k : Nat} (h : k < l.length) : ((l.take k).any (·.2) || (l[k]).2) = (l.take (k + 1)).any (·.2) := by
  rw [List.take_add_one, List.any_append]
  simp [h]
theorem any_some {l : HL} (h : l.any (·.2) = true) : ¬ l = [] := fun e => by subst e; simp at h
end Go.Proofs.YtcndmdglnohbcaaGreatDoor

namespace Go.Proofs.YtcndmdglnohbcaaGreatDoor
open Go.RowKit

/-- a table of the drawn operations, after i of them -/
structure Fine (T : TL) (i : Nat) : Prop where
  ok : tabOk T = true
  len : T.length = 3
  ep : ∀ j, j < 3 → (cd T j).e = 0
  sq : ∀ j, j < 3 → (cd T j).s ≤ i
theorem fine_zero : Fine (zeros 3) 0 :=
  ⟨by decide, rfl, fun j _ => by rw [zeros_at]; rfl, fun j _ => by rw [zeros_at]; exact Int.le_refl _⟩
theorem newT_three : newT 3 = zeros 3 := rfl
theorem Fine.up {T : TL} {i : Nat} (h : Fine T i) : Fine T (i + 1) := ⟨h.ok, h.len, h.ep, fun j hj => by have := h.sq j hj; omega⟩
theorem Fine.lt {T : TL} {i k : Nat} (h : Fine T i) (hk : k < 3) : k < T.length := by rw [h.len]; exact hk
theorem Fine.there {T : TL} {i k : Nat} (h : Fine T i) (hk : k < 3) : thereB T (k : Int) = true := there_nat h.ok (h.lt hk)
theorem Fine.fit {T : TL} {i : Nat} (h : Fine T i) : TFit T := tab_fit h.ok
theorem Fine.put {T : TL} {i k : Nat} (h : Fine T i) (hk : k < 3) {m : HL × HL} (hm : lockOk m.1 m.2 = true) : Fine (putT T k (lockC (cd T k) m)) (i + 1) := by
  have hl := h.len
  refine ⟨put_ok h.ok (h.lt hk) hm, by rw [putT_len]; exact hl, fun j hj => ?_, fun j hj => ?_⟩
  · rw [putT_at _ _ _ _ (h.lt hj)]
    by_cases e : j = k
    · rw [if_pos e]; exact h.ep k hk
    · rw [if_neg e]; exact h.ep j hj
  · rw [putT_at _ _ _ _ (h.lt hj)]
    by_cases e : j = k
    · rw [if_pos e]; have := h.sq k hk; show (cd T k).s ≤ _; omega
    · rw [if_neg e]; have := h.sq j hj; omega
theorem Fine.lockT {T : TL} {i k : Nat} (h : Fine T i) (hk : k < 3) (tid : Int) (wr : Bool) : Fine (lcT T k tid wr) (i + 1) := by
  by_cases hc : lcC T k tid wr = 2
  · rw [lcT_bad hc]; exact h.up
  · rw [lcT_put hc]
    rw [lcC_yes (h.there hk)] at hc
    exact h.put hk (ask_twoC hc)
theorem Fine.tryT {T : TL} {i k : Nat} (h : Fine T i) (hk : k < 3) (tid : Int) (wr : Bool) : Fine (tcT T k tid wr) (i + 1) := by
  unfold tcT
  split
  · exact h.lockT hk tid wr
  · exact h.up
theorem Fine.leaveT {T : TL} {i k : Nat} (h : Fine T i) (hk : k < 3) (tid : Int) : Fine (vcT T k tid) (i + 1) := by
  cases hb : vcB T k tid with
  | false => rw [vcT_bad hb]; exact h.up
  | true => rw [vcT_put hb]; exact h.put hk (leave_ok tid (tabOk_lockOk h.ok (h.lt hk)))
/-- the answer of SetCell in the play -/
theorem Fine.setB {T : TL} {i k : Nat} (h : Fine T i) (hk : k < 3) (hi : i ≤ 60) (tid : Int) {v : Int} (hv : 0 ≤ v ∧ v ≤ 255) : scB T k tid v 0 = decide (holdsL (cd T k).hs (cd T k).ws tid = 2) := by
  have hs := h.sq k hk
  have he := h.ep k hk
  have h1 : valB v = true := by unfold valB inB; simp; omega
  have h2 : nwB (cd T k).e (cd T k).s 0 = true := by
    unfold nwB
    rw [he]
    have : decide ((cd T k).s < 65535) = true := decide_eq_true (by omega)
    rw [this]; rfl
  unfold scB scK
  rw [h.there hk]
  have h3 : ((k : Int)).toNat = k := by simp
  rw [h3, h1, h2]
  simp only [Bool.true_and, Bool.and_true]
  exact decide_eq_decide.2 Iff.rfl
/-- what a good SetCell makes -/
structure SetOk (T U : TL) (k : Nat) (tid v : Int) (s : Int) : Prop where
  there : thereB U (k : Int) = true
  val : (cd U k).v = v
  word : (cd U k).e = 0 ∧ (cd U k).s = s ∧ (cd U k).h = true
  stale : staleB U k tid 0 s = false
  other : staleB U k (tid + 1) 0 s = true
theorem alone {hs ws : HL} {t t' : Int} (h : holdsL hs ws t = 2) (h' : holdsL hs ws t' = 2) : t = t' := by
  unfold holdsL at h h'
  split at h
  · rename_i hl
    rw [if_pos hl] at h'
    have hw := (wrOk_iff _).1 ((lockOk_iff _ _).1 hl).1.wr
    have key : ∀ t, holdsAt hs ws t = 2 → ∃ x, x ∈ hs ∧ x.2 = true ∧ x.1 = t := by
      intro t h
      unfold holdsAt at h
      split at h
      · rename_i x hx
        split at h
        · rename_i h2
          exact ⟨x, List.mem_of_find?_eq_some hx, h2, by have := List.find?_some hx; simpa using this⟩
        · omega
      · split at h <;> omega
    obtain ⟨x, hx, hx2, rfl⟩ := key t h
    obtain ⟨y, hy, hy2, rfl⟩ := key t' h'
    have hlen : hs.length ≤ 1 := by
      refine Nat.not_lt.1 fun h1 => ?_
      have := hw h1 x hx
      rw [hx2] at this; cases this
    match hs, hlen, hx, hy with
    | [a], _, hx, hy =>
      rw [List.mem_singleton] at hx hy
      rw [hx, hy]
  · omega
theorem Fine.setT {T : TL} {i k : Nat} (h : Fine T i) (hk : k < 3) (hi : i ≤ 60) (tid : Int) {v : Int} (hv : 0 ≤ v ∧ v ≤ 255) (hb : scB T k tid v 0 = true) :
    Fine (scT T k tid v 0) (i + 1) ∧ SetOk T (scT T k tid v 0) k tid v ((cd T k).s + 1) := by
  have hs := h.sq k hk
  have he := h.ep k hk
  have h2 : holdsL (cd T k).hs (cd T k).ws tid = 2 := by rw [h.setB hk hi tid hv] at hb; simpa using hb
  have e0 : scT T k tid v 0 = putT T k (valC (cd T k) v 0 ((cd T k).s + 1)) := by
    unfold scT
    rw [if_pos hb]
    have h3 : cAt T (k : Int) = cd T k := rfl
    have h4 : ((k : Int)).toNat = k := by simp
    rw [h3, h4]
    unfold nwE nwS
    rw [he]; rfl
  have hok : tabOk (scT T k tid v 0) = true := by
    have h1 : valB v = true := by unfold valB inB; simp; omega
    have hn : nwB (cd T k).e (cd T k).s 0 = true := by
      unfold nwB
      rw [he]
      have : decide ((cd T k).s < 65535) = true := decide_eq_true (by omega)
      rw [this]; rfl
    have := putV_ok (v := v) h.ok (h.lt hk) (tid := tid) h2 h1 hn
    rw [e0]
    unfold nwE nwS at this
    rw [he] at this
    exact this
  rw [e0] at hok ⊢
  have hat : cd (putT T k (valC (cd T k) v 0 ((cd T k).s + 1))) k = valC (cd T k) v 0 ((cd T k).s + 1) := by rw [putT_at _ _ _ _ (h.lt hk), if_pos rfl]
  have hwo := tabOk_wordOk hok (k := k) (by rw [putT_len]; exact h.lt hk)
  have hlo := tabOk_lockOk h.ok (h.lt hk)
  rw [hat] at hwo
  have hth : thereB (putT T k (valC (cd T k) v 0 ((cd T k).s + 1))) (k : Int) = true := there_nat hok (by rw [putT_len]; exact h.lt hk)
  have hst : ∀ t, staleB (putT T k (valC (cd T k) v 0 ((cd T k).s + 1))) k t 0 ((cd T k).s + 1) = !decide (holdsL (cd T k).hs (cd T k).ws t = 2) := by
    intro t
    unfold staleB
    rw [hth]
    have hc : cAt (putT T k (valC (cd T k) v 0 ((cd T k).s + 1))) (k : Int) = valC (cd T k) v 0 ((cd T k).s + 1) := hat
    rw [hc, staleC_eq (by exact hlo)]
    have hw : wordOk 0 ((cd T k).s + 1) = true := hwo
    have h5 : sameW 0 ((cd T k).s + 1) 0 ((cd T k).s + 1) = true := by simp [sameW, hw]
    show (!true || (!sameW 0 ((cd T k).s + 1) 0 ((cd T k).s + 1) || (wrote (cd T k).hs && _))) = _
    rw [h5, writes_two h2]
    simp only [Bool.not_true, Bool.false_or, Bool.true_and]
    exact congrArg (fun b => !b) (decide_eq_decide.2 Iff.rfl)
  refine ⟨⟨hok, by rw [putT_len]; exact h.len, fun j hj => ?_, fun j hj => ?_⟩, ⟨hth, by rw [hat]; rfl, by rw [hat]; exact ⟨rfl, rfl, rfl⟩, by rw [hst, h2]; rfl, ?_⟩⟩
  · rw [putT_at _ _ _ _ (h.lt hj)]
    by_cases e : j = k
    · rw [if_pos e]; rfl
    · rw [if_neg e]; exact h.ep j hj
  · rw [putT_at _ _ _ _ (h.lt hj)]
    by_cases e : j = k
    · rw [if_pos e]; show (cd T k).s + 1 ≤ _; omega
    · rw [if_neg e]; have := h.sq j hj; omega
  · rw [hst]
    have : ¬ holdsL (cd T k).hs (cd T k).ws (tid + 1) = 2 := fun h6 => by have := alone h2 h6; omega
    simp [this]

/-- who has left the key stands there no more -/
theorem stands_left {T : TL} {tid : Int} {j : Nat} (h : tabOk T = true) (hj : j < T.length) : stands (vcT T j tid) tid j = 0 := by
  cases hb : vcB T j tid with
  | true =>
    rw [vcT_put hb]
    rw [vc_yes (there_nat h hj)] at hb
    unfold stands
    rw [putT_at _ _ _ _ hj, if_pos rfl]
    exact leave_gone hb
  | false =>
    rw [vcT_bad hb]
    rw [vc_yes (there_nat h hj)] at hb
    unfold leaveB at hb
    simpa [stands] using hb
theorem laF_gone {tid : Int} {j : Nat} : ∀ (l : List Int) (T : TL), tabOk T = true → j < T.length → ((j : Int) ∈ l ∨ stands T tid j = 0) → stands (laF T tid l) tid j = 0
  | [], T, _, _, h => by
    rcases h with h | h
    · cases h
    · exact h
  | x :: l, T, hT, hj, h => by
    show stands (laF (vcT T x tid) tid l) tid j = 0
    refine laF_gone l _ (vcT_ok hT) (by rw [vcT_len]; exact hj) ?_
    by_cases e : (j : Int) = x
    · subst e; exact .inr (stands_left hT hj)
    · rcases h with h | h
      · rcases List.mem_cons.1 h with h | h
        · exact absurd h e
        · exact .inl h
      · right
        unfold stands at h ⊢
        rw [vcT_at hj e]; exact h
theorem keysUp_mem {M : Nat → Bool} {m j : Nat} (hj : j < m) (h : M j = true) : (j : Int) ∈ keysUp M m := by
  unfold keysUp
  exact List.mem_map.2 ⟨j, List.mem_filter.2 ⟨List.mem_range.2 hj, h⟩, rfl⟩
theorem laR_stands {T : TL} {tid : Int} (h : tabOk T = true) {j : Nat} (hj : j < T.length) : stands (laR T tid) tid j = 0 := by
  rw [(laR_yes h).2]
  refine laF_gone _ _ h hj ?_
  by_cases h0 : stands T tid j = 0
  · exact .inr h0
  · exact .inl (keysUp_mem hj (by rw [standB3]; simp [h0]))
theorem laR_ok {T : TL} {tid : Int} (h : tabOk T = true) : tabOk (laR T tid) = true := by rw [(laR_yes h).2]; exact (laF_inv _ T h).1
theorem laR_held {T : TL} {tid : Int} (h : tabOk T = true) : heldL (laR T tid) tid = [] := by
  unfold heldL
  rw [if_pos (laR_ok h)]
  exact keysUp_none fun j hj => by unfold standB; rw [laR_stands h (by rw [laR_len] at hj; exact hj)]; rfl
theorem laR_waits {T : TL} {tid : Int} (h : tabOk T = true) : waitK (laR T tid) tid = -1 := by
  unfold waitK waitL
  rw [if_pos (laR_ok h), keysUp_none fun j hj => by unfold standB; rw [laR_stands h (by rw [laR_len] at hj; exact hj)]; rfl]
  rfl
theorem keysUp_pos {M : Nat → Bool} {m : Nat} : 0 < (keysUp M m).length ↔ ∃ j, j < m ∧ M j = true := by
  constructor
  · intro h
    cases hl : keysUp M m with
    | nil => rw [hl] at h; simp at h
    | cons x l =>
      obtain ⟨k, _, hk, hM⟩ := keysUp_lt (x := x) (M := M) (m := m) (by rw [hl]; exact List.mem_cons_self ..)
      exact ⟨k, hk, hM⟩
  · rintro ⟨j, hj, h⟩
    have := keysUp_mem hj h
    exact List.length_pos_iff.2 (List.ne_nil_of_mem this)
theorem waitK_pos (T : TL) (tid : Int) : 0 ≤ waitK T tid ↔ 0 < (waitL T tid).length := by
  unfold waitK
  cases hl : waitL T tid with
  | nil => simp
  | cons x l =>
    have hx : x ∈ waitL T tid := by rw [hl]; exact List.mem_cons_self ..
    have : 0 ≤ x := by
      unfold waitL at hx
      split at hx
      · obtain ⟨k, rfl, _⟩ := keysUp_lt hx; omega
      · cases hx
    simp [this]
theorem laB_is {T : TL} {tid : Int} (h : tabOk T = true) : laB T tid = (decide (0 < ((heldL T tid).length : Int)) || decide (0 ≤ waitK T tid)) := by
  rw [(laR_yes h).1, Bool.eq_iff_iff, Bool.or_eq_true, decide_eq_true_eq, decide_eq_true_eq, decide_eq_true_eq, waitK_pos]
  unfold heldL waitL laK
  rw [if_pos h, if_pos h]
  have e : (0 < ((keysUp (standB T [1, 2] tid) T.length).length : Int)) ↔ 0 < (keysUp (standB T [1, 2] tid) T.length).length := by omega
  rw [e, keysUp_pos, keysUp_pos, keysUp_pos]
  constructor
  · rintro ⟨j, hj, hM⟩
    rw [standB3] at hM
    have hr := holdsL_range (cd T j).hs (cd T j).ws tid
    have h0 : ¬ stands T tid j = 0 := by simpa using hM
    unfold stands at h0
    by_cases h3 : stands T tid j = 3
    · exact .inr ⟨j, hj, by unfold standB; rw [h3]; rfl⟩
    · refine .inl ⟨j, hj, ?_⟩
      unfold standB
      rw [contains12]
      unfold stands at h3 ⊢
      unfold inB; simp; omega
  · rintro (⟨j, hj, hM⟩ | ⟨j, hj, hM⟩)
    · refine ⟨j, hj, ?_⟩
      rw [standB3]
      unfold standB at hM
      rw [contains12] at hM
      unfold inB at hM
      simp at hM ⊢
      omega
    · refine ⟨j, hj, ?_⟩
      rw [standB3]
      unfold standB at hM
      simp at hM ⊢
      omega
theorem vals_all {T : TL} (h : tabOk T = true) : (vals T).length = T.length := by simp [vals, h]
end Go.Proofs.YtcndmdglnohbcaaGreatDoor

namespace Go.Proofs.YtcndmdglnohbcaaGreatDoor
open Go.RowKit

def BytesAt (w : World) (B : Nat) (A : Option Addr) (n : Nat) (g : Nat → Int) : Prop :=
  (∀ j, 0 ≤ g j ∧ g j ≤ 255) ∧ (0 < n → ∃ b off, A = some ⟨b, off, none⟩ ∧ b < B ∧ ∀ j, j < n → w.cell? ⟨b, off + j, none⟩ = some (.int .u8 (g j)))
theorem BytesAt.keep {w w' : World} {B B' : Nat} {A : Option Addr} {n : Nat} {g : Nat → Int} (h : BytesAt w B A n g) (hb : ∀ k, k < B → w'.heap[k]? = w.heap[k]?) (hB : B ≤ B') : BytesAt w' B' A n g :=
  ⟨h.1, fun hn => by
    obtain ⟨b, off, e, hlt, hc⟩ := h.2 hn
    exact ⟨b, off, e, by omega, fun j hj => (World.cell?_of_block (a := ⟨b, off + j, none⟩) (hb b hlt)).trans (hc j hj)⟩⟩
theorem big_any (A : Option Addr) (n cap : Nat) (w : World) :
    Calls Tryz.prog 4 #[.slice A n cap] w fun e w' => e = .returned (.bool (decide ((1048576 : Int) < n))) ∧ w = w' := by
  go_enter Tryz.func4, Tryz.ntmps4
  go_wp2
  go_ret
  exact ⟨rfl, rfl⟩
theorem at_any (A : Option Addr) (n cap B : Nat) (g : Nat → Int) (k : Nat) (w : World) (hn : n ≤ 1048576) (hk : k ≤ 1048576) (hbs : BytesAt w B A n g) :
    Calls Tryz.prog 6 #[.slice A n cap, .int .i64 k] w fun e w' => ∃ x : Int, 0 ≤ x ∧ x ≤ 255 ∧ e = .returned (.int .i64 x) ∧ w = w' := by
  by_cases hkn : k < n
  · have hkz : (k : Int) < n := by omega
    obtain ⟨b, off, rfl, hlt, hby⟩ := hbs.2 (by omega)
    have hgm := hbs.1 k
    obtain ⟨g0, g1⟩ := hgm
    have d0 : w.cell? ⟨b, off + k, none⟩ = some (.int .u8 (g k)) := hby k hkn
    have HBS := Lib.hid hbs
    clear hby hbs
    go_enter Tryz.func6, Tryz.ntmps6
    go_wp2
    go_ret
    exact ⟨g k, g0, g1, rfl, rfl⟩
  · have hkz : ¬ (k : Int) < n := by omega
    clear hbs
    go_enter Tryz.func6, Tryz.ntmps6
    go_wp2
    go_ret
    exact ⟨((k : Int) * 13 + n * 5) % 256, by omega, by omega, rfl, rfl⟩
theorem same_eq (A1 A2 : Option Addr) (n c1 c2 B1 B2 : Nat) (f : Nat → Int) (w : World) (hn : n ≤ maxLen) (h1 : IntsAt w B1 A1 n f) (h2 : IntsAt w B2 A2 n f) :
    Calls Tryz.prog 17 #[.slice A1 n c1, .slice A2 n c2] w fun e w' => e = .returned (.bool true) ∧ Below w.heap.size w w' := by
  unfold maxLen at hn
  go_enter Tryz.func17, Tryz.ntmps17
  go_wp2
  go_loopw [5] (fun i wr => ∃ k : Nat, k ≤ n ∧ i = .int .i64 k ∧ ∃ m, wr = w.drewN m) (fun i _ => n - (intOf i).toNat)
  case atStart => exact ⟨0, Nat.zero_le _, rfl, 0, rfl⟩
  case round =>
    obtain ⟨k, hk, rfl, m, rfl⟩ := hrel
    by_cases hkn : k < n
    · obtain ⟨b, off, rfl, _, hc⟩ := h1 (by omega)
      obtain ⟨b', off', rfl, _, hc'⟩ := h2 (by omega)
      have hkz : (k : Int) < n := by omega
      have d0 : w.cell? ⟨b, off + k, none⟩ = some (.int .i64 (f k)) := hc _ hkn
      have d0' : w.cell? ⟨b', off' + k, none⟩ = some (.int .i64 (f k)) := hc' _ hkn
      clear hc hc' h1 h2
      go_wp2_with fail
      go_quiet (fail)
      go_wp2
      exact ⟨⟨k + 1, by omega, by go_num, _, rfl⟩, by simp [intOf]; omega⟩
    · obtain rfl : k = n := by omega
      go_wp2
      go_ret
      exact ⟨rfl, ⟨rfl, rfl, rfl, Nat.le_refl _, fun _ _ => rfl⟩⟩
end Go.Proofs.YtcndmdglnohbcaaGreatDoor

namespace Go.Proofs.YtcndmdglnohbcaaGreatDoor
open Go.RowKit
open Go.Maps (Keyed)

theorem TCapL.kept {w w' : World} {lo B : Nat} {A : Option Addr} {T : TL} (h : TCapL w A T) (hb : Below B w w') (ht : TOwn w lo B A T) : TCapL w' A T := fun b off e j hj => by
  subst e
  obtain ⟨b', off', e, q, L, H, hr⟩ := ht (by omega)
  injection e with e
  injection e with e1 _ _
  subst e1
  exact h.below hb hr.rhi b off rfl j hj
theorem intWf {k : Nat} (h : k ≤ 8) : keyOf Tryz.prog 3 (.int .i64 (k : Int)) = some (.int .i64 (k : Int)) :=
  Go.Maps.keyOf_int_mk (P := Tryz.prog) Tryz.underlying3 (by
    simp only [Lit.wf, Bool.and_eq_true, decide_eq_true_eq]
    have h1 : IntKind.i64.min = -9223372036854775808 := rfl
    have h2 : IntKind.i64.max = 9223372036854775807 := rfl
    omega)
theorem getD_of {l : List Int} {m : Nat} {x : Int} (h : l[m]? = some x) : l.getD m 0 = x := by simp [List.getD_eq_getElem?_getD, h]
set_option maxHeartbeats 1600000 in
set_option maxRecDepth 100000 in
theorem implLeaveAll_any (b off c B : Nat) (T : TL) (tid : Int) (w : World) (hs : TFit T) (hB : B ≤ w.heap.size) (h : TAt w B (some ⟨b, off, none⟩) T) :
    Calls Tryz.prog 22 #[.agg #[.slice (some ⟨b, off, none⟩) T.length c], .int .i64 tid] w (RetTOC w (laR T tid) fun v => .tuple #[v, .bool (laB T tid)]) := by
  have hlen := hs.len
  go_enter Tryz.func22, Tryz.ntmps22
  go_wp2_with fail
  have b0 := ((Below.refl w.heap.size w).alloc (Nat.le_refl _) (.cells #[.slice (some ⟨b, off, none⟩) T.length c] 26)).alloc (by simp) (.cells #[.slice none 0 0] 26)
  have X := (Box.new (w := w) (c := #[.slice (some ⟨b, off, none⟩) T.length c]) (t := 26) rfl).alloc (.cells #[.slice none 0 0] 26)
  have R := Box.new (w := w.alloc (.cells #[.slice (some ⟨b, off, none⟩) T.length c] 26)) (b := w.heap.size + 1) (c := #[.slice none 0 0]) (t := 26) (by simp)
  have hs0 : w.heap.size + 2 ≤ ((w.alloc (.cells #[.slice (some ⟨b, off, none⟩) T.length c] 26)).alloc (.cells #[.slice none 0 0] 26)).heap.size := by simp
  generalize (w.alloc (.cells #[.slice (some ⟨b, off, none⟩) T.length c] 26)).alloc (.cells #[.slice none 0 0] 26) = w0 at b0 X R hs0 ⊢
  refine (copiedTableC_any b off c B T _ hs (Nat.le_trans hB b0.size) (h.keep b0 hB)).mono ?_; rintro o w1 ⟨A2, c2, rfl, ht, hb, hcx⟩
  have X := X.next hb
  have R := R.next hb
  have b1 := b0.trans (hb.mono b0.size)
  have hs1 : w.heap.size + 2 ≤ w1.heap.size := Nat.le_trans hs0 hb.size
  have ht := ht.more (lo' := w.heap.size + 2) (B' := w1.heap.size) hs0 (Nat.le_refl _)
  obtain ⟨x0, xf⟩ := X.c1
  have Xl := X.lt
  clear hb hs0 xf b0
  go_wp2_with fail
  have hA := (Below.refl w1.heap.size w1).alloc (Nat.le_refl _) (.cells #[.slice A2 T.length c2] 26)
  have U := Box.new (w := w1) (c := #[.slice A2 T.length c2]) (t := 26) rfl
  have X := X.next hA
  have R := R.next hA
  have b2 := b1.trans (hA.mono b1.size)
  have hcx := hcx.kept hA ht
  have ht := ht.below hA (Nat.le_refl _)
  have hs2 : w1.heap.size < (w1.alloc (.cells #[.slice A2 T.length c2] 26)).heap.size := by simp
  clear x0 Xl hA b1
  generalize w1.alloc (.cells #[.slice A2 T.length c2] 26) = w2 at X R U b2 ht hcx hs2 ⊢
  cases hT : tabOk T with
  | false =>
    have HE := Lib.hid (laR_no (tid := tid) hT)
    refine (storeOf_bad _ c B T _ hs (Nat.le_trans hB b2.size) (h.keep b2 hB) hT).mono ?_; rintro o w3 ⟨rfl, hb⟩
    have R := R.next hb
    have U := U.next hb
    have hcx := hcx.kept hb (ht.more (Nat.le_refl _) (Nat.le_of_lt hs2))
    have ht := ht.below hb (Nat.le_of_lt hs2)
    have b3 := b2.trans (hb.mono b2.size)
    have hs3 : w1.heap.size < w3.heap.size := Nat.lt_of_lt_of_le hs2 hb.size
    clear hb b2 hs2 X hT
    go_wp2_with fail
    have hA := (Below.refl w3.heap.size w3).alloc (Nat.le_refl _) (.cells #[.int .i64 1, .int .i64 2, .int .i64 3] 3)
    refine (keysWhere_nil _ _ _ tid _).mono ?_; rintro o w4 ⟨v, rfl, hown, hb⟩
    have hb := hA.trans (hb.mono hA.size)
    obtain ⟨A5, c5, rfl, _, _⟩ := OwnI.of_owns (l := []) hown
    have R := R.next hb
    have U := U.next hb
    have hcx := hcx.kept hb (ht.more (Nat.le_refl _) (Nat.le_of_lt hs3))
    have ht := ht.below hb (Nat.le_of_lt hs3)
    have b4 := b3.trans (hb.mono b3.size)
    have hs4 : w1.heap.size < w4.heap.size := Nat.lt_of_lt_of_le hs3 hb.size
    obtain ⟨y0, yf⟩ := U.c1
    obtain ⟨r0, rf⟩ := R.c1
    have Rl := R.lt
    have Ul := U.lt
    have HO := Lib.hid ((ht.put (a := w.heap.size + 1) (.slice A2 T.length c2) (by omega)).more (lo' := w.heap.size) (B' := (w4.setCell ⟨w.heap.size + 1, 0, none⟩ (.slice A2 T.length c2)).heap.size) (by omega) (by simp [World.setCell]; omega))
    have HC := Lib.hid (capl_far ht hcx (a := ⟨w.heap.size + 1, 0, none⟩) (.slice A2 T.length c2) (by show w.heap.size + 1 < _; omega))
    have HB := Lib.hid (b4.setCell (p := ⟨w.heap.size + 1, 0, none⟩) (by simp) (.slice A2 T.length c2))
    clear hown hb hA ht hcx b3 b4 R U yf
    go_wp2_with fail
    go_loopw [7, 18] (fun s i wr => s = .bool false ∧ i = .int .i64 0 ∧ wr = w4) (fun _ _ _ => 0)
    case atStart => exact ⟨rfl, rfl, rfl⟩
    case round =>
      obtain ⟨rfl, rfl, rfl⟩ := hrel
      go_wp2
      exact bodyPost_ret (v := .tuple #[.agg #[.slice A2 T.length c2], .bool false]) (by simp [results, Tryz.results22, go_sem, r0]) rfl (by
        rw [HE.out.1, HE.out.2]
        exact ⟨A2, c2, rfl, HO.out, HB.out, HC.out⟩)
  | true =>
    have hl8 := tabOk_len hT
    have HE := Lib.hid (laR_yes (tid := tid) hT)
    have HW := Lib.hid (show keysUp (whereB T [1, 2, 3] tid) 8 = laK T tid from where_is hT _ rfl tid)
    have HN := Lib.hid (fun m x => @laK_next T tid m x hT)
    have HI := Lib.hid (fun l => laF_inv (tid := tid) l T hT)
    obtain ⟨bb, off', e, hbB, q, hc⟩ := h (by omega)
    injection e with e
    injection e with e1 e2 _
    subst e1 e2
    have hcl0 : TCl w2 B b off T q := ⟨hbB, fun j hj => ⟨(hc j hj).1.below b2 (by omega), LAt.keep (hc j hj).2 b2 hB⟩⟩
    refine (storeOf_ok b off c B T q _ hs (Nat.le_trans hB b2.size) hcl0 hT).mono ?_; rintro o w3 ⟨m1, m2, mm, rfl, hne, hm1, hm2, M1, hmm, M2, hb⟩
    have R := R.next hb
    have U := U.next hb
    have hcx := hcx.kept hb (ht.more (Nat.le_refl _) (Nat.le_of_lt hs2))
    have ht := ht.below hb (Nat.le_of_lt hs2)
    have b3 := b2.trans (hb.mono b2.size)
    have hs3 : w1.heap.size < w3.heap.size := Nat.lt_of_lt_of_le hs2 hb.size
    clear hb b2 hs2 X M1 hcl0
    go_wp2_with fail
    have hA := (Below.refl w3.heap.size w3).alloc (Nat.le_refl _) (.cells #[.int .i64 1, .int .i64 2, .int .i64 3] 3)
    have hI3 : IntsAt (w3.alloc (.cells #[.int .i64 1, .int .i64 2, .int .i64 3] 3)) (w3.alloc (.cells #[.int .i64 1, .int .i64 2, .int .i64 3] 3)).heap.size (some ⟨w3.heap.size, 0, none⟩) ([1, 2, 3] : List Int).length (fun i => ([1, 2, 3] : List Int).getD i 0) := fun _ => ⟨w3.heap.size, 0, rfl, by simp, fun j hj => by
      have h2 : j = 0 ∨ j = 1 ∨ j = 2 := by simp at hj; omega
      rcases h2 with rfl | rfl | rfl <;> simp⟩
    have b4 := b3.trans (hA.mono b3.size)
    have hL : ∀ j, j < T.length → LsAt (w3.alloc (.cells #[.int .i64 1, .int .i64 2, .int .i64 3] 3)) B (cd T j) (q j) := fun j hj => LAt.keep (hc j hj).2 b4 hB
    have M2 := M2.next hA
    refine (keysWhere_any m1 m2 mm B T q (some ⟨w3.heap.size, 0, none⟩) 3 [1, 2, 3] tid _ hs hl8.2 (Nat.le_trans hB b4.size) hL M2 (by simp) hI3).mono ?_; rintro o w4 ⟨v, rfl, hown, hb⟩
    rw [HW.out] at hown
    have hb := hA.trans (hb.mono hA.size)
    obtain ⟨A5, c5, rfl, hmx, hk5⟩ := OwnI.of_owns hown
    have hk5 := hk5.more (lo' := w1.heap.size + 1) (B' := w4.heap.size) (by simp; omega) (Nat.le_refl _)
    have R := R.next hb
    have U := U.next hb
    have hcx := hcx.kept hb (ht.more (Nat.le_refl _) (Nat.le_of_lt hs3))
    have ht := ht.below hb (Nat.le_of_lt hs3)
    have b4 := b3.trans (hb.mono b3.size)
    have hs4 : w1.heap.size < w4.heap.size := Nat.lt_of_lt_of_le hs3 hb.size
    have hkl : (laK T tid).length ≤ 8 := Nat.le_trans (keysUp_le _ _) hl8.2
    clear hown hb hA b3 M2 hL hI3 hc hmx
    generalize hL : laK T tid = L at HE HN hkl hk5 ⊢
    clear hL hT HW
    go_wp2_with fail
    go_loopw [7, 18] (fun s i wr => ∃ (m : Nat) (A3 : Option Addr) (c3 : Nat), m ≤ L.length ∧ i = .int .i64 m ∧ s = .bool (decide (0 < m)) ∧ TOwn wr (w.heap.size + 2) wr.heap.size A3 (laF T tid (L.take m)) ∧ TCapL wr A3 (laF T tid (L.take m)) ∧ Box wr (w.heap.size + 1) [.slice none 0 0] ∧ Box wr w1.heap.size [.slice A3 T.length c3] ∧ OwnI wr (w1.heap.size + 1) w4.heap.size A5 L.length (fun j => L.getD j 0) ∧ Below w.heap.size w wr ∧ w4.heap.size ≤ wr.heap.size) (fun _ i _ => L.length - (intOf i).toNat)
    case atStart => exact ⟨0, A2, c2, Nat.zero_le _, rfl, rfl, ht.more (Nat.le_refl _) (Nat.le_of_lt hs4), hcx, R, U, hk5, b4, Nat.le_refl _⟩
    case round =>
      clear ht hcx R U hk5 b4
      obtain ⟨m, A3, c3, hm, rfl, rfl, ht, hcx, R, U, hk, b, hsr⟩ := hrel
      by_cases hmn : m < L.length
      · have hmz : (m : Int) < L.length := by omega
        have hx := List.getElem?_eq_getElem hmn
        obtain ⟨k, hxk, hkT, hv⟩ := HN.out m _ hx
        obtain ⟨b5, off5, e5, _, hb5, hc5⟩ := id hk (by omega)
        have hcell : wr.cell? ⟨b5, off5 + m, none⟩ = some (.int .i64 (L.getD m 0)) := (hc5 m hmn).1
        rw [getD_of hx, hxk] at hcell
        subst e5
        have hI := HI.out (L.take m)
        have HTake := Lib.hid (show laF T tid (L.take (m + 1)) = vcT (laF T tid (L.take m)) (k : Int) tid by rw [List.take_add_one, hx, hxk]; exact laF_snoc _ _ _ _)
        obtain ⟨b3, o3, e3, _⟩ := id ht (by rw [hI.2.1]; omega)
        subst e3
        generalize laF T tid (L.take m) = Tk at ht hcx hI hv HTake
        have hfit := tab_fit hI.1
        have hl := hI.2.1
        have HLn := Lib.hid ((vcT_len Tk (k : Int) tid).trans hl)
        have HV := Lib.hid hv
        obtain ⟨y0, yf⟩ := U.c1
        have Ul := U.lt
        rw [← hl] at y0
        have hkey := intWf (k := k) (by omega)
        have HK := Lib.hid hk
        clear hl hI yf hx hxk hc5 hv hk
        go_wp2_with fail
        refine (implLeaveCellC_any b3 o3 c3 wr.heap.size Tk (k : Int) tid _ hkey hfit (Nat.le_refl _) ht.at_ hcx).mono ?_; rintro o w5 ⟨A8, c8, rfl, hto, hb, hcn⟩
        rw [HV.out, HLn.out]
        have R := R.next hb
        have U := U.next hb
        have hb5s := hb.size
        have b := b.trans (hb.mono b.size)
        have hK5 := HK.out.below (hb.mono hsr) (Nat.le_refl _)
        have hts := TOwn.put (a := w1.heap.size) hto (.slice A8 T.length c8) (by omega)
        have HO := Lib.hid (hts.more (lo' := w.heap.size + 2) (B' := (w5.setCell ⟨w1.heap.size, 0, none⟩ (.slice A8 T.length c8)).heap.size) (by omega) (by simp [World.setCell]))
        have HC := Lib.hid (capl_far hto hcn (a := ⟨w1.heap.size, 0, none⟩) (.slice A8 T.length c8) (by show w1.heap.size < _; omega))
        have HR := Lib.hid (R.far (a := ⟨w1.heap.size, 0, none⟩) (.slice A8 T.length c8) (by show ¬ w1.heap.size = w.heap.size + 1; omega))
        have HU := Lib.hid (U.set (j := 0) (.slice A8 T.length c8) (by simp))
        have HB := Lib.hid (b.setCell (p := ⟨w1.heap.size, 0, none⟩) (show w.heap.size ≤ w1.heap.size by omega) (.slice A8 T.length c8))
        obtain ⟨y0, yf⟩ := U.c1
        have HI5 := Lib.hid (hK5.onlys (onlys_set w5 w1.heap.size 0 (.slice A8 T.length c8)) (.inr (Nat.le_refl _)))
        have hz : w4.heap.size ≤ (w5.setCell ⟨w1.heap.size, 0, none⟩ (.slice A8 T.length c8)).heap.size := by simp [World.setCell]; omega
        clear ht hcx hto hcn hts R U b hb hcell HK Ul hK5
        go_wp2
        exact ⟨⟨m + 1, A8, c8, by omega, by go_num, by simp, by rw [HTake.out]; exact HO.out, by rw [HTake.out]; exact HC.out, HR.out, HU.out, HI5.out, HB.out, hz⟩, by simp [intOf]; omega⟩
      · obtain rfl : m = L.length := by omega
        rw [List.take_length] at ht hcx
        obtain ⟨y0, yf⟩ := U.c1
        obtain ⟨r0, rf⟩ := R.c1
        have Rl := R.lt
        have Ul := U.lt
        have HLn := Lib.hid (HI.out L).2.1
        have HO := Lib.hid ((ht.put (a := w.heap.size + 1) (.slice A3 T.length c3) (by omega)).more (lo' := w.heap.size) (B' := (wr.setCell ⟨w.heap.size + 1, 0, none⟩ (.slice A3 T.length c3)).heap.size) (by omega) (by simp [World.setCell]))
        have HC := Lib.hid (capl_far ht hcx (a := ⟨w.heap.size + 1, 0, none⟩) (.slice A3 T.length c3) (by show w.heap.size + 1 < _; omega))
        have HB := Lib.hid (b.setCell (p := ⟨w.heap.size + 1, 0, none⟩) (by simp) (.slice A3 T.length c3))
        clear ht hcx R U b yf hk
        go_wp2
        exact bodyPost_ret (v := .tuple #[.agg #[.slice A3 T.length c3], .bool (decide (0 < L.length))]) (by simp [results, Tryz.results22, go_sem, r0]) rfl (by
          rw [HE.out.1, HE.out.2]
          exact ⟨A3, c3, by rw [HLn.out], HO.out, HB.out, HC.out⟩)
theorem implLeaveAll_to (b off c B : Nat) (T : TL) (tid : Int) (w : World) (hs : TFit T) (hB : B ≤ w.heap.size) (h : TAt w B (some ⟨b, off, none⟩) T) :
    Calls Tryz.prog 22 #[.agg #[.slice (some ⟨b, off, none⟩) T.length c], .int .i64 tid] w (RetTO w (laR T tid) fun v => .tuple #[v, .bool (laB T tid)]) :=
  (implLeaveAll_any b off c B T tid w hs hB h).mono fun _ _ h => h.less
end Go.Proofs.YtcndmdglnohbcaaGreatDoor

namespace Go.Proofs.YtcndmdglnohbcaaGreatDoor
open Go.RowKit
open Go.Maps (Keyed)

theorem field_slot (a b : Int) (w : World) : (Instr.field 61 (.agg #[.int .i64 a, .int .i64 b]) 0).run Tryz.prog w = .ok (.int .i64 a) w := by kernel_rfl
theorem holds_nil (t : Int) : holdsL [] [] t = 0 := by
  unfold holdsL
  split
  · rfl
  · rfl
theorem implHolds_zero (t : Int) (w : World) : Calls Tryz.prog 11 #[.agg #[.slice none 0 0, .slice none 0 0], .int .i64 t] w fun e w' => e = .returned (.int .i64 0) ∧ Below w.heap.size w w' := by
  have h := implHolds_any none none 0 0 0 [] [] t w (by simp) (by simp) ⟨fun h => absurd h (by simp), fun h => absurd h (by simp)⟩
  rw [holds_nil] at h
  exact h
set_option maxHeartbeats 3200000 in
set_option maxRecDepth 100000 in
theorem implSetCell_any (b off c B : Nat) (T : TL) (key tid v ep : Int) (ad : Addr) (w : World) (hkey : keyOf Tryz.prog 3 (.int .i64 key) = some (.int .i64 key)) (hF : Full w ad) (hs : TFit T) (hB : B ≤ w.heap.size) (h : TAt w B (some ⟨b, off, none⟩) T) :
    Calls Tryz.prog 10 #[.agg #[.slice (some ⟨b, off, none⟩) T.length c], .int .i64 key, .int .i64 tid, .int .i64 v, .int .i64 ep] w (RetTOC w (scT T key tid v ep) fun x => .tuple #[x, .bool (scB T key tid v ep)]) := by
  go_enter Tryz.func10, Tryz.ntmps10
  go_wp2_with fail
  have b0 := ((Below.refl w.heap.size w).alloc (Nat.le_refl _) (.cells #[.slice (some ⟨b, off, none⟩) T.length c] 26)).alloc (by simp) (.cells #[.slice none 0 0] 26)
  have X := (Box.new (w := w) (c := #[.slice (some ⟨b, off, none⟩) T.length c]) (t := 26) rfl).alloc (.cells #[.slice none 0 0] 26)
  have R := Box.new (w := w.alloc (.cells #[.slice (some ⟨b, off, none⟩) T.length c] 26)) (b := w.heap.size + 1) (c := #[.slice none 0 0]) (t := 26) (by simp)
  have hz0 : w.heap.size + 2 ≤ ((w.alloc (.cells #[.slice (some ⟨b, off, none⟩) T.length c] 26)).alloc (.cells #[.slice none 0 0] 26)).heap.size := by simp
  generalize (w.alloc (.cells #[.slice (some ⟨b, off, none⟩) T.length c] 26)).alloc (.cells #[.slice none 0 0] 26) = w0 at b0 X R hz0 ⊢
  cases hT : tabOk T with
  | false =>
    have HE0 := Lib.hid (sc_not (tid := tid) (v := v) (ep := ep) (show thereB T key = false by simp [thereB, hT]))
    refine (storeOf_bad _ c B T _ hs (Nat.le_trans hB b0.size) (h.keep b0 hB) hT).mono ?_; rintro o w1 ⟨rfl, hb1⟩
    have hA := (Below.refl w1.heap.size w1).alloc (Nat.le_refl _) (.cells #[.map none, .map none] 57)
    have hbA := hb1.trans (hA.mono hb1.size)
    have X := X.next hbA
    have R := R.next hbA
    have b2 := b0.trans (hbA.mono b0.size)
    have hz2 := Nat.le_trans hz0 hbA.size
    have hlk := Go.Maps.look_nil (w := w1.alloc (.cells #[.map none, .map none] 57)) false keyI Tryz.underlying55 (zeroLock _) hkey
    clear hb1 hT hA hbA
    go_wp2_with fail
    clear hlk
    generalize w1.alloc (.cells #[.map none, .map none] 57) = w2 at X R b2 hz2 ⊢
    refine (implHolds_zero tid _).mono ?_; rintro o w3 ⟨rfl, hb⟩
    have X := X.next hb
    have R := R.next hb
    have b2 := b2.trans (hb.mono b2.size)
    have hz3 := Nat.le_trans hz2 hb.size
    clear hb
    have HE := Lib.hid (HE0.out)
    obtain ⟨x0, xf⟩ := X.c1
    have Xl := X.lt
    clear X xf
    go_wp2_with fail
    refine (copiedTableC_any b off c B T _ hs (Nat.le_trans hB b2.size) (h.keep b2 hB)).mono ?_; rintro o w8 ⟨A8, c8, rfl, ht, hb8, hcx⟩
    have R8 := R.next hb8
    have b8 := b2.trans (hb8.mono b2.size)
    have HO := Lib.hid ((ht.put (a := w.heap.size + 1) (.slice A8 T.length c8) (by omega)).more (lo' := w.heap.size) (B' := (w8.setCell ⟨w.heap.size + 1, 0, none⟩ (.slice A8 T.length c8)).heap.size) (by omega) (by simp))
    have HB8 := Lib.hid (b8.setCell (p := ⟨w.heap.size + 1, 0, none⟩) (by simp) (.slice A8 T.length c8))
    have HCX := Lib.hid (capl_far ht hcx (a := ⟨w.heap.size + 1, 0, none⟩) (.slice A8 T.length c8) (by show w.heap.size + 1 < _; omega))
    obtain ⟨r8, rf8⟩ := R8.c1
    have Rl8 := R8.lt
    clear ht hb8 R8 b8 R b2 x0 Xl hcx
    go_wp2
    exact bodyPost_ret (v := .tuple #[.agg #[.slice A8 T.length c8], .bool false]) (by simp [results, Tryz.results10, go_sem, r8]) rfl (by
      rw [HE.out.1, HE.out.2]
      exact ⟨A8, c8, rfl, HO.out, HB8.out, HCX.out⟩)
  | true =>
    have hl8 := tabOk_len hT
    have hTE : thereB T key = decide (0 ≤ key ∧ key < (T.length : Int)) := by
      rw [Bool.eq_iff_iff, there_iff, decide_eq_true_eq]
      constructor
      · rintro ⟨_, h1, h2⟩; omega
      · rintro ⟨h1, h2⟩; exact ⟨hT, h1, by omega⟩
    have HT := Lib.hid hT
    obtain ⟨bb, off', e, hbB, q, hc⟩ := h (by omega)
    injection e with e
    injection e with e1 e2 _
    subst e1 e2
    have hcl0 : TCl w0 B b off T q := ⟨hbB, fun j hj => ⟨(hc j hj).1.below b0 (by omega), LAt.keep (hc j hj).2 b0 hB⟩⟩
    have q0H : ∃ q : Nat → Pl, ∀ j, j < T.length → CCells w b (off + j * 6) (cd T j) (q j) ∧ LsAt w B (cd T j) (q j) := ⟨q, hc⟩
    have HLs := Lib.hid (fun j (hj : j < T.length) => (hc j hj).2)
    refine (storeOf_ok b off c B T q _ hs (Nat.le_trans hB b0.size) hcl0 hT).mono ?_; rintro o w1 ⟨m1, m2, mm, rfl, hne, hm1, hm2, M1, hmm, M2, hb1⟩
    have X := X.next hb1
    have R := R.next hb1
    have b1 := b0.trans (hb1.mono b0.size)
    have hz1 := Nat.le_trans hz0 hb1.size
    have hm1l := M1.lt
    have hm2l := M2.lt
    have hA := (Below.refl w1.heap.size w1).alloc (Nat.le_refl _) (.cells #[.map (some m1), .map (some m2)] 57)
    have St := Box.new (w := w1) (c := #[.map (some m1), .map (some m2)]) (t := 57) rfl
    have M1 := M1.next hA
    have M2 := M2.next hA
    have X := X.next hA
    have R := R.next hA
    have b1 := b1.trans (hA.mono b1.size)
    have hz2 : w1.heap.size < (w1.alloc (.cells #[.map (some m1), .map (some m2)] 57)).heap.size := by simp
    clear hb1 hcl0 hc hT hA b0
    go_upto_region 2 with (fail)
    generalize w1.alloc (.cells #[.map (some m1), .map (some m2)] 57) = w2 at M1 M2 St X R b1 hz2 ⊢
    obtain ⟨t0, t1, tf⟩ := St.c2
    have Tl := St.lt
    by_cases hk : 0 ≤ key ∧ key < (T.length : Int)
    · obtain ⟨k, rfl⟩ := Int.eq_ofNat_of_zero_le hk.1
      have hkn : k < T.length := by omega
      have HTh := Lib.hid (show thereB T (k : Int) = true by rw [hTE, decide_eq_true hk])
      have hwo := tabOk_wordOk HT.out hkn
      have HSl := Lib.hid (show slotsF T T.length (k : Int) = some (.agg #[.int .i64 (pk (cd T k).e (cd T k).s (cd T k).h), .int .i64 (cd T k).v]) by unfold slotsF; rw [if_pos hk]; rfl)
      have HLk := Lib.hid (locks_get (q := q) HT.out hkn)
      have hlk := hs.at_ hkn
      have HN1 := Lib.hid (fun hh : ¬ holdsL (cd T k).hs (cd T k).ws tid = 2 => sc_no (sc_k1 (T := T) (k := k) (tid := tid) (v := v) (ep := ep) hh))
      have HN4 := Lib.hid (fun (h1 : holdsL (cd T k).hs (cd T k).ws tid = 2) h2 h3 => And.intro (sc_yes HTh.out (sc_k4 (T := T) (k := k) (tid := tid) (v := v) (ep := ep) h1 h2 h3)) (putV_ok HT.out hkn h1 h2 h3))
      clear hTE hk tf
      have b2 := b1
      have hLA : LAt w2 B (lkP T q k).G (lkP T q k).G' ((cd T k).hs, (cd T k).ws) := LAt.keep (locks_at HT.out hkn (HLs.out k hkn)) b2 hB
      go_wp2_with (first | (at_lookup; refine wp_look _ rfl _ _ rfl keyI Tryz.underlying55 (zeroLock _) rfl M2 (k : Int) rfl hkey (.agg #[.slice (lkP T q k).G (cd T k).hs.length (lkP T q k).c, .slice (lkP T q k).G' (cd T k).ws.length (lkP T q k).c']) (by rw [HLk.out]; rfl) ?_) | fail)
      refine (implHolds_any _ _ _ _ B (cd T k).hs (cd T k).ws tid _ hlk.1 hlk.2 hLA).mono ?_; rintro o w4 ⟨rfl, hb⟩
      have X := X.next hb
      have R := R.next hb
      have St := St.next hb
      have M1 := M1.next hb
      have M2 := M2.next hb
      have b2 := b2.trans (hb.mono b2.size)
      have hz4 := Nat.lt_of_lt_of_le hz2 hb.size
      clear hb t0 t1 Tl hLA b1
      have h : TAt w B (some ⟨b, off, none⟩) T := fun _ => ⟨b, off, rfl, hbB, q0H⟩
      generalize holdsL (cd T k).hs (cd T k).ws tid = z at HN1 HN4 ⊢
      by_cases hz : z = 2
      · subst hz
        go_wp2_with fail
        refine (implVal_any v _).mono ?_; rintro o w5 ⟨rfl, rfl⟩
        cases hv : valB v with
        | false =>
          have HE := Lib.hid (sc_no (sc_k2 (T := T) (k := k) (tid := tid) (v := v) (ep := ep) hv))
          obtain ⟨x0, xf⟩ := X.c1
          have Xl := X.lt
          clear X xf M1 M2 St
          go_wp2_with fail
          refine (copiedTableC_any b off c B T _ hs (Nat.le_trans hB b2.size) (h.keep b2 hB)).mono ?_; rintro o w8 ⟨A8, c8, rfl, ht, hb8, hcx⟩
          have R8 := R.next hb8
          have b8 := b2.trans (hb8.mono b2.size)
          have HO := Lib.hid ((ht.put (a := w.heap.size + 1) (.slice A8 T.length c8) (by omega)).more (lo' := w.heap.size) (B' := (w8.setCell ⟨w.heap.size + 1, 0, none⟩ (.slice A8 T.length c8)).heap.size) (by omega) (by simp))
          have HB8 := Lib.hid (b8.setCell (p := ⟨w.heap.size + 1, 0, none⟩) (by simp) (.slice A8 T.length c8))
          have HCX := Lib.hid (capl_far ht hcx (a := ⟨w.heap.size + 1, 0, none⟩) (.slice A8 T.length c8) (by show w.heap.size + 1 < _; omega))
          obtain ⟨r8, rf8⟩ := R8.c1
          have Rl8 := R8.lt
          clear ht hb8 R8 b8 R b2 x0 Xl hcx
          go_wp2
          exact bodyPost_ret (v := .tuple #[.agg #[.slice A8 T.length c8], .bool false]) (by simp [results, Tryz.results10, go_sem, r8]) rfl (by
            rw [HE.out.1, HE.out.2]
            exact ⟨A8, c8, rfl, HO.out, HB8.out, HCX.out⟩)
        | true =>
          obtain ⟨t0, t1, tf⟩ := St.c2
          have Tl := St.lt
          have HV := Lib.hid hv
          have hfs := field_slot (pk (cd T k).e (cd T k).s (cd T k).h) (cd T k).v w4
          clear hv tf
          go_wp2_with (first | (at_lookup; refine wp_look _ rfl _ _ rfl keyI Tryz.underlying54 (zeroSlot _) rfl M1 (k : Int) rfl hkey (.agg #[.int .i64 (pk (cd T k).e (cd T k).s (cd T k).h), .int .i64 (cd T k).v]) (by rw [HSl.out]; rfl) ?_) | fail)
          refine (word_pk (cd T k).e (cd T k).s (cd T k).h hwo _).mono ?_; rintro o w5 ⟨rfl, hb⟩
          have X := X.next hb
          have R := R.next hb
          have St := St.next hb
          have M1 := M1.next hb
          have M2 := M2.next hb
          have b2 := b2.trans (hb.mono b2.size)
          have hz5 := Nat.lt_of_lt_of_le hz4 hb.size
          clear hb t0 t1 Tl hfs
          go_wp2_with fail
          refine (implNextW_any (cd T k).e (cd T k).s (cd T k).h ep hwo ad _ (hF.below b2)).mono ?_; rintro o w6 ⟨rfl, hb⟩
          have X := X.next hb
          have R := R.next hb
          have St := St.next hb
          have M1 := M1.next hb
          have M2 := M2.next hb
          have b2 := b2.trans (hb.mono b2.size)
          have hz6 := Nat.lt_of_lt_of_le hz5 hb.size
          clear hb
          cases hn : nwB (cd T k).e (cd T k).s ep with
          | false =>
            rw [nw_no hn]
            have hA := (Below.refl w6.heap.size w6).alloc (Nat.le_refl _) (.cells #[.int .i64 0, .int .i64 0, .bool false] 37)
            have X := X.next hA
            have R := R.next hA
            have b2 := b2.trans (hA.mono b2.size)
            have hz7 := Nat.lt_of_lt_of_le hz6 hA.size
            clear hA
            go_upto_region 5 with (fail)
            generalize w6.alloc (.cells #[.int .i64 0, .int .i64 0, .bool false] 37) = w7 at X R b2 hz7 ⊢
            have HE := Lib.hid (sc_no (sc_k3 (T := T) (k := k) (tid := tid) (v := v) (ep := ep) hn))
            obtain ⟨x0, xf⟩ := X.c1
            have Xl := X.lt
            clear X xf M1 M2 St
            go_wp2_with fail
            refine (copiedTableC_any b off c B T _ hs (Nat.le_trans hB b2.size) (h.keep b2 hB)).mono ?_; rintro o w8 ⟨A8, c8, rfl, ht, hb8, hcx⟩
            have R8 := R.next hb8
            have b8 := b2.trans (hb8.mono b2.size)
            have HO := Lib.hid ((ht.put (a := w.heap.size + 1) (.slice A8 T.length c8) (by omega)).more (lo' := w.heap.size) (B' := (w8.setCell ⟨w.heap.size + 1, 0, none⟩ (.slice A8 T.length c8)).heap.size) (by omega) (by simp))
            have HB8 := Lib.hid (b8.setCell (p := ⟨w.heap.size + 1, 0, none⟩) (by simp) (.slice A8 T.length c8))
            have HCX := Lib.hid (capl_far ht hcx (a := ⟨w.heap.size + 1, 0, none⟩) (.slice A8 T.length c8) (by show w.heap.size + 1 < _; omega))
            obtain ⟨r8, rf8⟩ := R8.c1
            have Rl8 := R8.lt
            clear ht hb8 R8 b8 R b2 x0 Xl hcx
            go_wp2
            exact bodyPost_ret (v := .tuple #[.agg #[.slice A8 T.length c8], .bool false]) (by simp [results, Tryz.results10, go_sem, r8]) rfl (by
              rw [HE.out.1, HE.out.2]
              exact ⟨A8, c8, rfl, HO.out, HB8.out, HCX.out⟩)
          | true =>
            have hEn := HN4.out (by trivial) HV.out hn
            have how := nw_ok hn hwo
            rw [nw_yes hn]
            generalize nwE (cd T k).e ep = e' at hEn how ⊢
            generalize nwS (cd T k).e (cd T k).s ep = s' at hEn how ⊢
            have HE := Lib.hid hEn.1
            have HTO := Lib.hid hEn.2
            have HO := Lib.hid (wordOk_iff.1 how)
            have hA := ((Below.refl w6.heap.size w6).alloc (Nat.le_refl _) (.cells #[.int .i64 e', .int .i64 s', .bool false] 37)).setCell (p := ⟨w6.heap.size, 2, none⟩) (Nat.le_refl _) (.bool true)
            have W := Box.new (w := w6) (c := #[.int .i64 e', .int .i64 s', .bool false]) (t := 37) rfl
            clear hn HN1 HN4 hEn how
            go_upto_region 5 with (fail)
            generalize w6.alloc (.cells #[.int .i64 e', .int .i64 s', .bool false] 37) = w7 at W hA ⊢
            obtain ⟨v0, v1, v2, vf⟩ := W.c3
            have Wl := W.lt
            go_upto_region 8 with (fail)
            have W : Box (w7.setCell ⟨w6.heap.size, 2, none⟩ (.bool true)) w6.heap.size [.int .i64 e', .int .i64 s', .bool true] := W.set (j := 2) (.bool true) (by simp)
            clear v0 v1 v2 vf Wl
            generalize w7.setCell ⟨w6.heap.size, 2, none⟩ (.bool true) = w8 at W hA ⊢
            have R := R.next hA
            have St := St.next hA
            have M1 := M1.next hA
            have M2 := M2.next hA
            have b2 := b2.trans (hA.mono b2.size)
            clear hA X
            have HSt := Lib.hid St.drew
            have HW := Lib.hid W.drew
            have HR := Lib.hid R.drew
            have HB := Lib.hid b2.drew
            have HM1 := Lib.hid (M1.block (w' := w8.drew) rfl)
            have HM2 := Lib.hid (M2.block (w' := w8.drew) rfl)
            have hS0 := Lib.hid (And.intro St.drew.c2.1 (And.intro W.drew.c3.1 (And.intro W.drew.c3.2.1 W.drew.c3.2.2.1)))
            clear St W R b2 M1 M2
            go_region_held3 (fun W => W.cell? ⟨w1.heap.size, 0, none⟩ = some (.map (some m1)) ∧ W.cell? ⟨w6.heap.size, 0, none⟩ = some (.int .i64 e') ∧ W.cell? ⟨w6.heap.size, 1, none⟩ = some (.int .i64 s') ∧ W.cell? ⟨w6.heap.size, 2, none⟩ = some (.bool true)) (first | exact hS0.out | exact hS5.out | exact hS6.out) ((go_at_call 33; refine (packedOf_any e' s' true HO.out.1.1 HO.out.1.2 HO.out.2.1 HO.out.2.2 _).mono ?_; rintro o w9 ⟨rfl, hb5⟩; obtain ⟨w10, hrun, M6, hT6⟩ := (HM1.out.next hb5).store keyI Tryz.underlying54 (by unfold maxLen; omega) (x := (k : Int)) hkey (.agg #[.int .i64 (pk e' s' true), .int .i64 v]); have hU := But2.of_turn1 (b2 := m2) hT6; have hS5 := Lib.hid (And.intro (HSt.out.next hb5).c2.1 (And.intro (HW.out.next hb5).c3.1 (And.intro (HW.out.next hb5).c3.2.1 (HW.out.next hb5).c3.2.2.1))); have HSt6 := Lib.hid ((HSt.out.next hb5).but hU (by omega) (by omega)); have HR6 := Lib.hid ((HR.out.next hb5).but hU (by omega) (by omega)); have HW6 := (HW.out.next hb5).but hU (by omega) (by omega); have hS6 := Lib.hid (And.intro HSt6.out.c2.1 (And.intro HW6.c3.1 (And.intro HW6.c3.2.1 HW6.c3.2.2.1))); have M6 := Lib.hid M6; have M26 := Lib.hid ((HM2.out.next hb5).kept hT6.grown (fun e => by injection e with e; exact hne e.symm)); have HB6 := Lib.hid ((HB.out.trans (hb5.mono HB.out.size)).trans (hU.below (L := w.heap.size) (by omega) (by omega) (Nat.le_trans HB.out.size hb5.size))); clear hb5 hU HW6 hT6))
            rename_i hS
            clear hS
            have N1 := M6.out
            rw [if_pos (show (slotsF T T.length (k : Int)).isSome = true by rw [HSl.out]; rfl)] at N1
            have N1 := N1.congr (slots_val hkn v e' s')
            rw [← putT_len T k (valC (cd T k) v e' s')] at N1
            have hto := HTO.out
            have b6 := HB6.out
            obtain ⟨t0, t1, tf⟩ := HSt6.out.c2
            have Tl := HSt6.out.lt
            have R := HR6.out
            have hz6 : w.heap.size + 2 ≤ w10.heap.size := by omega
            clear hS0 hS5 hS6 hrun M6 HSt HW HR HM1 HM2 HB tf
            go_wp2_with fail
            refine (tableC_any m1 m2 mm w10.heap.size (putT T k (valC (cd T k) v e' s')) (lkP T q) _ _ (tab_fit hto) (Nat.le_refl _) (fun j hj => tabOk_wordOk hto hj) N1 M26.out (fun j hj => locks_val HT.out v e' s' (by rw [putT_len] at hj; exact hj)) (fun j hj => lists_val HT.out v e' s' (fun i hi => (LAt.keep (HLs.out i hi) b6 hB).up (Nat.le_trans hB b6.size)) (by rw [putT_len] at hj; exact hj))).mono ?_; rintro o w11 ⟨A8, c8, rfl, ht, hb8, hcx⟩
            have R8 := R.next hb8
            have b8 := b6.trans (hb8.mono b6.size)
            generalize putT T k (valC (cd T k) v e' s') = T8 at HE ht hcx
            have HO := Lib.hid ((ht.put (a := w.heap.size + 1) (.slice A8 T8.length c8) (by omega)).more (lo' := w.heap.size) (B' := (w11.setCell ⟨w.heap.size + 1, 0, none⟩ (.slice A8 T8.length c8)).heap.size) (by omega) (by simp))
            have HB8 := Lib.hid (b8.setCell (p := ⟨w.heap.size + 1, 0, none⟩) (by simp) (.slice A8 T8.length c8))
            have HCX := Lib.hid (capl_far ht hcx (a := ⟨w.heap.size + 1, 0, none⟩) (.slice A8 T8.length c8) (by show w.heap.size + 1 < _; omega))
            obtain ⟨r8, rf8⟩ := R8.c1
            have Rl8 := R8.lt
            clear ht hcx hb8 R8 b8 R t0 t1 Tl N1 b6 hto
            go_wp2
            exact bodyPost_ret (v := .tuple #[.agg #[.slice A8 T8.length c8], .bool true]) (by simp [results, Tryz.results10, go_sem, r8]) rfl (by
              rw [HE.out.1, HE.out.2]
              exact ⟨A8, c8, rfl, HO.out, HB8.out, HCX.out⟩)
      · have hz' : (z != 2) = true := by rw [bne_iff_ne]; exact hz
        have HE := Lib.hid (HN1.out hz)
        obtain ⟨x0, xf⟩ := X.c1
        have Xl := X.lt
        clear X xf M1 M2 St
        go_wp2_with fail
        refine (copiedTableC_any b off c B T _ hs (Nat.le_trans hB b2.size) (h.keep b2 hB)).mono ?_; rintro o w8 ⟨A8, c8, rfl, ht, hb8, hcx⟩
        have R8 := R.next hb8
        have b8 := b2.trans (hb8.mono b2.size)
        have HO := Lib.hid ((ht.put (a := w.heap.size + 1) (.slice A8 T.length c8) (by omega)).more (lo' := w.heap.size) (B' := (w8.setCell ⟨w.heap.size + 1, 0, none⟩ (.slice A8 T.length c8)).heap.size) (by omega) (by simp))
        have HB8 := Lib.hid (b8.setCell (p := ⟨w.heap.size + 1, 0, none⟩) (by simp) (.slice A8 T.length c8))
        have HCX := Lib.hid (capl_far ht hcx (a := ⟨w.heap.size + 1, 0, none⟩) (.slice A8 T.length c8) (by show w.heap.size + 1 < _; omega))
        obtain ⟨r8, rf8⟩ := R8.c1
        have Rl8 := R8.lt
        clear ht hb8 R8 b8 R b2 x0 Xl hcx
        go_wp2
        exact bodyPost_ret (v := .tuple #[.agg #[.slice A8 T.length c8], .bool false]) (by simp [results, Tryz.results10, go_sem, r8]) rfl (by
          rw [HE.out.1, HE.out.2]
          exact ⟨A8, c8, rfl, HO.out, HB8.out, HCX.out⟩)
    · have HE0 := Lib.hid (sc_not (tid := tid) (v := v) (ep := ep) (show thereB T key = false by rw [hTE, decide_eq_false hk]))
      have HSl := Lib.hid (show locksF T q T.length key = none by unfold locksF; rw [if_neg (fun h => hk h.1)])
      have b2 := b1
      have h : TAt w B (some ⟨b, off, none⟩) T := fun _ => ⟨b, off, rfl, hbB, q0H⟩
      clear hTE hk b1 tf
      go_wp2_with (first | (at_lookup; refine wp_look _ rfl _ _ rfl keyI Tryz.underlying55 (zeroLock _) rfl M2 key rfl hkey (.agg #[.slice none 0 0, .slice none 0 0]) (by rw [HSl.out]; rfl) ?_) | fail)
      refine (implHolds_zero tid _).mono ?_; rintro o w4 ⟨rfl, hb⟩
      have X := X.next hb
      have R := R.next hb
      have b2 := b2.trans (hb.mono b2.size)
      have hz5 := Nat.le_trans (show w.heap.size + 2 ≤ w2.heap.size by omega) hb.size
      clear hb t0 t1 Tl
      have HE := Lib.hid (HE0.out)
      obtain ⟨x0, xf⟩ := X.c1
      have Xl := X.lt
      clear X xf
      go_wp2_with fail
      refine (copiedTableC_any b off c B T _ hs (Nat.le_trans hB b2.size) (h.keep b2 hB)).mono ?_; rintro o w8 ⟨A8, c8, rfl, ht, hb8, hcx⟩
      have R8 := R.next hb8
      have b8 := b2.trans (hb8.mono b2.size)
      have HO := Lib.hid ((ht.put (a := w.heap.size + 1) (.slice A8 T.length c8) (by omega)).more (lo' := w.heap.size) (B' := (w8.setCell ⟨w.heap.size + 1, 0, none⟩ (.slice A8 T.length c8)).heap.size) (by omega) (by simp))
      have HB8 := Lib.hid (b8.setCell (p := ⟨w.heap.size + 1, 0, none⟩) (by simp) (.slice A8 T.length c8))
      have HCX := Lib.hid (capl_far ht hcx (a := ⟨w.heap.size + 1, 0, none⟩) (.slice A8 T.length c8) (by show w.heap.size + 1 < _; omega))
      obtain ⟨r8, rf8⟩ := R8.c1
      have Rl8 := R8.lt
      clear ht hb8 R8 b8 R b2 x0 Xl hcx
      go_wp2
      exact bodyPost_ret (v := .tuple #[.agg #[.slice A8 T.length c8], .bool false]) (by simp [results, Tryz.results10, go_sem, r8]) rfl (by
        rw [HE.out.1, HE.out.2]
        exact ⟨A8, c8, rfl, HO.out, HB8.out, HCX.out⟩)
end Go.Proofs.YtcndmdglnohbcaaGreatDoor

namespace Go.Proofs.YtcndmdglnohbcaaGreatDoor
open Go.RowKit

theorem Fine.setF {T : TL} {i k : Nat} (h : Fine T i) (hk : k < 3) (hi : i ≤ 60) (tid : Int) {v : Int} (hv : 0 ≤ v ∧ v ≤ 255) : Fine (scT T k tid v 0) (i + 1) := by
  cases hb : scB T k tid v 0 with
  | true => exact (h.setT hk hi tid hv hb).1
  | false =>
    have e : scT T k tid v 0 = T := by unfold scT; rw [hb]; rfl
    rw [e]; exact h.up
theorem Fine.read {T : TL} {i k : Nat} (h : Fine T i) (hk : k < 3) : rcv (rc T k) (thereB T k) = .tuple #[.int .i64 (cd T k).v, .agg #[.int .i64 (cd T k).e, .int .i64 (cd T k).s, .bool (cd T k).h], .bool true] := by
  have h1 : rc T (k : Int) = cd T k := by
    unfold rc
    rw [h.there hk]; rfl
  rw [h1, h.there hk]; rfl
/-- a table whose memory has nothing of block p -/
def Tbl (w : World) (p : Nat) (A : Option Addr) (T : TL) : Prop := ∃ lo B, B ≤ w.heap.size ∧ TOwn w lo B A T ∧ (p + 1 ≤ lo ∨ B ≤ p) ∧ TCapL w A T
theorem Tbl.at_ {w : World} {p : Nat} {A : Option Addr} {T : TL} (h : Tbl w p A T) : TAt w w.heap.size A T := by
  obtain ⟨lo, B, hB, ho, _, _⟩ := h
  exact ho.at_.up hB
theorem Tbl.cap {w : World} {p : Nat} {A : Option Addr} {T : TL} (h : Tbl w p A T) : TCapL w A T := by
  obtain ⟨lo, B, hB, ho, _, hc⟩ := h
  exact hc
theorem Tbl.next {w w' : World} {p : Nat} {A : Option Addr} {T : TL} (h : Tbl w p A T) (hb : Below w.heap.size w w') : Tbl w' p A T := by
  obtain ⟨lo, B, hB, ho, hp, hc⟩ := h
  exact ⟨lo, B, Nat.le_trans hB hb.size, ho.below hb hB, hp, tcapl_own ho hc hb⟩
theorem Tbl.put {w : World} {p : Nat} {A : Option Addr} {T : TL} (h : Tbl w p A T) (v : Value) : Tbl (w.setCell ⟨p, 0, none⟩ v) p A T := by
  obtain ⟨lo, B, hB, ho, hp, hc⟩ := h
  refine ⟨lo, B, by simpa [World.setCell] using hB, ho.onlys (onlys_set w p 0 v) (by rcases hp with h | h; exact .inr h; exact .inl h), hp, fun b off e j hj => ?_⟩
  subst e
  obtain ⟨b', off', e, q, L, H, hr⟩ := ho (by omega)
  injection e with e
  injection e with e1 _ _
  subst e1
  have h1 := hr.rlo
  have h2 := hr.rhi
  exact hc.far v (show ¬ p = b by omega) b off rfl j hj
theorem Tbl.of {w : World} {lo p : Nat} {A : Option Addr} {T : TL} (h : TOwn w lo w.heap.size A T) (hc : TCapL w A T) (hp : p < lo) : Tbl w p A T := ⟨lo, _, Nat.le_refl _, h, .inl hp, hc⟩
theorem Tbl.some_ {w : World} {p : Nat} {A : Option Addr} {T : TL} (h : Tbl w p A T) (hn : 0 < T.length) : ∃ b off, A = some ⟨b, off, none⟩ := by
  obtain ⟨lo, B, hB, ho, _, _⟩ := h
  obtain ⟨b, off, e, _⟩ := ho hn
  exact ⟨b, off, e⟩
/-- a table whose locks are empty has room enough -/
theorem cap_zero {w : World} {B : Nat} {A : Option Addr} {n : Nat} (h : TAt w B A (zeros n)) : TCapL w A (zeros n) := fun b off e j hj => by
  subst e
  obtain ⟨b', off', e, _, q, hc⟩ := h (by omega)
  injection e with e
  injection e with e1 e2 _
  subst e1 e2
  have c := (hc j hj).1
  exact ⟨_, _, _, _, ⟨c.c4, c.c5⟩, by rw [zeros_at]; exact Nat.zero_le _, by rw [zeros_at]; exact Nat.zero_le _⟩
/-- the lock of cell k -/
theorem TAt.lockAt {w : World} {B b off : Nat} {T : TL} (h : TAt w B (some ⟨b, off, none⟩) T) {k : Nat} (hk : k < T.length) : ∃ q : Pl, b < B ∧ CCells w b (off + k * 6) (cd T k) q ∧ LsAt w B (cd T k) q := by
  obtain ⟨b', off', e, hlt, q, hc⟩ := h (by omega)
  injection e with e
  injection e with e1 e2 _
  subst e1 e2
  exact ⟨q k, hlt, (hc k hk).1, (hc k hk).2⟩
end Go.Proofs.YtcndmdglnohbcaaGreatDoor
