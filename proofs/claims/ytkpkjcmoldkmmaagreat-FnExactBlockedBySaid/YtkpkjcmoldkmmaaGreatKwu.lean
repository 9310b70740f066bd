/- The program's keysWhere: the keys whose locks stand in one of these states. -/
import Derived.Test.YtkpkjcmoldkmmaaGreatKeysu
import Derived.Test.YtkpkjcmoldkmmaaGreatTt
import Derived.Test.YtkpkjcmoldkmmaaGreatLi3
import Derived.Test.YtkpkjcmoldkmmaaGreatLq
namespace Go.Proofs.YtkpkjcmoldkmmaaGreat
open Go.RowKit
open Go.Maps (Keyed)

def IdxI (w : World) (l : List Int) (x : Int) (e : Ending) (w' : World) : Prop := ∃ z : Int, e = .returned (.int .i64 z) ∧ decide (0 ≤ z) = l.contains x ∧ w = w'
theorem index_any (A : Option Addr) (c B : Nat) (l : List Int) (x : Int) (w : World) (hn : l.length ≤ 1048576) (h : IntsAt w B A l.length (fun i => l.getD i 0)) :
    Calls Tryz.prog 218 #[.slice A l.length c, .int .i64 x] w (IdxI w l x) := by
  go_enter Tryz.func218, Tryz.ntmps218
  go_wp2
  go_loop [8] (fun i => ∃ k : Nat, k ≤ l.length ∧ i = .int .i64 k ∧ (∀ j, j < k → ¬ l.getD j 0 = x)) (fun i => l.length - (intOf i).toNat)
  case atStart => exact ⟨0, Nat.zero_le _, rfl, fun j hj => absurd hj (by omega)⟩
  case round =>
    obtain ⟨k, hk, rfl, hno⟩ := hrel
    have Hno := Lib.hid hno
    clear hno
    by_cases hkn : k < l.length
    · obtain ⟨b, off, rfl, hB, hc⟩ := h (by omega)
      have hkz : (k : Int) < l.length := by omega
      have d0 : w.cell? ⟨b, off + k, none⟩ = some (.int .i64 (l.getD k 0)) := hc k hkn
      clear hc h
      by_cases e : x = l.getD k 0
      · have HE := Lib.hid (show l.contains x = true by
          rw [List.contains_eq_mem, decide_eq_true_eq, e, List.getD_eq_getElem?_getD, List.getElem?_eq_getElem hkn]
          exact List.getElem_mem hkn)
        have e' : (x == l.getD k 0) = true := by simpa using e
        clear e
        generalize l.getD k 0 = y at d0 e'
        go_wp2
        go_ret
        exact ⟨k, rfl, by rw [HE.out]; simp, rfl⟩
      · have HN := Lib.hid (show ∀ j, j < k + 1 → ¬ l.getD j 0 = x from fun j hj => by
          by_cases ej : j = k
          · subst ej; exact fun h => e h.symm
          · exact Hno.out j (by omega))
        have e' : (x == l.getD k 0) = false := by simpa using e
        clear e
        generalize l.getD k 0 = y at d0 e'
        go_wp2
        exact ⟨⟨k + 1, by omega, by go_num, HN.out⟩, by simp [intOf]; omega⟩
    · obtain rfl : k = l.length := by omega
      have HE := Lib.hid (show l.contains x = false by
        rw [List.contains_eq_mem, decide_eq_false_iff_not]
        intro hm
        obtain ⟨j, hj, e⟩ := List.getElem_of_mem hm
        exact Hno.out j hj (by rw [List.getD_eq_getElem?_getD, List.getElem?_eq_getElem hj]; exact e))
      clear h
      go_wp2
      go_ret
      exact ⟨-1, rfl, by rw [HE.out]; simp, rfl⟩
theorem contains_any (A : Option Addr) (c B : Nat) (l : List Int) (x : Int) (w : World) (hn : l.length ≤ 1048576) (h : IntsAt w B A l.length (fun i => l.getD i 0)) :
    Calls Tryz.prog 194 #[.slice A l.length c, .int .i64 x] w fun e w' => e = .returned (.bool (l.contains x)) ∧ w = w' := by
  go_enter Tryz.func194, Tryz.ntmps194
  go_wp2_with fail
  refine (index_any A c B l x _ hn h).mono ?_; rintro e w1 ⟨z, rfl, hz, rfl⟩
  cases hw : l.contains x with
  | true =>
    rw [hw] at hz
    have HW := Lib.hid hw
    clear hw
    go_wp2
    go_ret
    exact ⟨ret_bool HW.out.symm, rfl⟩
  | false =>
    rw [hw] at hz
    have HW := Lib.hid hw
    clear hw
    go_wp2
    go_ret
    exact ⟨ret_bool HW.out.symm, rfl⟩
/-- the keys marked in the end -/
def whereB (T : TL) (ss : List Int) (tid : Int) (j : Nat) : Bool := decide (j < T.length ∧ ¬ (cd T j).hs.length = 0) && ss.contains (stands T tid j)
theorem locksF_some {T : TL} {q : Nat → Pl} {x : Int} {v : Value} (h : locksF T q T.length x = some v) : ∃ k : Nat, x = k ∧ k < T.length ∧ ¬ (cd T k).hs.length = 0 ∧ v = lkq (cd T k) (q k) := by
  unfold locksF at h
  by_cases hc : (0 ≤ x ∧ x < (T.length : Int)) ∧ ¬ (ci T x).hs.length = 0
  · rw [if_pos hc] at h
    exact ⟨x.toNat, by omega, by omega, hc.2, by injection h with h; exact h.symm⟩
  · rw [if_neg hc] at h; cases h
theorem locksF_is {T : TL} {q : Nat → Pl} (k : Nat) : (locksF T q T.length k).isSome = decide (k < T.length ∧ ¬ (cd T k).hs.length = 0) := by
  unfold locksF
  have h2 : ci T (k : Int) = cd T k := by simp [ci]
  rw [h2]
  by_cases hc : k < T.length ∧ ¬ (cd T k).hs.length = 0
  · rw [if_pos (by omega), decide_eq_true hc]; rfl
  · rw [if_neg (by omega), decide_eq_false hc]; rfl
set_option maxHeartbeats 1600000 in
set_option maxRecDepth 100000 in
theorem keysWhere_any (m1 m2 m B : Nat) (T : TL) (q : Nat → Pl) (A : Option Addr) (c : Nat) (ss : List Int) (tid : Int) (w : World) (hs : TFit T) (h8 : T.length ≤ 8) (hB : B ≤ w.heap.size) (hL : ∀ j, j < T.length → LsAt w B (cd T j) (q j)) (M2 : MapN Tryz.prog 3 w m2 m (locksF T q T.length))
    (hn : ss.length ≤ 1048576) (hi : IntsAt w w.heap.size A ss.length (fun i => ss.getD i 0)) :
    Calls Tryz.prog 145 #[.agg #[.map (some m1), .map (some m2)], .int .i64 tid, .slice A ss.length c] w (OwnsOut w (keysUp (whereB T ss tid) 8)) := by
  go_enter Tryz.func145, Tryz.ntmps145
  go_wp2_with (first | (at_range; refine wp_range _ rfl _ rfl keyI Tryz.underlying206 rfl ((M2.next ((Below.refl _ _).alloc (Nat.le_refl _) _)).next ((Below.refl _ _).alloc (Nat.le_refl _) _)) ?_; intro w0 hR0 hg0 hs0) | fail)
  go_frame
  have hr1 : ((w.alloc (.cells #[.map (some m1), .map (some m2)] 208)).alloc (.cells #[.bool false, .bool false, .bool false, .bool false, .bool false, .bool false, .bool false, .bool false] 248)).heap.size = w.heap.size + 1 + 1 := by simp
  have hb0 := ((Below.refl w.heap.size w).alloc (Nat.le_refl _) (.cells #[.map (some m1), .map (some m2)] 208)).alloc (by simp) (.cells #[.bool false, .bool false, .bool false, .bool false, .bool false, .bool false, .bool false, .bool false] 248)
  have row0 : ((w.alloc (.cells #[.map (some m1), .map (some m2)] 208)).alloc (.cells #[.bool false, .bool false, .bool false, .bool false, .bool false, .bool false, .bool false, .bool false] 248)).rowIs (w.heap.size + 1) 248 8 (fun _ => .bool false) := by
    have := World.rowIs_alloc (w.alloc (.cells #[.map (some m1), .map (some m2)] 208)) #[.bool false, .bool false, .bool false, .bool false, .bool false, .bool false, .bool false, .bool false] 248 (fun _ => .bool false) (fun i hi => by
      have h8 : i = 0 ∨ i = 1 ∨ i = 2 ∨ i = 3 ∨ i = 4 ∨ i = 5 ∨ i = 6 ∨ i = 7 := by simp at hi; omega
      rcases h8 with rfl | rfl | rfl | rfl | rfl | rfl | rfl | rfl <;> rfl)
    simpa using this
  rw [hr1] at hR0 ⊢
  generalize (w.alloc (.cells #[.map (some m1), .map (some m2)] 208)).alloc (.cells #[.bool false, .bool false, .bool false, .bool false, .bool false, .bool false, .bool false, .bool false] 248) = wa at hb0 row0 hg0 hs0 hr1
  have hbw : Below w.heap.size w w0 := hb0.trans ⟨hg0.os, hg0.tape, hg0.output, hg0.size, fun k hk => hg0.block k (by omega) (by simp)⟩
  have row0 : w0.rowIs (w.heap.size + 1) 248 8 (fun j => .bool (whereB T ss tid j && !(locksF T q T.length (j : Int)).isSome)) := (row0.of_block (hg0.block _ (by omega) (by simp))).congr (fun j _ => by
    rw [locksF_is]
    unfold whereB
    generalize decide (j < T.length ∧ ¬ (cd T j).hs.length = 0) = d
    cases d <;> simp)
  clear hb0 hg0 hr1 hs0
  have hm2 := M2.lt
  have HL := Lib.hid hL
  clear hL M2
  go_loopw [8] (fun _ wr => ∃ left cnt, RanN Tryz.prog 3 wr m2 (w.heap.size + 1 + 1) m (locksF T q T.length) left cnt ∧ wr.rowIs (w.heap.size + 1) 248 8 (fun j => .bool (whereB T ss tid j && !left (j : Int))) ∧ Below w.heap.size w wr) (fun _ wr => wr.rangeLeft m2 (w.heap.size + 1 + 1))
  case atStart => exact ⟨_, _, hR0, row0, hbw⟩
  case round =>
    clear hR0 row0 hbw
    obtain ⟨left, cnt, hR, hrow, hb⟩ := hrel
    have hsz := hb.size
    have hlr := hrow.lt
    go_wp2_with (first | (at_next; refine wp_next _ rfl _ rfl keyI Tryz.underlying3 (fun x => .agg #[.slice (q x.toNat).G (cd T x.toNat).hs.length (q x.toNat).c, .slice (q x.toNat).G' (cd T x.toNat).ws.length (q x.toNat).c']) (fun j v hv => by obtain ⟨k, rfl, _, _, rfl⟩ := locksF_some hv; rfl) rfl hR ?c1 ?c2) | fail)
    case c1 =>
      intro _ hl0
      have hrow := hrow.congr (g := fun j => .bool (whereB T ss tid j)) (fun j _ => by rw [hl0]; simp)
      have e0 := hrow.cell (i := 0) (by omega)
      have e1 := hrow.cell (i := 1) (by omega)
      have e2 := hrow.cell (i := 2) (by omega)
      have e3 := hrow.cell (i := 3) (by omega)
      have e4 := hrow.cell (i := 4) (by omega)
      have e5 := hrow.cell (i := 5) (by omega)
      have e6 := hrow.cell (i := 6) (by omega)
      have e7 := hrow.cell (i := 7) (by omega)
      have HL0 := Lib.hid hl0
      clear hl0 hR hrow
      go_wp2_with fail
      refine (markedKeys_any (whereB T ss tid) _).mono ?_; rintro e w2 ⟨v, rfl, hown, hb2⟩
      have HO := Lib.hid (ownsRow_base hown hsz)
      have hb3 := hb.trans (hb2.mono hsz)
      clear hown hb2 e0 e1 e2 e3 e4 e5 e6 e7
      go_wp2
      go_ret
      exact ⟨_, rfl, HO.out, hb3⟩
    case c2 =>
      intro x w1 cnt1 hlx hfx hwf hR1 hlt hg1 hs1 hen
      obtain ⟨k, rfl, hkT, hk0, _⟩ := locksF_some hfx
      have hk3 : ((k : Int)).toNat = k := by simp
      simp only [hk3] at hen ⊢
      have hfc := Lib.hid hfx
      have hlh := hs.at_ hkT
      have hb1 : Below w.heap.size w w1 := hb.trans ⟨hg1.os, hg1.tape, hg1.output, hg1.size, fun j hj => hg1.block j (by omega) (fun e => by injection e with e; omega)⟩
      have hrow1 := hrow.of_block (hg1.block _ hlr (fun e => by injection e with e; omega))
      have hz1 : wr.heap.size ≤ w1.heap.size := by omega
      have hle := Lib.hid (show w1.rangeLeft m2 (w.heap.size + 1 + 1) < wr.rangeLeft m2 (w.heap.size + 1 + 1) by rw [hR1.left_eq, hR.left_eq]; exact hlt)
      have hrl1 := hR1.lt.1
      have Hc := Lib.hid hR1.left_eq
      clear hfx hwf hk0 hg1 hlx hrow hb hR hlt hk3
      go_wp2_with fail
      have hA := (Below.refl w1.heap.size w1).alloc (Nat.le_refl _) (.cells #[.slice (q k).G (cd T k).hs.length (q k).c, .slice (q k).G' (cd T k).ws.length (q k).c'] 65)
      have hbA := hb1.trans (hA.mono (Nat.le_trans hsz hz1))
      have hIL : LAt _ B (q k).G (q k).G' ((cd T k).hs, (cd T k).ws) := LAt.keep (HL.out k hkT) hbA hB
      generalize w1.alloc (.cells #[.slice (q k).G (cd T k).hs.length (q k).c, .slice (q k).G' (cd T k).ws.length (q k).c'] 65) = w2 at hA hbA hIL ⊢
      refine (implHolds_any _ _ _ _ B (cd T k).hs (cd T k).ws tid _ hlh.1 hlh.2 hIL).mono ?_; rintro e w3 ⟨rfl, hb3⟩
      have hb13 := hA.trans (hb3.mono hA.size)
      have hbw := hb1.trans (hb13.mono (Nat.le_trans hsz hz1))
      clear hA hbA hb3 hIL hb1 hen
      have Hst := Lib.hid (show holdsL (cd T k).hs (cd T k).ws tid = stands T tid k from rfl)
      rw [Hst.out]
      have HW := Lib.hid (show whereB T ss tid k = ss.contains (stands T tid k) by
        unfold whereB
        rw [← locksF_is (q := q), hfc.out]; rfl)
      generalize stands T tid k = z at HW ⊢
      go_wp2_with fail
      refine (contains_any A c _ ss z _ hn (hi.below hbw (Nat.le_refl _))).mono ?_; rintro e w4 ⟨rfl, rfl⟩
      have hrow3 := hrow1.of_block (hb13.block _ (by omega))
      have hR3 := hR1.below hb13 (by omega) (by omega)
      have hk8 : k < 8 := by omega
      have hkz : (k : Int) < 8 := by omega
      have d0 := hrow3.cell (i := k) hk8
      have f0 : w3.frozen? ⟨w.heap.size + 1, k, none⟩ = false := hrow3.frozen _
      have hl3 : w.heap.size + 1 < w3.heap.size := hrow3.lt
      rw [HW.out] at d0
      have HR := Lib.hid hrow3
      have HRan := Lib.hid hR3
      have HBw := Lib.hid hbw
      clear hrow1 hrow3 hR1 hR3 hb13 hbw hfc
      generalize ss.contains z = v at HW d0 ⊢
      generalize (v && !left (k : Int)) = u at d0
      go_wp2
      have t := (Onlys.refl (w.heap.size + 1) (w.heap.size + 1 + 1) w3).setCell (p := ⟨w.heap.size + 1, k, none⟩) (Nat.le_refl _) (Nat.lt_succ_self _) (.bool v)
      refine ⟨⟨_, _, HRan.out.block (t.block _ (.inl (by omega))) (t.block _ (.inr (Nat.le_refl _))), (HR.out.set k (.bool v)).congr (fun j _ => ?_), HBw.out.trans (t.below (Nat.le_succ _))⟩, ?_⟩
      · by_cases e : j = k
        · subst e; rw [if_pos rfl, HW.out]; simp
        · rw [if_neg e]
          have e' : ¬ ((j : Int) = (k : Int)) := by omega
          simp [e']
      · have h3 := (HRan.out.block (w' := w3.setCell ⟨w.heap.size + 1, k, none⟩ (.bool v)) (t.block _ (.inl (by omega))) (t.block _ (.inr (Nat.le_refl _)))).left_eq
        rw [h3, ← Hc.out]
        exact hle.out
end Go.Proofs.YtkpkjcmoldkmmaaGreat
