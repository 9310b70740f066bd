/- Histories: TriesOf of the program. -/
import Derived.Test.YtmphiomalhjciaaHm
import Derived.Lib.OwnKind
namespace Go.Proofs.Ytmphiomalhjciaa
open Go.RowKit

set_option maxHeartbeats 1600000 in
set_option maxRecDepth 100000 in
theorem implTriesOf_any (A : Option Addr) (c B : Nat) (l : List DCommit) (w : World) (hB : B ≤ w.heap.size) (r : RAt fCommit w B A l) :
    Calls Try.prog 43 #[.slice A l.length c] w (RetF intF w (triesOf l)) := by
  have hmx := r.1
  unfold maxLen at hmx
  obtain ⟨i0, hi, hzz⟩ := Option.map_eq_some_iff.1 info_Int
  simp only [Prod.mk.injEq] at hzz
  have Hi := Lib.hid hi
  have Hz0 := Lib.hid hzz.1
  have Hz1 := Lib.hid hzz.2.1
  have Hz2 := Lib.hid hzz.2.2
  clear hi hzz
  go_enter Try.func43, Try.ntmps43
  go_wp2
  go_loopw [3, 8] (fun v i wr => ∃ k n : Nat, k ≤ l.length ∧ i = .int .i64 k ∧ (n : Int) = mostOf l k + 1 ∧ wr.ownsRow w.heap.size 3 1 v n ((trow l k n).map (.int .i64)) ∧ Below w.heap.size w wr ∧ Hid (∀ j d, j < k → l[j]? = some d → 0 ≤ d.2.2.2.1 ∧ d.2.2.2.1 ≤ 300)) (fun _ i _ => l.length - (intOf i).toNat)
  case atStart => exact ⟨0, 0, Nat.zero_le _, rfl, by rw [mostOf_zero]; rfl, World.ownsRow_nil _ _ _ _, Below.refl _ _, Lib.hid (fun j d hj => absurd hj (by omega))⟩
  case round =>
    obtain ⟨k, n, hk, rfl, hn, hown, hb, HA⟩ := hrel
    have hmost := most_bounds HA.out hk
    by_cases hkn : k < l.length
    · obtain ⟨b, off, hA, hbB, hc⟩ := r.2 (by omega)
      have hkz : (k : Int) < l.length := by omega
      have hget : l[k]? = some l[k] := List.getElem?_eq_getElem hkn
      obtain ⟨v, hv0, hat0⟩ := hc k _ hget
      have hsz := hb.size
      have hat := fCommit.at_same hat0 (.of hb hB)
      have hv := hv0.below hb (show b < w.heap.size by omega)
      rw [show fCommit.n = 6 from rfl] at hv
      clear hv0 hat0
      generalize hd : l[k] = d at hget hat
      clear hd
      obtain ⟨A4, c4, A5, c5, rfl, _, _⟩ := at_Commit hat
      subst hA
      obtain ⟨a0, a1, a2, a3, a4, a5⟩ := hv.c6
      clear hc hv hat
      by_cases h0 : d.2.2.2.1 < 0
      · have HF := Lib.hid (fit_no hget (by omega))
        clear hget
        go_wp2
        go_ret
        rw [HF.out]
        exact RetF.nil (hb.alloc hsz _)
      by_cases h3 : 300 < d.2.2.2.1
      · have HF := Lib.hid (fit_no hget (by omega))
        clear hget
        go_wp2
        go_ret
        rw [HF.out]
        exact RetF.nil (hb.alloc hsz _)
      have HA := Lib.hid (show ∀ j d, j < k + 1 → l[j]? = some d → 0 ≤ d.2.2.2.1 ∧ d.2.2.2.1 ≤ 300 from fun j x hj hx => by
          by_cases e : j = k
          · subst e
            rw [hget] at hx
            cases hx
            omega
          · exact HA.out j x (by omega) hx)
      have HG := Lib.hid hget
      have hms := mostOf_succ hget
      clear hget
      have hk1 : (wr.alloc (.cells #[.int .i64 d.1, .int .i64 d.2.1, .int .i64 d.2.2.1, .int .i64 d.2.2.2.1, .slice A4 (d.2.2.2.2.1).length c4, .slice A5 (d.2.2.2.2.2).length c5] 95)).heap[wr.heap.size]? = some (.cells #[.int .i64 d.1, .int .i64 d.2.1, .int .i64 d.2.2.1, .int .i64 d.2.2.2.1, .slice A4 (d.2.2.2.2.1).length c4, .slice A5 (d.2.2.2.2.2).length c5] 95) := Go.Deep.blk_alloc_new _ _
      have hw1 := hown.alloc (.cells #[.int .i64 d.1, .int .i64 d.2.1, .int .i64 d.2.2.1, .int .i64 d.2.2.2.1, .slice A4 (d.2.2.2.2.1).length c4, .slice A5 (d.2.2.2.2.2).length c5] 95)
      have hb1 := hb.alloc hsz (.cells #[.int .i64 d.1, .int .i64 d.2.1, .int .i64 d.2.2.1, .int .i64 d.2.2.2.1, .slice A4 (d.2.2.2.2.1).length c4, .slice A5 (d.2.2.2.2.2).length c5] 95)
      go_wp2
      generalize wr.alloc (.cells #[.int .i64 d.1, .int .i64 d.2.1, .int .i64 d.2.2.1, .int .i64 d.2.2.2.1, .slice A4 (d.2.2.2.2.1).length c4, .slice A5 (d.2.2.2.2.2).length c5] 95) = w1 at hk1 hw1 hb1 ⊢
      generalize wr.heap.size = b0 at hk1 hsz ⊢
      clear hb hown a0 a1 a2 a3 a4 a5
      go_loopw [3] (fun v w2 => ∃ n : Nat, mostOf l k < n ∧ ((n : Int) = mostOf l k + 1 ∨ (n : Int) ≤ d.2.2.2.1 + 1) ∧ w2.ownsRow w.heap.size 3 1 v n ((trow l k n).map (.int .i64)) ∧ Below w.heap.size w w2 ∧ w2.heap[b0]? = some (.cells #[.int .i64 d.1, .int .i64 d.2.1, .int .i64 d.2.2.1, .int .i64 d.2.2.2.1, .slice A4 (d.2.2.2.2.1).length c4, .slice A5 (d.2.2.2.2.2).length c5] 95)) (fun v _ => (d.2.2.2.1 + 1).toNat - lenV v)
      case atStart => exact ⟨n, by omega, .inl hn, hw1, hb1, hk1⟩
      case round =>
        clear hw1 hb1 hk1 hn
        obtain ⟨n, hn1, hn2, hown, hb, hk1⟩ := hrel
        have a3 := kn_cell (j := 3) hk1 rfl
        have hsz2 := hb.size
        by_cases hle : (n : Int) ≤ d.2.2.2.1
        · obtain ⟨X, C, rfl⟩ := sl_form hown
          have HN := Lib.hid (trow_app hn1)
          have hne : ∀ q, (Value.slice X n C).ownBlock = some q → ¬ b0 = q := fun q hq e => by
            obtain ⟨cc, fz, hcc⟩ := Lib.ownsRow_kind hown q hq
            rw [← e, hk1] at hcc
            simp at hcc
          have HNE := Lib.hid hne
          have HK := Lib.hid hk1
          clear hne hk1
          generalize trow l k n = L at hown HN
          go_wp2_with (at_builtin; refine wpList_append_own _ rfl _ _ 31 rfl w.heap.size 3 i0 (.int .i64 0) 1 8 Try.underlying31 Hi.out Hz0.out Hz1.out Hz2.out rfl (by decide) _ _ _ rfl (hown.alloc _) ⟨wr.heap.size, 0, none⟩ 1 1 [.int .i64 0] rfl rfl ?c1 ?c2 ?c3 ?c4 ?c5 ?_)
          case c1 =>
            intro j u hj
            match j, hj with
            | 0, hj => simp at hj; subst hj; simp [Addr.add]
          case c2 => intro u hu; simp at hu; subst hu; rfl
          case c3 => unfold maxLen; omega
          case c4 => omega
          case c5 => simp; omega
          intro v' w3 hown' hgrow _
          have hb3 := (hb.alloc hsz2 (.cells #[.int .i64 0] 3)).grown hgrow (by simp; omega) (fun q hq => (hown.lt q hq).1)
          have hk3 : w3.heap[b0]? = some (.cells #[.int .i64 d.1, .int .i64 d.2.1, .int .i64 d.2.2.1, .int .i64 d.2.2.2.1, .slice A4 (d.2.2.2.2.1).length c4, .slice A5 (d.2.2.2.2.2).length c5] 95) := by
            rw [hgrow.block b0 (by have := (Array.getElem?_eq_some_iff.1 HK.out).1; simp; omega) (fun e => HNE.out b0 e.symm rfl), Below.heap_alloc _ _ _ (Array.getElem?_eq_some_iff.1 HK.out).1]
            exact HK.out
          have hown3 : w3.ownsRow w.heap.size 3 1 v' (n + 1) ((trow l k (n + 1)).map (.int .i64)) := by rw [HN.out]; simpa using hown'
          obtain ⟨X', C', rfl⟩ := sl_form hown3
          clear hown' hgrow hown hb a3
          go_wp2
          exact ⟨⟨n + 1, by omega, by omega, hown3, hb3, hk3⟩, by simp [lenV]; omega⟩
        · obtain ⟨g, cap, rfl⟩ := Go.Joins.ownsRow_form hown (by omega)
          obtain ⟨t, ht⟩ : ∃ t : Nat, d.2.2.2.1 = (t : Int) := ⟨d.2.2.2.1.toNat, by omega⟩
          have hc : wr.cell? ⟨g, t, none⟩ = some (.int .i64 (timesOf l k (t : Int))) := by
            rw [hown.cellAt t (by omega), List.getElem?_map, trow_get (show t < n by omega)]
            rfl
          have hf := hown.frozenAt t
          have hle2 := timesOf_le l k (t : Int)
          have hst := (hown.stored t (.int .i64 ((timesOf l k (t : Int) : Int) + 1))).1
          have hgl := (hown.lt g rfl).1
          have HS := Lib.hid (show (wr.setCell ⟨g, t, none⟩ (.int .i64 ((timesOf l k (t : Int) : Int) + 1))).ownsRow w.heap.size 3 1 (.slice (some ⟨g, 0, none⟩) n cap) n ((trow l (k + 1) n).map (.int .i64)) by
            have e := trow_put (n := n) HG.out ht (by omega)
            rw [← e, List.map_set]
            exact hst)
          have hm : (n : Int) = mostOf l (k + 1) + 1 := by rw [hms]; omega
          rw [ht] at a3 hle h0 h3
          have htn : (t : Int) < n := by omega
          have HM := Lib.hid hm
          clear hst hown hk1 hm hms hmost hn1 hn2
          generalize timesOf l k (t : Int) = q at hc hle2 HS
          go_wp2
          exact ⟨⟨k + 1, n, by omega, by go_num, HM.out, HS.out, hb.setCell hgl _, HA⟩, by simp [intOf]; omega⟩
    · obtain rfl : k = l.length := by omega
      have e : triesOf l = trow l l.length n := by rw [fit_yes HA.out, show (mostOf l l.length + 1).toNat = n by omega]
      have hl : (triesOf l).length = n := by rw [e, trow_len]
      obtain ⟨A', c', rfl, ho⟩ := rown_ints (l := triesOf l) (by rw [hl, e]; exact hown) (by rw [hl]; unfold maxLen; omega)
      have HO := Lib.hid ho
      clear ho hown e hl
      go_wp2
      go_ret
      exact ⟨A', c', rfl, hb, HO.out⟩
end Go.Proofs.Ytmphiomalhjciaa
