/- CoversWants: the program's and the model's. -/
import Derived.Test.YtognfnfbmbfidaaVz
import Derived.Laws.StructEq
namespace Go.Proofs.Ytognfnfbmbfidaa
open Go.RowKit

theorem run_neq_want (a b : Int) (x y : Bool) (w : World) : (binOp .neq 32 (.agg #[.int .i64 a, .bool x]) (.agg #[.int .i64 b, .bool y])).run Try.prog w = .ok (.bool (!((a == b) && (x == y)))) w := by
  have hu := Try.underlying32
  rw [run_neq_struct, run_equalIn_struct w 9999 _ _ _ (by simp only [Program.fieldsOf, hu]) (by kernel_rfl)]
  simp only [Program.fieldsOf, hu]
  simp [Op.eqFields, part, Sem.run_bind, go_sem, Try.underlying3, Try.underlying4]
  by_cases e : a = b
  · subst e
    cases x <;> cases y <;> simp
  · have : (a == b) = false := beq_eq_false_iff_ne.2 e
    simp [this, e]

def SameTo (a b : HL) (k : Nat) : Prop := ∀ j, j < k → hT a j = hT b j ∧ hW a j = hW b j
theorem SameTo.next {a b : HL} {k : Nat} (h : SameTo a b k) (e1 : hT a k = hT b k) (e2 : hW a k = hW b k) : SameTo a b (k + 1) := fun j hj => by
  by_cases e : j = k
  · subst e; exact ⟨e1, e2⟩
  · exact h j (by omega)
theorem SameTo.eq {a b : HL} (hl : a.length = b.length) (h : SameTo a b a.length) : decide (a = b) = true := by
  rw [decide_eq_true_iff]
  apply List.ext_getElem hl
  intro i h1 h2
  rw [← hT_get h1, ← hT_get h2, (h i h1).1, (h i h1).2]
theorem ne_at {a b : HL} {k : Nat} (h : ¬ (hT a k = hT b k ∧ hW a k = hW b k)) : decide (a = b) = false := by
  rw [decide_eq_false_iff_not]
  rintro rfl
  exact h ⟨rfl, rfl⟩
theorem ne_len {a b : HL} (h : ¬ a.length = b.length) : decide (a = b) = false := by
  rw [decide_eq_false_iff_not]
  rintro rfl
  exact h rfl

set_option maxHeartbeats 1600000 in
set_option maxRecDepth 100000 in
theorem equalW_any (A A' : Option Addr) (c c' B : Nat) (a b : HL) (w : World) (hn : a.length ≤ 1048576) (h : HAt w B A a) (h' : HAt w B A' b) :
    Calls Try.prog 59 #[.slice A a.length c, .slice A' b.length c'] w fun e w' => e = .returned (.bool (decide (a = b))) ∧ Below w.heap.size w w' := by
  have h := h.lt
  have h' := h'.lt
  by_cases hl : a.length = b.length
  · generalize hN : a.length = n at hn hl ⊢
    have hlb : b.length = n := hl.symm
    rw [hlb]
    have HNA := Lib.hid hN
    have HNB := Lib.hid hlb
    clear hN hlb hl
    go_enter Try.func59, Try.ntmps59
    go_wp2
    go_loopw [13] (fun i wr => ∃ k : Nat, k ≤ n ∧ i = .int .i64 k ∧ Below w.heap.size w wr ∧ SameTo a b k) (fun i _ => n - (intOf i).toNat)
    case atStart => exact ⟨0, Nat.zero_le _, rfl, Below.refl _ _, fun j hj => absurd hj (by omega)⟩
    case round =>
      obtain ⟨k, hk, rfl, hb, hall⟩ := hrel
      have Hall := Lib.hid hall
      clear hall
      by_cases hkn : k < n
      · obtain ⟨b1, off, rfl, hB, hc⟩ := h (by have := HNA.out; omega)
        obtain ⟨b2, off2, rfl, hB2, hc2⟩ := h' (by have := HNB.out; omega)
        have hkz : (k : Int) < n := by omega
        have d0 : wr.cell? ⟨b1, off + k * 2, none⟩ = some (.int .i64 (hT a k)) := (hb.cell (p := ⟨b1, off + k * 2, none⟩) hB).trans (hc k (by have := HNA.out; omega)).1
        have d1 : wr.cell? ⟨b1, off + k * 2 + 1, none⟩ = some (.bool (hW a k)) := (hb.cell (p := ⟨b1, off + k * 2 + 1, none⟩) hB).trans (hc k (by have := HNA.out; omega)).2
        have d0' : wr.cell? ⟨b2, off2 + k * 2, none⟩ = some (.int .i64 (hT b k)) := (hb.cell (p := ⟨b2, off2 + k * 2, none⟩) hB2).trans (hc2 k (by have := HNB.out; omega)).1
        have d1' : wr.cell? ⟨b2, off2 + k * 2 + 1, none⟩ = some (.bool (hW b k)) := (hb.cell (p := ⟨b2, off2 + k * 2 + 1, none⟩) hB2).trans (hc2 k (by have := HNB.out; omega)).2
        have AF := Lib.hid (fun n => below_drewN hb n)
        have HS := Lib.hid (fun e1 e2 => Hall.out.next (k := k) e1 e2)
        have HD := Lib.hid (fun e => ne_at (a := a) (b := b) (k := k) e)
        clear hb hc hc2 h h'
        generalize hT a k = x1 at d0 HS HD
        generalize hW a k = x2 at d1 HS HD
        generalize hT b k = y1 at d0' HS HD
        generalize hW b k = y2 at d1' HS HD
        have hq := run_neq_want x1 y1 x2 y2
        by_cases hxy : x1 = y1 ∧ x2 = y2
        · have e : (!((x1 == y1) && (x2 == y2))) = false := by simp [hxy.1, hxy.2]
          have HXY := Lib.hid hxy
          clear hxy
          rw [e] at hq
          clear e
          go_wp2_with fail
          go_quiet (fail)
          have hb2 := AF.out nq
          clear AF d0 d1 d0' d1'
          generalize World.drewN _ nq = w2 at hb2 ⊢
          go_wp2
          exact ⟨⟨k + 1, by omega, by go_num, hb2, HS.out HXY.out.1 HXY.out.2⟩, by simp [intOf]; omega⟩
        · have e : (!((x1 == y1) && (x2 == y2))) = true := by
            simp only [Bool.not_eq_true', Bool.and_eq_false_iff, beq_eq_false_iff_ne]
            by_cases e1 : x1 = y1
            · right; exact fun e2 => hxy ⟨e1, e2⟩
            · left; exact e1
          have HE := Lib.hid (HD.out hxy)
          clear hxy
          rw [e] at hq
          clear e
          go_wp2_with fail
          go_quiet (fail)
          have hb2 := AF.out nq
          clear AF d0 d1 d0' d1'
          generalize World.drewN _ nq = w2 at hb2 ⊢
          go_wp2
          go_ret
          exact ⟨ret_bool HE.out.symm, hb2⟩
      · obtain rfl : k = n := by omega
        go_wp2
        go_ret
        exact ⟨ret_bool (SameTo.eq (HNA.out.trans HNB.out.symm) (by rw [HNA.out]; exact Hall.out)).symm, hb⟩
  · have hlz : ¬ (a.length : Int) = b.length := by omega
    have HE := Lib.hid (ne_len hl)
    go_enter Try.func59, Try.ntmps59
    go_wp2
    go_ret
    exact ⟨ret_bool HE.out.symm, Below.refl _ _⟩

theorem covO_no {a b : HL} (h : (wantsB a && wantsB b) = false) : covO a b = false := by unfold covO; rw [h]; rfl
theorem covO_eq {a b : HL} (h : (wantsB a && wantsB b) = true) : covO a b = decide (mrgA a b = a) := by
  have h2 := h
  simp only [Bool.and_eq_true] at h2
  have := cover_mrg h2.1 h2.2
  unfold covO mrgA
  rw [if_pos h, h, Bool.true_and, Bool.eq_iff_iff, decide_eq_true_iff]
  exact this.symm

set_option maxHeartbeats 800000 in
set_option maxRecDepth 100000 in
theorem implCovers_any (A A' : Option Addr) (c c' B : Nat) (a b : HL) (w : World) (hn : a.length ≤ 1048576) (hn' : b.length ≤ 1048576) (hBw : B ≤ w.heap.size) (hc : a.length ≤ c) (hc' : b.length ≤ c') (h0 : A = Option.none → c = 0) (h0' : A' = Option.none → c' = 0) (h : HAt w B A a) (h' : HAt w B A' b) :
    Calls Try.prog 18 #[.slice A a.length c, .slice A' b.length c'] w fun e w' => e = .returned (.bool (covO a b)) ∧ Below w.heap.size w w' := by
  go_enter Try.func18, Try.ntmps18
  go_wp2_with fail
  refine (implMerge_any A A' c c' B a b _ hn hn' hBw hc hc' h0 h0' h h').mono ?_; rintro e w1 ⟨A3, c3, he, hl3, hn3, HO, hb1⟩
  have he : e = .returned (.tuple #[.slice A3 (mrgA a b).length c3, .bool (wantsB a && wantsB b)]) := he
  subst he
  have HML := Lib.hid (mrgA_len a b)
  cases hA : (wantsB a && wantsB b) with
  | false =>
    have HE := Lib.hid (covO_no hA)
    clear hA
    go_wp2
    go_ret
    exact ⟨ret_bool HE.out.symm, hb1⟩
  | true =>
    have HE := Lib.hid (covO_eq hA)
    clear hA
    go_wp2_with fail
    refine (equalW_any A3 A c3 c w1.heap.size (mrgA a b) a _ (by have := HML.out; omega) HO.at_ (h.below (hb1.mono hBw) (by have := hb1.size; omega))).mono ?_; rintro e w2 ⟨rfl, hb2⟩
    go_wp2
    go_ret
    exact ⟨ret_bool HE.out.symm, hb1.trans (hb2.mono hb1.size)⟩
theorem implCovers_some (g q g' q' c c' B : Nat) (a b : HL) (w : World) (hn : a.length ≤ 1048576) (hn' : b.length ≤ 1048576) (hBw : B ≤ w.heap.size) (hc : a.length ≤ c) (hc' : b.length ≤ c') (h : HAt w B (some ⟨g, q, Option.none⟩) a) (h' : HAt w B (some ⟨g', q', Option.none⟩) b) :
    Calls Try.prog 18 #[.slice (some ⟨g, q, Option.none⟩) a.length c, .slice (some ⟨g', q', Option.none⟩) b.length c'] w fun e w' => e = .returned (.bool (covO a b)) ∧ Below w.heap.size w w' :=
  implCovers_any _ _ c c' B a b w hn hn' hBw hc hc' (fun h => by cases h) (fun h => by cases h) h h'

def FoundTo (a : HL) (x : Int) (y : Bool) (k : Nat) : Bool := (a.take k).any fun z => z.1 == x && (z.2 || !y)
theorem found_step {a : HL} {x : Int} {y : Bool} {k : Nat} (hk : k < a.length) : FoundTo a x y (k + 1) = (FoundTo a x y k || (hT a k == x && (hW a k || !y))) := by
  unfold FoundTo
  rw [List.take_succ_eq_append_getElem hk, List.any_append, ← hT_get hk]
  simp
theorem found_all (a b : HL) (k : Nat) : FoundTo a (hT b k) (hW b k) a.length = covZ a (hT b k, hW b k) := by
  unfold FoundTo covZ
  rw [List.take_length]
def CovTo (a b : HL) (k : Nat) : Prop := ∀ j, j < k → covZ a (hT b j, hW b j) = true
theorem CovTo.next {a b : HL} {k : Nat} (h : CovTo a b k) (e : covZ a (hT b k, hW b k) = true) : CovTo a b (k + 1) := fun j hj => by
  by_cases ej : j = k
  · subst ej; exact e
  · exact h j (by omega)
theorem CovTo.yes {a b : HL} (h : CovTo a b b.length) (e : (wantsB a && wantsB b) = true) : covO a b = true := by
  unfold covO covL
  rw [e, Bool.true_and, List.all_eq_true]
  intro z hz
  obtain ⟨j, hj, rfl⟩ := List.getElem_of_mem hz
  rw [← hT_get hj]
  exact h j hj
theorem cov_no {a b : HL} {k : Nat} (hk : k < b.length) (e : covZ a (hT b k, hW b k) = false) : covO a b = false := by
  unfold covO covL
  rw [Bool.and_eq_false_iff]
  right
  rw [Bool.eq_false_iff]
  intro hp
  rw [List.all_eq_true] at hp
  have := hp b[k] (List.getElem_mem hk)
  rw [← hT_get hk, e] at this
  cases this

set_option maxHeartbeats 3200000 in
set_option maxRecDepth 100000 in
theorem specCovers_any (A A' : Option Addr) (c c' B : Nat) (a b : HL) (w : World) (hn : a.length ≤ 1048576) (hn' : b.length ≤ 1048576) (hBw : B ≤ w.heap.size) (h : HAt w B A a) (h' : HAt w B A' b) :
    Calls Try.prog 48 #[.slice A a.length c, .slice A' b.length c'] w fun e w' => e = .returned (.bool (covO a b)) ∧ Below w.heap.size w w' := by
  go_enter Try.func48, Try.ntmps48
  go_wp2_with fail
  refine (specWantsOk_any A c B a _ (by omega) h).mono ?_; rintro e w1 ⟨rfl, hb1⟩
  have hs1 := hb1.size
  cases hA : wantsB a with
  | false =>
    go_wp2
    go_ret
    exact ⟨ret_bool (covO_no (by rw [hA]; rfl)).symm, hb1⟩
  | true =>
    have HA := Lib.hid hA
    clear hA
    go_wp2_with fail
    refine (specWantsOk_any A' c' B b _ (by omega) (h'.below (hb1.mono hBw) (Nat.le_refl _))).mono ?_; rintro e w2 ⟨rfl, hb2⟩
    have b2 := hb1.trans (hb2.mono hs1)
    cases hB : wantsB b with
    | false =>
      go_wp2
      go_ret
      exact ⟨ret_bool (covO_no (by rw [HA.out, hB]; rfl)).symm, b2⟩
    | true =>
      have HBB := Lib.hid (show (wantsB a && wantsB b) = true by rw [HA.out, hB]; rfl)
      have h := (h.below (b2.mono hBw) (Nat.le_refl _)).lt
      have h' := (h'.below (b2.mono hBw) (Nat.le_refl _)).lt
      have hs2 := b2.size
      clear hB HA hb1 hb2 hs1
      go_wp2
      go_loopw [5] (fun i wr => ∃ k : Nat, k ≤ b.length ∧ i = .int .i64 k ∧ Below w2.heap.size w2 wr ∧ CovTo a b k) (fun i _ => b.length - (intOf i).toNat)
      case atStart => exact ⟨0, Nat.zero_le _, rfl, Below.refl _ _, fun j hj => absurd hj (by omega)⟩
      case round =>
        obtain ⟨k, hk, rfl, hb, hall⟩ := hrel
        have Hall := Lib.hid hall
        clear hall
        by_cases hkn : k < b.length
        · have hkz : (k : Int) < b.length := by omega
          obtain ⟨b2', off2, rfl, hB2, hc2⟩ := h' (by omega)
          have hcc := hc2 k hkn
          have HY := Lib.hid (fun e => Hall.out.next (k := k) e)
          have HN := Lib.hid (fun e => cov_no (a := a) (k := k) hkn e)
          have HF := Lib.hid (found_all a b k)
          generalize hT b k = x at hcc HY HN HF
          generalize hW b k = y at hcc HY HN HF
          clear hc2
          go_wp2
          go_loopw [6, 7] (fun f i wq => ∃ j : Nat, j ≤ a.length ∧ i = .int .i64 j ∧ f = .bool (FoundTo a x y j) ∧ Below w2.heap.size w2 wq) (fun _ i _ => a.length - (intOf i).toNat)
          case atStart => exact ⟨0, Nat.zero_le _, rfl, rfl, hb⟩
          case round =>
            rename_i _ _ wq _
            obtain ⟨j, hj, rfl, rfl, hbq⟩ := hrel
            clear hb
            by_cases hja : j < a.length
            · have hjz : (j : Int) < a.length := by omega
              obtain ⟨b1', off, rfl, hB1, hc1⟩ := h (by omega)
              have d0 := (hbq.cell (p := ⟨b1', off + j * 2, none⟩) hB1).trans (hc1 j hja).1
              have d1 := (hbq.cell (p := ⟨b1', off + j * 2 + 1, none⟩) hB1).trans (hc1 j hja).2
              have d0' := (hbq.cell (p := ⟨b2', off2 + k * 2, none⟩) hB2).trans hcc.1
              have d1' := (hbq.cell (p := ⟨b2', off2 + k * 2 + 1, none⟩) hB2).trans hcc.2
              have AF := Lib.hid (fun n => below_drewN hbq n)
              have HS := Lib.hid (found_step (x := x) (y := y) hja)
              clear hbq hc1
              generalize hT a j = x1 at d0 HS
              generalize hW a j = y1 at d1 HS
              have hcc := Lib.hid hcc
              have h := Lib.hid h
              have h' := Lib.hid h'
              by_cases hx : x1 = x
              · have e1 : (x1 == x) = true := beq_iff_eq.2 hx
                rw [e1] at HS
                clear e1
                subst hx
                cases y1 with
                | true =>
                  go_wp2_with fail
                  go_quiet (fail)
                  have hb2 := AF.out nq
                  clear AF d0 d1 d0' d1'
                  generalize World.drewN _ nq = w3 at hb2 ⊢
                  go_wp2
                  exact ⟨⟨j + 1, by omega, by go_num, by rw [HS.out]; simp, hb2⟩, by simp [intOf]; omega⟩
                | false =>
                  cases y with
                  | true =>
                    go_wp2_with fail
                    go_quiet (fail)
                    have hb2 := AF.out nq
                    clear AF d0 d1 d0' d1'
                    generalize World.drewN _ nq = w3 at hb2 ⊢
                    go_wp2
                    exact ⟨⟨j + 1, by omega, by go_num, by rw [HS.out]; simp, hb2⟩, by simp [intOf]; omega⟩
                  | false =>
                    go_wp2_with fail
                    go_quiet (fail)
                    have hb2 := AF.out nq
                    clear AF d0 d1 d0' d1'
                    generalize World.drewN _ nq = w3 at hb2 ⊢
                    go_wp2
                    exact ⟨⟨j + 1, by omega, by go_num, by rw [HS.out]; simp, hb2⟩, by simp [intOf]; omega⟩
              · have e1 : (x1 == x) = false := beq_eq_false_iff_ne.2 hx
                rw [e1] at HS
                go_wp2_with fail
                go_quiet (fail)
                have hb2 := AF.out nq
                clear AF d0 d1 d0' d1' e1
                generalize World.drewN _ nq = w3 at hb2 ⊢
                go_wp2
                exact ⟨⟨j + 1, by omega, by go_num, by rw [HS.out]; simp, hb2⟩, by simp [intOf]; omega⟩
            · obtain rfl : j = a.length := by omega
              rw [HF.out]
              cases hz : covZ a (x, y) with
              | false =>
                have HE := Lib.hid (HN.out hz)
                clear hz
                go_wp2
                go_ret
                exact ⟨ret_bool HE.out.symm, b2.trans (hbq.mono hs2)⟩
              | true =>
                have HE := Lib.hid (HY.out hz)
                clear hz
                go_wp2
                exact ⟨⟨k + 1, by omega, by go_num, hbq, HE.out⟩, by simp [intOf]; omega⟩
        · obtain rfl : k = b.length := by omega
          have HE := Lib.hid (Hall.out.yes HBB.out)
          go_wp2
          go_ret
          exact ⟨ret_bool HE.out.symm, b2.trans (hb.mono hs2)⟩
end Go.Proofs.Ytognfnfbmbfidaa
