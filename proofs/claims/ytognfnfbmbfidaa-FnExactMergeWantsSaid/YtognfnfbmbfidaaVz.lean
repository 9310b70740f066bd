/- MergeWants: the model's and the program's. -/
import Derived.Test.YtognfnfbmbfidaaVy
import Derived.Test.YtognfnfbmbfidaaVc
namespace Go.Proofs.Ytognfnfbmbfidaa
open Go.RowKit

theorem mrgA_no {a b : HL} (h : (wantsB a && wantsB b) = false) : mrgA a b = [] := by unfold mrgA; rw [h]; rfl
theorem mrgA_yes {a b : HL} (h : (wantsB a && wantsB b) = true) : mrgA a b = mrgO a b := by unfold mrgA; rw [if_pos h]

theorem RetHC.noneM {w w' : World} {a b : HL} (h : Below w.heap.size w w') (e : (wantsB a && wantsB b) = false) : RetHC w (mrgA a b) (fun v => .tuple #[v, .bool (wantsB a && wantsB b)]) (.returned (.tuple #[.slice Option.none 0 0, .bool false])) w' := by
  rw [mrgA_no e, e]
  exact ⟨Option.none, 0, rfl, Nat.zero_le _, fun _ => rfl, fun hn => by simp at hn, h⟩
theorem RetHC.yesM {w w' : World} {a b : HL} {A : Option Addr} {c : Nat} (e : (wantsB a && wantsB b) = true) (h1 : (mrgA a b).length ≤ c) (h2 : A = Option.none → c = 0) (h3 : HOwn w' w.heap.size w'.heap.size A (mrgA a b)) (h : Below w.heap.size w w') : RetHC w (mrgA a b) (fun v => .tuple #[v, .bool (wantsB a && wantsB b)]) (.returned (.tuple #[.slice A (mrgA a b).length c, .bool true])) w' := by
  rw [e]
  exact ⟨A, c, rfl, h1, h2, h3, h⟩
theorem RetH.yesM {w w' : World} {a b : HL} {A : Option Addr} {c : Nat} (e : (wantsB a && wantsB b) = true) (h3 : HOwn w' w.heap.size w'.heap.size A (mrgA a b)) (h : Below w.heap.size w w') : RetH w (mrgA a b) (fun v => .tuple #[v, .bool (wantsB a && wantsB b)]) (.returned (.tuple #[.slice A (mrgA a b).length c, .bool true])) w' := by
  rw [e]
  exact ⟨A, c, rfl, h3, h⟩

set_option maxHeartbeats 800000 in
set_option maxRecDepth 100000 in
theorem implMerge_any (A A' : Option Addr) (c c' B : Nat) (a b : HL) (w : World) (hn : a.length ≤ 1048576) (hn' : b.length ≤ 1048576) (hBw : B ≤ w.heap.size) (hc : a.length ≤ c) (hc' : b.length ≤ c') (h0 : A = Option.none → c = 0) (h0' : A' = Option.none → c' = 0) (h : HAt w B A a) (h' : HAt w B A' b) :
    Calls Try.prog 17 #[.slice A a.length c, .slice A' b.length c'] w (RetHC w (mrgA a b) (fun v => .tuple #[v, .bool (wantsB a && wantsB b)])) := by
  go_enter Try.func17, Try.ntmps17
  go_wp2_with fail
  refine (implWantsOk_any A c B a _ (by omega) h).mono ?_; rintro e w1 ⟨rfl, hb1⟩
  have hs1 := hb1.size
  cases hA : wantsB a with
  | false =>
    go_wp2
    exact bodyPost_ret (v := .tuple #[.slice Option.none 0 0, .bool false]) (by simp [results, Try.results17, go_sem]) rfl (RetHC.noneM hb1 (by rw [hA]; rfl))
  | true =>
    have HA := Lib.hid hA
    go_wp2_with fail
    refine (implWantsOk_any A' c' B b _ (by omega) (h'.below (hb1.mono hBw) (Nat.le_refl _))).mono ?_; rintro e w2 ⟨rfl, hb2⟩
    have hs2 := hb2.size
    have b2 := hb1.trans (hb2.mono hs1)
    cases hB : wantsB b with
    | false =>
      go_wp2
      exact bodyPost_ret (v := .tuple #[.slice Option.none 0 0, .bool false]) (by simp [results, Try.results17, go_sem]) rfl (RetHC.noneM b2 (by rw [HA.out, hB]; rfl))
    | true =>
      have HBB := Lib.hid (show (wantsB a && wantsB b) = true by rw [HA.out, hB]; rfl)
      have LA := Lib.hid (wants_len HA.out)
      have LB := Lib.hid (wants_len hB)
      have HM := Lib.hid ((mrgA_yes (a := a) (b := b) (by rw [HA.out, hB]; rfl)).trans (mergeR_is HA.out hB).symm)
      go_wp2_with fail
      refine (merged_any A A' c c' B a b _ (by have := LA.out; have := LB.out; omega) (by omega) hc hc' h0 h0' (h.below (b2.mono hBw) (Nat.le_refl _)) (h'.below (b2.mono hBw) (Nat.le_refl _))).mono ?_; rintro e w3 ⟨A3, c3, rfl, hl3, hn3, HO, hb3⟩
      rw [← HM.out] at hl3 HO ⊢
      go_wp2
      exact bodyPost_ret (v := .tuple #[.slice A3 (mrgA a b).length c3, .bool true]) (by simp [results, Try.results17, go_sem]) rfl (RetHC.yesM HBB.out hl3 hn3 (HO.more (by omega) (Nat.le_refl _)) (b2.trans (hb3.mono (by omega))))

theorem implMerge_some (g q g' q' c c' B : Nat) (a b : HL) (w : World) (hn : a.length ≤ 1048576) (hn' : b.length ≤ 1048576) (hBw : B ≤ w.heap.size) (hc : a.length ≤ c) (hc' : b.length ≤ c') (h : HAt w B (some ⟨g, q, Option.none⟩) a) (h' : HAt w B (some ⟨g', q', Option.none⟩) b) :
    Calls Try.prog 17 #[.slice (some ⟨g, q, Option.none⟩) a.length c, .slice (some ⟨g', q', Option.none⟩) b.length c'] w (RetH w (mrgA a b) (fun v => .tuple #[v, .bool (wantsB a && wantsB b)])) :=
  (implMerge_any _ _ c c' B a b w hn hn' hBw hc hc' (fun h => by cases h) (fun h => by cases h) h h').mono fun _ _ h => h.ret

/-- what the outer loop of the model's merging carries -/
structure MgS (w wr : World) (M : Nat) (a b : HL) (v : Value) (k : Nat) : Prop where
  row : RowW wr w.heap.size M v (mrgF a b 0 k)
  bel : Below w.heap.size w wr
  hM : M ≤ wr.heap.size

set_option maxHeartbeats 3200000 in
set_option maxRecDepth 100000 in
theorem specMerge_any (A A' : Option Addr) (c c' B : Nat) (a b : HL) (w : World) (hn : a.length ≤ 1048576) (hn' : b.length ≤ 1048576) (hBw : B ≤ w.heap.size) (h : HAt w B A a) (h' : HAt w B A' b) :
    Calls Try.prog 16 #[.slice A a.length c, .slice A' b.length c'] w (RetH w (mrgA a b) (fun v => .tuple #[v, .bool (wantsB a && wantsB b)])) := by
  obtain ⟨i0, hi, hz0, hz1, hz2⟩ := info_parts infoWant
  have Hi := Lib.hid hi
  have Hz0 := Lib.hid hz0
  have Hz1 := Lib.hid hz1
  have Hz2 := Lib.hid hz2
  clear hi hz0 hz1 hz2
  have bel0 := (Below.refl w.heap.size w).alloc (Nat.le_refl _) (.cells #[] 32)
  have ho0 := fun m => RowW.made w 32 m rfl
  have hs0 := bel0.size
  go_enter Try.func16, Try.ntmps16
  go_wp2_with fail
  refine (specWantsOk_any A c B a _ (by omega) (h.below (bel0.mono hBw) (Nat.le_refl _))).mono ?_; rintro e w1 ⟨rfl, hb1⟩
  have hs1 := hb1.size
  have b1 := bel0.trans (hb1.mono hs0)
  have ho1 := fun m => (ho0 m).next hb1
  cases hA : wantsB a with
  | false =>
    go_wp2
    exact bodyPost_ret (v := .tuple #[.slice Option.none 0 0, .bool false]) (by simp [results, Try.results16, go_sem]) rfl ((RetHC.noneM b1 (by rw [hA]; rfl)).ret)
  | true =>
    have HA := Lib.hid hA
    go_wp2_with fail
    refine (specWantsOk_any A' c' B b _ (by omega) (h'.below (b1.mono hBw) (Nat.le_refl _))).mono ?_; rintro e w2 ⟨rfl, hb2⟩
    have hs2 := hb2.size
    have b2 := b1.trans (hb2.mono (by omega))
    cases hB : wantsB b with
    | false =>
      go_wp2
      exact bodyPost_ret (v := .tuple #[.slice Option.none 0 0, .bool false]) (by simp [results, Try.results16, go_sem]) rfl ((RetHC.noneM b2 (by rw [HA.out, hB]; rfl)).ret)
    | true =>
      have HBB := Lib.hid (show (wantsB a && wantsB b) = true by rw [HA.out, hB]; rfl)
      have HM := Lib.hid (mrgA_yes (a := a) (b := b) (by rw [HA.out, hB]; rfl))
      have ho2 := (ho1 w2.heap.size).next hb2
      have hM2 : w2.heap.size ≤ w2.heap.size := Nat.le_refl _
      have hwM : w.heap.size ≤ w2.heap.size := b2.size
      have ha2 := h.below (b2.mono hBw) (Nat.le_refl _)
      have hb2' := h'.below (b2.mono hBw) (Nat.le_refl _)
      clear hb1 hb2 ho0 ho1 bel0 b1 hs0 hs1 hs2 ha2 hb2'
      generalize hM : w2.heap.size = M at ho2 hM2 hwM
      have hM0 : M ≤ w2.heap.size := by omega
      clear hM hM2
      go_wp2
      go_loopw [6, 7] (fun v i wr => ∃ k : Nat, k ≤ 8 ∧ i = .int .i64 k ∧ MgS w wr M a b v k) (fun _ i _ => 8 - (intOf i).toNat)
      case atStart => exact ⟨0, by omega, rfl, ho2, b2, hM0⟩
      case round =>
        obtain ⟨k, hk, rfl, HS⟩ := hrel
        clear b2 hM0 ho2
        by_cases hk8 : k < 8
        · have hkz : (k : Int) < 8 := by omega
          have HS := Lib.hid HS
          have ha2 := h.below (HS.out.bel.mono hBw) (Nat.le_refl _)
          have hb2 := h'.below (HS.out.bel.mono hBw) (Nat.le_refl _)
          have STEP := Lib.hid (mrgF_snoc a b k)
          have LEN := Lib.hid (mrgF_len a b 0 k)
          have hszr := HS.out.bel.size
          have hMr := HS.out.hM
          go_wp2
          go_loopw [8, 9, 10] (fun x y i wq => ∃ j : Nat, j ≤ a.length ∧ i = .int .i64 j ∧ x = .bool (hasK (a.take j) k) ∧ y = .bool (wrK (a.take j) k) ∧ wq = wr) (fun _ _ i _ => a.length - (intOf i).toNat)
          case atStart => exact ⟨0, Nat.zero_le _, rfl, rfl, rfl, rfl⟩
          case round =>
            obtain ⟨j, hj, rfl, rfl, rfl, rfl⟩ := hrel
            by_cases hja : j < a.length
            · obtain ⟨b1, off, rfl, hB1, hc1⟩ := ha2 (by omega)
              have hjz : (j : Int) < a.length := by omega
              have d0 := (hc1 j hja).1
              have d1 := (hc1 j hja).2
              have HK := Lib.hid (hasK_take (k := k) hja)
              have HW := Lib.hid (wrK_take (k := k) hja)
              clear hc1
              by_cases he : hT a j = (k : Int)
              · rw [he] at d0
                have e1 : (hT a j == (k : Int)) = true := beq_iff_eq.2 he
                rw [e1] at HK HW
                generalize wrK (a.take j) k = y at HW ⊢
                cases y with
                | true =>
                  go_wp2
                  exact ⟨⟨j + 1, by omega, by go_num, by rw [HK.out]; simp, by rw [HW.out]; simp, trivial⟩, by simp [intOf]; omega⟩
                | false =>
                  go_wp2
                  exact ⟨⟨j + 1, by omega, by go_num, by rw [HK.out]; simp, by rw [HW.out]; simp, trivial⟩, by simp [intOf]; omega⟩
              · have e1 : (hT a j == (k : Int)) = false := beq_eq_false_iff_ne.2 he
                rw [e1] at HK HW
                generalize hT a j = t at d0 he e1
                go_wp2
                exact ⟨⟨j + 1, by omega, by go_num, by rw [HK.out]; simp, by rw [HW.out]; simp, trivial⟩, by simp [intOf]; omega⟩
            · obtain rfl : j = a.length := by omega
              rw [List.take_length]
              go_wp2
              go_loopw [8, 9, 11] (fun x y i wq => ∃ j : Nat, j ≤ b.length ∧ i = .int .i64 j ∧ x = .bool (hasK a k || hasK (b.take j) k) ∧ y = .bool (wrK a k || wrK (b.take j) k) ∧ wq = wr) (fun _ _ i _ => b.length - (intOf i).toNat)
              case atStart => exact ⟨0, Nat.zero_le _, rfl, by simp [hasK], by simp [wrK], rfl⟩
              case round =>
                obtain ⟨j, hj', rfl, rfl, rfl, rfl⟩ := hrel
                by_cases hjb : j < b.length
                · obtain ⟨b1, off, rfl, hB1, hc1⟩ := hb2 (by omega)
                  have hjz : (j : Int) < b.length := by omega
                  have d0 := (hc1 j hjb).1
                  have d1 := (hc1 j hjb).2
                  have HK := Lib.hid (hasK_take (k := k) hjb)
                  have HW := Lib.hid (wrK_take (k := k) hjb)
                  clear hc1
                  by_cases he : hT b j = (k : Int)
                  · rw [he] at d0
                    have e1 : (hT b j == (k : Int)) = true := beq_iff_eq.2 he
                    rw [e1] at HK HW
                    generalize hy : (wrK a k || wrK (b.take j) k) = y
                    have HY := Lib.hid hy
                    clear hy
                    cases y with
                    | true =>
                      go_wp2
                      exact ⟨⟨j + 1, by omega, by go_num, by rw [HK.out]; simp, by rw [HW.out, ← Bool.or_assoc, HY.out]; simp, trivial⟩, by simp [intOf]; omega⟩
                    | false =>
                      go_wp2
                      exact ⟨⟨j + 1, by omega, by go_num, by rw [HK.out]; simp, by rw [HW.out, ← Bool.or_assoc, HY.out]; simp, trivial⟩, by simp [intOf]; omega⟩
                  · have e1 : (hT b j == (k : Int)) = false := beq_eq_false_iff_ne.2 he
                    rw [e1] at HK HW
                    generalize hT b j = t at d0 he e1
                    go_wp2
                    exact ⟨⟨j + 1, by omega, by go_num, by rw [HK.out]; simp, by rw [HW.out]; simp, trivial⟩, by simp [intOf]; omega⟩
                · obtain rfl : j = b.length := by omega
                  rw [List.take_length]
                  clear ha2 hb2
                  generalize (hasK a k || hasK b k) = x at STEP ⊢
                  generalize (wrK a k || wrK b k) = y at STEP ⊢
                  have HY := Lib.hid (fun e : x = true => (STEP.out).trans (by rw [if_pos e]))
                  have HN := Lib.hid (fun e : ¬ x = true => (STEP.out).trans (by rw [if_neg e, List.append_nil]))
                  clear STEP
                  cases x with
                  | false =>
                    have STEP := Lib.hid (HN.out (by simp))
                    clear HN HY
                    go_wp2
                    refine ⟨⟨k + 1, by omega, by go_num, ⟨?_, HS.out.bel, HS.out.hM⟩⟩, by simp [intOf]; omega⟩
                    rw [STEP.out]
                    exact HS.out.row
                  | true =>
                    have hrow := HS.out.row
                    have hb := HS.out.bel
                    have STEP := Lib.hid (HY.out rfl)
                    clear HN HY
                    generalize mrgF a b 0 k = P at hrow STEP LEN
                    have hPl := LEN.out
                    have hba := (Below.refl wr.heap.size wr).alloc (Nat.le_refl _) (.cells #[.int .i64 k, .bool y] 32)
                    have HR0 := Lib.hid hrow
                    have HBA := Lib.hid hba
                    have hro := (hrow.next hba).1
                    have NB := cells_two (Box.new (w := wr) (b := wr.heap.size) (c := #[.int .i64 k, .bool y]) (t := 32) rfl)
                    have hHH : (wr.alloc (.cells #[.int .i64 k, .bool y] 32)).heap.size = wr.heap.size + 1 := by simp
                    have HHH := Lib.hid hHH
                    clear hba hrow LEN HS
                    go_wp2_with (at_builtin; refine wpList_append_lies _ rfl _ _ 24 rfl w.heap.size 32 i0 (.agg #[.int .i64 0, .bool false]) 2 16 Try.underlying24 Hi.out Hz0.out Hz1.out Hz2.out rfl (by decide) _ _ _ rfl hro ⟨wr.heap.size, 0, none⟩ 1 1 [.int .i64 k, .bool y] rfl rfl NB (hcs_two k y) (by decide) (by unfold maxLen; omega) (by omega) (by omega) (wr.heap.size + 1) hHH ?_)
                    intro g5 cap5 w5 hown5 hgr hat5 hlt5
                    have hsa : wr.heap.size + 1 ≤ w5.heap.size := by have := hgr.size; rw [HHH.out] at this; exact this
                    have hR := HR0.out.2
                    have R5 := RowW.grown (H := wr.heap.size + 1) HR0.out (by omega) hown5 hat5
                    have b5 := (hb.trans (HBA.out.mono hszr)).grown hgr (by rw [HHH.out]; omega) (fun q hq => by have := hR q hq; omega)
                    have R5 := Lib.hid R5
                    have hM5 : M ≤ w5.heap.size := by omega
                    clear hown5 hgr hat5 hlt5 hsa hR HR0 HBA NB hHH HHH hPl hro
                    go_wp2
                    exact ⟨⟨k + 1, by omega, by go_num, ⟨by rw [STEP.out]; exact R5.out, b5, hM5⟩⟩, by simp [intOf]; omega⟩
        · obtain rfl : k = 8 := by omega
          obtain ⟨A3, c3, rfl, HO⟩ := HS.row.own
          have HB := HS.bel
          clear HS
          have e8 : mrgF a b 0 8 = mrgA a b := HM.out.symm
          rw [e8] at HO ⊢
          go_wp2
          exact bodyPost_ret (v := .tuple #[.slice A3 (mrgA a b).length c3, .bool true]) (by simp [results, Try.results16, go_sem]) rfl (RetH.yesM HBB.out HO HB)
end Go.Proofs.Ytognfnfbmbfidaa
