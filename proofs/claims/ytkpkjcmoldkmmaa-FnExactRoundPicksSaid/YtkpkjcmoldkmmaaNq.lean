/- RoundPicks of the program and of the model. -/
import Derived.Test.YtkpkjcmoldkmmaaNr
namespace Go.Proofs.Ytkpkjcmoldkmmaa
open Go.RowKit

def part (a k : Nat) (j : Nat) : Int := if j < k then ((j % a : Nat) : Int) else 0
theorem part_set (a k j : Nat) : (if j = k then ((k % a : Nat) : Int) else part a k j) = part a (k + 1) j := by
  unfold part
  by_cases e : j = k
  · subst e
    rw [if_pos rfl, if_pos (by omega)]
  · rw [if_neg e]
    by_cases h : j < k
    · rw [if_pos h, if_pos (by omega)]
    · rw [if_neg h, if_neg (by omega)]
theorem rows_int {w : World} {g t lo B N : Nat} {l : List Int} {f : Nat → Int} (h : w.rowIs g t N (fun j => .int .i64 (f j))) (hN : l.length = N) (hm : N ≤ maxLen) (hf : ∀ j x, l[j]? = some x → f j = x) (hlo : lo ≤ g) (hB : g < B) : ROwn intF w lo B (some ⟨g, 0, none⟩) l :=
  ⟨by omega, fun _ => ⟨g, 0, rfl, fun j => [.int .i64 (f j)], fun _ => B, fun _ => B, hlo, hB, fun o => h.frozen o, fun j _ => ⟨by omega, Nat.le_refl _, .inl hB⟩, fun _ _ _ _ _ => .inl (Nat.le_refl _), fun j hj i u hu => by
    have hi : i = 0 := by have := (List.getElem?_eq_some_iff.1 hu).1; simp at this; omega
    subst hi
    simp at hu
    subst hu
    rw [show (intF : Fm Int).n = 1 from rfl, Nat.mul_one, Nat.zero_add, Nat.add_zero]
    exact h.cell (by omega), fun j a ha => by
      have := hf j a ha
      subst this
      rfl⟩⟩
theorem made_rowN (w : World) (t : TypeId) (N : Nat) : (w.alloc (.cells (madeCells #[.int .i64 0] N) t)).rowIs w.heap.size t N (fun _ => .int .i64 0) :=
  ⟨_, Go.Deep.blk_alloc_new _ _, size_madeCells _ _, fun i hi => by
    have hm : i % 1 = 0 := Nat.mod_one i
    simp [madeCells, hi, hm]⟩
set_option maxHeartbeats 1600000 in
set_option maxRecDepth 100000 in
theorem implRounds_any (n m : Int) (w : World) : Calls Try.prog 33 #[.int .i64 n, .int .i64 m] w (RetLB intF w (roundsL n m) (roundsOk n m)) := by
  cases hok : roundsOk n m with
  | false =>
    rw [rounds_no hok]
    simp only [roundsOk, inB, Bool.and_eq_false_iff, decide_eq_false_iff_not] at hok
    by_cases h1 : n < 1
    · go_enter Try.func33, Try.ntmps33
      go_wp2
      go_ret2
      exact RetLB.nil (Below.refl _ _)
    · by_cases h2 : 4 < n
      · go_enter Try.func33, Try.ntmps33
        go_wp2
        go_ret2
        exact RetLB.nil (Below.refl _ _)
      · by_cases h3 : m < 0
        · go_enter Try.func33, Try.ntmps33
          go_wp2
          go_ret2
          exact RetLB.nil (Below.refl _ _)
        · have h4 : 400 / n < m := by omega
          have hn0 : ¬ n = 0 := by omega
          go_enter Try.func33, Try.ntmps33
          go_wp2
          go_ret2
          exact RetLB.nil (Below.refl _ _)
  | true =>
    obtain ⟨a, b, rfl, rfl, ha1, ha4, hb, hab⟩ := rounds_in hok
    have HL := Lib.hid (show roundsL (a : Int) (b : Int) = turnsL a (a * b) from rounds_yes hok)
    have hq : ¬ ((400 : Int) / (a : Int) < (b : Int)) := by
      have e : (400 : Int) / (a : Int) = ((400 / a : Nat) : Int) := rfl
      rw [e]
      omega
    have h1 : ¬ (a : Int) < 1 := by omega
    have h2 : ¬ (4 : Int) < a := by omega
    have h3 : ¬ (b : Int) < 0 := by omega
    have hn0 : ¬ (a : Int) = 0 := by omega
    have hab2 : (a : Int) * (b : Int) = ((a * b : Nat) : Int) := by simp
    have hmk := fun w => run_make_ints (a * b) (by omega) w
    generalize a * b = N at hab hab2 hmk HL
    clear hok hb
    go_enter Try.func33, Try.ntmps33
    go_wp2
    have hrow := made_rowN w 3 N
    have bw := (Below.refl w.heap.size w).alloc (Nat.le_refl _) (.cells (madeCells #[.int .i64 0] N) 3)
    generalize w.alloc (.cells (madeCells #[.int .i64 0] N) 3) = w1 at hrow bw ⊢
    generalize hg : w.heap.size = g at hrow bw ⊢
    clear hmk hab2 hq
    go_loopw [30] (fun i wr => ∃ k : Nat, k ≤ N ∧ i = .int .i64 k ∧ Below g w wr ∧ wr.rowIs g 3 N (fun j => .int .i64 (part a k j))) (fun i _ => N - (intOf i).toNat)
    case atStart => exact ⟨0, Nat.zero_le _, rfl, bw, hrow.congr (fun j _ => by simp [part])⟩
    case round =>
      clear hrow bw
      obtain ⟨k, hk, rfl, hb, hr⟩ := hrel
      by_cases hkn : k < N
      · have hkz : (k : Int) < N := by omega
        have d0 : wr.cell? ⟨g, k, none⟩ = some (.int .i64 0) := by rw [hr.cell hkn]; simp [part]
        have d1 : wr.frozen? ⟨g, k, none⟩ = false := hr.frozen _
        have hmod : (k : Int) % (a : Int) = ((k % a : Nat) : Int) := rfl
        have hml : k % a < a := Nat.mod_lt _ (by omega)
        have HC := Lib.hid ((hr.set k (.int .i64 ((k % a : Nat) : Int))).congr (g := fun j => .int .i64 (part a (k + 1) j)) (fun j _ => by
          rw [← part_set]
          by_cases e : j = k
          · rw [if_pos e, if_pos e]
          · rw [if_neg e, if_neg e]))
        have HB := Lib.hid (hb.setCell (p := ⟨g, k, none⟩) (Nat.le_refl _) (.int .i64 ((k % a : Nat) : Int)))
        clear hr hb
        generalize k % a = z at hmod hml HC HB
        go_wp2
        exact ⟨⟨k + 1, by omega, by go_num, HB.out, HC.out⟩, by simp [intOf]; omega⟩
      · obtain rfl : k = N := by omega
        have HO := Lib.hid (rows_int (lo := g) (B := wr.heap.size) (l := turnsL a k) hr (turns_len a k) (by unfold maxLen; omega) (fun j x hx => by
          have hj := get_lt hx
          rw [turns_len] at hj
          rw [turns_get hj] at hx
          injection hx with hx
          rw [part, if_pos hj, hx]) (Nat.le_refl _) hr.lt)
        clear hr
        go_wp2
        go_ret2
        rw [HL.out]
        subst hg
        exact ⟨_, _, by rw [turns_len]; rfl, hb, HO.out⟩
set_option maxHeartbeats 1600000 in
set_option maxRecDepth 100000 in
theorem specRounds_any (n m : Int) (w : World) : Calls Try.prog 32 #[.int .i64 n, .int .i64 m] w (RetLB intF w (roundsL n m) (roundsOk n m)) := by
  obtain ⟨i0, hi, hzz⟩ := Option.map_eq_some_iff.1 infoC_Int
  injection hzz with hz0 hz12
  injection hz12 with hz1 hz2
  have Hi := Lib.hid hi
  have Hz0 := Lib.hid hz0
  have Hz1 := Lib.hid hz1
  have Hz2 := Lib.hid hz2
  clear hi hz0 hz1 hz2
  cases hok : roundsOk n m with
  | false =>
    rw [rounds_no hok]
    cases h1 : inB n 1 4 with
    | false =>
      go_enter Try.func32, Try.ntmps32
      go_wp2_with fail
      (with_reducible refine (l01In_any _ _ _ _).mono ?_); rintro e w1 ⟨rfl, rfl⟩
      rw [h1]
      go_wp2
      go_ret2
      exact RetLB.nil (Below.refl _ _)
    | true =>
      have h2 : inB m 0 (400 / n) = false := by rw [roundsOk, h1, Bool.true_and] at hok; exact hok
      have hn0 : ¬ n = 0 := by simp only [inB, Bool.and_eq_true, decide_eq_true_eq] at h1; omega
      have hn4 : 1 ≤ n ∧ n ≤ 4 := by simpa only [inB, Bool.and_eq_true, decide_eq_true_eq] using h1
      obtain ⟨hn1, hn4⟩ := hn4
      go_enter Try.func32, Try.ntmps32
      go_wp2_with fail
      (with_reducible refine (l01In_any _ _ _ _).mono ?_); rintro e w1 ⟨rfl, rfl⟩
      rw [h1]
      go_wp2_with fail
      (with_reducible refine (l01In_any _ _ _ _).mono ?_); rintro e w1 ⟨rfl, rfl⟩
      rw [h2]
      go_wp2
      go_ret2
      exact RetLB.nil (Below.refl _ _)
  | true =>
    have h12 := hok
    simp only [roundsOk, Bool.and_eq_true] at h12
    obtain ⟨g1, g2⟩ := h12
    obtain ⟨a, b, rfl, rfl, ha1, ha4, hb, hab⟩ := rounds_in hok
    have HL := Lib.hid (show roundsL (a : Int) (b : Int) = turnsL a (a * b) from rounds_yes hok)
    have hn0 : ¬ (a : Int) = 0 := by omega
    have hb400 : b ≤ 400 := Nat.le_trans hb (Nat.div_le_self _ _)
    clear hok hb
    go_enter Try.func32, Try.ntmps32
    go_wp2_with fail
    (with_reducible refine (l01In_any _ _ _ _).mono ?_); rintro e w1 ⟨rfl, rfl⟩
    rw [g1]
    go_wp2_with fail
    (with_reducible refine (l01In_any _ _ _ _).mono ?_); rintro e w1 ⟨rfl, rfl⟩
    rw [g2]
    have HAB := Lib.hid hab
    clear g1 g2 hab
    have hown := World.ownsRow_made (base := w.heap.size) (size := 1) (e := 3) w #[] 0 (Nat.le_refl _) (Nat.zero_le _) rfl
    have hb0 := (Below.refl w.heap.size w).alloc (Nat.le_refl _) (.cells #[] 3)
    go_wp2_with fail
    have hG0 := Grow.of_row (F := intF) hown
    generalize w.alloc (.cells #[] 3) = w1 at hG0 hb0 ⊢
    clear hown
    go_loopw [6, 7] (fun v i wr => ∃ (k : Nat) (M : List Int) (vs : Nat → List Value) (L H : Nat → Nat), k ≤ b ∧ i = .int .i64 k ∧ Hid (M = turnsL a (k * a)) ∧ M.length ≤ 400 ∧ Grow intF 3 w.heap.size wr v M vs L H ∧ Below w.heap.size w wr) (fun _ i _ => b - (intOf i).toNat)
    case atStart => exact ⟨0, [], _, _, _, Nat.zero_le _, rfl, Lib.hid (by simp [turnsL]), Nat.zero_le _, hG0, hb0⟩
    case round =>
      clear hG0 hb0
      obtain ⟨k, M, vs, L, H, hk, rfl, HM, hMl, hG, bb⟩ := hrel
      by_cases hkn : k < b
      · have hkz : (k : Int) < b := by omega
        have HK := Lib.hid (show k * a + a ≤ 400 from by
          have h1 : (k + 1) * a ≤ b * a := Nat.mul_le_mul_right _ (by omega)
          rw [Nat.succ_mul, Nat.mul_comm b a] at h1
          have := HAB.out
          omega)
        go_wp2_with fail
        go_loopw [6, 8] (fun v i wi => ∃ (j : Nat) (M : List Int) (vs : Nat → List Value) (L H : Nat → Nat), j ≤ a ∧ i = .int .i64 j ∧ Hid (M = turnsL a (k * a + j)) ∧ M.length ≤ 400 ∧ Grow intF 3 w.heap.size wi v M vs L H ∧ Below w.heap.size w wi) (fun _ i _ => a - (intOf i).toNat)
        case atStart => exact ⟨0, M, _, _, _, Nat.zero_le _, rfl, HM, hMl, hG, bb⟩
        case round =>
          clear hG bb HM hMl
          obtain ⟨j, M, vs, L, H, hj, rfl, HM, hMl, hG, bb⟩ := hrel
          have hsz := bb.size
          by_cases hjn : j < a
          · have hjz : (j : Int) < a := by omega
            have hA := (Below.refl wr.heap.size wr).alloc (Nat.le_refl _) (.cells #[.int .i64 (j : Int)] 3)
            have hGa := hG.next hA
            have hbk := hG.row.lt
            have hH4 := hG.top
            clear hA hG
            go_wp2_with (at_builtin; refine wpList_append_lies _ rfl _ _ 31 rfl w.heap.size 3 i0 (.int .i64 0) 1 8 Try.underlying31 Hi.out Hz0.out Hz1.out Hz2.out rfl (by decide) _ _ _ rfl (show World.ownsRow _ _ _ 1 _ _ _ from hGa.row) ⟨wr.heap.size, 0, none⟩ 1 1 [.int .i64 (j : Int)] rfl rfl ?c1 (fun u hu => by simp at hu; subst hu; rfl) (by decide) ?c3 ?c4 ?c5 (wr.heap.size + 1) ?c6 ?_)
            case c1 => intro q u hu; rw [cell_addr, Nat.zero_add, World.cell?_alloc_new]; simpa using hu
            case c3 => unfold maxLen; omega
            case c4 => omega
            case c5 => simp; omega
            case c6 => simp
            intro g cap w5 hown' hgrow hat hlt
            have HG5 := Lib.hid (hGa.push (a := (j : Int)) (nv := [.int .i64 (j : Int)]) (s := wr.heap.size) (t := wr.heap.size) hown' hgrow (by rcases hat with h | h; exact .inl h; exact .inr (by simpa using h)) rfl hsz (by simp) hH4 (fun q hq => (hbk q hq).2))
            have b45 : Below w.heap.size wr w5 := ((Below.refl w.heap.size wr).alloc hsz (.cells #[.int .i64 (j : Int)] 3)).grown hgrow (by simp; omega) (fun q hq => (hGa.row.lt q hq).1)
            have bb := bb.trans b45
            have HM5 := Lib.hid (show M ++ [(j : Int)] = turnsL a (k * a + (j + 1)) by
              rw [← Nat.add_assoc, turns_succ, ← HM.out, Nat.mul_comm, Nat.mul_add_mod, Nat.mod_eq_of_lt hjn])
            have HM5L := Lib.hid (show (M ++ [(j : Int)]).length ≤ 400 by rw [HM5.out, turns_len]; have := HK.out; omega)
            clear hown' hgrow hat hGa b45 hbk hH4 HM hMl
            go_wp2
            exact ⟨⟨j + 1, M ++ [(j : Int)], _, _, _, by omega, by go_num, HM5, HM5L.out, HG5.out, bb⟩, by simp [intOf]; omega⟩
          · obtain rfl : j = a := by omega
            have HM5 := Lib.hid (show M = turnsL j ((k + 1) * j) by rw [HM.out, Nat.succ_mul])
            have HG5 := Lib.hid hG
            clear hG HM
            go_wp2
            exact ⟨⟨k + 1, M, _, _, _, by omega, by go_num, HM5, hMl, HG5.out, bb⟩, by simp [intOf]; omega⟩
      · obtain rfl : k = b := by omega
        have hMT : M = turnsL a (a * k) := by rw [HM.out, Nat.mul_comm]
        obtain ⟨X0, C0, rfl, o6⟩ := hG.done
        have O6 := Lib.hid o6
        have HMT := Lib.hid hMT
        clear hG o6 hMT HM
        go_wp2
        go_ret2
        rw [HL.out, ← HMT.out]
        exact ⟨_, _, rfl, bb, O6.out⟩
end Go.Proofs.Ytkpkjcmoldkmmaa
