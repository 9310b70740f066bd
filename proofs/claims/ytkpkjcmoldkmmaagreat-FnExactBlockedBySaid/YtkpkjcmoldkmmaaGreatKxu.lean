/- HeldBy and WaitsAt, the model's and the program's. -/
import Derived.Test.YtkpkjcmoldkmmaaGreatKwu
import Derived.Test.YtkpkjcmoldkmmaaGreatTv
namespace Go.Proofs.YtkpkjcmoldkmmaaGreat
open Go.RowKit
open Go.Maps (Keyed)

theorem keysUp_congr {M M' : Nat → Bool} : ∀ {m : Nat}, (∀ j, j < m → M j = M' j) → keysUp M m = keysUp M' m := by
  intro m
  induction m with
  | zero => intro _; rfl
  | succ m ih =>
    intro h
    have h1 := ih (fun j hj => h j (by omega))
    have h2 := h m (by omega)
    cases hM : M m with
    | true => rw [keysUp_yes hM, keysUp_yes (h2 ▸ hM), h1]
    | false => rw [keysUp_no hM, keysUp_no (h2 ▸ hM), h1]
theorem keysUp_cut {M : Nat → Bool} {n : Nat} (h : ∀ j, n ≤ j → M j = false) : ∀ d, keysUp M (n + d) = keysUp M n
  | 0 => rfl
  | d + 1 => by rw [show n + (d + 1) = (n + d) + 1 by omega, keysUp_no (h _ (by omega)), keysUp_cut h d]
theorem keysUp_none {M : Nat → Bool} {k : Nat} (h : ∀ j, j < k → M j = false) : keysUp M k = [] := by
  rw [keysUp_congr (M' := fun _ => false) h]
  simp [keysUp]
theorem keysUp_first {M : Nat → Bool} {k : Nat} (h : ∀ j, j < k → M j = false) (hk : M k = true) : ∀ d, (keysUp M (k + 1 + d)).head? = some (k : Int)
  | 0 => by rw [Nat.add_zero, keysUp_yes hk, keysUp_none h]; rfl
  | d + 1 => by
    have ih := keysUp_first h hk d
    rw [show k + 1 + (d + 1) = (k + 1 + d) + 1 by omega]
    cases hM : M (k + 1 + d) with
    | true =>
      rw [keysUp_yes hM]
      cases hl : keysUp M (k + 1 + d) with
      | nil => rw [hl] at ih; cases ih
      | cons a l => rw [hl] at ih; exact ih
    | false => rw [keysUp_no hM]; exact ih
/-- an empty valid lock: nobody stands there -/
theorem stands_empty {T : TL} (tid : Int) {j : Nat} (h : lockOk (cd T j).hs (cd T j).ws = true) (h0 : (cd T j).hs.length = 0) : stands T tid j = 0 := by
  have e : (cd T j).hs = [] := List.length_eq_zero_iff.1 h0
  have hb := ((lockOk_iff _ _).1 h).2
  rw [e] at hb
  have e2 : (cd T j).ws = [] := by
    cases hw : (cd T j).ws with
    | nil => rfl
    | cons a l => rw [hw] at hb; simp [blocked, canJoin] at hb
  unfold stands holdsL
  rw [e, e2]
  split <;> simp [holdsAt, ids]
def standB (T : TL) (ss : List Int) (tid : Int) (j : Nat) : Bool := ss.contains (stands T tid j)
theorem where_is {T : TL} (hT : tabOk T = true) (ss : List Int) (h0 : ss.contains 0 = false) (tid : Int) : keysUp (whereB T ss tid) 8 = keysUp (standB T ss tid) T.length := by
  have hl := tabOk_len hT
  have e := keysUp_cut (M := whereB T ss tid) (n := T.length) (fun j hj => by unfold whereB; rw [decide_eq_false (by omega)]; rfl) (8 - T.length)
  rw [show T.length + (8 - T.length) = 8 by omega] at e
  rw [e]
  refine keysUp_congr (fun j hj => ?_)
  unfold whereB standB
  by_cases hz : (cd T j).hs.length = 0
  · rw [decide_eq_false (by omega), stands_empty tid (tabOk_lockOk hT hj) hz, h0]; rfl
  · rw [decide_eq_true ⟨hj, hz⟩]; rfl
def heldL (T : TL) (tid : Int) : List Int := if tabOk T then keysUp (standB T [1, 2] tid) T.length else []
def waitL (T : TL) (tid : Int) : List Int := if tabOk T then keysUp (standB T [3] tid) T.length else []
def waitK (T : TL) (tid : Int) : Int := (waitL T tid).head?.getD (-1)
theorem heldL_len (T : TL) (tid : Int) : (heldL T tid).length ≤ 8 := by
  unfold heldL
  split
  · rename_i h; have := tabOk_len h; have := keysUp_le (standB T [1, 2] tid) T.length; omega
  · simp
theorem contains12 (z : Int) : ([1, 2] : List Int).contains z = inB z 1 2 := by
  rw [Bool.eq_iff_iff]
  simp [inB]; omega
theorem keysWhere_nil (A : Option Addr) (c : Nat) (n : Nat) (tid : Int) (w : World) :
    Calls Tryz.prog 145 #[.agg #[.map none, .map none], .int .i64 tid, .slice A n c] w (OwnsOut w []) := by
  have hrn := fun w => run_range_nilMap (P := Tryz.prog) w 206 3 65 Tryz.underlying206
  go_enter Tryz.func145, Tryz.ntmps145
  go_wp2_with fail
  have hnx := fun ty => run_next_nilMap (P := Tryz.prog) ((w.alloc (.cells #[.map none, .map none] 208)).alloc (.cells #[.bool false, .bool false, .bool false, .bool false, .bool false, .bool false, .bool false, .bool false] 248)) ty 0 0 #[]
  have hr1 : ((w.alloc (.cells #[.map none, .map none] 208)).alloc (.cells #[.bool false, .bool false, .bool false, .bool false, .bool false, .bool false, .bool false, .bool false] 248)).heap.size = w.heap.size + 1 + 1 := by simp
  rw [hr1] at hnx
  clear hrn hr1
  have hb := (((Below.refl w.heap.size w).alloc (Nat.le_refl _) (.cells #[.map none, .map none] 208)).alloc (by simp) (.cells #[.bool false, .bool false, .bool false, .bool false, .bool false, .bool false, .bool false, .bool false] 248)).alloc (by simp; omega) (.mapIter none 0 #[] 0)
  refine wp_loop_rounds 1 ?_; rw [rounds_succ]
  go_wp2_with fail
  refine (markedKeys_any (fun _ => false) _).mono ?_; rintro e w2 ⟨v, rfl, hown, hb2⟩
  have hk : keysUp (fun _ => false) 8 = [] := rfl
  rw [hk] at hown
  have HO := Lib.hid (ownsRow_base (base := w.heap.size) hown (by simp; omega))
  have hb3 := hb.trans (hb2.mono hb.size)
  clear hown hb2 hnx hk hb
  go_wp2
  go_ret
  exact ⟨_, rfl, HO.out, hb3⟩
theorem implWaits_any (A : Option Addr) (c B : Nat) (T : TL) (tid : Int) (w : World) (hs : TFit T) (hB : B ≤ w.heap.size) (h : TAt w B A T) :
    Calls Tryz.prog 91 #[.agg #[.slice A T.length c], .int .i64 tid] w fun e w' => e = .returned (.int .i64 (waitK T tid)) ∧ Below w.heap.size w w' := by
  go_enter Tryz.func91, Tryz.ntmps91
  go_wp2_with fail
  have b0 := (Below.refl w.heap.size w).alloc (Nat.le_refl _) (.cells #[.slice A T.length c] 37)
  generalize w.alloc (.cells #[.slice A T.length c] 37) = w0 at b0 ⊢
  cases hT : tabOk T with
  | false =>
    have HE := Lib.hid (show waitK T tid = -1 by simp [waitK, waitL, hT])
    refine (storeOf_bad A c B T _ hs (Nat.le_trans hB b0.size) (h.keep b0 hB) hT).mono ?_; rintro e w1 ⟨rfl, hb1⟩
    have b1 := b0.trans (hb1.mono b0.size)
    clear b0 hb1 hT
    go_wp2_with fail
    have b2 := b1.alloc b1.size (.cells #[.int .i64 3] 3)
    refine (keysWhere_nil _ _ _ tid _).mono ?_; rintro e w2 ⟨v, rfl, hown, hb2⟩
    have hsz := b1.size
    obtain ⟨A2, c2, rfl, _, _⟩ := OwnI.of_owns hown
    have b3 := b2.trans (hb2.mono b2.size)
    clear hown hb2 b1 b2
    go_wp2
    go_ret
    exact ⟨by rw [HE.out]; rfl, b3⟩
  | true =>
    have hl8 := tabOk_len hT
    have HE := Lib.hid (show waitK T tid = (keysUp (whereB T [3] tid) 8).head?.getD (-1) by rw [where_is hT _ rfl]; simp [waitK, waitL, hT])
    obtain ⟨bb, off, rfl, hbB, q, hc⟩ := h (by omega)
    have hcl : TCl w B bb off T q := ⟨hbB, hc⟩
    have hcl0 : TCl w0 B bb off T q := ⟨hbB, fun j hj => ⟨(hcl.2 j hj).1.below b0 (by omega), LAt.keep (hcl.2 j hj).2 b0 hB⟩⟩
    refine (storeOf_ok bb off c B T q _ hs (Nat.le_trans hB b0.size) hcl0 hT).mono ?_; rintro e w1 ⟨m1, m2, mm, rfl, hne, hm1, hm2, M1, hmm, M2, hb1⟩
    have b1 := b0.trans (hb1.mono b0.size)
    have hsz := b1.size
    clear b0 hb1 hcl0 hc hT M1
    go_wp2_with fail
    have hA := (Below.refl w1.heap.size w1).alloc (Nat.le_refl _) (.cells #[.int .i64 3] 3)
    have b2 := b1.trans (hA.mono hsz)
    have hI : IntsAt (w1.alloc (.cells #[.int .i64 3] 3)) (w1.alloc (.cells #[.int .i64 3] 3)).heap.size (some ⟨w1.heap.size, 0, none⟩) ([3] : List Int).length (fun i => ([3] : List Int).getD i 0) := fun _ => ⟨w1.heap.size, 0, rfl, by simp, fun j hj => by
      have h2 : j = 0 := by simp at hj; omega
      subst h2; simp⟩
    have hL : ∀ j, j < T.length → LsAt (w1.alloc (.cells #[.int .i64 3] 3)) B (cd T j) (q j) := fun j hj => LAt.keep (hcl.2 j hj).2 b2 hB
    have M2 := M2.next hA
    refine (keysWhere_any m1 m2 mm B T q (some ⟨w1.heap.size, 0, none⟩) 1 [3] tid _ hs hl8.2 (Nat.le_trans hB b2.size) hL M2 (by simp) hI).mono ?_; rintro e w2 ⟨v, rfl, hown, hb2⟩
    generalize keysUp (whereB T [3] tid) 8 = l at hown HE
    obtain ⟨A2, c2, rfl, _, hI2⟩ := OwnI.of_owns hown
    have hI2 := hI2.at_
    have b3 := b2.trans (hb2.mono b2.size)
    clear hown hb2 b1 b2 M2 hL hI hA
    match l, HE, hI2 with
    | [], HE, hI2 =>
      go_wp2
      go_ret
      exact ⟨by rw [HE.out]; rfl, b3⟩
    | a :: l, HE, hI2 =>
      obtain ⟨b', o', rfl, _, hc⟩ := hI2 (by simp)
      have d0 := hc 0 (by simp)
      simp only [Nat.add_zero, List.getD_cons_zero] at d0
      have hl : ¬ (((a :: l).length : Nat) : Int) = 0 := by simp; omega
      have hl2 : (0 : Int) < (((a :: l).length : Nat) : Int) := by simp
      generalize (a :: l).length = n at hl hl2 ⊢
      clear hc hI2
      go_wp2
      go_ret
      exact ⟨by rw [HE.out]; rfl, b3⟩
set_option maxHeartbeats 800000 in
set_option maxRecDepth 100000 in
theorem specWaits_any (A : Option Addr) (c B : Nat) (T : TL) (tid : Int) (w : World) (hs : TFit T) (hB : B ≤ w.heap.size) (h2 : TAt w B A T) :
    Calls Tryz.prog 84 #[.agg #[.slice A T.length c], .int .i64 tid] w fun e w' => e = .returned (.int .i64 (waitK T tid)) ∧ Below w.heap.size w w' := by
  go_enter Tryz.func84, Tryz.ntmps84
  go_wp2_with fail
  have b0 := (Below.refl w.heap.size w).alloc (Nat.le_refl _) (.cells #[.slice A T.length c] 37)
  have X := Box.new (w := w) (c := #[.slice A T.length c]) (t := 37) rfl
  generalize w.alloc (.cells #[.slice A T.length c] 37) = w0 at b0 X ⊢
  refine (specTabOk_any A c B T _ hs (Nat.le_trans hB b0.size) (h2.keep b0 hB)).mono ?_; rintro e w1 ⟨rfl, hb1⟩
  have X := X.next hb1
  have b1 := b0.trans (hb1.mono b0.size)
  clear hb1 b0
  cases hl : tabOk T with
  | false =>
    have HE := Lib.hid (show waitK T tid = -1 by simp [waitK, waitL, hl])
    clear hl
    go_wp2
    go_ret
    exact ⟨by rw [HE.out]; rfl, b1⟩
  | true =>
    have hlen := tabOk_len hl
    have HE := Lib.hid (show waitK T tid = (keysUp (standB T [3] tid) T.length).head?.getD (-1) by simp [waitK, waitL, hl])
    clear hl
    go_wp2
    go_loopw [5] (fun i wr => ∃ k : Nat, k ≤ T.length ∧ i = .int .i64 k ∧ (∀ j, j < k → standB T [3] tid j = false) ∧ Below w.heap.size w wr ∧ Box wr w.heap.size [.slice A T.length c]) (fun i _ => T.length - (intOf i).toNat)
    case atStart => exact ⟨0, Nat.zero_le _, rfl, fun j hj => absurd hj (by omega), b1, X⟩
    case round =>
      clear X b1
      obtain ⟨k, hk, rfl, hno, hb, X⟩ := hrel
      have Hno := Lib.hid hno
      obtain ⟨x0, xf⟩ := X.c1
      have hsz := hb.size
      have hlt := X.lt
      clear hno xf
      by_cases hkn : k < T.length
      · obtain ⟨b, off, rfl, hbB, q, hc⟩ := h2 (by omega)
        have hkz : (k : Int) < T.length := by omega
        obtain ⟨a0, a1, a2, a3, a4, a5⟩ := (hc k hkn).1.below hb (show b < w.heap.size by omega)
        have hlk := hs.at_ hkn
        have i1 : LAt wr B (q k).G (q k).G' ((cd T k).hs, (cd T k).ws) := LAt.keep (hc k hkn).2 hb hB
        have HS := Lib.hid (show standB T [3] tid k = (stands T tid k == 3) by unfold standB; rw [Bool.eq_iff_iff]; simp)
        have hst := Lib.hid (show holdsL (cd T k).hs (cd T k).ws tid = stands T tid k from rfl)
        clear hc h2
        go_wp2_with fail
        refine (specHolds_any _ _ _ _ B (cd T k).hs (cd T k).ws tid _ hlk.1 hlk.2 i1).mono ?_; rintro e w2 ⟨rfl, hb2⟩
        rw [hst.out]
        have X := X.next hb2
        have hb := hb.trans (hb2.mono hsz)
        clear a0 a1 a2 a3 a4 a5 i1 hb2 x0
        generalize stands T tid k = z at HS ⊢
        cases hz : (z == 3) with
        | true =>
          have HF := Lib.hid (show waitK T tid = k by
            rw [HE.out]
            have := keysUp_first Hno.out (HS.out.trans hz) (T.length - (k + 1))
            rw [show k + 1 + (T.length - (k + 1)) = T.length by omega] at this
            rw [this]; rfl)
          clear HE Hno HS
          go_wp2
          go_ret
          exact ⟨by rw [HF.out]; rfl, hb⟩
        | false =>
          have HN := Lib.hid (show ∀ j, j < k + 1 → standB T [3] tid j = false from fun j hj => by
            by_cases ej : j = k
            · subst ej; exact HS.out.trans hz
            · exact Hno.out j (by omega))
          clear Hno HS
          go_wp2
          exact ⟨⟨k + 1, by omega, by go_num, HN.out, hb, X⟩, by simp [intOf]; omega⟩
      · obtain rfl : k = T.length := by omega
        have HF := Lib.hid (show waitK T tid = -1 by rw [HE.out, keysUp_none Hno.out]; rfl)
        clear HE Hno
        go_wp2
        go_ret
        exact ⟨by rw [HF.out]; rfl, hb⟩
end Go.Proofs.YtkpkjcmoldkmmaaGreat
