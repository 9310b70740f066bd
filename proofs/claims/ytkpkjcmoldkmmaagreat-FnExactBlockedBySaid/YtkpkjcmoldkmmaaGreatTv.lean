/- Values in their limits; a writer that holds: spec.l05Written. -/
import Derived.Test.YtkpkjcmoldkmmaaGreatRg
import Derived.Test.YtkpkjcmoldkmmaaGreatLs2
import Derived.Test.YtkpkjcmoldkmmaaGreatTb
namespace Go.Proofs.YtkpkjcmoldkmmaaGreat
open Go.RowKit

theorem specVal_any (x : Int) (w : World) :
    Calls Tryz.prog 82 #[.int .i64 x] w fun e w' => e = .returned (.bool (valB x)) ∧ w = w' := by
  go_enter Tryz.func82, Tryz.ntmps82
  go_wp2_with (go_at_call 28; refine (l01In_any _ _ _ _).mono ?_; rintro e w' ⟨rfl, rfl⟩)
  go_ret
  exact ⟨rfl, rfl⟩
theorem implVal_any (x : Int) (w : World) :
    Calls Tryz.prog 185 #[.int .i64 x] w fun e w' => e = .returned (.bool (valB x)) ∧ w = w' := by
  by_cases h1 : -1000000 ≤ x
  · by_cases h2 : x ≤ 1000000
    · go_enter Tryz.func185, Tryz.ntmps185
      go_wp2
      go_ret
      exact ⟨ret_bool (by simp [valB, inB, h1, h2]), rfl⟩
    · go_enter Tryz.func185, Tryz.ntmps185
      go_wp2
      go_ret
      exact ⟨ret_bool (by simp [valB, inB]; omega), rfl⟩
  · go_enter Tryz.func185, Tryz.ntmps185
    go_wp2
    go_ret
    exact ⟨ret_bool (by simp [valB, inB]; omega), rfl⟩
theorem specWritten_any (A A' : Option Addr) (c c' B : Nat) (hs ws : HL) (w : World) (h : LAt w B A A' (hs, ws)) :
    Calls Tryz.prog 135 #[.agg #[.slice A hs.length c, .slice A' ws.length c']] w fun e w' => e = .returned (.bool (wroteS hs)) ∧ Below w.heap.size w w' := by
  have h1 := h.1.lt
  match hs, h1 with
  | [], h1 =>
    go_enter Tryz.func135, Tryz.ntmps135
    go_wp2
    go_ret
    exact ⟨rfl, (Below.refl _ _).alloc (Nat.le_refl _) _⟩
  | z :: l, h1 =>
    obtain ⟨b, off, rfl, hB, hc⟩ := h1 (by simp)
    have hc0 := hc 0 (by simp)
    simp only [Nat.zero_mul, Nat.add_zero] at hc0
    obtain ⟨d0, d1⟩ := hc0
    have hl : (0 : Int) < ((z :: l).length : Int) := by simp
    have hw : hW (z :: l) 0 = z.2 := rfl
    rw [hw] at d1
    clear hc h1
    go_enter Tryz.func135, Tryz.ntmps135
    go_wp2
    go_ret
    exact ⟨rfl, (Below.refl _ _).alloc (Nat.le_refl _) _⟩
set_option maxHeartbeats 6400000 in
set_option maxRecDepth 100000 in
theorem specTabOk_any (A : Option Addr) (c B : Nat) (T : TL) (w : World) (hs : TFit T) (hB : B ≤ w.heap.size) (h : TAt w B A T) :
    Calls Tryz.prog 77 #[.agg #[.slice A T.length c]] w fun e w' => e = .returned (.bool (tabOk T)) ∧ Below w.heap.size w w' := by
  have hlen := hs.len
  go_enter Tryz.func77, Tryz.ntmps77
  go_wp2_with fail
  refine (l01In_any _ _ _ _).mono ?_; rintro e w1 ⟨rfl, rfl⟩
  cases hL : inB T.length 1 8 with
  | false =>
    go_wp2
    go_ret
    exact ⟨ret_bool (by simp [tabOk, hL]), (Below.refl _ _).alloc (Nat.le_refl _) _⟩
  | true =>
    have hl8 : 1 ≤ T.length ∧ T.length ≤ 8 := by simp only [inB, Bool.and_eq_true, decide_eq_true_eq] at hL; omega
    have HT := Lib.hid (show tabOk T = T.all cellOk by unfold tabOk; rw [hL]; rfl)
    clear hL
    go_wp2_with fail
    have hb0 := (Below.refl w.heap.size w).alloc (Nat.le_refl _) (.cells #[.slice A T.length c] 37)
    have X := Box.new (w := w) (c := #[.slice A T.length c]) (t := 37) rfl
    have h := h.keep hb0 hB
    have hB : B ≤ (w.alloc (.cells #[.slice A T.length c] 37)).heap.size := Nat.le_trans hB hb0.size
    generalize w.alloc (.cells #[.slice A T.length c] 37) = w0 at hb0 X h hB ⊢
    go_loopw [3] (fun i wr => ∃ k : Nat, k ≤ T.length ∧ i = .int .i64 k ∧ Below w0.heap.size w0 wr ∧ OkTo T k) (fun i _ => T.length - (intOf i).toNat)
    case atStart => exact ⟨0, Nat.zero_le _, rfl, Below.refl _ _, fun j hj => absurd hj (by omega)⟩
    case round =>
      obtain ⟨k, hk, rfl, hb, hok⟩ := hrel
      have Hok := Lib.hid hok
      clear hok
      have X1 := X.next hb
      obtain ⟨x0, xf⟩ := X1.c1
      have hsz := hb.size
      by_cases hkn : k < T.length
      · obtain ⟨b, off, rfl, hbB, q, hc⟩ := h (by omega)
        have hkz : (k : Int) < T.length := by omega
        have hlk := hs.at_ hkn
        obtain ⟨⟨a0, a1, a2, a3, a4, a5⟩, i0⟩ := hc k hkn
        have hbb : b < w0.heap.size := by omega
        obtain ⟨a0, a1, a2, a3, a4, a5⟩ := (CCells.mk a0 a1 a2 a3 a4 a5).below hb hbb
        have i1 : LAt wr B (q k).G (q k).G' (cd T k).p := LAt.keep i0 hb hB
        have HY := Lib.hid (Hok.out.next (k := k))
        have HN := Lib.hid (all_no hkn)
        have HW := Lib.hid (show lockOk (cd T k).hs (cd T k).ws = true → wroteS (cd T k).hs = wrote (cd T k).hs from wrote_lock)
        have HC := Lib.hid (show cellOk (cd T k) = (((valB (cd T k).v && wordOk (cd T k).e (cd T k).s) && lockOk (cd T k).hs (cd T k).ws) && ((cd T k).h == wrote (cd T k).hs)) from rfl)
        clear hc h i0 Hok
        go_wp2_with fail
        have hbw := (Below.refl wr.heap.size wr).alloc (Nat.le_refl _) (.cells #[.int .i64 (cd T k).v, .int .i64 (cd T k).e, .int .i64 (cd T k).s, .bool (cd T k).h, .slice (q k).G (cd T k).hs.length (q k).c, .slice (q k).G' (cd T k).ws.length (q k).c'] 67)
        have HB2 := Lib.hid hb
        have HB := Lib.hid (hb0.trans (hb.mono hb0.size))
        have hb := hb.alloc hsz (.cells #[.int .i64 (cd T k).v, .int .i64 (cd T k).e, .int .i64 (cd T k).s, .bool (cd T k).h, .slice (q k).G (cd T k).hs.length (q k).c, .slice (q k).G' (cd T k).ws.length (q k).c'] 67)
        have Y := Box.new (w := wr) (c := #[.int .i64 (cd T k).v, .int .i64 (cd T k).e, .int .i64 (cd T k).s, .bool (cd T k).h, .slice (q k).G (cd T k).hs.length (q k).c, .slice (q k).G' (cd T k).ws.length (q k).c']) (t := 67) rfl
        clear a0 a1 a2 a3 a4 a5 x0 xf
        generalize wr.alloc (.cells #[.int .i64 (cd T k).v, .int .i64 (cd T k).e, .int .i64 (cd T k).s, .bool (cd T k).h, .slice (q k).G (cd T k).hs.length (q k).c, .slice (q k).G' (cd T k).ws.length (q k).c'] 67) = w1 at hb hbw Y ⊢
        have hS : (Box w1.drew wr.heap.size [.int .i64 (cd T k).v, .int .i64 (cd T k).e, .int .i64 (cd T k).s, .bool (cd T k).h, .slice (q k).G (cd T k).hs.length (q k).c, .slice (q k).G' (cd T k).ws.length (q k).c']) ∧ Below wr.heap.size wr w1.drew := ⟨Y.drew, hbw.drew⟩
        obtain ⟨I, F, hI, hF0, hF, hFi⟩ := cls (S := fun W => Box W wr.heap.size [.int .i64 (cd T k).v, .int .i64 (cd T k).e, .int .i64 (cd T k).s, .bool (cd T k).h, .slice (q k).G (cd T k).hs.length (q k).c, .slice (q k).G' (cd T k).ws.length (q k).c'] ∧ Below wr.heap.size wr W) hS
        have hFn : ∀ n w2, Below (F n).heap.size (F n) w2 → ∃ m, w2 = F m := fun n w2 hb => hFi w2 ⟨(hF n).1.next hb, (hF n).2.trans (hb.mono (hF n).2.size)⟩
        have HFn := Lib.hid hFn
        have f0 := fun n => (hF n).1.c6.1.1
        have f1 := fun n => (hF n).1.c6.1.2.1
        have f2 := fun n => (hF n).1.c6.1.2.2.1
        have f3 := fun n => (hF n).1.c6.1.2.2.2.1
        have f4 := fun n => (hF n).1.c6.1.2.2.2.2.1
        have f5 := fun n => (hF n).1.c6.1.2.2.2.2.2
        have HF := Lib.hid hF
        have HF0 := Lib.hid hF0
        clear hS hFi hFn hF hF0 Y hb hbw
        cases hv : valB (cd T k).v with
        | false =>
          have HV := Lib.hid hv
          have HE := Lib.hid (show tabOk T = false by rw [HT.out]; exact HN.out (by rw [HC.out, hv]; rfl))
          clear HY HN HW HC hv
          refine wp_region_cls (by kernel_rfl) (by kernel_rfl) HF0.out ?_
          repeat (go_big_quiet_step (((first
            | (go_at_call 82; refine (specVal_any _ _).mono ?_; rintro o w2 ⟨rfl, rfl⟩; exact ⟨by rw [HV.out], _, rfl⟩)
            | (go_at_call 133; refine (specWordOk_any _ _ _ _).mono ?_; rintro o w2 ⟨rfl, hb2⟩; exact ⟨by rw [HWo.out], HFn.out _ _ hb2⟩)
            | (go_at_call 134; refine (specLockOk_any _ _ _ _ B (cd T k).hs (cd T k).ws _ hlk.1 hlk.2 (i1.keep (HF.out _).2 (Nat.le_trans hB hsz))).mono ?_; rintro o w2 ⟨rfl, hb2⟩; exact ⟨by rw [HLk.out], HFn.out _ _ hb2⟩)
            | (go_at_call 135; refine (specWritten_any _ _ _ _ B (cd T k).hs (cd T k).ws _ (i1.keep (HF.out _).2 (Nat.le_trans hB hsz))).mono ?_; rintro o w2 ⟨rfl, hb2⟩; exact ⟨by rw [HWr.out], HFn.out _ _ hb2⟩)))))
          refine wpQuiet_nil ?_
          rintro _ ⟨nq, rfl⟩
          have hbq := HB.out.trans ((HF.out nq).2.mono (Nat.le_trans hb0.size hsz))
          clear f0 f1 f2 f3 f4 f5 HF0
          generalize F nq = w2 at hbq ⊢
          go_wp2
          go_ret
          exact ⟨ret_bool HE.out.symm, hbq⟩
        | true =>
          have HV := Lib.hid hv
          cases hw : wordOk (cd T k).e (cd T k).s with
          | false =>
            have HWo := Lib.hid hw
            have HE := Lib.hid (show tabOk T = false by rw [HT.out]; exact HN.out (by rw [HC.out, hv, hw]; rfl))
            clear HY HN HW HC hv hw
            refine wp_region_cls (by kernel_rfl) (by kernel_rfl) HF0.out ?_
            repeat (go_big_quiet_step (((first
            | (go_at_call 82; refine (specVal_any _ _).mono ?_; rintro o w2 ⟨rfl, rfl⟩; exact ⟨by rw [HV.out], _, rfl⟩)
            | (go_at_call 133; refine (specWordOk_any _ _ _ _).mono ?_; rintro o w2 ⟨rfl, hb2⟩; exact ⟨by rw [HWo.out], HFn.out _ _ hb2⟩)
            | (go_at_call 134; refine (specLockOk_any _ _ _ _ B (cd T k).hs (cd T k).ws _ hlk.1 hlk.2 (i1.keep (HF.out _).2 (Nat.le_trans hB hsz))).mono ?_; rintro o w2 ⟨rfl, hb2⟩; exact ⟨by rw [HLk.out], HFn.out _ _ hb2⟩)
            | (go_at_call 135; refine (specWritten_any _ _ _ _ B (cd T k).hs (cd T k).ws _ (i1.keep (HF.out _).2 (Nat.le_trans hB hsz))).mono ?_; rintro o w2 ⟨rfl, hb2⟩; exact ⟨by rw [HWr.out], HFn.out _ _ hb2⟩)))))
            refine wpQuiet_nil ?_
            rintro _ ⟨nq, rfl⟩
            have hbq := HB.out.trans ((HF.out nq).2.mono (Nat.le_trans hb0.size hsz))
            clear f0 f1 f2 f3 f4 f5 HF0
            generalize F nq = w2 at hbq ⊢
            go_wp2
            go_ret
            exact ⟨ret_bool HE.out.symm, hbq⟩
          | true =>
            have HWo := Lib.hid hw
            cases hlo : lockOk (cd T k).hs (cd T k).ws with
            | false =>
              have HLk := Lib.hid hlo
              have HE := Lib.hid (show tabOk T = false by rw [HT.out]; exact HN.out (by rw [HC.out, hv, hw, hlo]; rfl))
              clear HY HN HW HC hv hw hlo
              refine wp_region_cls (by kernel_rfl) (by kernel_rfl) HF0.out ?_
              repeat (go_big_quiet_step (((first
            | (go_at_call 82; refine (specVal_any _ _).mono ?_; rintro o w2 ⟨rfl, rfl⟩; exact ⟨by rw [HV.out], _, rfl⟩)
            | (go_at_call 133; refine (specWordOk_any _ _ _ _).mono ?_; rintro o w2 ⟨rfl, hb2⟩; exact ⟨by rw [HWo.out], HFn.out _ _ hb2⟩)
            | (go_at_call 134; refine (specLockOk_any _ _ _ _ B (cd T k).hs (cd T k).ws _ hlk.1 hlk.2 (i1.keep (HF.out _).2 (Nat.le_trans hB hsz))).mono ?_; rintro o w2 ⟨rfl, hb2⟩; exact ⟨by rw [HLk.out], HFn.out _ _ hb2⟩)
            | (go_at_call 135; refine (specWritten_any _ _ _ _ B (cd T k).hs (cd T k).ws _ (i1.keep (HF.out _).2 (Nat.le_trans hB hsz))).mono ?_; rintro o w2 ⟨rfl, hb2⟩; exact ⟨by rw [HWr.out], HFn.out _ _ hb2⟩)))))
              refine wpQuiet_nil ?_
              rintro _ ⟨nq, rfl⟩
              have hbq := HB.out.trans ((HF.out nq).2.mono (Nat.le_trans hb0.size hsz))
              clear f0 f1 f2 f3 f4 f5 HF0
              generalize F nq = w2 at hbq ⊢
              go_wp2
              go_ret
              exact ⟨ret_bool HE.out.symm, hbq⟩
            | true =>
              have HLk := Lib.hid hlo
              have hws := HW.out hlo
              cases hh : (cd T k).h with
              | false =>
                cases hwr : wrote (cd T k).hs with
                | false =>
                  have HWr := Lib.hid (hws.trans hwr)
                  have HE := Lib.hid (HY.out (by rw [HC.out, hv, hw, hlo, hh, hwr]; rfl))
                  simp only [hh] at f3
                  clear HY HN HW HC hv hw hlo hh hwr hws
                  refine wp_region_cls (by kernel_rfl) (by kernel_rfl) HF0.out ?_
                  repeat (go_big_quiet_step (((first
            | (go_at_call 82; refine (specVal_any _ _).mono ?_; rintro o w2 ⟨rfl, rfl⟩; exact ⟨by rw [HV.out], _, rfl⟩)
            | (go_at_call 133; refine (specWordOk_any _ _ _ _).mono ?_; rintro o w2 ⟨rfl, hb2⟩; exact ⟨by rw [HWo.out], HFn.out _ _ hb2⟩)
            | (go_at_call 134; refine (specLockOk_any _ _ _ _ B (cd T k).hs (cd T k).ws _ hlk.1 hlk.2 (i1.keep (HF.out _).2 (Nat.le_trans hB hsz))).mono ?_; rintro o w2 ⟨rfl, hb2⟩; exact ⟨by rw [HLk.out], HFn.out _ _ hb2⟩)
            | (go_at_call 135; refine (specWritten_any _ _ _ _ B (cd T k).hs (cd T k).ws _ (i1.keep (HF.out _).2 (Nat.le_trans hB hsz))).mono ?_; rintro o w2 ⟨rfl, hb2⟩; exact ⟨by rw [HWr.out], HFn.out _ _ hb2⟩)))))
                  refine wpQuiet_nil ?_
                  rintro _ ⟨nq, rfl⟩
                  have hbq := HB.out.trans ((HF.out nq).2.mono (Nat.le_trans hb0.size hsz))
                  have hbk := HB2.out.trans ((HF.out nq).2.mono hsz)
                  clear f0 f1 f2 f3 f4 f5 HF0
                  generalize F nq = w2 at hbq hbk ⊢
                  go_wp2
                  exact ⟨⟨k + 1, by omega, by go_num, hbk, HE.out⟩, by simp [intOf]; omega⟩
                | true =>
                  have HWr := Lib.hid (hws.trans hwr)
                  have HE := Lib.hid (show tabOk T = false by rw [HT.out]; exact HN.out (by rw [HC.out, hv, hw, hlo, hh, hwr]; rfl))
                  simp only [hh] at f3
                  clear HY HN HW HC hv hw hlo hh hwr hws
                  refine wp_region_cls (by kernel_rfl) (by kernel_rfl) HF0.out ?_
                  repeat (go_big_quiet_step (((first
            | (go_at_call 82; refine (specVal_any _ _).mono ?_; rintro o w2 ⟨rfl, rfl⟩; exact ⟨by rw [HV.out], _, rfl⟩)
            | (go_at_call 133; refine (specWordOk_any _ _ _ _).mono ?_; rintro o w2 ⟨rfl, hb2⟩; exact ⟨by rw [HWo.out], HFn.out _ _ hb2⟩)
            | (go_at_call 134; refine (specLockOk_any _ _ _ _ B (cd T k).hs (cd T k).ws _ hlk.1 hlk.2 (i1.keep (HF.out _).2 (Nat.le_trans hB hsz))).mono ?_; rintro o w2 ⟨rfl, hb2⟩; exact ⟨by rw [HLk.out], HFn.out _ _ hb2⟩)
            | (go_at_call 135; refine (specWritten_any _ _ _ _ B (cd T k).hs (cd T k).ws _ (i1.keep (HF.out _).2 (Nat.le_trans hB hsz))).mono ?_; rintro o w2 ⟨rfl, hb2⟩; exact ⟨by rw [HWr.out], HFn.out _ _ hb2⟩)))))
                  refine wpQuiet_nil ?_
                  rintro _ ⟨nq, rfl⟩
                  have hbq := HB.out.trans ((HF.out nq).2.mono (Nat.le_trans hb0.size hsz))
                  clear f0 f1 f2 f3 f4 f5 HF0
                  generalize F nq = w2 at hbq ⊢
                  go_wp2
                  go_ret
                  exact ⟨ret_bool HE.out.symm, hbq⟩
              | true =>
                cases hwr : wrote (cd T k).hs with
                | true =>
                  have HWr := Lib.hid (hws.trans hwr)
                  have HE := Lib.hid (HY.out (by rw [HC.out, hv, hw, hlo, hh, hwr]; rfl))
                  simp only [hh] at f3
                  clear HY HN HW HC hv hw hlo hh hwr hws
                  refine wp_region_cls (by kernel_rfl) (by kernel_rfl) HF0.out ?_
                  repeat (go_big_quiet_step (((first
            | (go_at_call 82; refine (specVal_any _ _).mono ?_; rintro o w2 ⟨rfl, rfl⟩; exact ⟨by rw [HV.out], _, rfl⟩)
            | (go_at_call 133; refine (specWordOk_any _ _ _ _).mono ?_; rintro o w2 ⟨rfl, hb2⟩; exact ⟨by rw [HWo.out], HFn.out _ _ hb2⟩)
            | (go_at_call 134; refine (specLockOk_any _ _ _ _ B (cd T k).hs (cd T k).ws _ hlk.1 hlk.2 (i1.keep (HF.out _).2 (Nat.le_trans hB hsz))).mono ?_; rintro o w2 ⟨rfl, hb2⟩; exact ⟨by rw [HLk.out], HFn.out _ _ hb2⟩)
            | (go_at_call 135; refine (specWritten_any _ _ _ _ B (cd T k).hs (cd T k).ws _ (i1.keep (HF.out _).2 (Nat.le_trans hB hsz))).mono ?_; rintro o w2 ⟨rfl, hb2⟩; exact ⟨by rw [HWr.out], HFn.out _ _ hb2⟩)))))
                  refine wpQuiet_nil ?_
                  rintro _ ⟨nq, rfl⟩
                  have hbq := HB.out.trans ((HF.out nq).2.mono (Nat.le_trans hb0.size hsz))
                  have hbk := HB2.out.trans ((HF.out nq).2.mono hsz)
                  clear f0 f1 f2 f3 f4 f5 HF0
                  generalize F nq = w2 at hbq hbk ⊢
                  go_wp2
                  exact ⟨⟨k + 1, by omega, by go_num, hbk, HE.out⟩, by simp [intOf]; omega⟩
                | false =>
                  have HWr := Lib.hid (hws.trans hwr)
                  have HE := Lib.hid (show tabOk T = false by rw [HT.out]; exact HN.out (by rw [HC.out, hv, hw, hlo, hh, hwr]; rfl))
                  simp only [hh] at f3
                  clear HY HN HW HC hv hw hlo hh hwr hws
                  refine wp_region_cls (by kernel_rfl) (by kernel_rfl) HF0.out ?_
                  repeat (go_big_quiet_step (((first
            | (go_at_call 82; refine (specVal_any _ _).mono ?_; rintro o w2 ⟨rfl, rfl⟩; exact ⟨by rw [HV.out], _, rfl⟩)
            | (go_at_call 133; refine (specWordOk_any _ _ _ _).mono ?_; rintro o w2 ⟨rfl, hb2⟩; exact ⟨by rw [HWo.out], HFn.out _ _ hb2⟩)
            | (go_at_call 134; refine (specLockOk_any _ _ _ _ B (cd T k).hs (cd T k).ws _ hlk.1 hlk.2 (i1.keep (HF.out _).2 (Nat.le_trans hB hsz))).mono ?_; rintro o w2 ⟨rfl, hb2⟩; exact ⟨by rw [HLk.out], HFn.out _ _ hb2⟩)
            | (go_at_call 135; refine (specWritten_any _ _ _ _ B (cd T k).hs (cd T k).ws _ (i1.keep (HF.out _).2 (Nat.le_trans hB hsz))).mono ?_; rintro o w2 ⟨rfl, hb2⟩; exact ⟨by rw [HWr.out], HFn.out _ _ hb2⟩)))))
                  refine wpQuiet_nil ?_
                  rintro _ ⟨nq, rfl⟩
                  have hbq := HB.out.trans ((HF.out nq).2.mono (Nat.le_trans hb0.size hsz))
                  clear f0 f1 f2 f3 f4 f5 HF0
                  generalize F nq = w2 at hbq ⊢
                  go_wp2
                  go_ret
                  exact ⟨ret_bool HE.out.symm, hbq⟩
      · obtain rfl : k = T.length := by omega
        have HE := Lib.hid (show tabOk T = true by rw [HT.out]; exact all_yes Hok.out)
        go_wp2
        go_ret
        exact ⟨ret_bool HE.out.symm, hb0.trans (hb.mono hb0.size)⟩
end Go.Proofs.YtkpkjcmoldkmmaaGreat
