/- The program's test of a table: writerHolds, cellOk, TableOk. -/
import Derived.Test.YtkpkjcmoldkmmaaGreatRg
import Derived.Test.YtkpkjcmoldkmmaaGreatTv
import Derived.Test.YtkpkjcmoldkmmaaGreatLi2
namespace Go.Proofs.YtkpkjcmoldkmmaaGreat
open Go.RowKit

def NoWr (l : HL) (k : Nat) : Prop := ∀ j, j < k → hW l j = false
theorem NoWr.next {l : HL} {k : Nat} (h : NoWr l k) (e : hW l k = false) : NoWr l (k + 1) := fun j hj => by
  by_cases ej : j = k
  · subst ej; exact e
  · exact h j (by omega)
theorem wrote_yes {l : HL} {k : Nat} (hk : k < l.length) (e : hW l k = true) : wrote l = true := by
  obtain ⟨z, hz, ez⟩ := hW_mem hk
  exact List.any_eq_true.2 ⟨z, hz, by rw [ez]; exact e⟩
theorem wrote_no {l : HL} (h : NoWr l l.length) : wrote l = false := by
  rw [wrote, List.any_eq_false]
  intro z hz
  obtain ⟨k, hk, rfl⟩ := get_hW hz
  simp [h k hk]
theorem wrClosure_any (x : Int) (y : Bool) (w : World) :
    Calls Tryz.prog 214 #[.agg #[.int .i64 x, .bool y]] w fun e w' => e = .returned (.bool y) ∧ Below w.heap.size w w' := by
  go_enter Tryz.func214, Tryz.ntmps214
  go_wp2
  go_ret
  exact ⟨rfl, (Below.refl _ _).alloc (Nat.le_refl _) _⟩

def IdxW (w : World) (l : HL) (e : Ending) (w' : World) : Prop := ∃ z : Int, e = .returned (.int .i64 z) ∧ decide (0 ≤ z) = wrote l ∧ Below w.heap.size w w'
theorem wrIndex_any (A : Option Addr) (c D : Nat) (l : HL) (w : World) (hn : l.length ≤ 1048576) (h : HAt w D A l) :
    Calls Tryz.prog 147 #[.slice A l.length c, .func (.func 214) #[] #[]] w (IdxW w l) := by
  have h := h.lt
  go_enter Tryz.func147, Tryz.ntmps147
  go_wp2
  go_loopw [8] (fun i wr => ∃ k : Nat, k ≤ l.length ∧ i = .int .i64 k ∧ NoWr l k ∧ Below w.heap.size w wr) (fun i _ => l.length - (intOf i).toNat)
  case atStart => exact ⟨0, Nat.zero_le _, rfl, fun j hj => absurd hj (by omega), Below.refl _ _⟩
  case round =>
    obtain ⟨k, hk, rfl, hno, hb⟩ := hrel
    have Hno := Lib.hid hno
    have hsz := hb.size
    clear hno
    by_cases hkn : k < l.length
    · obtain ⟨b, off, rfl, hlt, hcc⟩ := h (by omega)
      have hkz : (k : Int) < l.length := by omega
      have d0 : wr.cell? ⟨b, off + k * 2, none⟩ = some (.int .i64 (hT l k)) := (hb.cell (p := ⟨b, off + k * 2, none⟩) hlt).trans (hcc k hkn).1
      have d1 : wr.cell? ⟨b, off + k * 2 + 1, none⟩ = some (.bool (hW l k)) := (hb.cell (p := ⟨b, off + k * 2 + 1, none⟩) hlt).trans (hcc k hkn).2
      clear hcc h
      go_wp2_with fail
      refine (wrClosure_any _ _ _).mono ?_; rintro e w2 ⟨rfl, hb2⟩
      have b2 := hb.trans (hb2.mono hsz)
      clear d0 d1 hb2
      cases e : hW l k with
      | true =>
        have HE := Lib.hid (wrote_yes hkn e)
        clear e
        go_wp2
        go_ret
        exact ⟨k, rfl, by rw [HE.out]; simp, b2⟩
      | false =>
        have HN := Lib.hid (Hno.out.next e)
        clear e
        go_wp2
        exact ⟨⟨k + 1, by omega, by go_num, HN.out, b2⟩, by simp [intOf]; omega⟩
    · obtain rfl : k = l.length := by omega
      have HE := Lib.hid (wrote_no Hno.out)
      go_wp2
      go_ret
      exact ⟨-1, rfl, by rw [HE.out]; simp, hb⟩
theorem wrContains_any (A : Option Addr) (c D : Nat) (l : HL) (w : World) (hn : l.length ≤ 1048576) (h : HAt w D A l) :
    Calls Tryz.prog 213 #[.slice A l.length c, .func (.func 214) #[] #[]] w fun e w' => e = .returned (.bool (wrote l)) ∧ Below w.heap.size w w' := by
  go_enter Tryz.func213, Tryz.ntmps213
  go_wp2_with fail
  refine (wrIndex_any A c D l _ hn h).mono ?_; rintro e w1 ⟨z, rfl, hz, hb⟩
  cases hw : wrote l with
  | true =>
    rw [hw] at hz
    have HW := Lib.hid hw
    clear hw
    go_wp2
    go_ret
    exact ⟨ret_bool HW.out.symm, hb⟩
  | false =>
    rw [hw] at hz
    have HW := Lib.hid hw
    clear hw
    go_wp2
    go_ret
    exact ⟨ret_bool HW.out.symm, hb⟩
theorem writerHolds_any (A A' : Option Addr) (c c' B : Nat) (hs ws : HL) (w : World) (hn : hs.length ≤ 1048576) (h : LAt w B A A' (hs, ws)) :
    Calls Tryz.prog 188 #[.agg #[.slice A hs.length c, .slice A' ws.length c']] w fun e w' => e = .returned (.bool (wrote hs)) ∧ Below w.heap.size w w' := by
  have h1 := h.1.lt
  go_enter Tryz.func188, Tryz.ntmps188
  go_wp2_with fail
  have b0 := (Below.refl w.heap.size w).alloc (Nat.le_refl _) (.cells #[.slice A hs.length c, .slice A' ws.length c'] 65)
  have h2 := h1.below b0 b0.size
  generalize w.alloc (.cells #[.slice A hs.length c, .slice A' ws.length c'] 65) = w0 at b0 h2 ⊢
  refine (wrContains_any A c _ hs _ hn h2).mono ?_; rintro e w1 ⟨rfl, hb1⟩
  have b1 := b0.trans (hb1.mono b0.size)
  clear b0 hb1 h2
  go_wp2
  go_ret
  exact ⟨rfl, b1⟩
def EE (c : CD) : Prop := cellOk c = (((valB c.v && wordOk c.e c.s) && lockOk c.hs c.ws) && (c.h == wrote c.hs))
theorem cls6 {wr w1 : World} {x0 x1 x2 x3 x4 x5 : Value} (Y : Box w1 wr.heap.size [x0, x1, x2, x3, x4, x5]) (hb : Below wr.heap.size wr w1) :
    ∃ (I : Type) (F : I → World), Nonempty I ∧ (∃ n, w1.drew = F n) ∧ (∀ n w2, Below (F n).heap.size (F n) w2 → ∃ m, w2 = F m) ∧ (∀ n, Below wr.heap.size wr (F n)) ∧
      (∀ n, (F n).cell? ⟨wr.heap.size, 0, none⟩ = some x0) ∧ (∀ n, (F n).cell? ⟨wr.heap.size, 1, none⟩ = some x1) ∧ (∀ n, (F n).cell? ⟨wr.heap.size, 2, none⟩ = some x2) ∧
      (∀ n, (F n).cell? ⟨wr.heap.size, 3, none⟩ = some x3) ∧ (∀ n, (F n).cell? ⟨wr.heap.size, 4, none⟩ = some x4) ∧ (∀ n, (F n).cell? ⟨wr.heap.size, 5, none⟩ = some x5) := by
  obtain ⟨I, F, hI, hF0, hF, hFi⟩ := cls (S := fun W => Box W wr.heap.size [x0, x1, x2, x3, x4, x5] ∧ Below wr.heap.size wr W) ⟨Y.drew, hb.drew⟩
  exact ⟨I, F, hI, hF0, fun n w2 h => hFi w2 ⟨(hF n).1.next h, (hF n).2.trans (h.mono (hF n).2.size)⟩, fun n => (hF n).2, fun n => (hF n).1.c6.1.1, fun n => (hF n).1.c6.1.2.1, fun n => (hF n).1.c6.1.2.2.1, fun n => (hF n).1.c6.1.2.2.2.1, fun n => (hF n).1.c6.1.2.2.2.2.1, fun n => (hF n).1.c6.1.2.2.2.2.2⟩
set_option maxHeartbeats 3200000 in
set_option maxRecDepth 100000 in
theorem implCellOk_any (c : CD) (q : Pl) (B : Nat) (w : World) (hn : c.hs.length ≤ 1048576) (hn' : c.ws.length ≤ 1048576) (hB : B ≤ w.heap.size) (h : LsAt w B c q) :
    Calls Tryz.prog 140 #[cval c q] w fun e w' => e = .returned (.bool (cellOk c)) ∧ Below w.heap.size w w' := by
  have i1 : LAt w B q.G q.G' (c.hs, c.ws) := h
  have HC := Lib.hid (show EE c from rfl)
  unfold cval
  go_enter Tryz.func140, Tryz.ntmps140
  go_wp2_with fail
  have hbw := (Below.refl w.heap.size w).alloc (Nat.le_refl _) (.cells #[.int .i64 c.v, .int .i64 c.e, .int .i64 c.s, .bool c.h, .slice q.G c.hs.length q.c, .slice q.G' c.ws.length q.c'] 67)
  have Y := Box.new (w := w) (c := #[.int .i64 c.v, .int .i64 c.e, .int .i64 c.s, .bool c.h, .slice q.G c.hs.length q.c, .slice q.G' c.ws.length q.c']) (t := 67) rfl
  generalize w.alloc (.cells #[.int .i64 c.v, .int .i64 c.e, .int .i64 c.s, .bool c.h, .slice q.G c.hs.length q.c, .slice q.G' c.ws.length q.c'] 67) = w1 at hbw Y ⊢
  obtain ⟨I, F, hI, hF0, hFn, hF, f0, f1, f2, f3, f4, f5⟩ := cls6 Y hbw
  have HF0 := Lib.hid hF0
  have HFn := Lib.hid hFn
  have HF := Lib.hid hF
  clear hF0 hFn hF Y hbw
  unfold EE at HC
  cases hv : valB c.v with
  | false =>
    have HV := Lib.hid hv
    have HE := Lib.hid (show cellOk c = false by rw [HC.out, hv]; rfl)
    clear hv HC
    refine wp_region_cls (by kernel_rfl) (by kernel_rfl) HF0.out ?_
    repeat (go_big_quiet_step (((first
      | (go_at_call 185; refine (implVal_any _ _).mono ?_; rintro o w2 ⟨rfl, rfl⟩; exact ⟨by rw [HV.out], _, rfl⟩)
      | (go_at_call 186; refine (implWordOk_any _ _ _ _).mono ?_; rintro o w2 ⟨rfl, hb2⟩; exact ⟨by rw [HWo.out], HFn.out _ _ hb2⟩)
      | (go_at_call 187; refine (implLockOk_any _ _ _ _ B c.hs c.ws _ hn hn' (i1.keep (HF.out _) hB)).mono ?_; rintro o w2 ⟨rfl, hb2⟩; exact ⟨by rw [HLk.out], HFn.out _ _ hb2⟩)
      | (go_at_call 188; refine (writerHolds_any _ _ _ _ B c.hs c.ws _ hn (i1.keep (HF.out _) hB)).mono ?_; rintro o w2 ⟨rfl, hb2⟩; exact ⟨by rw [HWr.out], HFn.out _ _ hb2⟩)))))
    refine wpQuiet_nil ?_
    rintro _ ⟨nq, rfl⟩
    have hbq := HF.out nq
    clear f0 f1 f2 f3 f4 f5 HF0
    generalize F nq = w2 at hbq ⊢
    go_wp2
    go_ret
    exact ⟨ret_bool HE.out.symm, hbq⟩
  | true =>
    have HV := Lib.hid hv
    cases hw : wordOk c.e c.s with
    | false =>
      have HWo := Lib.hid hw
      have HE := Lib.hid (show cellOk c = false by rw [HC.out, hv, hw]; rfl)
      clear hv hw HC
      refine wp_region_cls (by kernel_rfl) (by kernel_rfl) HF0.out ?_
      repeat (go_big_quiet_step (((first
        | (go_at_call 185; refine (implVal_any _ _).mono ?_; rintro o w2 ⟨rfl, rfl⟩; exact ⟨by rw [HV.out], _, rfl⟩)
        | (go_at_call 186; refine (implWordOk_any _ _ _ _).mono ?_; rintro o w2 ⟨rfl, hb2⟩; exact ⟨by rw [HWo.out], HFn.out _ _ hb2⟩)
        | (go_at_call 187; refine (implLockOk_any _ _ _ _ B c.hs c.ws _ hn hn' (i1.keep (HF.out _) hB)).mono ?_; rintro o w2 ⟨rfl, hb2⟩; exact ⟨by rw [HLk.out], HFn.out _ _ hb2⟩)
        | (go_at_call 188; refine (writerHolds_any _ _ _ _ B c.hs c.ws _ hn (i1.keep (HF.out _) hB)).mono ?_; rintro o w2 ⟨rfl, hb2⟩; exact ⟨by rw [HWr.out], HFn.out _ _ hb2⟩)))))
      refine wpQuiet_nil ?_
      rintro _ ⟨nq, rfl⟩
      have hbq := HF.out nq
      clear f0 f1 f2 f3 f4 f5 HF0
      generalize F nq = w2 at hbq ⊢
      go_wp2
      go_ret
      exact ⟨ret_bool HE.out.symm, hbq⟩
    | true =>
      have HWo := Lib.hid hw
      cases hlo : lockOk c.hs c.ws with
      | false =>
        have HLk := Lib.hid hlo
        have HE := Lib.hid (show cellOk c = false by rw [HC.out, hv, hw, hlo]; rfl)
        clear hv hw hlo HC
        refine wp_region_cls (by kernel_rfl) (by kernel_rfl) HF0.out ?_
        repeat (go_big_quiet_step (((first
          | (go_at_call 185; refine (implVal_any _ _).mono ?_; rintro o w2 ⟨rfl, rfl⟩; exact ⟨by rw [HV.out], _, rfl⟩)
          | (go_at_call 186; refine (implWordOk_any _ _ _ _).mono ?_; rintro o w2 ⟨rfl, hb2⟩; exact ⟨by rw [HWo.out], HFn.out _ _ hb2⟩)
          | (go_at_call 187; refine (implLockOk_any _ _ _ _ B c.hs c.ws _ hn hn' (i1.keep (HF.out _) hB)).mono ?_; rintro o w2 ⟨rfl, hb2⟩; exact ⟨by rw [HLk.out], HFn.out _ _ hb2⟩)
          | (go_at_call 188; refine (writerHolds_any _ _ _ _ B c.hs c.ws _ hn (i1.keep (HF.out _) hB)).mono ?_; rintro o w2 ⟨rfl, hb2⟩; exact ⟨by rw [HWr.out], HFn.out _ _ hb2⟩)))))
        refine wpQuiet_nil ?_
        rintro _ ⟨nq, rfl⟩
        have hbq := HF.out nq
        clear f0 f1 f2 f3 f4 f5 HF0
        generalize F nq = w2 at hbq ⊢
        go_wp2
        go_ret
        exact ⟨ret_bool HE.out.symm, hbq⟩
      | true =>
        have HLk := Lib.hid hlo
        cases hh : c.h with
        | false =>
          cases hwr : wrote c.hs with
          | false =>
            have HWr := Lib.hid hwr
            have HE := Lib.hid (show cellOk c = true by rw [HC.out, hv, hw, hlo, hh, hwr]; rfl)
            simp only [hh] at f3
            clear hv hw hlo hh hwr HC
            refine wp_region_cls (by kernel_rfl) (by kernel_rfl) HF0.out ?_
            repeat (go_big_quiet_step (((first
              | (go_at_call 185; refine (implVal_any _ _).mono ?_; rintro o w2 ⟨rfl, rfl⟩; exact ⟨by rw [HV.out], _, rfl⟩)
              | (go_at_call 186; refine (implWordOk_any _ _ _ _).mono ?_; rintro o w2 ⟨rfl, hb2⟩; exact ⟨by rw [HWo.out], HFn.out _ _ hb2⟩)
              | (go_at_call 187; refine (implLockOk_any _ _ _ _ B c.hs c.ws _ hn hn' (i1.keep (HF.out _) hB)).mono ?_; rintro o w2 ⟨rfl, hb2⟩; exact ⟨by rw [HLk.out], HFn.out _ _ hb2⟩)
              | (go_at_call 188; refine (writerHolds_any _ _ _ _ B c.hs c.ws _ hn (i1.keep (HF.out _) hB)).mono ?_; rintro o w2 ⟨rfl, hb2⟩; exact ⟨by rw [HWr.out], HFn.out _ _ hb2⟩)))))
            refine wpQuiet_nil ?_
            rintro _ ⟨nq, rfl⟩
            have hbq := HF.out nq
            clear f0 f1 f2 f3 f4 f5 HF0
            generalize F nq = w2 at hbq ⊢
            go_wp2
            go_ret
            exact ⟨ret_bool HE.out.symm, hbq⟩
          | true =>
            have HWr := Lib.hid hwr
            have HE := Lib.hid (show cellOk c = false by rw [HC.out, hv, hw, hlo, hh, hwr]; rfl)
            simp only [hh] at f3
            clear hv hw hlo hh hwr HC
            refine wp_region_cls (by kernel_rfl) (by kernel_rfl) HF0.out ?_
            repeat (go_big_quiet_step (((first
              | (go_at_call 185; refine (implVal_any _ _).mono ?_; rintro o w2 ⟨rfl, rfl⟩; exact ⟨by rw [HV.out], _, rfl⟩)
              | (go_at_call 186; refine (implWordOk_any _ _ _ _).mono ?_; rintro o w2 ⟨rfl, hb2⟩; exact ⟨by rw [HWo.out], HFn.out _ _ hb2⟩)
              | (go_at_call 187; refine (implLockOk_any _ _ _ _ B c.hs c.ws _ hn hn' (i1.keep (HF.out _) hB)).mono ?_; rintro o w2 ⟨rfl, hb2⟩; exact ⟨by rw [HLk.out], HFn.out _ _ hb2⟩)
              | (go_at_call 188; refine (writerHolds_any _ _ _ _ B c.hs c.ws _ hn (i1.keep (HF.out _) hB)).mono ?_; rintro o w2 ⟨rfl, hb2⟩; exact ⟨by rw [HWr.out], HFn.out _ _ hb2⟩)))))
            refine wpQuiet_nil ?_
            rintro _ ⟨nq, rfl⟩
            have hbq := HF.out nq
            clear f0 f1 f2 f3 f4 f5 HF0
            generalize F nq = w2 at hbq ⊢
            go_wp2
            go_ret
            exact ⟨ret_bool HE.out.symm, hbq⟩
        | true =>
          cases hwr : wrote c.hs with
          | false =>
            have HWr := Lib.hid hwr
            have HE := Lib.hid (show cellOk c = false by rw [HC.out, hv, hw, hlo, hh, hwr]; rfl)
            simp only [hh] at f3
            clear hv hw hlo hh hwr HC
            refine wp_region_cls (by kernel_rfl) (by kernel_rfl) HF0.out ?_
            repeat (go_big_quiet_step (((first
              | (go_at_call 185; refine (implVal_any _ _).mono ?_; rintro o w2 ⟨rfl, rfl⟩; exact ⟨by rw [HV.out], _, rfl⟩)
              | (go_at_call 186; refine (implWordOk_any _ _ _ _).mono ?_; rintro o w2 ⟨rfl, hb2⟩; exact ⟨by rw [HWo.out], HFn.out _ _ hb2⟩)
              | (go_at_call 187; refine (implLockOk_any _ _ _ _ B c.hs c.ws _ hn hn' (i1.keep (HF.out _) hB)).mono ?_; rintro o w2 ⟨rfl, hb2⟩; exact ⟨by rw [HLk.out], HFn.out _ _ hb2⟩)
              | (go_at_call 188; refine (writerHolds_any _ _ _ _ B c.hs c.ws _ hn (i1.keep (HF.out _) hB)).mono ?_; rintro o w2 ⟨rfl, hb2⟩; exact ⟨by rw [HWr.out], HFn.out _ _ hb2⟩)))))
            refine wpQuiet_nil ?_
            rintro _ ⟨nq, rfl⟩
            have hbq := HF.out nq
            clear f0 f1 f2 f3 f4 f5 HF0
            generalize F nq = w2 at hbq ⊢
            go_wp2
            go_ret
            exact ⟨ret_bool HE.out.symm, hbq⟩
          | true =>
            have HWr := Lib.hid hwr
            have HE := Lib.hid (show cellOk c = true by rw [HC.out, hv, hw, hlo, hh, hwr]; rfl)
            simp only [hh] at f3
            clear hv hw hlo hh hwr HC
            refine wp_region_cls (by kernel_rfl) (by kernel_rfl) HF0.out ?_
            repeat (go_big_quiet_step (((first
              | (go_at_call 185; refine (implVal_any _ _).mono ?_; rintro o w2 ⟨rfl, rfl⟩; exact ⟨by rw [HV.out], _, rfl⟩)
              | (go_at_call 186; refine (implWordOk_any _ _ _ _).mono ?_; rintro o w2 ⟨rfl, hb2⟩; exact ⟨by rw [HWo.out], HFn.out _ _ hb2⟩)
              | (go_at_call 187; refine (implLockOk_any _ _ _ _ B c.hs c.ws _ hn hn' (i1.keep (HF.out _) hB)).mono ?_; rintro o w2 ⟨rfl, hb2⟩; exact ⟨by rw [HLk.out], HFn.out _ _ hb2⟩)
              | (go_at_call 188; refine (writerHolds_any _ _ _ _ B c.hs c.ws _ hn (i1.keep (HF.out _) hB)).mono ?_; rintro o w2 ⟨rfl, hb2⟩; exact ⟨by rw [HWr.out], HFn.out _ _ hb2⟩)))))
            refine wpQuiet_nil ?_
            rintro _ ⟨nq, rfl⟩
            have hbq := HF.out nq
            clear f0 f1 f2 f3 f4 f5 HF0
            generalize F nq = w2 at hbq ⊢
            go_wp2
            go_ret
            exact ⟨ret_bool HE.out.symm, hbq⟩

theorem countOk_any (n : Int) (w : World) :
    Calls Tryz.prog 66 #[.int .i64 n] w fun e w' => e = .returned (.bool (inB n 1 8)) ∧ w = w' := by
  by_cases h1 : 1 ≤ n
  · by_cases h2 : n ≤ 8
    · go_enter Tryz.func66, Tryz.ntmps66
      go_wp2
      go_ret
      exact ⟨ret_bool (by simp [inB, h1, h2]), rfl⟩
    · go_enter Tryz.func66, Tryz.ntmps66
      go_wp2
      go_ret
      exact ⟨ret_bool (by simp [inB]; omega), rfl⟩
  · go_enter Tryz.func66, Tryz.ntmps66
    go_wp2
    go_ret
    exact ⟨ret_bool (by simp [inB]; omega), rfl⟩
theorem implTabOk_any (A : Option Addr) (c B : Nat) (T : TL) (w : World) (hs : TFit T) (hB : B ≤ w.heap.size) (h : TAt w B A T) :
    Calls Tryz.prog 87 #[.agg #[.slice A T.length c]] w fun e w' => e = .returned (.bool (tabOk T)) ∧ Below w.heap.size w w' := by
  have hlen := hs.len
  go_enter Tryz.func87, Tryz.ntmps87
  go_wp2_with fail
  refine (countOk_any _ _).mono ?_; rintro e w1 ⟨rfl, rfl⟩
  cases hL : inB T.length 1 8 with
  | false =>
    go_wp2
    go_ret
    exact ⟨ret_bool (by simp [tabOk, hL]), (Below.refl _ _).alloc (Nat.le_refl _) _⟩
  | true =>
    have hl8 : 1 ≤ T.length ∧ T.length ≤ 8 := by simp only [inB, Bool.and_eq_true, decide_eq_true_eq] at hL; omega
    have HT := Lib.hid (show tabOk T = T.all cellOk by unfold tabOk; rw [hL]; rfl)
    clear hL
    go_wp2_with fail
    have hb0 := (Below.refl w.heap.size w).alloc (Nat.le_refl _) (.cells #[.slice A T.length c] 37)
    have h := h.keep hb0 hB
    have hB : B ≤ (w.alloc (.cells #[.slice A T.length c] 37)).heap.size := Nat.le_trans hB hb0.size
    generalize w.alloc (.cells #[.slice A T.length c] 37) = w0 at hb0 h hB ⊢
    go_loopw [13] (fun i wr => ∃ k : Nat, k ≤ T.length ∧ i = .int .i64 k ∧ Below w0.heap.size w0 wr ∧ OkTo T k) (fun i _ => T.length - (intOf i).toNat)
    case atStart => exact ⟨0, Nat.zero_le _, rfl, Below.refl _ _, fun j hj => absurd hj (by omega)⟩
    case round =>
      obtain ⟨k, hk, rfl, hb, hok⟩ := hrel
      have Hok := Lib.hid hok
      clear hok
      have hsz := hb.size
      by_cases hkn : k < T.length
      · obtain ⟨b, off, rfl, hbB, q, hc⟩ := h (by omega)
        have hkz : (k : Int) < T.length := by omega
        have hlk := hs.at_ hkn
        obtain ⟨a0, a1, a2, a3, a4, a5⟩ := (hc k hkn).1.below hb (show b < w0.heap.size by omega)
        have i1 : LsAt wr B (cd T k) (q k) := LAt.keep (hc k hkn).2 hb hB
        have HY := Lib.hid (Hok.out.next (k := k))
        have HN := Lib.hid (all_no hkn)
        clear hc h Hok
        go_wp2_with fail
        have hba := hb.alloc hsz (.cells #[.int .i64 (cd T k).v, .int .i64 (cd T k).e, .int .i64 (cd T k).s, .bool (cd T k).h, .slice (q k).G (cd T k).hs.length (q k).c, .slice (q k).G' (cd T k).ws.length (q k).c'] 67)
        have i2 : LsAt (wr.alloc (.cells #[.int .i64 (cd T k).v, .int .i64 (cd T k).e, .int .i64 (cd T k).s, .bool (cd T k).h, .slice (q k).G (cd T k).hs.length (q k).c, .slice (q k).G' (cd T k).ws.length (q k).c'] 67)) B (cd T k) (q k) := LAt.keep i1 ((Below.refl wr.heap.size wr).alloc (Nat.le_refl _) _) (Nat.le_trans hB hsz)
        clear a0 a1 a2 a3 a4 a5 i1
        generalize wr.alloc (.cells #[.int .i64 (cd T k).v, .int .i64 (cd T k).e, .int .i64 (cd T k).s, .bool (cd T k).h, .slice (q k).G (cd T k).hs.length (q k).c, .slice (q k).G' (cd T k).ws.length (q k).c'] 67) = w1 at hba i2 ⊢
        refine (implCellOk_any (cd T k) (q k) B _ hlk.1 hlk.2 (Nat.le_trans hB hba.size) i2).mono ?_; rintro e w2 ⟨rfl, hb2⟩
        have hb3 := hba.trans (hb2.mono hba.size)
        clear hba hb2 i2
        cases hc : cellOk (cd T k) with
        | true =>
          have HE := Lib.hid (HY.out hc)
          clear HY HN hc
          go_wp2
          exact ⟨⟨k + 1, by omega, by go_num, hb3, HE.out⟩, by simp [intOf]; omega⟩
        | false =>
          have HE := Lib.hid (show tabOk T = false by rw [HT.out]; exact HN.out hc)
          clear HY HN hc
          go_wp2
          go_ret
          exact ⟨ret_bool HE.out.symm, hb0.trans (hb3.mono hb0.size)⟩
      · obtain rfl : k = T.length := by omega
        have HE := Lib.hid (show tabOk T = true by rw [HT.out]; exact all_yes Hok.out)
        go_wp2
        go_ret
        exact ⟨ret_bool HE.out.symm, hb0.trans (hb.mono hb0.size)⟩
end Go.Proofs.YtkpkjcmoldkmmaaGreat
