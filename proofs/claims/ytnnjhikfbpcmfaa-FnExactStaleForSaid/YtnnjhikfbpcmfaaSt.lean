/- StaleFor, the model's and the program's. -/
import Derived.Test.YtnnjhikfbpcmfaaTq
import Derived.Test.YtnnjhikfbpcmfaaWHold
import Derived.Test.YtnnjhikfbpcmfaaWLead
import Derived.Test.YtnnjhikfbpcmfaaLi3
import Derived.Test.YtnnjhikfbpcmfaaRg
namespace Go.Proofs.Ytnnjhikfbpcmfaa
open Go.RowKit
open Go.Maps (Keyed)

theorem stale_eq {hs ws : HL} (h : lockOk hs ws = true) (tid : Int) : (wroteS hs && !decide (hT hs 0 = tid)) = (wrote hs && !decide (holdsL hs ws tid = 2)) := by
  rw [← wrote_lock h]
  match hs, h with
  | [], _ => rfl
  | [x], h =>
    unfold holdsL
    rw [if_pos h]
    cases hx : x.2 with
    | false => simp [wroteS, hx]
    | true =>
      by_cases e : x.1 = tid
      · simp [wroteS, hx, hT, holdsAt, e]
      · by_cases hw : (ids ws).contains tid = true
        · simp [wroteS, hx, hT, holdsAt, e]; split <;> omega
        · simp [wroteS, hx, hT, holdsAt, e]; split <;> omega
  | x :: y :: l, h =>
    have h2 : x.2 = false := (wrOk_iff _).1 ((lockOk_iff _ _).1 h).1.wr (by simp) x (by simp)
    simp [wroteS, h2]
/-- what StaleFor gives -/
def staleC (c : CD) (tid e s : Int) : Bool := !sameW c.e c.s e s || (wroteS c.hs && !decide (hT c.hs 0 = tid))
def staleB (T : TL) (key tid e s : Int) : Bool := !thereB T key || staleC (cAt T key) tid e s
theorem staleC_eq {c : CD} (h : lockOk c.hs c.ws = true) (tid e s : Int) : staleC c tid e s = (!sameW c.e c.s e s || (wrote c.hs && !decide (holdsL c.hs c.ws tid = 2))) := by
  unfold staleC; rw [stale_eq h]
set_option maxHeartbeats 800000 in
set_option maxRecDepth 100000 in
theorem specStale_any (A : Option Addr) (c B : Nat) (T : TL) (key tid e s : Int) (g : Bool) (w : World) (hs : TFit T) (hB : B ≤ w.heap.size) (h : TAt w B A T) :
    Calls Try.prog 22 #[.agg #[.slice A T.length c], .int .i64 key, .int .i64 tid, .agg #[.int .i64 e, .int .i64 s, .bool g]] w fun o w' => o = .returned (.bool (staleB T key tid e s)) ∧ Below w.heap.size w w' := by
  have hlen := hs.len
  go_enter Try.func22, Try.ntmps22
  go_wp2_with fail
  have b0 := ((Below.refl w.heap.size w).alloc (Nat.le_refl _) (.cells #[.slice A T.length c] 29)).alloc (by simp) (.cells #[.int .i64 e, .int .i64 s, .bool g] 38)
  have X := (Box.new (w := w) (c := #[.slice A T.length c]) (t := 29) rfl).alloc (.cells #[.int .i64 e, .int .i64 s, .bool g] 38)
  have R := Box.new (w := w.alloc (.cells #[.slice A T.length c] 29)) (b := w.heap.size + 1) (c := #[.int .i64 e, .int .i64 s, .bool g]) (t := 38) (by simp)
  generalize (w.alloc (.cells #[.slice A T.length c] 29)).alloc (.cells #[.int .i64 e, .int .i64 s, .bool g] 38) = w0 at b0 X R ⊢
  refine (specThere_any A c B T key _ hs (Nat.le_trans hB b0.size) (h.keep b0 hB)).mono ?_; rintro o w1 ⟨rfl, hb1⟩
  have X := X.next hb1
  have R := R.next hb1
  have b1 := b0.trans (hb1.mono b0.size)
  clear b0 hb1
  cases hT : thereB T key with
  | false =>
    have HE := Lib.hid (show staleB T key tid e s = true by simp [staleB, hT])
    clear hT
    go_wp2
    go_ret
    exact ⟨ret_bool HE.out.symm, b1⟩
  | true =>
    obtain ⟨hto, hk0, hk1⟩ := there_iff.1 hT
    have HE := Lib.hid (show staleB T key tid e s = staleC (cAt T key) tid e s by simp [staleB, hT])
    clear hT hto
    obtain ⟨k, rfl⟩ := Int.eq_ofNat_of_zero_le hk0
    have hkn : k < T.length := by simpa using hk1
    have hkz : (k : Int) < T.length := by omega
    have HE := Lib.hid (show staleB T (k : Int) tid e s = staleC (cd T k) tid e s by rw [HE.out]; rfl)
    obtain ⟨bb, off, rfl, hbB, q, hc⟩ := h (by omega)
    obtain ⟨a0, a1, a2, a3, a4, a5⟩ := (hc k hkn).1.below b1 (show bb < w.heap.size by omega)
    have i1 : LsAt w1 B (cd T k) (q k) := LAt.keep (hc k hkn).2 b1 hB
    obtain ⟨x0, xf⟩ := X.c1
    obtain ⟨r0, r1, r2, rf⟩ := R.c3
    have rl := R.lt
    clear h hc hk1 hk0 xf rf
    generalize cd T k = C at a0 a1 a2 a3 a4 a5 i1 HE
    generalize q k = qk at a0 a1 a2 a3 a4 a5 i1
    go_wp2_with fail
    have hA := (Below.refl w1.heap.size w1).alloc (Nat.le_refl _) (.cells #[.int .i64 C.v, .int .i64 C.e, .int .i64 C.s, .bool C.h, .slice qk.G C.hs.length qk.c, .slice qk.G' C.ws.length qk.c'] 58)
    have D := Box.new (w := w1) (c := #[.int .i64 C.v, .int .i64 C.e, .int .i64 C.s, .bool C.h, .slice qk.G C.hs.length qk.c, .slice qk.G' C.ws.length qk.c']) (t := 58) rfl
    have i2 : LAt _ B qk.G qk.G' (C.hs, C.ws) := LAt.keep i1 hA (Nat.le_trans hB b1.size)
    have b2 := b1.trans (hA.mono b1.size)
    clear a0 a1 a2 a3 a4 a5 x0 X i1 b1 r0 r1 r2 rl R hA
    generalize w1.alloc (.cells #[.int .i64 C.v, .int .i64 C.e, .int .i64 C.s, .bool C.h, .slice qk.G C.hs.length qk.c, .slice qk.G' C.ws.length qk.c'] 58) = w3 at D b2 i2 ⊢
    refine (specSame_any C.e C.s e s C.h g _).mono ?_; rintro o w4 ⟨rfl, hb4⟩
    have D := D.next hb4
    have i3 : LAt _ B qk.G qk.G' (C.hs, C.ws) := LAt.keep i2 hb4 (Nat.le_trans hB b2.size)
    have b3 := b2.trans (hb4.mono b2.size)
    clear hb4 i2 b2
    cases hS : sameW C.e C.s e s with
    | false =>
      have HF := Lib.hid (show staleB T (k : Int) tid e s = true by rw [HE.out, staleC, hS]; rfl)
      clear hS HE
      go_wp2
      go_ret
      exact ⟨ret_bool HF.out.symm, b3⟩
    | true =>
      have HF := Lib.hid (show staleB T (k : Int) tid e s = (wroteS C.hs && !decide (hT C.hs 0 = tid)) by rw [HE.out, staleC, hS]; rfl)
      obtain ⟨d0, d1, d2, d3, d4, d5⟩ := D.c6.1
      have dl := D.lt
      clear hS HE
      go_wp2_with fail
      refine (specWritten_any _ _ _ _ B C.hs C.ws _ i3).mono ?_; rintro o w5 ⟨rfl, hb5⟩
      have D := D.next hb5
      have i4 : LAt _ B qk.G qk.G' (C.hs, C.ws) := LAt.keep i3 hb5 (Nat.le_trans hB b3.size)
      have b4 := b3.trans (hb5.mono b3.size)
      clear d0 d1 d2 d3 d4 d5 hb5 i3 b3 dl
      obtain ⟨d0, d1, d2, d3, d4, d5⟩ := D.c6.1
      have dl := D.lt
      cases hW : wroteS C.hs with
      | false =>
        have HF := Lib.hid (show staleB T (k : Int) tid e s = false by rw [HF.out, hW]; rfl)
        clear hW
        go_wp2
        go_ret
        exact ⟨ret_bool HF.out.symm, b4⟩
      | true =>
        have HF := Lib.hid (show staleB T (k : Int) tid e s = !decide (hT C.hs 0 = tid) by rw [HF.out, hW]; rfl)
        have hl : 0 < C.hs.length := by
          cases hh : C.hs with
          | nil => rw [hh] at hW; cases hW
          | cons a l => simp
        have hlz : (0 : Int) < (C.hs.length : Int) := by omega
        obtain ⟨b', o', ho, _, hc⟩ := i4.1.lt (by omega)
        have hc0 := hc 0 hl
        simp only [Nat.zero_mul, Nat.add_zero] at hc0
        obtain ⟨c0, c1⟩ := hc0
        rw [ho] at d4
        clear hc hW i4
        by_cases et : hT C.hs 0 = tid
        · have HF := Lib.hid (show staleB T (k : Int) tid e s = false by rw [HF.out, decide_eq_true et]; rfl)
          go_wp2
          go_ret
          exact ⟨ret_bool HF.out.symm, b4⟩
        · have HF := Lib.hid (show staleB T (k : Int) tid e s = true by rw [HF.out, decide_eq_false et]; rfl)
          go_wp2
          go_ret
          exact ⟨ret_bool (by rw [HF.out]; simp [et]), b4⟩
set_option maxHeartbeats 800000 in
set_option maxRecDepth 100000 in
theorem implStale_any (A : Option Addr) (c B : Nat) (T : TL) (key tid e s : Int) (g : Bool) (w : World) (hkey : keyOf Try.prog 3 (.int .i64 key) = some (.int .i64 key)) (hs : TFit T) (hB : B ≤ w.heap.size) (h : TAt w B A T) :
    Calls Try.prog 24 #[.agg #[.slice A T.length c], .int .i64 key, .int .i64 tid, .agg #[.int .i64 e, .int .i64 s, .bool g]] w fun o w' => o = .returned (.bool (staleB T key tid e s)) ∧ Below w.heap.size w w' := by
  go_enter Try.func24, Try.ntmps24
  go_wp2_with fail
  have b0 := ((Below.refl w.heap.size w).alloc (Nat.le_refl _) (.cells #[.slice A T.length c] 29)).alloc (by simp) (.cells #[.int .i64 e, .int .i64 s, .bool g] 38)
  have R := Box.new (w := w.alloc (.cells #[.slice A T.length c] 29)) (b := w.heap.size + 1) (c := #[.int .i64 e, .int .i64 s, .bool g]) (t := 38) (by simp)
  generalize (w.alloc (.cells #[.slice A T.length c] 29)).alloc (.cells #[.int .i64 e, .int .i64 s, .bool g] 38) = w0 at b0 R ⊢
  cases hT : tabOk T with
  | false =>
    have HE := Lib.hid (show staleB T key tid e s = true by simp [staleB, hT, thereB])
    refine (storeOf_bad A c B T _ hs (Nat.le_trans hB b0.size) (h.keep b0 hB) hT).mono ?_; rintro o w1 ⟨rfl, hb1⟩
    have b1 := b0.trans (hb1.mono b0.size)
    have hA := (b1.alloc b1.size (.cells #[.map none, .map none] 73))
    clear b0 hb1 hT R b1
    go_wp2_with fail
    have hlk := Go.Maps.look_nil (w := w1.alloc (.cells #[.map none, .map none] 73)) true keyI Try.underlying70 (zeroSlot _) hkey
    go_wp2_with fail
    have hB2 := Lib.hid (show Below w.heap.size w (((w1.alloc (.cells #[.map none, .map none] 73)).alloc (.cells #[.int .i64 0, .int .i64 0] 68)).drew) from (hA.alloc hA.size _).drew)
    obtain ⟨I, F, hI, hF0, hF, hFi⟩ := cls (S := fun W => Below w.heap.size w W) hB2.out
    have HF0 := Lib.hid hF0
    have HF := Lib.hid hF
    clear hF0 hF hFi hlk hA hB2
    refine wp_region_cls (by kernel_rfl) (by kernel_rfl) HF0.out ?_
    repeat (go_big_quiet_step (fail))
    refine wpQuiet_nil ?_
    rintro _ ⟨nq, rfl⟩
    have hbq := HF.out nq
    clear HF0
    generalize F nq = w2 at hbq ⊢
    go_wp2
    go_ret
    exact ⟨ret_bool HE.out.symm, hbq⟩
  | true =>
    have hl8 := tabOk_len hT
    have hTE : thereB T key = decide (0 ≤ key ∧ key < (T.length : Int)) := by
      rw [Bool.eq_iff_iff, there_iff, decide_eq_true_eq]
      constructor
      · rintro ⟨_, h1, h2⟩; omega
      · rintro ⟨h1, h2⟩; exact ⟨hT, h1, by omega⟩
    have HW := Lib.hid (fun k (hk : k < T.length) => cellOk_parts (tabOk_at hT hk))
    obtain ⟨bb, off, rfl, hbB, q, hc⟩ := h (by omega)
    have hcl0 : TCl w0 B bb off T q := ⟨hbB, fun j hj => ⟨(hc j hj).1.below b0 (by omega), LAt.keep (hc j hj).2 b0 hB⟩⟩
    refine (storeOf_ok bb off c B T q _ hs (Nat.le_trans hB b0.size) hcl0 hT).mono ?_; rintro o w1 ⟨m1, m2, mm, rfl, hne, hm1, hm2, M1, hmm, M2, hb1⟩
    have R := R.next hb1
    have b1 := b0.trans (hb1.mono b0.size)
    have hB1 := Lib.hid (Nat.le_trans hB b1.size)
    have hL := fun k (hk : k < T.length) => LAt.keep (hc k hk).2 b1 hB
    clear b0 hb1 hcl0 hc hT
    by_cases hk : 0 ≤ key ∧ key < (T.length : Int)
    · have hkn : key.toNat < T.length := by omega
      obtain ⟨_, hwo, hlo, hhe⟩ := HW.out key.toNat hkn
      have hlk := hs.at_ hkn
      have HLo := Lib.hid (show lockOk (cAt T key).hs (cAt T key).ws = true from hlo)
      have HE := Lib.hid (show staleB T key tid e s = (!sameW (cAt T key).e (cAt T key).s e s || ((cAt T key).h && !decide (holdsL (cAt T key).hs (cAt T key).ws tid = 2))) by
        have h1 : staleB T key tid e s = staleC (cAt T key) tid e s := by rw [staleB, hTE, decide_eq_true hk]; rfl
        rw [h1, staleC_eq HLo.out, show (cAt T key).h = wrote (cAt T key).hs from hhe])
      have HWo := Lib.hid (show wordOk (cAt T key).e (cAt T key).s = true from hwo)
      have hsl : slotsF T T.length key = some (.agg #[.int .i64 (pk (cAt T key).e (cAt T key).s (cAt T key).h), .int .i64 (cAt T key).v]) := by unfold slotsF; rw [if_pos hk]; rfl
      have hll : ¬ (cAt T key).hs.length = 0 → locksF T q T.length key = some (lkq (cAt T key) (q key.toNat)) := fun h0 => by unfold locksF; rw [if_pos ⟨hk, h0⟩]; rfl
      have hn0 : (cAt T key).h = true → ¬ (cAt T key).hs.length = 0 := fun h1 h0 => by
        rw [show (cAt T key).h = wrote (cAt T key).hs from hhe, List.length_eq_zero_iff.1 h0] at h1; cases h1
      have i1 : LAt w1 B (q key.toNat).G (q key.toNat).G' ((cAt T key).hs, (cAt T key).ws) := hL _ hkn
      have HSl := Lib.hid hsl
      have HLl := Lib.hid (fun h => hll (hn0 h))
      have hlk : (cAt T key).hs.length ≤ 1048576 ∧ (cAt T key).ws.length ≤ 1048576 := hlk
      clear hsl hwo hlo hhe hll hn0 hL HLo hTE
      generalize cAt T key = C at HE HSl HWo HLl i1 hlk
      generalize q key.toNat = qk at HLl i1
      have M1' := M1.next ((Below.refl w1.heap.size w1).alloc (Nat.le_refl _) (.cells #[.map (some m1), .map (some m2)] 73))
      go_wp2_with (first | (at_lookup; refine wp_look_ok _ rfl _ _ rfl keyI Try.underlying70 (zeroSlot _) rfl M1' key rfl hkey (.agg #[.int .i64 (pk C.e C.s C.h), .int .i64 C.v]) (by rw [HSl.out]; rfl) true (by rw [HSl.out]; rfl) ?_) | fail)
      have hA := ((Below.refl w1.heap.size w1).alloc (Nat.le_refl _) (.cells #[.map (some m1), .map (some m2)] 73)).alloc (by simp) (.cells #[.int .i64 (pk C.e C.s C.h), .int .i64 C.v] 68)
      have Z := (Box.new (w := w1) (c := #[.map (some m1), .map (some m2)]) (t := 73) rfl).alloc (.cells #[.int .i64 (pk C.e C.s C.h), .int .i64 C.v] 68)
      have D := Box.new (w := w1.alloc (.cells #[.map (some m1), .map (some m2)] 73)) (b := w1.heap.size + 1) (c := #[.int .i64 (pk C.e C.s C.h), .int .i64 C.v]) (t := 68) (by simp)
      have R := R.next hA
      generalize (w1.alloc (.cells #[.map (some m1), .map (some m2)] 73)).alloc (.cells #[.int .i64 (pk C.e C.s C.h), .int .i64 C.v] 68) = w3 at hA Z D R ⊢
      obtain ⟨I, F, hI, hF0, hF, hFi⟩ := cls (S := fun W => (Box W (w1.heap.size + 1) [.int .i64 (pk C.e C.s C.h), .int .i64 C.v] ∧ Box W (w.heap.size + 1) [.int .i64 e, .int .i64 s, .bool g]) ∧ Box W w1.heap.size [.map (some m1), .map (some m2)] ∧ Below w1.heap.size w1 W) ⟨⟨D.drew, R.drew⟩, Z.drew, hA.drew⟩
      have HFn := Lib.hid (show ∀ n w2, Below (F n).heap.size (F n) w2 → ∃ m, w2 = F m from fun n w2 h => hFi w2 ⟨⟨(hF n).1.1.next h, (hF n).1.2.next h⟩, (hF n).2.1.next h, (hF n).2.2.trans (h.mono (hF n).2.2.size)⟩)
      have f0 := fun n => (hF n).1.1.c2.1
      have f1 := fun n => (hF n).1.1.c2.2.1
      have g0 := fun n => (hF n).1.2.c3.1
      have g1 := fun n => (hF n).1.2.c3.2.1
      have g2 := fun n => (hF n).1.2.c3.2.2.1
      have HF0 := Lib.hid hF0
      have HF := Lib.hid hF
      have HM := Lib.hid M2
      have HI := Lib.hid i1
      have HB := Lib.hid b1
      clear hF0 hF hFi hA Z D R M1 M1' M2 i1 b1
      cases hsm : sameW C.e C.s e s with
      | false =>
        have HSm := Lib.hid hsm
        have HE := Lib.hid (show staleB T key tid e s = true by rw [HE.out, hsm]; rfl)
        clear hsm
        refine wp_region_cls (by kernel_rfl) (by kernel_rfl) HF0.out ?_
        repeat (go_big_quiet_step (((first
          | (go_at_call 48; refine (word_pk C.e C.s C.h HWo.out _).mono ?_; rintro o w5 ⟨rfl, hb5⟩; exact ⟨rfl, HFn.out _ _ hb5⟩)
          | (go_at_call 50; refine (implSame_any C.e C.s e s C.h g _).mono ?_; rintro o w5 ⟨rfl, hb5⟩; exact ⟨by rw [HSm.out], HFn.out _ _ hb5⟩)))))
        refine wpQuiet_nil ?_
        rintro _ ⟨nq, rfl⟩
        have hbq := HB.out.trans ((HF.out nq).2.2.mono HB.out.size)
        clear f0 f1 g0 g1 g2 HF0
        generalize F nq = w2 at hbq ⊢
        go_wp2
        go_ret
        exact ⟨ret_bool HE.out.symm, hbq⟩
      | true =>
        have HSm := Lib.hid hsm
        have HE := Lib.hid (show staleB T key tid e s = (C.h && !decide (holdsL C.hs C.ws tid = 2)) by rw [HE.out, hsm]; rfl)
        clear hsm
        refine wp_region_cls (by kernel_rfl) (by kernel_rfl) HF0.out ?_
        repeat (go_big_quiet_step (((first
          | (go_at_call 48; refine (word_pk C.e C.s C.h HWo.out _).mono ?_; rintro o w5 ⟨rfl, hb5⟩; exact ⟨rfl, HFn.out _ _ hb5⟩)
          | (go_at_call 50; refine (implSame_any C.e C.s e s C.h g _).mono ?_; rintro o w5 ⟨rfl, hb5⟩; exact ⟨by rw [HSm.out], HFn.out _ _ hb5⟩)))))
        refine wpQuiet_nil ?_
        rintro _ ⟨nq, rfl⟩
        obtain ⟨⟨D, _⟩, Z, hbq⟩ := HF.out nq
        clear f0 f1 g0 g1 g2 HF0
        generalize F nq = w2 at hbq D Z ⊢
        have M2 := HM.out.next hbq
        have i1 := LAt.keep HI.out hbq hB1.out
        have b2 := HB.out.trans (hbq.mono HB.out.size)
        obtain ⟨d0, d1, df⟩ := D.c2
        obtain ⟨z0, z1, zf⟩ := Z.c2
        have dl := D.lt
        have zl := Z.lt
        have hpr := pk_range C.h HWo.out
        have hfl := field_locks (some m1) (some m2) w2
        clear hbq D Z df zf
        go_wp2_with fail
        refine (held_any _ hpr.1 hpr.2 _).mono ?_; rintro o w3 ⟨rfl, rfl⟩
        have hph : (pk C.e C.s C.h % 2 == 1) = C.h := by
          cases C.h <;> simp [pk] <;> omega
        rw [hph]
        clear hph hpr
        cases hh : C.h with
        | false =>
          have HE := Lib.hid (show staleB T key tid e s = false by rw [HE.out, hh]; rfl)
          clear hh
          go_wp2
          go_ret
          exact ⟨ret_bool HE.out.symm, b2⟩
        | true =>
          have HE := Lib.hid (show staleB T key tid e s = !decide (holdsL C.hs C.ws tid = 2) by rw [HE.out, hh]; rfl)
          have HLl := Lib.hid (HLl.out hh)
          clear hh
          have hlo := (M2.look keyI Try.underlying71 (zeroLock w2) hkey).1
          rw [HLl.out, Option.getD_some] at hlo
          unfold lkq lkv at hlo
          go_wp2_with fail
          refine (implHolds_any _ _ _ _ B C.hs C.ws tid _ hlk.1 hlk.2 i1).mono ?_; rintro o w3 ⟨rfl, hb3⟩
          have b3 := b2.trans (hb3.mono b2.size)
          generalize holdsL C.hs C.ws tid = z at HE ⊢
          clear b2 hb3 i1 M2 z0 z1 d0 d1 dl zl hlo
          go_wp2
          go_ret
          exact ⟨ret_bool (by rw [HE.out]; rfl), b3⟩
    · have HE := Lib.hid (show staleB T key tid e s = true by rw [staleB, hTE, decide_eq_false hk]; rfl)
      have HSl := Lib.hid (show slotsF T T.length key = none by unfold slotsF; rw [if_neg hk])
      have M1' := M1.next ((Below.refl w1.heap.size w1).alloc (Nat.le_refl _) (.cells #[.map (some m1), .map (some m2)] 73))
      clear hTE hk R
      go_wp2_with (first | (at_lookup; refine wp_look_ok _ rfl _ _ rfl keyI Try.underlying70 (zeroSlot _) rfl M1' key rfl hkey (.agg #[.int .i64 0, .int .i64 0]) (by rw [HSl.out]; rfl) false (by rw [HSl.out]; rfl) ?_) | fail)
      have hA := (b1.alloc b1.size (.cells #[.map (some m1), .map (some m2)] 73))
      have hB2 := Lib.hid (show Below w.heap.size w (((w1.alloc (.cells #[.map (some m1), .map (some m2)] 73)).alloc (.cells #[.int .i64 0, .int .i64 0] 68)).drew) from (hA.alloc hA.size _).drew)
      obtain ⟨I, F, hI, hF0, hF, hFi⟩ := cls (S := fun W => Below w.heap.size w W) hB2.out
      have HF0 := Lib.hid hF0
      have HF := Lib.hid hF
      clear hF0 hF hFi hA hB2 M1 M2 M1'
      refine wp_region_cls (by kernel_rfl) (by kernel_rfl) HF0.out ?_
      repeat (go_big_quiet_step (fail))
      refine wpQuiet_nil ?_
      rintro _ ⟨nq, rfl⟩
      have hbq := HF.out nq
      clear HF0
      generalize F nq = w2 at hbq ⊢
      go_wp2
      go_ret
      exact ⟨ret_bool HE.out.symm, hbq⟩
end Go.Proofs.Ytnnjhikfbpcmfaa
