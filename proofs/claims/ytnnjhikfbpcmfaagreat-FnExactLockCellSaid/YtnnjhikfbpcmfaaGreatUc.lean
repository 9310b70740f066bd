/- The program's LockCell and TryCell. -/
import Derived.Test.YtnnjhikfbpcmfaaGreatUb
import Derived.Test.YtnnjhikfbpcmfaaGreatTzL
import Derived.Test.YtnnjhikfbpcmfaaGreatLi7f
namespace Go.Proofs.YtnnjhikfbpcmfaaGreat
open Go.RowKit
open Go.Maps (Keyed)

theorem cells_lens {T : TL} (h : tabOk T = true) (j : Nat) (hj : j < T.length) : (cd T j).hs.length + (cd T j).ws.length ≤ 8 := ((lockOk_iff _ _).1 (tabOk_lockOk h hj)).1.len
theorem tot_le {T : TL} {n : Nat} (h : ∀ j, j < n → (cd T j).hs.length + (cd T j).ws.length ≤ 8) : totT T n ≤ n * 8 := by
  induction n with
  | zero => exact Nat.le_refl _
  | succ n ih =>
    have h1 := ih (fun j hj => h j (by omega))
    have h2 := h n (by omega)
    rw [totT_succ]; omega
theorem tab_fit {T : TL} (h : tabOk T = true) : TFit T := by
  have h1 := tabOk_len h
  have h2 := tot_le (cells_lens h)
  unfold TFit; omega
/-- a valid lock in cell k: the table stays valid -/
theorem put_ok {T : TL} {k : Nat} {m : HL × HL} (h : tabOk T = true) (hk : k < T.length) (hm : lockOk m.1 m.2 = true) : tabOk (putT T k (lockC (cd T k) m)) = true := by
  have h1 := tabOk_len h
  unfold tabOk
  rw [Bool.and_eq_true]
  refine ⟨?_, all_yes (fun j hj => ?_)⟩
  · rw [putT_len]; unfold inB; simp; omega
  · rw [putT_len] at hj
    rw [putT_at _ _ _ _ hj]
    by_cases e : j = k
    · subst e
      rw [if_pos rfl]
      obtain ⟨p1, p2, p3, p4⟩ := cellOk_parts (tabOk_at h hj)
      unfold cellOk lockC
      simp [p1, p2, hm]
    · rw [if_neg e]; exact tabOk_at h hj
/-- the lock that the store has for cell k -/
def lkP (T : TL) (q : Nat → Pl) (j : Nat) : Pl := if (cd T j).hs.length = 0 then Pl.zero else q j
theorem lock_empty {hs ws : HL} (h : lockOk hs ws = true) (h0 : hs.length = 0) : hs = [] ∧ ws = [] := by
  have e : hs = [] := List.length_eq_zero_iff.1 h0
  have hb := ((lockOk_iff _ _).1 h).2
  rw [e] at hb
  refine ⟨e, ?_⟩
  cases hw : ws with
  | nil => rfl
  | cons a l => rw [hw] at hb; simp [blocked, canJoin] at hb
theorem locks_get {T : TL} {q : Nat → Pl} (h : tabOk T = true) {j : Nat} (hj : j < T.length) : (locksF T q T.length (j : Int)).getD (.agg #[.slice none 0 0, .slice none 0 0]) = lkq (cd T j) (lkP T q j) := by
  unfold locksF lkP
  by_cases h0 : (cd T j).hs.length = 0
  · have hc : ci T (j : Int) = cd T j := rfl
    rw [if_neg (by rw [hc]; omega), if_pos h0]
    obtain ⟨e1, e2⟩ := lock_empty (tabOk_lockOk h hj) h0
    simp [lkq, lkv, e1, e2, Pl.zero]
  · have hc : ci T (j : Int) = cd T j := rfl
    rw [if_pos ⟨by omega, by rw [hc]; exact h0⟩, if_neg h0]
    rfl
theorem locks_at {w : World} {B : Nat} {T : TL} {q : Nat → Pl} (h : tabOk T = true) {j : Nat} (hj : j < T.length) (hl : LsAt w B (cd T j) (q j)) : LsAt w B (cd T j) (lkP T q j) := by
  unfold lkP
  by_cases h0 : (cd T j).hs.length = 0
  · rw [if_pos h0]
    obtain ⟨e1, e2⟩ := lock_empty (tabOk_lockOk h hj) h0
    exact ⟨fun hn => absurd hn (by simp [CD.p, e1]), fun hn => absurd hn (by simp [CD.p, e2])⟩
  · rw [if_neg h0]; exact hl
/-- the two maps behind setLock are those of the new table -/
theorem slots_put {T : TL} {k : Nat} (hk : k < T.length) (m : HL × HL) (j : Int) : upd (slotsF T T.length) (k : Int) (some (sv (pk (cd T k).e (cd T k).s (wrote m.1)) (cd T k).v)) j = slotsF (putT T k (lockC (cd T k) m)) (putT T k (lockC (cd T k) m)).length j := by
  unfold upd slotsF
  rw [putT_len]
  by_cases hj : 0 ≤ j ∧ j < (T.length : Int)
  · obtain ⟨i, rfl⟩ := Int.eq_ofNat_of_zero_le hj.1
    have hi : i < T.length := by omega
    have hc : ci (putT T k (lockC (cd T k) m)) (i : Int) = if i = k then lockC (cd T k) m else cd T i := putT_at _ _ _ _ hi
    rw [if_pos hj, if_pos hj, hc]
    by_cases e : i = k
    · subst e; simp [lockC]
    · have e' : ¬ ((i : Int) = (k : Int)) := by omega
      rw [if_neg e', if_neg e]; rfl
  · have e' : ¬ (j = (k : Int)) := by omega
    rw [if_neg e', if_neg hj, if_neg hj]
def putP (T : TL) (q : Nat → Pl) (k : Nat) (m : HL × HL) (P : Pl) (j : Nat) : Pl := if j = k then (if m.1.length = 0 then Pl.zero else P) else lkP T q j
theorem locks_put {T : TL} {q : Nat → Pl} {k : Nat} (h : tabOk T = true) (m : HL × HL) (hm : lockOk m.1 m.2 = true) (P : Pl) {j : Nat} (hj : j < T.length) :
    (upd (locksF T q T.length) (k : Int) (if m.1.length = 0 then none else some (lkv P.G m.1.length P.c P.G' m.2.length P.c')) (j : Int)).getD (.agg #[.slice none 0 0, .slice none 0 0]) = lkq (cd (putT T k (lockC (cd T k) m)) j) (putP T q k m P j) := by
  rw [putT_at _ _ _ _ hj]
  unfold upd putP
  by_cases e : j = k
  · subst e
    rw [if_pos rfl, if_pos rfl, if_pos rfl]
    by_cases h0 : m.1.length = 0
    · rw [if_pos h0, if_pos h0]
      obtain ⟨e1, e2⟩ := lock_empty hm h0
      simp [lkq, lkv, lockC, e1, e2, Pl.zero]
    · rw [if_neg h0, if_neg h0]; rfl
  · have e' : ¬ ((j : Int) = (k : Int)) := by omega
    rw [if_neg e', if_neg e, if_neg e]
    exact locks_get h hj
theorem putP_at {w : World} {B : Nat} {T : TL} {q : Nat → Pl} {k : Nat} (h : tabOk T = true) {m : HL × HL} (hm : lockOk m.1 m.2 = true) {P : Pl} (hP : LAt w B P.G P.G' m) (hl : ∀ j, j < T.length → LsAt w B (cd T j) (q j)) {j : Nat} (hj : j < T.length) :
    LsAt w B (cd (putT T k (lockC (cd T k) m)) j) (putP T q k m P j) := by
  rw [putT_at _ _ _ _ hj]
  unfold putP
  by_cases e : j = k
  · rw [if_pos e, if_pos e]
    by_cases h0 : m.1.length = 0
    · rw [if_pos h0]
      obtain ⟨e1, e2⟩ := lock_empty hm h0
      exact ⟨fun hn => absurd hn (by simp [CD.p, lockC, e1]), fun hn => absurd hn (by simp [CD.p, lockC, e2])⟩
    · rw [if_neg h0]; exact hP
  · rw [if_neg e, if_neg e]
    exact locks_at h hj (hl j hj)
theorem hown_but2 {w w' : World} {b1 b2 lo B : Nat} {A : Option Addr} {l : HL} (h : HOwn w lo B A l) (hU : But2 b1 b2 w w') (h1 : b1 < lo) (h2 : b2 < lo) (hB : B ≤ w.heap.size) : HOwn w' lo B A l := fun hn => by
  obtain ⟨b, off, e, k1, k2, hc⟩ := h hn
  have hk := hU.block b (by omega) (by omega) (by omega)
  exact ⟨b, off, e, k1, k2, fun j hj => ⟨⟨(World.cell?_of_block (a := ⟨b, _, none⟩) hk).trans (hc j hj).1.1, (World.cell?_of_block (a := ⟨b, _, none⟩) hk).trans (hc j hj).1.2⟩, fun o => (World.frozen?_of_block (a := ⟨b, o, none⟩) hk).trans ((hc j hj).2 o)⟩⟩
theorem lown_but2 {w w' : World} {b1 b2 lo B : Nat} {A A' : Option Addr} {p : HL × HL} (h : LOwn w lo B A A' p) (hU : But2 b1 b2 w w') (h1 : b1 < lo) (h2 : b2 < lo) (hB : B ≤ w.heap.size) : LOwn w' lo B A A' p := ⟨hown_but2 h.1 hU h1 h2 hB, hown_but2 h.2.1 hU h1 h2 hB, h.2.2⟩
theorem TOwn.put {w : World} {lo B a : Nat} {A : Option Addr} {T : TL} (h : TOwn w lo B A T) (v : Value) (hl : a + 1 ≤ lo) : TOwn (w.setCell ⟨a, 0, none⟩ v) lo B A T := h.onlys (onlys_set w a 0 v) (.inr hl)
set_option maxHeartbeats 1600000 in
set_option maxRecDepth 100000 in
theorem implLockCell_any (b off c B : Nat) (T : TL) (key tid : Int) (wr : Bool) (w : World) (hkey : keyOf Tryz.prog 3 (.int .i64 key) = some (.int .i64 key)) (hs : TFit T) (hB : B ≤ w.heap.size) (h : TAt w B (some ⟨b, off, none⟩) T) :
    Calls Tryz.prog 9 #[.agg #[.slice (some ⟨b, off, none⟩) T.length c], .int .i64 key, .int .i64 tid, .bool wr] w (RetTO w (lcT T key tid wr) fun v => .tuple #[v, .int .i64 (lcC T key tid wr)]) := by
  go_enter Tryz.func9, Tryz.ntmps9
  go_wp2_with fail
  have b0 := ((Below.refl w.heap.size w).alloc (Nat.le_refl _) (.cells #[.slice (some ⟨b, off, none⟩) T.length c] 28)).alloc (by simp) (.cells #[.slice none 0 0] 28)
  have X := (Box.new (w := w) (c := #[.slice (some ⟨b, off, none⟩) T.length c]) (t := 28) rfl).alloc (.cells #[.slice none 0 0] 28)
  have R := Box.new (w := w.alloc (.cells #[.slice (some ⟨b, off, none⟩) T.length c] 28)) (b := w.heap.size + 1) (c := #[.slice none 0 0]) (t := 28) (by simp)
  have hz0 : w.heap.size + 2 ≤ ((w.alloc (.cells #[.slice (some ⟨b, off, none⟩) T.length c] 28)).alloc (.cells #[.slice none 0 0] 28)).heap.size := by simp
  generalize (w.alloc (.cells #[.slice (some ⟨b, off, none⟩) T.length c] 28)).alloc (.cells #[.slice none 0 0] 28) = w0 at b0 X R hz0 ⊢
  cases hT : tabOk T with
  | false =>
    have HE := Lib.hid (lcC_not (tid := tid) (wr := wr) (show thereB T key = false by simp [thereB, hT]))
    refine (storeOf_bad _ c B T _ hs (Nat.le_trans hB b0.size) (h.keep b0 hB) hT).mono ?_; rintro o w1 ⟨rfl, hb1⟩
    have hA := ((Below.refl w1.heap.size w1).alloc (Nat.le_refl _) (.cells #[.map none, .map none] 56)).alloc (by simp) (.cells #[.int .i64 0, .int .i64 0] 60)
    have hbA := hb1.trans (hA.mono hb1.size)
    have X := X.next hbA
    have R := R.next hbA
    have b2 := b0.trans (hbA.mono b0.size)
    have hz2 := Nat.le_trans hz0 hbA.size
    obtain ⟨x0, xf⟩ := (X).c1
    have Xl := X.lt
    have hlk := Go.Maps.look_nil (w := w1.alloc (.cells #[.map none, .map none] 56)) true keyI Tryz.underlying53 (zeroSlot _) hkey
    clear hb1 hT X xf hA hbA
    go_upto_region 3 with (fail)
    generalize (w1.alloc (.cells #[.map none, .map none] 56)).alloc (.cells #[.int .i64 0, .int .i64 0] 60) = w2 at R b2 hz2 x0 Xl ⊢
    clear hlk
    go_wp2_with fail
    refine (copiedTable_any b off c B T _ hs (Nat.le_trans hB b2.size) (h.keep b2 hB)).mono ?_; rintro o w8 ⟨A8, c8, rfl, ht, hb8⟩
    have R8 := R.next hb8
    have b8 := b2.trans (hb8.mono b2.size)
    have HO := Lib.hid ((ht.put (a := w.heap.size + 1) (.slice A8 T.length c8) (by omega)).more (lo' := w.heap.size) (B' := (w8.setCell ⟨w.heap.size + 1, 0, none⟩ (.slice A8 T.length c8)).heap.size) (by omega) (by simp))
    have HB8 := Lib.hid (b8.setCell (p := ⟨w.heap.size + 1, 0, none⟩) (by simp) (.slice A8 T.length c8))
    obtain ⟨r8, rf8⟩ := R8.c1
    have Rl8 := R8.lt
    clear ht hb8 R8 b8 R b2 x0 Xl
    go_wp2
    exact bodyPost_ret (v := .tuple #[.agg #[.slice A8 T.length c8], .int .i64 2]) (by simp [results, Tryz.results9, go_sem, r8]) rfl (by
      rw [HE.out.1, HE.out.2]
      exact ⟨A8, c8, rfl, HO.out, HB8.out⟩)
  | true =>
    have hl8 := tabOk_len hT
    have hTE : thereB T key = decide (0 ≤ key ∧ key < (T.length : Int)) := by
      rw [Bool.eq_iff_iff, there_iff, decide_eq_true_eq]
      constructor
      · rintro ⟨_, h1, h2⟩; omega
      · rintro ⟨h1, h2⟩; exact ⟨hT, h1, by omega⟩
    have HT := Lib.hid hT
    obtain ⟨bb, off', e, hbB, q, hc⟩ := h (by omega)
    injection e with e
    injection e with e1 e2 _
    subst e1 e2
    have hcl0 : TCl w0 B b off T q := ⟨hbB, fun j hj => ⟨(hc j hj).1.below b0 (by omega), LAt.keep (hc j hj).2 b0 hB⟩⟩
    have q0H : ∃ q : Nat → Pl, ∀ j, j < T.length → CCells w b (off + j * 6) (cd T j) (q j) ∧ LsAt w B (cd T j) (q j) := ⟨q, hc⟩
    have HLs := Lib.hid (fun j (hj : j < T.length) => (hc j hj).2)
    refine (storeOf_ok b off c B T q _ hs (Nat.le_trans hB b0.size) hcl0 hT).mono ?_; rintro o w1 ⟨m1, m2, mm, rfl, hne, hm1, hm2, M1, hmm, M2, hb1⟩
    have X := X.next hb1
    have R := R.next hb1
    have b1 := b0.trans (hb1.mono b0.size)
    have hz1 := Nat.le_trans hz0 hb1.size
    have hm1l := M1.lt
    have hm2l := M2.lt
    have hA := (Below.refl w1.heap.size w1).alloc (Nat.le_refl _) (.cells #[.map (some m1), .map (some m2)] 56)
    have St := Box.new (w := w1) (c := #[.map (some m1), .map (some m2)]) (t := 56) rfl
    have M1 := M1.next hA
    have M2 := M2.next hA
    have X := X.next hA
    have R := R.next hA
    have b1 := b1.trans (hA.mono b1.size)
    have hz2 : w1.heap.size < (w1.alloc (.cells #[.map (some m1), .map (some m2)] 56)).heap.size := by simp
    clear hb1 hcl0 hc hT hA b0
    go_upto_region 2 with (fail)
    generalize w1.alloc (.cells #[.map (some m1), .map (some m2)] 56) = w2 at M1 M2 St X R b1 hz2 ⊢
    obtain ⟨t0, t1, tf⟩ := St.c2
    have Tl := St.lt
    by_cases hk : 0 ≤ key ∧ key < (T.length : Int)
    · obtain ⟨k, rfl⟩ := Int.eq_ofNat_of_zero_le hk.1
      have hkn : k < T.length := by omega
      have hkk := hk
      have HCo := Lib.hid (lcC_yes (tid := tid) (wr := wr) (show thereB T (k : Int) = true by rw [hTE, decide_eq_true hk]))
      have hwo := tabOk_wordOk HT.out hkn
      have HSl := Lib.hid (show slotsF T T.length (k : Int) = some (.agg #[.int .i64 (pk (cd T k).e (cd T k).s (cd T k).h), .int .i64 (cd T k).v]) by unfold slotsF; rw [if_pos hk]; rfl)
      have HLk := Lib.hid (locks_get (q := q) HT.out hkn)
      have hlk := hs.at_ hkn
      clear hTE hk tf
      go_upto_region 5 with (first | (at_lookup; refine wp_look_ok _ rfl _ _ rfl keyI Tryz.underlying53 (zeroSlot _) rfl M1 (k : Int) rfl hkey (.agg #[.int .i64 (pk (cd T k).e (cd T k).s (cd T k).h), .int .i64 (cd T k).v]) (by rw [HSl.out]; rfl) true (by rw [HSl.out]; rfl) ?_) | fail)
      have hA := (Below.refl w2.heap.size w2).alloc (Nat.le_refl _) (.cells #[.int .i64 (pk (cd T k).e (cd T k).s (cd T k).h), .int .i64 (cd T k).v] 60)
      have X := X.next hA
      have R := R.next hA
      have St := St.next hA
      have M1 := M1.next hA
      have M2 := M2.next hA
      have b2 := b1.trans (hA.mono b1.size)
      have hz3 := Nat.lt_of_lt_of_le hz2 hA.size
      clear hA b1 t0 t1 Tl
      generalize w2.alloc (.cells #[.int .i64 (pk (cd T k).e (cd T k).s (cd T k).h), .int .i64 (cd T k).v] 60) = w3 at X R St M1 M2 b2 hz3 ⊢
      obtain ⟨t0, t1, tf⟩ := St.c2
      have Tl := St.lt
      have hfl := field_locks (some m1) (some m2) w3
      have hLA : LAt w3 B (lkP T q k).G (lkP T q k).G' ((cd T k).hs, (cd T k).ws) := LAt.keep (locks_at HT.out hkn (HLs.out k hkn)) b2 hB
      go_wp2_with (first | (at_lookup; refine wp_look _ rfl _ _ rfl keyI Tryz.underlying54 (zeroLock _) rfl M2 (k : Int) rfl hkey (.agg #[.slice (lkP T q k).G (cd T k).hs.length (lkP T q k).c, .slice (lkP T q k).G' (cd T k).ws.length (lkP T q k).c']) (by rw [HLk.out]; rfl) ?_) | fail)
      refine (implAsk_any _ _ _ _ B (cd T k).hs (cd T k).ws tid wr _ hlk.1 hlk.2 hLA).mono ?_; rintro o w4 ⟨G1, d1, G2, d2, rfl, hown, hb⟩
      have X := X.next hb
      have R := R.next hb
      have St := St.next hb
      have M1 := M1.next hb
      have M2 := M2.next hb
      have b2 := b2.trans (hb.mono b2.size)
      have hz4 := Nat.lt_of_lt_of_le hz3 hb.size
      clear hb t0 t1 tf Tl hLA hfl
      have HOk := Lib.hid (fun h => ask_two (hs := (cd T k).hs) (ws := (cd T k).ws) (tid := tid) (wr := wr) h)
      have HPut := Lib.hid (fun h => lcT_put (T := T) (k := k) (tid := tid) (wr := wr) h)
      have HBad := Lib.hid (fun h => lcT_bad (T := T) (key := k) (tid := tid) (wr := wr) h)
      rw [HCo.out] at HPut HBad
      generalize askC (cd T k).hs (cd T k).ws tid wr = code at HOk HPut HBad HCo ⊢
      generalize askL (cd T k).hs (cd T k).ws tid wr = m at hown HOk HPut ⊢
      have hA := (Below.refl w4.heap.size w4).alloc (Nat.le_refl _) (.cells #[.slice G1 m.1.length d1, .slice G2 m.2.length d2] 44)
      have L := Box.new (w := w4) (c := #[.slice G1 m.1.length d1, .slice G2 m.2.length d2]) (t := 44) rfl
      have X := X.next hA
      have R := R.next hA
      have St := St.next hA
      have M1 := M1.next hA
      have M2 := M2.next hA
      have b2 := b2.trans (hA.mono b2.size)
      have hown := LOwn.below hown hA (Nat.le_refl _)
      have hz5 : w4.heap.size < (w4.alloc (.cells #[.slice G1 m.1.length d1, .slice G2 m.2.length d2] 44)).heap.size := by simp
      clear hA
      go_upto_region 6 with (fail)
      generalize w4.alloc (.cells #[.slice G1 m.1.length d1, .slice G2 m.2.length d2] 44) = w5 at X R St M1 M2 b2 hown L hz5 ⊢
      have hz25 : w.heap.size + 2 ≤ w5.heap.size := by omega
      by_cases h2 : code = 2
      · subst h2
        have HE := Lib.hid (And.intro HCo.out (HBad.out rfl))
        obtain ⟨x0, xf⟩ := X.c1
        have Xl := X.lt
        have h : TAt w B (some ⟨b, off, none⟩) T := fun _ => ⟨b, off, rfl, hbB, q0H⟩
        clear L hown M1 M2 St X xf HPut HBad HOk
        go_wp2_with fail
        refine (copiedTable_any b off c B T _ hs (Nat.le_trans hB b2.size) (h.keep b2 hB)).mono ?_; rintro o w8 ⟨A8, c8, rfl, ht, hb8⟩
        have R8 := R.next hb8
        have b8 := b2.trans (hb8.mono b2.size)
        have HO := Lib.hid ((ht.put (a := w.heap.size + 1) (.slice A8 T.length c8) (by omega)).more (lo' := w.heap.size) (B' := (w8.setCell ⟨w.heap.size + 1, 0, none⟩ (.slice A8 T.length c8)).heap.size) (by omega) (by simp))
        have HB8 := Lib.hid (b8.setCell (p := ⟨w.heap.size + 1, 0, none⟩) (by simp) (.slice A8 T.length c8))
        obtain ⟨r8, rf8⟩ := R8.c1
        have Rl8 := R8.lt
        clear ht hb8 R8 b8 R b2 x0 Xl
        go_wp2
        exact bodyPost_ret (v := .tuple #[.agg #[.slice A8 T.length c8], .int .i64 2]) (by simp [results, Tryz.results9, go_sem, r8]) rfl (by
          rw [HE.out.1, HE.out.2]
          exact ⟨A8, c8, rfl, HO.out, HB8.out⟩)
      · have HE := Lib.hid (And.intro HCo.out (HPut.out h2))
        have hmo := HOk.out h2
        have hm8 := ((lockOk_iff _ _).1 hmo).1.len
        have HMO := Lib.hid hmo
        obtain ⟨t0, t1, tf⟩ := St.c2
        obtain ⟨l0, l1, lf⟩ := L.c2
        have Tl := St.lt
        have Ll := L.lt
        have hlt : LAt w5 w5.heap.size G1 G2 (m.1, m.2) := (LOwn.at_ hown).up (Nat.le_of_lt hz5)
        clear HPut HBad HOk tf lf X hmo
        go_wp2_with fail
        refine (setLock_any m1 m2 T.length mm w5.heap.size (slotsF T T.length) (locksF T q T.length) (k : Int) (cd T k).v (cd T k).e (cd T k).s (cd T k).h G1 G2 d1 d2 m.1 m.2 _ (by omega) (by omega) (by omega) hne HSl.out hwo (by omega) (by omega) M1 M2 (Nat.le_refl _) hlt).mono ?_; rintro o w6 ⟨rfl, N1, ⟨mm', hmm', N2⟩, hU⟩
        have St := St.but hU (by omega) (by omega)
        have R := R.but hU (by omega) (by omega)
        have b6 := b2.trans (hU.below (L := w.heap.size) (by omega) (by omega) b2.size)
        have hz6 := hU.size
        have hnew : LAt w6 w6.heap.size G1 G2 m := (LOwn.at_ (lown_but2 hown hU (by omega) (by omega) (Nat.le_of_lt hz5))).up (by omega)
        have hto := put_ok HT.out hkn HMO.out
        have N1 := N1.congr (slots_put hkn m)
        rw [← putT_len T k (lockC (cd T k) m)] at N1
        obtain ⟨t0, t1, tf⟩ := St.c2
        have Tl := St.lt
        clear l0 l1 Ll M1 M2 hown hlt b2 L hU St tf
        go_wp2_with fail
        refine (table_any m1 m2 mm' w6.heap.size (putT T k (lockC (cd T k) m)) (putP T q k m ⟨G1, d1, G2, d2⟩) _ _ (tab_fit hto) (Nat.le_refl _) (fun j hj => tabOk_wordOk hto hj) N1 N2 (fun j hj => locks_put HT.out m HMO.out ⟨G1, d1, G2, d2⟩ (by rw [putT_len] at hj; exact hj)) (fun j hj => putP_at HT.out HMO.out (P := ⟨G1, d1, G2, d2⟩) hnew (fun i hi => (LAt.keep (HLs.out i hi) b6 hB).up (Nat.le_trans hB b6.size)) (by rw [putT_len] at hj; exact hj))).mono ?_; rintro o w8 ⟨A8, c8, rfl, ht, hb8⟩
        have R8 := R.next hb8
        have b8 := b6.trans (hb8.mono b6.size)
        generalize putT T k (lockC (cd T k) m) = T8 at HE ht
        have HO := Lib.hid ((ht.put (a := w.heap.size + 1) (.slice A8 T8.length c8) (by omega)).more (lo' := w.heap.size) (B' := (w8.setCell ⟨w.heap.size + 1, 0, none⟩ (.slice A8 T8.length c8)).heap.size) (by omega) (by simp))
        have HB8 := Lib.hid (b8.setCell (p := ⟨w.heap.size + 1, 0, none⟩) (by simp) (.slice A8 T8.length c8))
        obtain ⟨r8, rf8⟩ := R8.c1
        have Rl8 := R8.lt
        clear ht hb8 R8 b8 R t0 t1 Tl N1 N2 b6 hnew hto
        go_wp2
        exact bodyPost_ret (v := .tuple #[.agg #[.slice A8 T8.length c8], .int .i64 code]) (by simp [results, Tryz.results9, go_sem, r8]) rfl (by
          rw [HE.out.1, HE.out.2]
          exact ⟨A8, c8, rfl, HO.out, HB8.out⟩)
    · have HE := Lib.hid (lcC_not (tid := tid) (wr := wr) (show thereB T key = false by rw [hTE, decide_eq_false hk]))
      have HSl := Lib.hid (show slotsF T T.length key = none by unfold slotsF; rw [if_neg hk])
      have hA := (Below.refl w2.heap.size w2).alloc (Nat.le_refl _) (.cells #[.int .i64 0, .int .i64 0] 60)
      have X := X.next hA
      have R := R.next hA
      have b2 := b1.trans (hA.mono b1.size)
      have hz3 := Nat.le_trans (Nat.le_trans hz1 (Nat.le_of_lt hz2)) hA.size
      obtain ⟨x0, xf⟩ := X.c1
      have Xl := X.lt
      clear hTE hk X xf hA b1 tf
      go_wp2_with (first | (at_lookup; refine wp_look_ok _ rfl _ _ rfl keyI Tryz.underlying53 (zeroSlot _) rfl M1 key rfl hkey (.agg #[.int .i64 0, .int .i64 0]) (by rw [HSl.out]; rfl) false (by rw [HSl.out]; rfl) ?_) | fail)
      refine (copiedTable_any b off c B T _ hs (Nat.le_trans hB b2.size) (h.keep b2 hB)).mono ?_; rintro o w8 ⟨A8, c8, rfl, ht, hb8⟩
      have R8 := R.next hb8
      have b8 := b2.trans (hb8.mono b2.size)
      have HO := Lib.hid ((ht.put (a := w.heap.size + 1) (.slice A8 T.length c8) (by omega)).more (lo' := w.heap.size) (B' := (w8.setCell ⟨w.heap.size + 1, 0, none⟩ (.slice A8 T.length c8)).heap.size) (by omega) (by simp))
      have HB8 := Lib.hid (b8.setCell (p := ⟨w.heap.size + 1, 0, none⟩) (by simp) (.slice A8 T.length c8))
      obtain ⟨r8, rf8⟩ := R8.c1
      have Rl8 := R8.lt
      clear ht hb8 R8 b8 R b2 x0 Xl
      go_wp2
      exact bodyPost_ret (v := .tuple #[.agg #[.slice A8 T.length c8], .int .i64 2]) (by simp [results, Tryz.results9, go_sem, r8]) rfl (by
        rw [HE.out.1, HE.out.2]
        exact ⟨A8, c8, rfl, HO.out, HB8.out⟩)
theorem fit_len {T : TL} (h : TFit T) : TLen T :=
  ⟨by have := h.len; unfold maxLen; omega, fun j hj => by have := h.at_ hj; unfold maxLen; omega⟩
theorem lcT_fit {T : TL} {key tid : Int} {wr : Bool} (h : TFit T) : TFit (lcT T key tid wr) := by
  unfold lcT
  split
  · exact h
  · rename_i h2
    have ht : thereB T key = true := by
      cases hh : thereB T key with
      | true => rfl
      | false => simp [lcC, hh] at h2
    obtain ⟨h1, h3, h4⟩ := there_iff.1 ht
    have h2' : ¬ askC (cAt T key).hs (cAt T key).ws tid wr = 2 := by simpa [lcC, ht] using h2
    exact tab_fit (put_ok h1 h4 (ask_two h2'))
end Go.Proofs.YtnnjhikfbpcmfaaGreat
