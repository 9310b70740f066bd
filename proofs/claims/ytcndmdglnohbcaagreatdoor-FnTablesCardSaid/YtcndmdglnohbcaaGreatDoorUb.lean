/- The program's table out of a store. -/
import Derived.Test.YtcndmdglnohbcaaGreatDoorUa
import Derived.Test.YtcndmdglnohbcaaGreatDoorTt
import Derived.Test.YtcndmdglnohbcaaGreatDoorTg
import Derived.Test.YtcndmdglnohbcaaGreatDoorLa
import Derived.Deep.RegionHeld3
namespace Go.Proofs.YtcndmdglnohbcaaGreatDoor
open Go.RowKit
open Go.Maps (Keyed)

theorem CCells.put6 {w : World} {b o : Nat} {c0 : CD} {p0 : Pl} (h : CCells w b o c0 p0) (c : CD) (P : Pl) : CCells ((((((w.setCell ⟨b, o, none⟩ (.int .i64 c.v)).setCell ⟨b, o + 1, none⟩ (.int .i64 c.e)).setCell ⟨b, o + 2, none⟩ (.int .i64 c.s)).setCell ⟨b, o + 3, none⟩ (.bool c.h)).setCell ⟨b, o + 4, none⟩ (.slice P.G c.hs.length P.c)).setCell ⟨b, o + 5, none⟩ (.slice P.G' c.ws.length P.c')) b o c P :=
  ⟨(cc_other (i := 5) (j := 0) (by omega)).trans ((cc_other (i := 4) (j := 0) (by omega)).trans ((cc_other (i := 3) (j := 0) (by omega)).trans ((cc_other (i := 2) (j := 0) (by omega)).trans ((cc_other (i := 1) (j := 0) (by omega)).trans (cc_same (i := 0) (h.c0)))))),
    (cc_other (i := 5) (j := 1) (by omega)).trans ((cc_other (i := 4) (j := 1) (by omega)).trans ((cc_other (i := 3) (j := 1) (by omega)).trans ((cc_other (i := 2) (j := 1) (by omega)).trans (cc_same (i := 1) ((cc_other (i := 0) (j := 1) (by omega)).trans (h.c1)))))),
    (cc_other (i := 5) (j := 2) (by omega)).trans ((cc_other (i := 4) (j := 2) (by omega)).trans ((cc_other (i := 3) (j := 2) (by omega)).trans (cc_same (i := 2) ((cc_other (i := 1) (j := 2) (by omega)).trans ((cc_other (i := 0) (j := 2) (by omega)).trans (h.c2)))))),
    (cc_other (i := 5) (j := 3) (by omega)).trans ((cc_other (i := 4) (j := 3) (by omega)).trans (cc_same (i := 3) ((cc_other (i := 2) (j := 3) (by omega)).trans ((cc_other (i := 1) (j := 3) (by omega)).trans ((cc_other (i := 0) (j := 3) (by omega)).trans (h.c3)))))),
    (cc_other (i := 5) (j := 4) (by omega)).trans (cc_same (i := 4) ((cc_other (i := 3) (j := 4) (by omega)).trans ((cc_other (i := 2) (j := 4) (by omega)).trans ((cc_other (i := 1) (j := 4) (by omega)).trans ((cc_other (i := 0) (j := 4) (by omega)).trans (h.c4)))))),
    cc_same (i := 5) ((cc_other (i := 4) (j := 5) (by omega)).trans ((cc_other (i := 3) (j := 5) (by omega)).trans ((cc_other (i := 2) (j := 5) (by omega)).trans ((cc_other (i := 1) (j := 5) (by omega)).trans ((cc_other (i := 0) (j := 5) (by omega)).trans (h.c5))))))⟩

theorem CT.zero {w : World} {lo g n : Nat} (h : w.rowIs g 42 (n * 6) (tval (fun _ => CD.zero) (fun _ => Pl.zero))) (hl : lo ≤ g) : CT w lo g n (fun _ => False) (fun _ => CD.zero) (fun _ => Pl.zero) (fun _ => 0) (fun _ => 0) := by
  refine ⟨hl, h.lt, fun o => h.frozen o, fun j hj => ?_, fun j _ hd => hd.elim, fun i j _ _ hd => hd.elim, fun j _ hd => hd.elim⟩
  have e : ∀ i, i < 6 → w.cell? ⟨g, j * 6 + i, none⟩ = some (tv CD.zero Pl.zero i) := fun i hi => by
    rw [h.cell (by omega), tval_at _ _ _ _ hi]
  exact ⟨e 0 (by omega), e 1 (by omega), e 2 (by omega), e 3 (by omega), e 4 (by omega), e 5 (by omega)⟩
/-- a change elsewhere -/
theorem CT.onlys {w w' : World} {lo g n a b : Nat} {D : Nat → Prop} {f : Nat → CD} {q : Nat → Pl} {L H : Nat → Nat} (h : CT w lo g n D f q L H) (ho : Onlys a b w w') (hg : g < a ∨ b ≤ g) (hL : ∀ j, j < n → D j → b ≤ L j ∨ H j ≤ a) : CT w' lo g n D f q L H := by
  have hk := ho.block g (by omega)
  exact ⟨h.low, Nat.lt_of_lt_of_le h.lt (Nat.le_of_eq ho.size.symm), fun o => (World.frozen?_of_block (a := ⟨g, o, none⟩) hk).trans (h.free o), fun j hj => (h.cell j hj).block hk,
    fun j hj hd => ⟨(h.own j hj hd).1, Nat.le_trans (h.own j hj hd).2.1 (Nat.le_of_eq ho.size.symm), LOwn.onlys (h.own j hj hd).2.2 ho (by have := hL j hj hd; omega)⟩, h.part, h.cap⟩
theorem slotsF_some {T : TL} {x : Int} {v : Value} (h : slotsF T T.length x = some v) : ∃ k : Nat, x = k ∧ k < T.length ∧ v = sv (pk (cd T k).e (cd T k).s (cd T k).h) (cd T k).v := by
  unfold slotsF at h
  split at h
  · rename_i hx
    injection h with h
    exact ⟨x.toNat, by omega, by omega, h.symm⟩
  · cases h
set_option maxHeartbeats 1600000 in
set_option maxRecDepth 100000 in
theorem tableC_any (m1 m2 mm B : Nat) (T : TL) (q0 : Nat → Pl) (F2 : Int → Option Value) (w : World) (hs : TFit T) (hB : B ≤ w.heap.size) (ok : ∀ j, j < T.length → wordOk (cd T j).e (cd T j).s = true)
    (M1 : MapN Tryz.prog 3 w m1 T.length (slotsF T T.length)) (M2 : MapN Tryz.prog 3 w m2 mm F2) (hF2 : ∀ j : Nat, j < T.length → (F2 (j : Int)).getD (.agg #[.slice none 0 0, .slice none 0 0]) = lkq (cd T j) (q0 j)) (hL : ∀ j, j < T.length → LsAt w B (cd T j) (q0 j)) :
    Calls Tryz.prog 28 #[.agg #[.map (some m1), .map (some m2)]] w (RetTOC w T fun v => v) := by
  have hmk := run_make_cells T.length hs.len
  have HW := Lib.hid ok
  have HF2 := Lib.hid hF2
  have HL := Lib.hid hL
  clear ok hF2 hL
  go_enter Tryz.func28, Tryz.ntmps28
  have N1 := (M1.next ((Below.refl w.heap.size w).alloc (Nat.le_refl _) (.cells #[.map (some m1), .map (some m2)] 57))).next ((Below.refl _ _).alloc (Nat.le_refl _) (.cells #[.slice none 0 0] 26))
  have hml := N1.len Tryz.underlying54 3
  have N3 := N1.next ((Below.refl _ _).alloc (Nat.le_refl _) (.cells (madeCells #[.int .i64 0, .int .i64 0, .int .i64 0, .bool false, .slice none 0 0, .slice none 0 0] (T.length * 6)) 42))
  have N2 := ((M2.next ((Below.refl w.heap.size w).alloc (Nat.le_refl _) (.cells #[.map (some m1), .map (some m2)] 57))).next ((Below.refl _ _).alloc (Nat.le_refl _) (.cells #[.slice none 0 0] 26))).next ((Below.refl _ _).alloc (Nat.le_refl _) (.cells (madeCells #[.int .i64 0, .int .i64 0, .int .i64 0, .bool false, .slice none 0 0, .slice none 0 0] (T.length * 6)) 42))
  go_wp2_with (first | (at_range; refine wp_range _ rfl _ rfl keyI Tryz.underlying54 rfl N3 ?_; intro w0 hR0 hg0 hs0) | fail)
  go_frame
  have hr1 : (((w.alloc (.cells #[.map (some m1), .map (some m2)] 57)).alloc (.cells #[.slice none 0 0] 26)).alloc (.cells (madeCells #[.int .i64 0, .int .i64 0, .int .i64 0, .bool false, .slice none 0 0, .slice none 0 0] (T.length * 6)) 42)).heap.size = w.heap.size + 3 := by simp
  have hb0 := (((Below.refl w.heap.size w).alloc (Nat.le_refl _) (.cells #[.map (some m1), .map (some m2)] 57)).alloc (by simp) (.cells #[.slice none 0 0] 26)).alloc (by simp; omega) (.cells (madeCells #[.int .i64 0, .int .i64 0, .int .i64 0, .bool false, .slice none 0 0, .slice none 0 0] (T.length * 6)) 42)
  have S := ((Box.new (w := w) (c := #[.map (some m1), .map (some m2)]) (t := 57) rfl).alloc (.cells #[.slice none 0 0] 26)).alloc (.cells (madeCells #[.int .i64 0, .int .i64 0, .int .i64 0, .bool false, .slice none 0 0, .slice none 0 0] (T.length * 6)) 42)
  have R := (Box.new (w := w.alloc (.cells #[.map (some m1), .map (some m2)] 57)) (b := w.heap.size + 1) (c := #[.slice none 0 0]) (t := 26) (by simp)).alloc (.cells (madeCells #[.int .i64 0, .int .i64 0, .int .i64 0, .bool false, .slice none 0 0, .slice none 0 0] (T.length * 6)) 42)
  have hrow := made_cells ((w.alloc (.cells #[.map (some m1), .map (some m2)] 57)).alloc (.cells #[.slice none 0 0] 26)) T.length 42
  rw [show ((w.alloc (.cells #[.map (some m1), .map (some m2)] 57)).alloc (.cells #[.slice none 0 0] 26)).heap.size = w.heap.size + 2 by simp] at hrow
  have ct := CT.zero hrow (Nat.le_refl _)
  rw [hr1] at hR0 ⊢
  generalize (((w.alloc (.cells #[.map (some m1), .map (some m2)] 57)).alloc (.cells #[.slice none 0 0] 26)).alloc (.cells (madeCells #[.int .i64 0, .int .i64 0, .int .i64 0, .bool false, .slice none 0 0, .slice none 0 0] (T.length * 6)) 42)) = wa at hb0 S R ct hg0 hs0 hr1 N2
  have hB01 : Below wa.heap.size wa w0 := ⟨hg0.os, hg0.tape, hg0.output, hg0.size, fun k hk => hg0.block k hk (by simp)⟩
  have S := S.next hB01
  have R := R.next hB01
  have N2 := N2.next hB01
  have ct := ct.next hB01
  have hbw : Below w.heap.size w w0 := hb0.trans (hB01.mono hb0.size)
  have hz0 : w.heap.size + 3 < w0.heap.size := by omega
  have hm1 := M1.lt
  have hm2 := M2.lt
  clear hb0 hrow hg0 hs0 hr1 hB01 N3 N1 hml hmk M1 M2
  have ct0 := ct.congr (f' := fun j : Nat => if (slotsF T T.length (j : Int)).isSome then CD.zero else cd T j) (D' := fun j => (slotsF T T.length (j : Int)).isSome = false) (fun j hj => by
    have : (slotsF T T.length (j : Int)).isSome = true := by unfold slotsF; rw [if_pos (by omega)]; rfl
    rw [if_pos this]) (fun j hj h => by
    have : (slotsF T T.length (j : Int)).isSome = true := by unfold slotsF; rw [if_pos (by omega)]; rfl
    rw [this] at h; cases h)
  go_loopw [13] (fun _ wr => ∃ (left : Int → Bool) (cnt : Nat) (q : Nat → Pl) (L H : Nat → Nat), RanN Tryz.prog 3 wr m1 (w.heap.size + 3) T.length (slotsF T T.length) left cnt ∧ CT wr (w.heap.size + 2) (w.heap.size + 2) T.length (fun j => left (j : Int) = false) (fun j => if left (j : Int) then CD.zero else cd T j) q L H ∧ (∀ j : Nat, j < T.length → left (j : Int) = false → w.heap.size + 3 < L j) ∧ MapN Tryz.prog 3 wr m2 mm F2 ∧ Box wr w.heap.size [.map (some m1), .map (some m2)] ∧ Box wr (w.heap.size + 1) [.slice none 0 0] ∧ Below w.heap.size w wr ∧ w.heap.size + 3 < wr.heap.size) (fun _ wr => wr.rangeLeft m1 (w.heap.size + 3))
  case atStart =>
    exact ⟨_, _, _, _, _, hR0, ct0, (fun j hj h => by
      have h2 : (slotsF T T.length (j : Int)).isSome = true := by unfold slotsF; rw [if_pos (by omega)]; rfl
      exact absurd (h2.symm.trans h) (by simp)), N2, S, R, hbw, hz0⟩
  case round =>
    clear hR0 ct ct0 N2 S R hbw hz0
    obtain ⟨left, cnt, q, L, H, hR, ct, hlo, N2, S, R, hb, hz⟩ := hrel
    have hsz := hb.size
    go_wp2_with (first | (at_next; refine wp_next _ rfl _ rfl keyI Tryz.underlying3 (fun x => .agg #[.int .i64 (pk (cd T x.toNat).e (cd T x.toNat).s (cd T x.toNat).h), .int .i64 (cd T x.toNat).v]) (fun j v hv => by obtain ⟨k, rfl, _, rfl⟩ := slotsF_some hv; rfl) rfl hR ?c1 ?c2) | fail)
    case c1 =>
      intro _ hl0
      obtain ⟨r0, rf⟩ := R.c1
      have Rl := R.lt
      have HC := Lib.hid (((ct.congr (f' := cd T) (D' := fun _ => True) (fun j _ => by rw [hl0]; rfl) (fun j _ _ => hl0 _)).caps (fun _ _ => trivial)).far (a := ⟨w.heap.size + 1, 0, none⟩) (.slice (some ⟨w.heap.size + 1 + 1, 0, none⟩) T.length T.length) (by simp))
      have ct8 := (ct.congr (f' := cd T) (D' := fun _ => True) (fun j _ => by rw [hl0]; rfl) (fun j _ _ => hl0 _)).all (fun _ _ => trivial)
      have HO := Lib.hid ((ct8.onlys (onlys_set wr (w.heap.size + 1) 0 (.slice (some ⟨w.heap.size + 1 + 1, 0, none⟩) T.length T.length)) (.inr (by omega))).more (lo' := w.heap.size) (B' := (wr.setCell ⟨w.heap.size + 1, 0, none⟩ (.slice (some ⟨w.heap.size + 1 + 1, 0, none⟩) T.length T.length)).heap.size) (by omega) (by simp))
      have HB := Lib.hid (hb.setCell (p := ⟨w.heap.size + 1, 0, none⟩) (by simp) (.slice (some ⟨w.heap.size + 1 + 1, 0, none⟩) T.length T.length))
      clear ct ct8 R S N2 hR hlo hb hl0
      go_wp2
      exact bodyPost_ret (v := .agg #[.slice (some ⟨w.heap.size + 1 + 1, 0, none⟩) T.length T.length]) (by simp [results, Tryz.results28, go_sem, r0]) rfl ⟨_, _, rfl, HO.out, HB.out, HC.out⟩
    case c2 =>
      intro x w1 cnt1 hlx hfx hwf hR1 hlt hg1 hs1 hen
      obtain ⟨k, rfl, hkT, _⟩ := slotsF_some hfx
      have hk3 : ((k : Int)).toNat = k := by simp
      simp only [hk3] at hen ⊢
      have on1 : Onlys (w.heap.size + 3) (w.heap.size + 3 + 1) wr w1 := ⟨hg1.os, hg1.tape, hg1.output, hs1, fun j hj => by
        by_cases e : j < wr.heap.size
        · exact hg1.block j e (fun e' => by injection e' with e'; omega)
        · rw [Array.getElem?_eq_none (by omega), Array.getElem?_eq_none (by omega)]⟩
      have ct := ct.onlys on1 (.inl (by omega)) (fun j hj hd => .inl (by have := hlo j hj hd; omega))
      have S := S.grown hg1 (fun p e => by injection e with e; omega)
      have R := R.grown hg1 (fun p e => by injection e with e; omega)
      have N2 := N2.kept hg1 (fun e => by injection e with e; omega)
      have hb1 : Below w.heap.size w w1 := hb.trans (on1.below (by omega))
      have hle := Lib.hid (show w1.rangeLeft m1 (w.heap.size + 3) < wr.rangeLeft m1 (w.heap.size + 3) by rw [hR1.left_eq, hR.left_eq]; exact hlt)
      have Hc := Lib.hid hR1.left_eq
      have hz1 : w.heap.size + 3 < w1.heap.size := by omega
      have hwo := HW.out k hkT
      have hkey := Go.Maps.keyOf_int_mk (P := Tryz.prog) Tryz.underlying3 hwf
      have HLT := Lib.hid (show left (k : Int) = true from hlx)
      have hw1 := hb1.size
      clear hfx hwf on1 hlx hb hR hlt hg1 hk3 hs1
      have hA := (Below.refl w1.heap.size w1).alloc (Nat.le_refl _) (.cells #[.int .i64 (pk (cd T k).e (cd T k).s (cd T k).h), .int .i64 (cd T k).v] 61)
      have Z := Box.new (w := w1) (c := #[.int .i64 (pk (cd T k).e (cd T k).s (cd T k).h), .int .i64 (cd T k).v]) (t := 61) rfl
      go_upto_region 5 with (fail)
      have S := S.next hA
      have R := R.next hA
      have N2 := N2.next hA
      have ct := ct.next hA
      have hR1 := hR1.below hA (by omega) (by omega)
      have hb2 := hb1.trans (hA.mono hb1.size)
      have hsz1 := hA.size
      have hz2 : w.heap.size + 3 < (w1.alloc (.cells #[.int .i64 (pk (cd T k).e (cd T k).s (cd T k).h), .int .i64 (cd T k).v] 61)).heap.size := by omega
      have HA1 := Lib.hid hsz1
      clear hb1 hA hsz1
      generalize w1.alloc (.cells #[.int .i64 (pk (cd T k).e (cd T k).s (cd T k).h), .int .i64 (cd T k).v] 61) = w2 at Z S R N2 ct hR1 hb2 hz2 HA1 ⊢
      have hD := (Below.refl w2.heap.size w2).drew
      have HZ := Lib.hid Z.drew
      have HSb := Lib.hid S.drew
      have HRb := Lib.hid R.drew
      have HN2 := Lib.hid (N2.next hD)
      have HCT := Lib.hid (ct.next hD)
      have hw2 := hb2.size
      have HRan := Lib.hid (hR1.below hD (by omega) (by omega))
      have HB := Lib.hid hb2.drew
      have HI := Lib.hid (LAt.keep (HL.out k hkT) hb2.drew hB)
      have hlo1 := (N2.next hD).look keyI Tryz.underlying55 (zeroLock w2.drew) hkey
      have hlo0 := hlo1.1
      rw [HF2.out k hkT] at hlo0
      unfold lkq lkv at hlo0
      have HS0 := Lib.hid (And.intro HZ.out.c2.1 (And.intro HZ.out.c2.2.1 (And.intro HSb.out.c2.1 (And.intro HSb.out.c2.2.1 HN2.out))))
      have hlk := hs.at_ hkT
      have hkz : (k : Int) < T.length := by omega
      have hlook : ∀ W, MapN Tryz.prog 3 W m2 mm F2 → (Instr.lookup 55 (.map (some m2)) (.int .i64 (k : Int)) false).run Tryz.prog W = .ok (.agg #[.slice (q0 k).G (cd T k).hs.length (q0 k).c, .slice (q0 k).G' (cd T k).ws.length (q0 k).c']) W := fun W hm => by
        have h1 := (hm.look keyI Tryz.underlying55 (zeroLock W) hkey).1
        rw [HF2.out k hkT] at h1
        exact h1
      have HLook := Lib.hid hlook
      clear hD Z S R N2 ct hR1 hb2 hlook
      refine wp_region_last (S := fun W => W.cell? ⟨w1.heap.size, 0, none⟩ = some (.int .i64 (pk (cd T k).e (cd T k).s (cd T k).h)) ∧ W.cell? ⟨w1.heap.size, 1, none⟩ = some (.int .i64 (cd T k).v) ∧ W.cell? ⟨w.heap.size, 0, none⟩ = some (.map (some m1)) ∧ W.cell? ⟨w.heap.size, 1, none⟩ = some (.map (some m2)) ∧ MapN Tryz.prog 3 W m2 mm F2) (by kernel_rfl) 14 (by kernel_rfl) (by kernel_rfl) (by kernel_rfl) (by kernel_rfl) HS0.out (m := 14) rfl (fun hHeld => ?_)
      refine takeH 0 18 (v := ?v0) rfl rfl (by kernel_rfl) (by kernel_rfl) (by kernel_rfl) (fun _ _ _ h => h) (by rfl) ?hy0 hHeld ?rest0
      case hy0 => intro W hSw; obtain ⟨s0, s1, s2, s3, s4⟩ := hSw; clear s4; go_simp; (try with_reducible rfl)
      simp only [Act.put, List.setIfInBounds_toArray, List.set]
      refine takeH 1 19 (v := ?v1) rfl rfl (by kernel_rfl) (by kernel_rfl) (by kernel_rfl) (fun _ _ _ h => h) (by rfl) ?hy1 hHeld ?rest1
      case hy1 => intro W hSw; obtain ⟨s0, s1, s2, s3, s4⟩ := hSw; clear s4; go_simp; (try with_reducible rfl)
      simp only [Act.put, List.setIfInBounds_toArray, List.set]
      refine takeH 2 20 (v := ?v2) rfl rfl (by kernel_rfl) (by kernel_rfl) (by kernel_rfl) (fun _ _ _ h => h) (by rfl) ?hy2 hHeld ?rest2
      case hy2 => intro W hSw; obtain ⟨s0, s1, s2, s3, s4⟩ := hSw; clear s4; go_simp; (try with_reducible rfl)
      simp only [Act.put, List.setIfInBounds_toArray, List.set]
      refine takeH 3 21 (v := ?v3) rfl rfl (by kernel_rfl) (by kernel_rfl) (by kernel_rfl) (fun _ _ _ h => h) (by rfl) ?hy3 hHeld ?rest3
      case hy3 => intro W hSw; obtain ⟨s0, s1, s2, s3, s4⟩ := hSw; clear s4; go_simp; (try with_reducible rfl)
      simp only [Act.put, List.setIfInBounds_toArray, List.set]
      refine takeH 4 22 (v := ?v4) rfl rfl (by kernel_rfl) (by kernel_rfl) (by kernel_rfl) (fun _ _ _ h => h) (by rfl) ?hy4 hHeld ?rest4
      case hy4 => intro W hSw; obtain ⟨s0, s1, s2, s3, s4⟩ := hSw; clear s4; go_simp; (try with_reducible rfl)
      simp only [Act.put, List.setIfInBounds_toArray, List.set]
      refine takeH 5 23 (v := ?v5) rfl rfl (by kernel_rfl) (by kernel_rfl) (by kernel_rfl) (fun _ _ _ h => h) (by rfl) ?hy5 hHeld ?rest5
      case hy5 => intro W hSw; obtain ⟨s0, s1, s2, s3, s4⟩ := hSw; clear s4; go_simp; (try with_reducible rfl)
      simp only [Act.put, List.setIfInBounds_toArray, List.set]
      refine takeH 7 25 (v := ?v7) rfl rfl (by kernel_rfl) (by kernel_rfl) (by kernel_rfl) (fun _ _ _ h => h) (by rfl) ?hy7 hHeld ?rest7
      case hy7 => intro W hSw; obtain ⟨s0, s1, s2, s3, s4⟩ := hSw; clear s4; go_simp; (try with_reducible rfl)
      simp only [Act.put, List.setIfInBounds_toArray, List.set]
      refine takeH 8 26 (v := ?v8) rfl rfl (by kernel_rfl) (by kernel_rfl) (by kernel_rfl) (fun _ _ _ h => h) (by rfl) ?hy8 hHeld ?rest8
      case hy8 => intro W hSw; obtain ⟨s0, s1, s2, s3, s4⟩ := hSw; clear s4; go_simp; (try with_reducible rfl)
      simp only [Act.put, List.setIfInBounds_toArray, List.set]
      refine takeH 9 27 (v := ?v9) rfl rfl (by kernel_rfl) (by kernel_rfl) (by kernel_rfl) (fun _ _ _ h => h) (by rfl) ?hy9 hHeld ?rest9
      case hy9 => intro W hSw; obtain ⟨s0, s1, s2, s3, s4⟩ := hSw; clear s4; go_simp; (try with_reducible rfl)
      simp only [Act.put, List.setIfInBounds_toArray, List.set]
      refine takeH 10 28 (v := ?v10) rfl rfl (by kernel_rfl) (by kernel_rfl) (by kernel_rfl) (fun _ _ _ h => h) (by rfl) ?hy10 hHeld ?rest10
      case hy10 => intro W hSw; obtain ⟨s0, s1, s2, s3, s4⟩ := hSw; have hlw := HLook.out W s4; clear s4; go_simp; (try with_reducible rfl)
      simp only [Act.put, List.setIfInBounds_toArray, List.set]
      refine wpAnyH_ready (rs := [6]) (by kernel_rfl) (by simp) ?_
      refine AllReadyH.cons rfl (fun K hK => ?_) AllReadyH.nil
      go_simp
      refine (word_pk (cd T k).e (cd T k).s (cd T k).h hwo _).mono ?_; rintro o w5 ⟨rfl, hb5⟩
      have hZ5 := HZ.out.next hb5
      have hS5 := HSb.out.next hb5
      have hN5 := HN2.out.next hb5
      have HS5 := Lib.hid (And.intro hZ5.c2.1 (And.intro hZ5.c2.2.1 (And.intro hS5.c2.1 (And.intro hS5.c2.2.1 hN5))))
      have HR5 := Lib.hid (HRb.out.next hb5)
      have ct5 := HCT.out.next hb5
      have hr5 := HRan.out.below hb5 (show m1 < w2.heap.size by omega) (show w.heap.size + 3 < w2.heap.size by omega)
      have b5 := HB.out.trans (hb5.mono HB.out.size)
      have hI5 : LAt w5 B (q0 k).G (q0 k).G' ((cd T k).hs, (cd T k).ws) := LAt.keep (HL.out k hkT) b5 hB
      have hz5 : w2.heap.size ≤ w5.heap.size := hb5.size
      refine hK.out _ _ HS5.out (fun hHeld => ?_)
      clear hK K hb5
      refine wpAnyH_ready (rs := [11]) (by kernel_rfl) (by simp) ?_
      refine AllReadyH.cons rfl (fun K hK => ?_) AllReadyH.nil
      go_simp
      refine (implCopy_any _ _ _ _ B (cd T k).hs (cd T k).ws _ hlk.1 hlk.2 hI5).mono ?_; rintro o w7 hret
      obtain ⟨G1, d1, G2, d2, rfl, hcp, hown, hb7⟩ := retOwn_cap hret
      have HCP := Lib.hid hcp
      clear hcp
      have S7 := hS5.next hb7
      have hZ7 := hZ5.next hb7
      have hN7 := hN5.next hb7
      have HS7 := Lib.hid (And.intro hZ7.c2.1 (And.intro hZ7.c2.2.1 (And.intro S7.c2.1 (And.intro S7.c2.2.1 hN7))))
      have R7 := HR5.out.next hb7
      have ct7 := ct5.next hb7
      have hr7 := hr5.below hb7 (by omega) (by omega)
      have B7 := b5.trans (hb7.mono b5.size)
      have hz7 : w5.heap.size ≤ w7.heap.size := hb7.size
      refine hK.out _ _ HS7.out (fun hHeld => ?_)
      clear hK K hret
      refine takeH 12 30 (v := ?v12) rfl rfl (by kernel_rfl) (by kernel_rfl) (by kernel_rfl) (fun _ _ _ h => h) (by rfl) ?hy12 hHeld ?rest12
      case hy12 => intro W hSw; obtain ⟨s0, s1, s2, s3, s4⟩ := hSw; clear s4; go_simp; (try with_reducible rfl)
      simp only [Act.put, List.setIfInBounds_toArray, List.set]
      refine takeH 13 31 (v := ?v13) rfl rfl (by kernel_rfl) (by kernel_rfl) (by kernel_rfl) (fun _ _ _ h => h) (by rfl) ?hy13 hHeld ?rest13
      case hy13 => intro W hSw; obtain ⟨s0, s1, s2, s3, s4⟩ := hSw; clear s4; go_simp; (try with_reducible rfl)
      simp only [Act.put, List.setIfInBounds_toArray, List.set]
      refine wpAnyH_done (by kernel_rfl) ?_ _
      have cc7 := ct7.cell k hkT
      have c0 := cc7.c0
      have c1 := cc7.c1
      have c2 := cc7.c2
      have c3 := cc7.c3
      have c4 := cc7.c4
      have c5 := cc7.c5
      have cf := ct7.free
      have cl := ct7.lt
      have Hrest := Lib.hid (And.intro ct7 (And.intro hr7 (And.intro B7 (And.intro S7 (And.intro R7 (And.intro hown (And.intro hN7 ct5)))))))
      clear ct7 hr7 B7 S7 R7 hown hN7 ct5 hHeld hZ7 hZ5 hS5 hN5 hr5 b5 hI5 cc7
      refine lastH rfl (fun K hK => ?_)
      go_simp
      refine hK _ _ ?_
      clear hK K c0 c1 c2 c3 c4 c5 cf
      obtain ⟨ct7, hr7, B7, S7, R7, hown, hN7, ct5⟩ := Hrest.out
      have cc7 := ct7.cell k hkT
      have t := ((((((Onlys.refl (w.heap.size + 1 + 1) (w.heap.size + 1 + 1 + 1) w7).setCell (p := ⟨w.heap.size + 1 + 1, k * 6, none⟩) (by simp) (by simp) (.int .i64 (cd T k).v)).setCell (p := ⟨w.heap.size + 1 + 1, k * 6 + 1, none⟩) (by simp) (by simp) (.int .i64 (cd T k).e)).setCell (p := ⟨w.heap.size + 1 + 1, k * 6 + 2, none⟩) (by simp) (by simp) (.int .i64 (cd T k).s)).setCell (p := ⟨w.heap.size + 1 + 1, k * 6 + 3, none⟩) (by simp) (by simp) (.bool (cd T k).h)).setCell (p := ⟨w.heap.size + 1 + 1, k * 6 + 4, none⟩) (by simp) (by simp) (.slice G1 (cd T k).hs.length d1)).setCell (p := ⟨w.heap.size + 1 + 1, k * 6 + 5, none⟩) (by simp) (by simp) (.slice G2 (cd T k).ws.length d2)
      have hm1w : m1 < w.heap.size := hm1
      have hm2w : m2 < w.heap.size := hm2
      have hst := CT.step (k := k) (c := cd T k) (P := ⟨G1, d1, G2, d2⟩) (Lk := w5.heap.size) (Hk := w7.heap.size) ct7 (fun j hj hd => (ct5.own j hj hd).2.1) (by omega) (Nat.le_refl _) hown t
        (fun o => by rw [World.frozen?_setCell, World.frozen?_setCell, World.frozen?_setCell, World.frozen?_setCell, World.frozen?_setCell, World.frozen?_setCell]) (cc7.put6 (cd T k) ⟨G1, d1, G2, d2⟩)
        (fun j hj hne => (((((((ct7.cell j hj)).far _ (fun i hi e' => by injection e' with _ e' _; omega)).far _ (fun i hi e' => by injection e' with _ e' _; omega)).far _ (fun i hi e' => by injection e' with _ e' _; omega)).far _ (fun i hi e' => by injection e' with _ e' _; omega)).far _ (fun i hi e' => by injection e' with _ e' _; omega)).far _ (fun i hi e' => by injection e' with _ e' _; omega)) HCP.out
      have HST := Lib.hid (hst.congr (f' := fun j : Nat => if (left (j : Int) && !decide ((j : Int) = (k : Int))) = true then CD.zero else cd T j) (D' := fun j => (left (j : Int) && !decide ((j : Int) = (k : Int))) = false) (fun j _ => by
        by_cases e : j = k
        · subst e; simp
        · have e' : ¬ ((j : Int) = (k : Int)) := by omega
          simp [e, e']) (fun j _ hj => by
        by_cases e : j = k
        · exact .inl e
        · have e' : ¬ ((j : Int) = (k : Int)) := by omega
          simp [e'] at hj
          exact .inr hj))
      have HLo := Lib.hid (show ∀ j : Nat, j < T.length → (left (j : Int) && !decide ((j : Int) = (k : Int))) = false → w.heap.size + 3 < (if j = k then w5.heap.size else L j) from fun j hj h => by
        by_cases e : j = k
        · rw [if_pos e]; omega
        · have e' : ¬ ((j : Int) = (k : Int)) := by omega
          simp [e'] at h
          rw [if_neg e]; exact hlo j hj h)
      have HRN := Lib.hid (hr7.block (t.block _ (.inl (by omega))) (t.block _ (.inr (by omega))))
      have HN8 := Lib.hid (hN7.block (t.block _ (.inl (by omega))))
      have HB8 := Lib.hid (B7.trans (t.below (by omega)))
      have HS8 := Lib.hid (((((((S7).far (a := ⟨w.heap.size + 1 + 1, k * 6, none⟩) (.int .i64 (cd T k).v) (show ¬ w.heap.size + 1 + 1 = w.heap.size by omega)).far (a := ⟨w.heap.size + 1 + 1, k * 6 + 1, none⟩) (.int .i64 (cd T k).e) (show ¬ w.heap.size + 1 + 1 = w.heap.size by omega)).far (a := ⟨w.heap.size + 1 + 1, k * 6 + 2, none⟩) (.int .i64 (cd T k).s) (show ¬ w.heap.size + 1 + 1 = w.heap.size by omega)).far (a := ⟨w.heap.size + 1 + 1, k * 6 + 3, none⟩) (.bool (cd T k).h) (show ¬ w.heap.size + 1 + 1 = w.heap.size by omega)).far (a := ⟨w.heap.size + 1 + 1, k * 6 + 4, none⟩) (.slice G1 (cd T k).hs.length d1) (show ¬ w.heap.size + 1 + 1 = w.heap.size by omega)).far (a := ⟨w.heap.size + 1 + 1, k * 6 + 5, none⟩) (.slice G2 (cd T k).ws.length d2) (show ¬ w.heap.size + 1 + 1 = w.heap.size by omega))
      have HR8 := Lib.hid (((((((R7).far (a := ⟨w.heap.size + 1 + 1, k * 6, none⟩) (.int .i64 (cd T k).v) (show ¬ w.heap.size + 1 + 1 = w.heap.size + 1 by omega)).far (a := ⟨w.heap.size + 1 + 1, k * 6 + 1, none⟩) (.int .i64 (cd T k).e) (show ¬ w.heap.size + 1 + 1 = w.heap.size + 1 by omega)).far (a := ⟨w.heap.size + 1 + 1, k * 6 + 2, none⟩) (.int .i64 (cd T k).s) (show ¬ w.heap.size + 1 + 1 = w.heap.size + 1 by omega)).far (a := ⟨w.heap.size + 1 + 1, k * 6 + 3, none⟩) (.bool (cd T k).h) (show ¬ w.heap.size + 1 + 1 = w.heap.size + 1 by omega)).far (a := ⟨w.heap.size + 1 + 1, k * 6 + 4, none⟩) (.slice G1 (cd T k).hs.length d1) (show ¬ w.heap.size + 1 + 1 = w.heap.size + 1 by omega)).far (a := ⟨w.heap.size + 1 + 1, k * 6 + 5, none⟩) (.slice G2 (cd T k).ws.length d2) (show ¬ w.heap.size + 1 + 1 = w.heap.size + 1 by omega))
      have HZ8 := Lib.hid t.size
      clear hst t ct7 hr7 B7 S7 R7 hown hN7 ct5 cc7 hlo
      go_wp2
      refine ⟨⟨_, _, _, _, _, HRN.out, HST.out, HLo.out, HN8.out, HS8.out, HR8.out, HB8.out, by have := HZ8.out; omega⟩, ?_⟩
      rw [HRN.out.left_eq, ← Hc.out]
      exact hle.out
theorem table_any (m1 m2 mm B : Nat) (T : TL) (q0 : Nat → Pl) (F2 : Int → Option Value) (w : World) (hs : TFit T) (hB : B ≤ w.heap.size) (ok : ∀ j, j < T.length → wordOk (cd T j).e (cd T j).s = true)
    (M1 : MapN Tryz.prog 3 w m1 T.length (slotsF T T.length)) (M2 : MapN Tryz.prog 3 w m2 mm F2) (hF2 : ∀ j : Nat, j < T.length → (F2 (j : Int)).getD (.agg #[.slice none 0 0, .slice none 0 0]) = lkq (cd T j) (q0 j)) (hL : ∀ j, j < T.length → LsAt w B (cd T j) (q0 j)) :
    Calls Tryz.prog 28 #[.agg #[.map (some m1), .map (some m2)]] w (RetTO w T fun v => v) :=
  (tableC_any m1 m2 mm B T q0 F2 w hs hB ok M1 M2 hF2 hL).mono fun _ _ h => h.less
end Go.Proofs.YtcndmdglnohbcaaGreatDoor
