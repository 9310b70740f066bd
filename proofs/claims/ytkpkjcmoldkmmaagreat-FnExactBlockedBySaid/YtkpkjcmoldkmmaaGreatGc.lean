/- The laws' helpers over slices of flat structs and of ints. -/
import Derived.Test.YtkpkjcmoldkmmaaGreatGb
namespace Go.Proofs.YtkpkjcmoldkmmaaGreat
open Go.RowKit

theorem sz_IntS (A : Option Addr) (c : Nat) (l : List Int) (left : Int) (w : World) (hmx : l.length ≤ maxLen) (h0 : 0 ≤ left) (h1 : left ≤ 1048576) :
    Calls Tryz.prog 24 #[.slice A l.length c, .int .i64 left] w fun e w' => e = .returned (.int .i64 (szOf left ((rowF intF).cnt l))) ∧ w = w' := by
  have e0 : (rowF intF).cnt l = l.length := by
    show l.length + (l.map intF.cnt).sum = _
    rw [show intF.cnt = fun _ => 0 from funext fun x => rfl, zsum]
    rfl
  rw [e0]
  unfold maxLen at hmx
  by_cases hl : left < l.length
  · have h2 : left - (l.length : Int) < 0 := by omega
    go_enter Tryz.func24, Tryz.ntmps24
    go_wp2
    go_ret
    exact ⟨by unfold szOf; rw [if_pos (by omega)]; rfl, rfl⟩
  · have h2 : ¬ left - (l.length : Int) < 0 := by omega
    go_enter Tryz.func24, Tryz.ntmps24
    go_wp2
    go_ret
    exact ⟨by unfold szOf; rw [if_neg (by omega)]; rfl, rfl⟩
theorem info_Int : (Tryz.prog.info? 3).map (fun i => (i.zero, i.size, i.bytes)) = some (some (.int .i64 0), 1, 8) := by kernel_rfl
theorem make_Int (n : Nat) (h : n ≤ 1048576) (w : World) :
    (Instr.makeSlice 28 (.int .i64 (n : Int)) (.int .i64 (n : Int))).run Tryz.prog w = .ok (.slice (some ⟨w.heap.size, 0, none⟩) n n) (w.alloc (.cells (madeCells #[.int .i64 0] n) 3)) := by
  obtain ⟨i, hi, hzz⟩ := Option.map_eq_some_iff.1 info_Int
  simp only [Prod.mk.injEq] at hzz
  obtain ⟨hz, hs, hb⟩ := hzz
  have := run_make (P := Tryz.prog) w 28 3 i _ Tryz.underlying28 hi hz .i64 .i64 n n (by omega) (Int.le_refl _) (by rw [hb]; omega) (by omega)
  simpa [hs, Value.cells] using this
set_option maxHeartbeats 1600000 in
set_option maxRecDepth 100000 in
theorem to_IntS (A : Option Addr) (c B : Nat) (l : List Int) (w : World) (hs : (rowF intF).cnt l ≤ 1048576) (hB : B ≤ w.heap.size) (h : RAt intF w B A l) :
    Calls Tryz.prog 33 #[.slice A l.length c] w fun e w' => ∃ G c', e = .returned (.slice G l.length c') ∧ Below w.heap.size w w' ∧ ROwn intF w' w.heap.size w'.heap.size G l := by
  have hlen : l.length ≤ 1048576 := by rw [row_cnt] at hs; omega
  have hmx : l.length ≤ maxLen := h.1
  have hmk := make_Int l.length hlen
  go_enter Tryz.func33, Tryz.ntmps33
  go_wp2
  clear hmk
  go_loopw [4] (fun i wr => ∃ k : Nat, k ≤ l.length ∧ i = .int .i64 k ∧ Below w.heap.size w wr ∧ ∃ vs L H, Laid intF w.heap.size [.int .i64 0] l wr k vs L H) (fun i _ => l.length - (intOf i).toNat)
  case atStart => exact ⟨0, Nat.zero_le _, rfl, (Below.refl _ _).alloc (Nat.le_refl _) _, _, _, _, made_laid (F := intF) w (z := [.int .i64 0]) rfl (by decide) ((Nat.mul_one _).symm)⟩
  case round =>
    obtain ⟨k, hk, rfl, hb, vs, L, H, hld⟩ := hrel
    by_cases hkn : k < l.length
    · obtain ⟨b, off, rfl, hbB, hc⟩ := h.2 (by omega)
      have hkz : (k : Int) < l.length := by omega
      have hget : l[k]? = some l[k] := List.getElem?_eq_getElem hkn
      obtain ⟨v, hv0, hat0⟩ := hc k _ hget
      have hcn := cnt_at (F := intF) hget
      have hsz := hb.size
      have hat := intF.at_same hat0 (.of hb hB)
      have hv := hv0.below hb (show b < w.heap.size by omega)
      rw [show intF.n = 1 from rfl] at hv
      clear hv0 hat0
      generalize l[k] = d at hget hat hcn
      cases hat
      have a0 := hv.c1
      rw [Nat.mul_one] at a0
      clear hc h hv
      have hzr := hld.zero hkn
      rw [show (intF : Fm Int).n = 1 from rfl, Nat.mul_one] at hzr
      have z0 := hzr.c1
      have r0 := hld.free k
      have hbl := (hb.setCell (p := ⟨w.heap.size, k, none⟩) (Nat.le_refl _) (.int .i64 d))
      have hl1 := hld.step hkn hget (v := [.int .i64 d]) (s := wr.heap.size) rfl rfl hld.lt (fun j hj => (hld.own j _ hj (List.getElem?_eq_getElem (by omega))).2.1) rfl
      rw [show (intF : Fm Int).n = 1 from rfl, Nat.mul_one] at hl1
      have HL := Lib.hid hl1
      have HB := Lib.hid hbl
      clear hld hzr hbl hb hl1
      go_wp2
      exact ⟨⟨k + 1, by omega, by go_num, HB.out, _, _, _, HL.out⟩, by simp [intOf]; omega⟩
    · obtain rfl : k = l.length := by omega
      have HO := Lib.hid (hld.done hmx (Nat.le_refl _) (Nat.le_refl _))
      clear hld
      go_wp2
      go_ret
      exact ⟨_, _, rfl, hb, HO.out⟩
set_option maxHeartbeats 1600000 in
set_option maxRecDepth 100000 in
theorem eq_IntS (A A' : Option Addr) (c c' B B' : Nat) (l : List Int) (w : World) (hB : B ≤ w.heap.size) (hB' : B' ≤ w.heap.size) (h : RAt intF w B A l) (h' : RAt intF w B' A' l) :
    Calls Tryz.prog 19 #[.slice A l.length c, .slice A' l.length c'] w fun e w' => e = .returned (.bool true) ∧ Below w.heap.size w w' := by
  have hmx := h.1
  unfold maxLen at hmx
  go_enter Tryz.func19, Tryz.ntmps19
  go_wp2
  go_loopw [5] (fun i wr => ∃ k : Nat, k ≤ l.length ∧ i = .int .i64 k ∧ Below w.heap.size w wr) (fun i _ => l.length - (intOf i).toNat)
  case atStart => exact ⟨0, Nat.zero_le _, rfl, Below.refl _ _⟩
  case round =>
    obtain ⟨k, hk, rfl, hb⟩ := hrel
    by_cases hkn : k < l.length
    · obtain ⟨b, off, rfl, hbB, hc⟩ := h.2 (by omega)
      obtain ⟨b', off', rfl, hbB', hc'⟩ := h'.2 (by omega)
      have hkz : (k : Int) < l.length := by omega
      have hget : l[k]? = some l[k] := List.getElem?_eq_getElem hkn
      obtain ⟨v, hv0, hat0⟩ := hc k _ hget
      obtain ⟨v', hv0', hat0'⟩ := hc' k _ hget
      have hsz := hb.size
      have hat := intF.at_same hat0 (.of hb hB)
      have hat' := intF.at_same hat0' (.of hb hB')
      have hv := hv0.below hb (show b < w.heap.size by omega)
      have hv' := hv0'.below hb (show b' < w.heap.size by omega)
      rw [show intF.n = 1 from rfl] at hv hv'
      clear hv0 hat0 hv0' hat0'
      generalize l[k] = d at hget hat hat'
      cases hat
      cases hat'
      have a0 := hv.c1
      have b0 := hv'.c1
      rw [Nat.mul_one] at a0 b0
      clear hc hc' h h' hv hv' hget
      go_wp2_with fail
      go_quiet (fail)
      go_wp2
      exact ⟨⟨k + 1, by omega, by go_num, below_drewN hb _⟩, by simp [intOf]; omega⟩
    · obtain rfl : k = l.length := by omega
      go_wp2
      go_ret
      exact ⟨rfl, hb⟩
theorem sz_ActS (A : Option Addr) (c : Nat) (l : List DAct) (left : Int) (w : World) (hmx : l.length ≤ maxLen) (h0 : 0 ≤ left) (h1 : left ≤ 1048576) :
    Calls Tryz.prog 163 #[.slice A l.length c, .int .i64 left] w fun e w' => e = .returned (.int .i64 (szOf left ((rowF fAct).cnt l))) ∧ w = w' := by
  have e0 : (rowF fAct).cnt l = l.length := by
    show l.length + (l.map fAct.cnt).sum = _
    rw [show fAct.cnt = fun _ => 0 from funext fun x => cnt_Act x, zsum]
    rfl
  rw [e0]
  unfold maxLen at hmx
  by_cases hl : left < l.length
  · have h2 : left - (l.length : Int) < 0 := by omega
    go_enter Tryz.func163, Tryz.ntmps163
    go_wp2
    go_ret
    exact ⟨by unfold szOf; rw [if_pos (by omega)]; rfl, rfl⟩
  · have h2 : ¬ left - (l.length : Int) < 0 := by omega
    go_enter Tryz.func163, Tryz.ntmps163
    go_wp2
    go_ret
    exact ⟨by unfold szOf; rw [if_neg (by omega)]; rfl, rfl⟩
theorem info_Act : (Tryz.prog.info? 174).map (fun i => (i.zero, i.size, i.bytes)) = some (some (.agg #[.int .i64 0, .int .i64 0, .int .i64 0]), 3, 24) := by kernel_rfl
theorem make_Act (n : Nat) (h : n ≤ 1048576) (w : World) :
    (Instr.makeSlice 111 (.int .i64 (n : Int)) (.int .i64 (n : Int))).run Tryz.prog w = .ok (.slice (some ⟨w.heap.size, 0, none⟩) n n) (w.alloc (.cells (madeCells #[.int .i64 0, .int .i64 0, .int .i64 0] (n * 3)) 174)) := by
  obtain ⟨i, hi, hzz⟩ := Option.map_eq_some_iff.1 info_Act
  simp only [Prod.mk.injEq] at hzz
  obtain ⟨hz, hs, hb⟩ := hzz
  have := run_make (P := Tryz.prog) w 111 174 i _ Tryz.underlying111 hi hz .i64 .i64 n n (by omega) (Int.le_refl _) (by rw [hb]; omega) (by omega)
  simpa [hs, Value.cells] using this
set_option maxHeartbeats 1600000 in
set_option maxRecDepth 100000 in
theorem to_ActS (A : Option Addr) (c B : Nat) (l : List DAct) (w : World) (hs : (rowF fAct).cnt l ≤ 1048576) (hB : B ≤ w.heap.size) (h : RAt fAct w B A l) :
    Calls Tryz.prog 167 #[.slice A l.length c] w fun e w' => ∃ G c', e = .returned (.slice G l.length c') ∧ Below w.heap.size w w' ∧ ROwn fAct w' w.heap.size w'.heap.size G l := by
  have hlen : l.length ≤ 1048576 := by rw [row_cnt] at hs; omega
  have hmx : l.length ≤ maxLen := h.1
  have hmk := make_Act l.length hlen
  go_enter Tryz.func167, Tryz.ntmps167
  go_wp2
  clear hmk
  go_loopw [4] (fun i wr => ∃ k : Nat, k ≤ l.length ∧ i = .int .i64 k ∧ Below w.heap.size w wr ∧ ∃ vs L H, Laid fAct w.heap.size [.int .i64 0, .int .i64 0, .int .i64 0] l wr k vs L H) (fun i _ => l.length - (intOf i).toNat)
  case atStart => exact ⟨0, Nat.zero_le _, rfl, (Below.refl _ _).alloc (Nat.le_refl _) _, _, _, _, made_laid (F := fAct) w (z := [.int .i64 0, .int .i64 0, .int .i64 0]) rfl (by decide) (rfl)⟩
  case round =>
    obtain ⟨k, hk, rfl, hb, vs, L, H, hld⟩ := hrel
    by_cases hkn : k < l.length
    · obtain ⟨b, off, rfl, hbB, hc⟩ := h.2 (by omega)
      have hkz : (k : Int) < l.length := by omega
      have hget : l[k]? = some l[k] := List.getElem?_eq_getElem hkn
      obtain ⟨v, hv0, hat0⟩ := hc k _ hget
      have hcn := cnt_at (F := fAct) hget
      have hsz := hb.size
      have hat := fAct.at_same hat0 (.of hb hB)
      have hv := hv0.below hb (show b < w.heap.size by omega)
      rw [show fAct.n = 3 from rfl] at hv
      clear hv0 hat0
      generalize l[k] = d at hget hat hcn
      have ev := at_Act hat
      subst ev
      obtain ⟨a0, a1, a2⟩ := hv.c3
      clear hc h hv
      go_wp2_with fail
      refine (to_Act d _).mono ?_; rintro o w1 ⟨rfl, hb1⟩
      have hs1 := hb1.size
      have hld1 := hld.next hb1
      have hzr := hld1.zero hkn
      rw [show fAct.n = 3 from rfl] at hzr
      obtain ⟨z0, z1, z2⟩ := hzr.c3
      have r0 := hld1.free
      have HB := Lib.hid ((((hb.trans (hb1.mono hsz)).setCell (p := ⟨w.heap.size, k * 3, none⟩) (Nat.le_refl _) (.int .i64 d.1)).setCell (p := ⟨w.heap.size, k * 3 + 1, none⟩) (Nat.le_refl _) (.int .i64 d.2.1)).setCell (p := ⟨w.heap.size, k * 3 + 2, none⟩) (Nat.le_refl _) (.int .i64 d.2.2))
      have hl1 := hld1.step hkn hget (v := [.int .i64 d.1, .int .i64 d.2.1, .int .i64 d.2.2]) (s := wr.heap.size) rfl rfl hld.lt (fun j hj => (hld.own j _ hj (List.getElem?_eq_getElem (by omega))).2.1) (own_Act hb1.size d)
      have HL := Lib.hid hl1
      clear hld hld1 hzr hb hb1 hl1 a0 a1 a2
      go_wp2
      exact ⟨⟨k + 1, by omega, by go_num, HB.out, _, _, _, HL.out⟩, by simp [intOf]; omega⟩
    · obtain rfl : k = l.length := by omega
      have HO := Lib.hid (hld.done hmx (Nat.le_refl _) (Nat.le_refl _))
      clear hld
      go_wp2
      go_ret
      exact ⟨_, _, rfl, hb, HO.out⟩
set_option maxHeartbeats 1600000 in
set_option maxRecDepth 100000 in
theorem eq_ActS (A A' : Option Addr) (c c' B B' : Nat) (l : List DAct) (w : World) (hB : B ≤ w.heap.size) (hB' : B' ≤ w.heap.size) (h : RAt fAct w B A l) (h' : RAt fAct w B' A' l) :
    Calls Tryz.prog 178 #[.slice A l.length c, .slice A' l.length c'] w fun e w' => e = .returned (.bool true) ∧ Below w.heap.size w w' := by
  have hmx := h.1
  unfold maxLen at hmx
  go_enter Tryz.func178, Tryz.ntmps178
  go_wp2
  go_loopw [5] (fun i wr => ∃ k : Nat, k ≤ l.length ∧ i = .int .i64 k ∧ Below w.heap.size w wr) (fun i _ => l.length - (intOf i).toNat)
  case atStart => exact ⟨0, Nat.zero_le _, rfl, Below.refl _ _⟩
  case round =>
    obtain ⟨k, hk, rfl, hb⟩ := hrel
    by_cases hkn : k < l.length
    · obtain ⟨b, off, rfl, hbB, hc⟩ := h.2 (by omega)
      obtain ⟨b', off', rfl, hbB', hc'⟩ := h'.2 (by omega)
      have hkz : (k : Int) < l.length := by omega
      have hget : l[k]? = some l[k] := List.getElem?_eq_getElem hkn
      obtain ⟨v, hv0, hat0⟩ := hc k _ hget
      obtain ⟨v', hv0', hat0'⟩ := hc' k _ hget
      have hsz := hb.size
      have hat := fAct.at_same hat0 (.of hb hB)
      have hat' := fAct.at_same hat0' (.of hb hB')
      have hv := hv0.below hb (show b < w.heap.size by omega)
      have hv' := hv0'.below hb (show b' < w.heap.size by omega)
      rw [show fAct.n = 3 from rfl] at hv hv'
      clear hv0 hat0 hv0' hat0'
      generalize l[k] = d at hget hat hat'
      have ev := at_Act hat
      have ev' := at_Act hat'
      subst ev ev'
      obtain ⟨a0, a1, a2⟩ := hv.c3
      obtain ⟨b0, b1, b2⟩ := hv'.c3
      clear hc hc' h h' hv hv' hget
      go_wp2_with fail
      go_still_tail 8, (by kernel_rfl)
      change wpList _ _ _ _ _ wr.drew
      have hb2 := hb.drew
      clear a0 b0 a1 b1 a2 b2
      generalize wr.drew = w2 at hb2 ⊢
      have hs2 := hb2.size
      go_wp2_with fail
      refine (eq_Act d _).mono ?_; rintro o w3 ⟨rfl, hb3⟩
      go_wp2
      exact ⟨⟨k + 1, by omega, by go_num, hb2.trans (hb3.mono hs2)⟩, by simp [intOf]; omega⟩
    · obtain rfl : k = l.length := by omega
      go_wp2
      go_ret
      exact ⟨rfl, hb⟩
theorem sz_HoldS (A : Option Addr) (c : Nat) (l : List DHold) (left : Int) (w : World) (hmx : l.length ≤ maxLen) (h0 : 0 ≤ left) (h1 : left ≤ 1048576) :
    Calls Tryz.prog 201 #[.slice A l.length c, .int .i64 left] w fun e w' => e = .returned (.int .i64 (szOf left ((rowF fHold).cnt l))) ∧ w = w' := by
  have e0 : (rowF fHold).cnt l = l.length := by
    show l.length + (l.map fHold.cnt).sum = _
    rw [show fHold.cnt = fun _ => 0 from funext fun x => cnt_Hold x, zsum]
    rfl
  rw [e0]
  unfold maxLen at hmx
  by_cases hl : left < l.length
  · have h2 : left - (l.length : Int) < 0 := by omega
    go_enter Tryz.func201, Tryz.ntmps201
    go_wp2
    go_ret
    exact ⟨by unfold szOf; rw [if_pos (by omega)]; rfl, rfl⟩
  · have h2 : ¬ left - (l.length : Int) < 0 := by omega
    go_enter Tryz.func201, Tryz.ntmps201
    go_wp2
    go_ret
    exact ⟨by unfold szOf; rw [if_neg (by omega)]; rfl, rfl⟩
theorem info_Hold : (Tryz.prog.info? 144).map (fun i => (i.zero, i.size, i.bytes)) = some (some (.agg #[.int .i64 0, .bool false]), 2, 16) := by kernel_rfl
theorem make_Hold (n : Nat) (h : n ≤ 1048576) (w : World) :
    (Instr.makeSlice 63 (.int .i64 (n : Int)) (.int .i64 (n : Int))).run Tryz.prog w = .ok (.slice (some ⟨w.heap.size, 0, none⟩) n n) (w.alloc (.cells (madeCells #[.int .i64 0, .bool false] (n * 2)) 144)) := by
  obtain ⟨i, hi, hzz⟩ := Option.map_eq_some_iff.1 info_Hold
  simp only [Prod.mk.injEq] at hzz
  obtain ⟨hz, hs, hb⟩ := hzz
  have := run_make (P := Tryz.prog) w 63 144 i _ Tryz.underlying63 hi hz .i64 .i64 n n (by omega) (Int.le_refl _) (by rw [hb]; omega) (by omega)
  simpa [hs, Value.cells] using this
set_option maxHeartbeats 1600000 in
set_option maxRecDepth 100000 in
theorem to_HoldS (A : Option Addr) (c B : Nat) (l : List DHold) (w : World) (hs : (rowF fHold).cnt l ≤ 1048576) (hB : B ≤ w.heap.size) (h : RAt fHold w B A l) :
    Calls Tryz.prog 202 #[.slice A l.length c] w fun e w' => ∃ G c', e = .returned (.slice G l.length c') ∧ Below w.heap.size w w' ∧ ROwn fHold w' w.heap.size w'.heap.size G l := by
  have hlen : l.length ≤ 1048576 := by rw [row_cnt] at hs; omega
  have hmx : l.length ≤ maxLen := h.1
  have hmk := make_Hold l.length hlen
  go_enter Tryz.func202, Tryz.ntmps202
  go_wp2
  clear hmk
  go_loopw [4] (fun i wr => ∃ k : Nat, k ≤ l.length ∧ i = .int .i64 k ∧ Below w.heap.size w wr ∧ ∃ vs L H, Laid fHold w.heap.size [.int .i64 0, .bool false] l wr k vs L H) (fun i _ => l.length - (intOf i).toNat)
  case atStart => exact ⟨0, Nat.zero_le _, rfl, (Below.refl _ _).alloc (Nat.le_refl _) _, _, _, _, made_laid (F := fHold) w (z := [.int .i64 0, .bool false]) rfl (by decide) (rfl)⟩
  case round =>
    obtain ⟨k, hk, rfl, hb, vs, L, H, hld⟩ := hrel
    by_cases hkn : k < l.length
    · obtain ⟨b, off, rfl, hbB, hc⟩ := h.2 (by omega)
      have hkz : (k : Int) < l.length := by omega
      have hget : l[k]? = some l[k] := List.getElem?_eq_getElem hkn
      obtain ⟨v, hv0, hat0⟩ := hc k _ hget
      have hcn := cnt_at (F := fHold) hget
      have hsz := hb.size
      have hat := fHold.at_same hat0 (.of hb hB)
      have hv := hv0.below hb (show b < w.heap.size by omega)
      rw [show fHold.n = 2 from rfl] at hv
      clear hv0 hat0
      generalize l[k] = d at hget hat hcn
      have ev := at_Hold hat
      subst ev
      obtain ⟨a0, a1⟩ := hv.c2
      clear hc h hv
      go_wp2_with fail
      refine (to_Hold d _).mono ?_; rintro o w1 ⟨rfl, hb1⟩
      have hs1 := hb1.size
      have hld1 := hld.next hb1
      have hzr := hld1.zero hkn
      rw [show fHold.n = 2 from rfl] at hzr
      obtain ⟨z0, z1⟩ := hzr.c2
      have r0 := hld1.free
      have HB := Lib.hid (((hb.trans (hb1.mono hsz)).setCell (p := ⟨w.heap.size, k * 2, none⟩) (Nat.le_refl _) (.int .i64 d.1)).setCell (p := ⟨w.heap.size, k * 2 + 1, none⟩) (Nat.le_refl _) (.bool d.2))
      have hl1 := hld1.step hkn hget (v := [.int .i64 d.1, .bool d.2]) (s := wr.heap.size) rfl rfl hld.lt (fun j hj => (hld.own j _ hj (List.getElem?_eq_getElem (by omega))).2.1) (own_Hold hb1.size d)
      have HL := Lib.hid hl1
      clear hld hld1 hzr hb hb1 hl1 a0 a1
      go_wp2
      exact ⟨⟨k + 1, by omega, by go_num, HB.out, _, _, _, HL.out⟩, by simp [intOf]; omega⟩
    · obtain rfl : k = l.length := by omega
      have HO := Lib.hid (hld.done hmx (Nat.le_refl _) (Nat.le_refl _))
      clear hld
      go_wp2
      go_ret
      exact ⟨_, _, rfl, hb, HO.out⟩
set_option maxHeartbeats 1600000 in
set_option maxRecDepth 100000 in
theorem eq_HoldS (A A' : Option Addr) (c c' B B' : Nat) (l : List DHold) (w : World) (hB : B ≤ w.heap.size) (hB' : B' ≤ w.heap.size) (h : RAt fHold w B A l) (h' : RAt fHold w B' A' l) :
    Calls Tryz.prog 207 #[.slice A l.length c, .slice A' l.length c'] w fun e w' => e = .returned (.bool true) ∧ Below w.heap.size w w' := by
  have hmx := h.1
  unfold maxLen at hmx
  go_enter Tryz.func207, Tryz.ntmps207
  go_wp2
  go_loopw [5] (fun i wr => ∃ k : Nat, k ≤ l.length ∧ i = .int .i64 k ∧ Below w.heap.size w wr) (fun i _ => l.length - (intOf i).toNat)
  case atStart => exact ⟨0, Nat.zero_le _, rfl, Below.refl _ _⟩
  case round =>
    obtain ⟨k, hk, rfl, hb⟩ := hrel
    by_cases hkn : k < l.length
    · obtain ⟨b, off, rfl, hbB, hc⟩ := h.2 (by omega)
      obtain ⟨b', off', rfl, hbB', hc'⟩ := h'.2 (by omega)
      have hkz : (k : Int) < l.length := by omega
      have hget : l[k]? = some l[k] := List.getElem?_eq_getElem hkn
      obtain ⟨v, hv0, hat0⟩ := hc k _ hget
      obtain ⟨v', hv0', hat0'⟩ := hc' k _ hget
      have hsz := hb.size
      have hat := fHold.at_same hat0 (.of hb hB)
      have hat' := fHold.at_same hat0' (.of hb hB')
      have hv := hv0.below hb (show b < w.heap.size by omega)
      have hv' := hv0'.below hb (show b' < w.heap.size by omega)
      rw [show fHold.n = 2 from rfl] at hv hv'
      clear hv0 hat0 hv0' hat0'
      generalize l[k] = d at hget hat hat'
      have ev := at_Hold hat
      have ev' := at_Hold hat'
      subst ev ev'
      obtain ⟨a0, a1⟩ := hv.c2
      obtain ⟨b0, b1⟩ := hv'.c2
      clear hc hc' h h' hv hv' hget
      go_wp2_with fail
      go_still_tail 8, (by kernel_rfl)
      change wpList _ _ _ _ _ wr.drew
      have hb2 := hb.drew
      clear a0 b0 a1 b1
      generalize wr.drew = w2 at hb2 ⊢
      have hs2 := hb2.size
      go_wp2_with fail
      refine (eq_Hold d _).mono ?_; rintro o w3 ⟨rfl, hb3⟩
      go_wp2
      exact ⟨⟨k + 1, by omega, by go_num, hb2.trans (hb3.mono hs2)⟩, by simp [intOf]; omega⟩
    · obtain rfl : k = l.length := by omega
      go_wp2
      go_ret
      exact ⟨rfl, hb⟩
theorem sz_WantS (A : Option Addr) (c : Nat) (l : List DWant) (left : Int) (w : World) (hmx : l.length ≤ maxLen) (h0 : 0 ≤ left) (h1 : left ≤ 1048576) :
    Calls Tryz.prog 107 #[.slice A l.length c, .int .i64 left] w fun e w' => e = .returned (.int .i64 (szOf left ((rowF fWant).cnt l))) ∧ w = w' := by
  have e0 : (rowF fWant).cnt l = l.length := by
    show l.length + (l.map fWant.cnt).sum = _
    rw [show fWant.cnt = fun _ => 0 from funext fun x => cnt_Want x, zsum]
    rfl
  rw [e0]
  unfold maxLen at hmx
  by_cases hl : left < l.length
  · have h2 : left - (l.length : Int) < 0 := by omega
    go_enter Tryz.func107, Tryz.ntmps107
    go_wp2
    go_ret
    exact ⟨by unfold szOf; rw [if_pos (by omega)]; rfl, rfl⟩
  · have h2 : ¬ left - (l.length : Int) < 0 := by omega
    go_enter Tryz.func107, Tryz.ntmps107
    go_wp2
    go_ret
    exact ⟨by unfold szOf; rw [if_neg (by omega)]; rfl, rfl⟩
theorem info_Want : (Tryz.prog.info? 139).map (fun i => (i.zero, i.size, i.bytes)) = some (some (.agg #[.int .i64 0, .bool false]), 2, 16) := by kernel_rfl
theorem make_Want (n : Nat) (h : n ≤ 1048576) (w : World) :
    (Instr.makeSlice 69 (.int .i64 (n : Int)) (.int .i64 (n : Int))).run Tryz.prog w = .ok (.slice (some ⟨w.heap.size, 0, none⟩) n n) (w.alloc (.cells (madeCells #[.int .i64 0, .bool false] (n * 2)) 139)) := by
  obtain ⟨i, hi, hzz⟩ := Option.map_eq_some_iff.1 info_Want
  simp only [Prod.mk.injEq] at hzz
  obtain ⟨hz, hs, hb⟩ := hzz
  have := run_make (P := Tryz.prog) w 69 139 i _ Tryz.underlying69 hi hz .i64 .i64 n n (by omega) (Int.le_refl _) (by rw [hb]; omega) (by omega)
  simpa [hs, Value.cells] using this
set_option maxHeartbeats 1600000 in
set_option maxRecDepth 100000 in
theorem to_WantS (A : Option Addr) (c B : Nat) (l : List DWant) (w : World) (hs : (rowF fWant).cnt l ≤ 1048576) (hB : B ≤ w.heap.size) (h : RAt fWant w B A l) :
    Calls Tryz.prog 116 #[.slice A l.length c] w fun e w' => ∃ G c', e = .returned (.slice G l.length c') ∧ Below w.heap.size w w' ∧ ROwn fWant w' w.heap.size w'.heap.size G l := by
  have hlen : l.length ≤ 1048576 := by rw [row_cnt] at hs; omega
  have hmx : l.length ≤ maxLen := h.1
  have hmk := make_Want l.length hlen
  go_enter Tryz.func116, Tryz.ntmps116
  go_wp2
  clear hmk
  go_loopw [4] (fun i wr => ∃ k : Nat, k ≤ l.length ∧ i = .int .i64 k ∧ Below w.heap.size w wr ∧ ∃ vs L H, Laid fWant w.heap.size [.int .i64 0, .bool false] l wr k vs L H) (fun i _ => l.length - (intOf i).toNat)
  case atStart => exact ⟨0, Nat.zero_le _, rfl, (Below.refl _ _).alloc (Nat.le_refl _) _, _, _, _, made_laid (F := fWant) w (z := [.int .i64 0, .bool false]) rfl (by decide) (rfl)⟩
  case round =>
    obtain ⟨k, hk, rfl, hb, vs, L, H, hld⟩ := hrel
    by_cases hkn : k < l.length
    · obtain ⟨b, off, rfl, hbB, hc⟩ := h.2 (by omega)
      have hkz : (k : Int) < l.length := by omega
      have hget : l[k]? = some l[k] := List.getElem?_eq_getElem hkn
      obtain ⟨v, hv0, hat0⟩ := hc k _ hget
      have hcn := cnt_at (F := fWant) hget
      have hsz := hb.size
      have hat := fWant.at_same hat0 (.of hb hB)
      have hv := hv0.below hb (show b < w.heap.size by omega)
      rw [show fWant.n = 2 from rfl] at hv
      clear hv0 hat0
      generalize l[k] = d at hget hat hcn
      have ev := at_Want hat
      subst ev
      obtain ⟨a0, a1⟩ := hv.c2
      clear hc h hv
      go_wp2_with fail
      refine (to_Want d _).mono ?_; rintro o w1 ⟨rfl, hb1⟩
      have hs1 := hb1.size
      have hld1 := hld.next hb1
      have hzr := hld1.zero hkn
      rw [show fWant.n = 2 from rfl] at hzr
      obtain ⟨z0, z1⟩ := hzr.c2
      have r0 := hld1.free
      have HB := Lib.hid (((hb.trans (hb1.mono hsz)).setCell (p := ⟨w.heap.size, k * 2, none⟩) (Nat.le_refl _) (.int .i64 d.1)).setCell (p := ⟨w.heap.size, k * 2 + 1, none⟩) (Nat.le_refl _) (.bool d.2))
      have hl1 := hld1.step hkn hget (v := [.int .i64 d.1, .bool d.2]) (s := wr.heap.size) rfl rfl hld.lt (fun j hj => (hld.own j _ hj (List.getElem?_eq_getElem (by omega))).2.1) (own_Want hb1.size d)
      have HL := Lib.hid hl1
      clear hld hld1 hzr hb hb1 hl1 a0 a1
      go_wp2
      exact ⟨⟨k + 1, by omega, by go_num, HB.out, _, _, _, HL.out⟩, by simp [intOf]; omega⟩
    · obtain rfl : k = l.length := by omega
      have HO := Lib.hid (hld.done hmx (Nat.le_refl _) (Nat.le_refl _))
      clear hld
      go_wp2
      go_ret
      exact ⟨_, _, rfl, hb, HO.out⟩
set_option maxHeartbeats 1600000 in
set_option maxRecDepth 100000 in
theorem eq_WantS (A A' : Option Addr) (c c' B B' : Nat) (l : List DWant) (w : World) (hB : B ≤ w.heap.size) (hB' : B' ≤ w.heap.size) (h : RAt fWant w B A l) (h' : RAt fWant w B' A' l) :
    Calls Tryz.prog 130 #[.slice A l.length c, .slice A' l.length c'] w fun e w' => e = .returned (.bool true) ∧ Below w.heap.size w w' := by
  have hmx := h.1
  unfold maxLen at hmx
  go_enter Tryz.func130, Tryz.ntmps130
  go_wp2
  go_loopw [5] (fun i wr => ∃ k : Nat, k ≤ l.length ∧ i = .int .i64 k ∧ Below w.heap.size w wr) (fun i _ => l.length - (intOf i).toNat)
  case atStart => exact ⟨0, Nat.zero_le _, rfl, Below.refl _ _⟩
  case round =>
    obtain ⟨k, hk, rfl, hb⟩ := hrel
    by_cases hkn : k < l.length
    · obtain ⟨b, off, rfl, hbB, hc⟩ := h.2 (by omega)
      obtain ⟨b', off', rfl, hbB', hc'⟩ := h'.2 (by omega)
      have hkz : (k : Int) < l.length := by omega
      have hget : l[k]? = some l[k] := List.getElem?_eq_getElem hkn
      obtain ⟨v, hv0, hat0⟩ := hc k _ hget
      obtain ⟨v', hv0', hat0'⟩ := hc' k _ hget
      have hsz := hb.size
      have hat := fWant.at_same hat0 (.of hb hB)
      have hat' := fWant.at_same hat0' (.of hb hB')
      have hv := hv0.below hb (show b < w.heap.size by omega)
      have hv' := hv0'.below hb (show b' < w.heap.size by omega)
      rw [show fWant.n = 2 from rfl] at hv hv'
      clear hv0 hat0 hv0' hat0'
      generalize l[k] = d at hget hat hat'
      have ev := at_Want hat
      have ev' := at_Want hat'
      subst ev ev'
      obtain ⟨a0, a1⟩ := hv.c2
      obtain ⟨b0, b1⟩ := hv'.c2
      clear hc hc' h h' hv hv' hget
      go_wp2_with fail
      go_still_tail 8, (by kernel_rfl)
      change wpList _ _ _ _ _ wr.drew
      have hb2 := hb.drew
      clear a0 b0 a1 b1
      generalize wr.drew = w2 at hb2 ⊢
      have hs2 := hb2.size
      go_wp2_with fail
      refine (eq_Want d _).mono ?_; rintro o w3 ⟨rfl, hb3⟩
      go_wp2
      exact ⟨⟨k + 1, by omega, by go_num, hb2.trans (hb3.mono hs2)⟩, by simp [intOf]; omega⟩
    · obtain rfl : k = l.length := by omega
      go_wp2
      go_ret
      exact ⟨rfl, hb⟩
theorem sz_PutS (A : Option Addr) (c : Nat) (l : List DPut) (left : Int) (w : World) (hmx : l.length ≤ maxLen) (h0 : 0 ≤ left) (h1 : left ≤ 1048576) :
    Calls Tryz.prog 109 #[.slice A l.length c, .int .i64 left] w fun e w' => e = .returned (.int .i64 (szOf left ((rowF fPut).cnt l))) ∧ w = w' := by
  have e0 : (rowF fPut).cnt l = l.length := by
    show l.length + (l.map fPut.cnt).sum = _
    rw [show fPut.cnt = fun _ => 0 from funext fun x => cnt_Put x, zsum]
    rfl
  rw [e0]
  unfold maxLen at hmx
  by_cases hl : left < l.length
  · have h2 : left - (l.length : Int) < 0 := by omega
    go_enter Tryz.func109, Tryz.ntmps109
    go_wp2
    go_ret
    exact ⟨by unfold szOf; rw [if_pos (by omega)]; rfl, rfl⟩
  · have h2 : ¬ left - (l.length : Int) < 0 := by omega
    go_enter Tryz.func109, Tryz.ntmps109
    go_wp2
    go_ret
    exact ⟨by unfold szOf; rw [if_neg (by omega)]; rfl, rfl⟩
theorem info_Put : (Tryz.prog.info? 75).map (fun i => (i.zero, i.size, i.bytes)) = some (some (.agg #[.int .i64 0, .int .i64 0]), 2, 16) := by kernel_rfl
theorem make_Put (n : Nat) (h : n ≤ 1048576) (w : World) :
    (Instr.makeSlice 71 (.int .i64 (n : Int)) (.int .i64 (n : Int))).run Tryz.prog w = .ok (.slice (some ⟨w.heap.size, 0, none⟩) n n) (w.alloc (.cells (madeCells #[.int .i64 0, .int .i64 0] (n * 2)) 75)) := by
  obtain ⟨i, hi, hzz⟩ := Option.map_eq_some_iff.1 info_Put
  simp only [Prod.mk.injEq] at hzz
  obtain ⟨hz, hs, hb⟩ := hzz
  have := run_make (P := Tryz.prog) w 71 75 i _ Tryz.underlying71 hi hz .i64 .i64 n n (by omega) (Int.le_refl _) (by rw [hb]; omega) (by omega)
  simpa [hs, Value.cells] using this
set_option maxHeartbeats 1600000 in
set_option maxRecDepth 100000 in
theorem to_PutS (A : Option Addr) (c B : Nat) (l : List DPut) (w : World) (hs : (rowF fPut).cnt l ≤ 1048576) (hB : B ≤ w.heap.size) (h : RAt fPut w B A l) :
    Calls Tryz.prog 118 #[.slice A l.length c] w fun e w' => ∃ G c', e = .returned (.slice G l.length c') ∧ Below w.heap.size w w' ∧ ROwn fPut w' w.heap.size w'.heap.size G l := by
  have hlen : l.length ≤ 1048576 := by rw [row_cnt] at hs; omega
  have hmx : l.length ≤ maxLen := h.1
  have hmk := make_Put l.length hlen
  go_enter Tryz.func118, Tryz.ntmps118
  go_wp2
  clear hmk
  go_loopw [4] (fun i wr => ∃ k : Nat, k ≤ l.length ∧ i = .int .i64 k ∧ Below w.heap.size w wr ∧ ∃ vs L H, Laid fPut w.heap.size [.int .i64 0, .int .i64 0] l wr k vs L H) (fun i _ => l.length - (intOf i).toNat)
  case atStart => exact ⟨0, Nat.zero_le _, rfl, (Below.refl _ _).alloc (Nat.le_refl _) _, _, _, _, made_laid (F := fPut) w (z := [.int .i64 0, .int .i64 0]) rfl (by decide) (rfl)⟩
  case round =>
    obtain ⟨k, hk, rfl, hb, vs, L, H, hld⟩ := hrel
    by_cases hkn : k < l.length
    · obtain ⟨b, off, rfl, hbB, hc⟩ := h.2 (by omega)
      have hkz : (k : Int) < l.length := by omega
      have hget : l[k]? = some l[k] := List.getElem?_eq_getElem hkn
      obtain ⟨v, hv0, hat0⟩ := hc k _ hget
      have hcn := cnt_at (F := fPut) hget
      have hsz := hb.size
      have hat := fPut.at_same hat0 (.of hb hB)
      have hv := hv0.below hb (show b < w.heap.size by omega)
      rw [show fPut.n = 2 from rfl] at hv
      clear hv0 hat0
      generalize l[k] = d at hget hat hcn
      have ev := at_Put hat
      subst ev
      obtain ⟨a0, a1⟩ := hv.c2
      clear hc h hv
      go_wp2_with fail
      refine (to_Put d _).mono ?_; rintro o w1 ⟨rfl, hb1⟩
      have hs1 := hb1.size
      have hld1 := hld.next hb1
      have hzr := hld1.zero hkn
      rw [show fPut.n = 2 from rfl] at hzr
      obtain ⟨z0, z1⟩ := hzr.c2
      have r0 := hld1.free
      have HB := Lib.hid (((hb.trans (hb1.mono hsz)).setCell (p := ⟨w.heap.size, k * 2, none⟩) (Nat.le_refl _) (.int .i64 d.1)).setCell (p := ⟨w.heap.size, k * 2 + 1, none⟩) (Nat.le_refl _) (.int .i64 d.2))
      have hl1 := hld1.step hkn hget (v := [.int .i64 d.1, .int .i64 d.2]) (s := wr.heap.size) rfl rfl hld.lt (fun j hj => (hld.own j _ hj (List.getElem?_eq_getElem (by omega))).2.1) (own_Put hb1.size d)
      have HL := Lib.hid hl1
      clear hld hld1 hzr hb hb1 hl1 a0 a1
      go_wp2
      exact ⟨⟨k + 1, by omega, by go_num, HB.out, _, _, _, HL.out⟩, by simp [intOf]; omega⟩
    · obtain rfl : k = l.length := by omega
      have HO := Lib.hid (hld.done hmx (Nat.le_refl _) (Nat.le_refl _))
      clear hld
      go_wp2
      go_ret
      exact ⟨_, _, rfl, hb, HO.out⟩
set_option maxHeartbeats 1600000 in
set_option maxRecDepth 100000 in
theorem eq_PutS (A A' : Option Addr) (c c' B B' : Nat) (l : List DPut) (w : World) (hB : B ≤ w.heap.size) (hB' : B' ≤ w.heap.size) (h : RAt fPut w B A l) (h' : RAt fPut w B' A' l) :
    Calls Tryz.prog 132 #[.slice A l.length c, .slice A' l.length c'] w fun e w' => e = .returned (.bool true) ∧ Below w.heap.size w w' := by
  have hmx := h.1
  unfold maxLen at hmx
  go_enter Tryz.func132, Tryz.ntmps132
  go_wp2
  go_loopw [5] (fun i wr => ∃ k : Nat, k ≤ l.length ∧ i = .int .i64 k ∧ Below w.heap.size w wr) (fun i _ => l.length - (intOf i).toNat)
  case atStart => exact ⟨0, Nat.zero_le _, rfl, Below.refl _ _⟩
  case round =>
    obtain ⟨k, hk, rfl, hb⟩ := hrel
    by_cases hkn : k < l.length
    · obtain ⟨b, off, rfl, hbB, hc⟩ := h.2 (by omega)
      obtain ⟨b', off', rfl, hbB', hc'⟩ := h'.2 (by omega)
      have hkz : (k : Int) < l.length := by omega
      have hget : l[k]? = some l[k] := List.getElem?_eq_getElem hkn
      obtain ⟨v, hv0, hat0⟩ := hc k _ hget
      obtain ⟨v', hv0', hat0'⟩ := hc' k _ hget
      have hsz := hb.size
      have hat := fPut.at_same hat0 (.of hb hB)
      have hat' := fPut.at_same hat0' (.of hb hB')
      have hv := hv0.below hb (show b < w.heap.size by omega)
      have hv' := hv0'.below hb (show b' < w.heap.size by omega)
      rw [show fPut.n = 2 from rfl] at hv hv'
      clear hv0 hat0 hv0' hat0'
      generalize l[k] = d at hget hat hat'
      have ev := at_Put hat
      have ev' := at_Put hat'
      subst ev ev'
      obtain ⟨a0, a1⟩ := hv.c2
      obtain ⟨b0, b1⟩ := hv'.c2
      clear hc hc' h h' hv hv' hget
      go_wp2_with fail
      go_still_tail 8, (by kernel_rfl)
      change wpList _ _ _ _ _ wr.drew
      have hb2 := hb.drew
      clear a0 b0 a1 b1
      generalize wr.drew = w2 at hb2 ⊢
      have hs2 := hb2.size
      go_wp2_with fail
      refine (eq_Put d _).mono ?_; rintro o w3 ⟨rfl, hb3⟩
      go_wp2
      exact ⟨⟨k + 1, by omega, by go_num, hb2.trans (hb3.mono hs2)⟩, by simp [intOf]; omega⟩
    · obtain rfl : k = l.length := by omega
      go_wp2
      go_ret
      exact ⟨rfl, hb⟩
theorem sz_SeenS (A : Option Addr) (c : Nat) (l : List DSeen) (left : Int) (w : World) (hmx : l.length ≤ maxLen) (h0 : 0 ≤ left) (h1 : left ≤ 1048576) :
    Calls Tryz.prog 108 #[.slice A l.length c, .int .i64 left] w fun e w' => e = .returned (.int .i64 (szOf left ((rowF fSeen).cnt l))) ∧ w = w' := by
  have e0 : (rowF fSeen).cnt l = l.length := by
    show l.length + (l.map fSeen.cnt).sum = _
    rw [show fSeen.cnt = fun _ => 0 from funext fun x => cnt_Seen x, zsum]
    rfl
  rw [e0]
  unfold maxLen at hmx
  by_cases hl : left < l.length
  · have h2 : left - (l.length : Int) < 0 := by omega
    go_enter Tryz.func108, Tryz.ntmps108
    go_wp2
    go_ret
    exact ⟨by unfold szOf; rw [if_pos (by omega)]; rfl, rfl⟩
  · have h2 : ¬ left - (l.length : Int) < 0 := by omega
    go_enter Tryz.func108, Tryz.ntmps108
    go_wp2
    go_ret
    exact ⟨by unfold szOf; rw [if_neg (by omega)]; rfl, rfl⟩
theorem info_Seen : (Tryz.prog.info? 141).map (fun i => (i.zero, i.size, i.bytes)) = some (some (.agg #[.int .i64 0, .int .i64 0, .int .i64 0, .bool false, .int .i64 0]), 5, 40) := by kernel_rfl
theorem make_Seen (n : Nat) (h : n ≤ 1048576) (w : World) :
    (Instr.makeSlice 70 (.int .i64 (n : Int)) (.int .i64 (n : Int))).run Tryz.prog w = .ok (.slice (some ⟨w.heap.size, 0, none⟩) n n) (w.alloc (.cells (madeCells #[.int .i64 0, .int .i64 0, .int .i64 0, .bool false, .int .i64 0] (n * 5)) 141)) := by
  obtain ⟨i, hi, hzz⟩ := Option.map_eq_some_iff.1 info_Seen
  simp only [Prod.mk.injEq] at hzz
  obtain ⟨hz, hs, hb⟩ := hzz
  have := run_make (P := Tryz.prog) w 70 141 i _ Tryz.underlying70 hi hz .i64 .i64 n n (by omega) (Int.le_refl _) (by rw [hb]; omega) (by omega)
  simpa [hs, Value.cells] using this
set_option maxHeartbeats 1600000 in
set_option maxRecDepth 100000 in
theorem to_SeenS (A : Option Addr) (c B : Nat) (l : List DSeen) (w : World) (hs : (rowF fSeen).cnt l ≤ 1048576) (hB : B ≤ w.heap.size) (h : RAt fSeen w B A l) :
    Calls Tryz.prog 117 #[.slice A l.length c] w fun e w' => ∃ G c', e = .returned (.slice G l.length c') ∧ Below w.heap.size w w' ∧ ROwn fSeen w' w.heap.size w'.heap.size G l := by
  have hlen : l.length ≤ 1048576 := by rw [row_cnt] at hs; omega
  have hmx : l.length ≤ maxLen := h.1
  have hmk := make_Seen l.length hlen
  go_enter Tryz.func117, Tryz.ntmps117
  go_wp2
  clear hmk
  go_loopw [4] (fun i wr => ∃ k : Nat, k ≤ l.length ∧ i = .int .i64 k ∧ Below w.heap.size w wr ∧ ∃ vs L H, Laid fSeen w.heap.size [.int .i64 0, .int .i64 0, .int .i64 0, .bool false, .int .i64 0] l wr k vs L H) (fun i _ => l.length - (intOf i).toNat)
  case atStart => exact ⟨0, Nat.zero_le _, rfl, (Below.refl _ _).alloc (Nat.le_refl _) _, _, _, _, made_laid (F := fSeen) w (z := [.int .i64 0, .int .i64 0, .int .i64 0, .bool false, .int .i64 0]) rfl (by decide) (rfl)⟩
  case round =>
    obtain ⟨k, hk, rfl, hb, vs, L, H, hld⟩ := hrel
    by_cases hkn : k < l.length
    · obtain ⟨b, off, rfl, hbB, hc⟩ := h.2 (by omega)
      have hkz : (k : Int) < l.length := by omega
      have hget : l[k]? = some l[k] := List.getElem?_eq_getElem hkn
      obtain ⟨v, hv0, hat0⟩ := hc k _ hget
      have hcn := cnt_at (F := fSeen) hget
      have hsz := hb.size
      have hat := fSeen.at_same hat0 (.of hb hB)
      have hv := hv0.below hb (show b < w.heap.size by omega)
      rw [show fSeen.n = 5 from rfl] at hv
      clear hv0 hat0
      generalize l[k] = d at hget hat hcn
      have ev := at_Seen hat
      subst ev
      obtain ⟨a0, a1, a2, a3, a4⟩ := hv.c5
      clear hc h hv
      go_wp2_with fail
      refine (to_Seen d _).mono ?_; rintro o w1 ⟨rfl, hb1⟩
      have hs1 := hb1.size
      have hld1 := hld.next hb1
      have hzr := hld1.zero hkn
      rw [show fSeen.n = 5 from rfl] at hzr
      obtain ⟨z0, z1, z2, z3, z4⟩ := hzr.c5
      have r0 := hld1.free
      have HB := Lib.hid ((((((hb.trans (hb1.mono hsz)).setCell (p := ⟨w.heap.size, k * 5, none⟩) (Nat.le_refl _) (.int .i64 d.1)).setCell (p := ⟨w.heap.size, k * 5 + 1, none⟩) (Nat.le_refl _) (.int .i64 d.2.1.1)).setCell (p := ⟨w.heap.size, k * 5 + 2, none⟩) (Nat.le_refl _) (.int .i64 d.2.1.2.1)).setCell (p := ⟨w.heap.size, k * 5 + 3, none⟩) (Nat.le_refl _) (.bool d.2.1.2.2)).setCell (p := ⟨w.heap.size, k * 5 + 4, none⟩) (Nat.le_refl _) (.int .i64 d.2.2))
      have hl1 := hld1.step hkn hget (v := [.int .i64 d.1, .int .i64 d.2.1.1, .int .i64 d.2.1.2.1, .bool d.2.1.2.2, .int .i64 d.2.2]) (s := wr.heap.size) rfl rfl hld.lt (fun j hj => (hld.own j _ hj (List.getElem?_eq_getElem (by omega))).2.1) (own_Seen hb1.size d)
      have HL := Lib.hid hl1
      clear hld hld1 hzr hb hb1 hl1 a0 a1 a2 a3 a4
      go_wp2
      exact ⟨⟨k + 1, by omega, by go_num, HB.out, _, _, _, HL.out⟩, by simp [intOf]; omega⟩
    · obtain rfl : k = l.length := by omega
      have HO := Lib.hid (hld.done hmx (Nat.le_refl _) (Nat.le_refl _))
      clear hld
      go_wp2
      go_ret
      exact ⟨_, _, rfl, hb, HO.out⟩
set_option maxHeartbeats 1600000 in
set_option maxRecDepth 100000 in
theorem eq_SeenS (A A' : Option Addr) (c c' B B' : Nat) (l : List DSeen) (w : World) (hB : B ≤ w.heap.size) (hB' : B' ≤ w.heap.size) (h : RAt fSeen w B A l) (h' : RAt fSeen w B' A' l) :
    Calls Tryz.prog 131 #[.slice A l.length c, .slice A' l.length c'] w fun e w' => e = .returned (.bool true) ∧ Below w.heap.size w w' := by
  have hmx := h.1
  unfold maxLen at hmx
  go_enter Tryz.func131, Tryz.ntmps131
  go_wp2
  go_loopw [5] (fun i wr => ∃ k : Nat, k ≤ l.length ∧ i = .int .i64 k ∧ Below w.heap.size w wr) (fun i _ => l.length - (intOf i).toNat)
  case atStart => exact ⟨0, Nat.zero_le _, rfl, Below.refl _ _⟩
  case round =>
    obtain ⟨k, hk, rfl, hb⟩ := hrel
    by_cases hkn : k < l.length
    · obtain ⟨b, off, rfl, hbB, hc⟩ := h.2 (by omega)
      obtain ⟨b', off', rfl, hbB', hc'⟩ := h'.2 (by omega)
      have hkz : (k : Int) < l.length := by omega
      have hget : l[k]? = some l[k] := List.getElem?_eq_getElem hkn
      obtain ⟨v, hv0, hat0⟩ := hc k _ hget
      obtain ⟨v', hv0', hat0'⟩ := hc' k _ hget
      have hsz := hb.size
      have hat := fSeen.at_same hat0 (.of hb hB)
      have hat' := fSeen.at_same hat0' (.of hb hB')
      have hv := hv0.below hb (show b < w.heap.size by omega)
      have hv' := hv0'.below hb (show b' < w.heap.size by omega)
      rw [show fSeen.n = 5 from rfl] at hv hv'
      clear hv0 hat0 hv0' hat0'
      generalize l[k] = d at hget hat hat'
      have ev := at_Seen hat
      have ev' := at_Seen hat'
      subst ev ev'
      obtain ⟨a0, a1, a2, a3, a4⟩ := hv.c5
      obtain ⟨b0, b1, b2, b3, b4⟩ := hv'.c5
      clear hc hc' h h' hv hv' hget
      go_wp2_with fail
      go_still_tail 8, (by kernel_rfl)
      change wpList _ _ _ _ _ wr.drew
      have hb2 := hb.drew
      clear a0 b0 a1 b1 a2 b2 a3 b3 a4 b4
      generalize wr.drew = w2 at hb2 ⊢
      have hs2 := hb2.size
      go_wp2_with fail
      refine (eq_Seen d _).mono ?_; rintro o w3 ⟨rfl, hb3⟩
      go_wp2
      exact ⟨⟨k + 1, by omega, by go_num, hb2.trans (hb3.mono hs2)⟩, by simp [intOf]; omega⟩
    · obtain rfl : k = l.length := by omega
      go_wp2
      go_ret
      exact ⟨rfl, hb⟩
end Go.Proofs.YtkpkjcmoldkmmaaGreat
