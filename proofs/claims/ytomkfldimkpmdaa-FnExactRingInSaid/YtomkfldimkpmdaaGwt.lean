/- The laws' helpers over Waits. -/
import Derived.Test.YtomkfldimkpmdaaGc
namespace Go.Proofs.Ytomkfldimkpmdaa
open Go.RowKit

abbrev DWait := Int × Int
def fWait : Fm DWait := pairF intF (intF)
theorem at_Wait {w : World} {B : Nat} {d : DWait} {vs : List Value} (h : fWait.At w B d vs) : vs = [.int .i64 d.1, .int .i64 d.2] := by
  obtain ⟨x0, y0, rfl, h0, h1⟩ := h
  cases h0
  cases h1
  rfl
theorem cnt_Wait (d : DWait) : fWait.cnt d = 0 := by
  show intF.cnt d.1 + (intF.cnt d.2) = _
  have z0 : intF.cnt d.1 = 0 := rfl
  have z1 : intF.cnt d.2 = 0 := rfl
  omega
theorem n_Wait : fWait.n = 2 := rfl
theorem own_Wait {w : World} {lo B : Nat} (h : lo ≤ B) (d : DWait) : fWait.Own w lo B d [.int .i64 d.1, .int .i64 d.2] := ⟨[.int .i64 d.1], _, lo, lo, lo, B, rfl, by omega, rfl, rfl⟩
theorem mk_Wait {w : World} {B : Nat} {d : DWait} : fWait.At w B d [.int .i64 d.1, .int .i64 d.2] := ⟨[.int .i64 d.1], _, rfl, rfl, rfl⟩
set_option maxRecDepth 100000 in
theorem to_Wait (d : DWait) (w : World) : Calls Try.prog 91 #[.agg #[.int .i64 d.1, .int .i64 d.2]] w fun e w' => e = .returned (.agg #[.int .i64 d.1, .int .i64 d.2]) ∧ Below w.heap.size w w' := by
  go_enter Try.func91, Try.ntmps91
  go_wp2
  exact bodyPost_ret (v := .agg #[.int .i64 d.1, .int .i64 d.2]) (by simp [results, Try.results91, go_sem]) rfl ⟨rfl, (by repeat' (first | (with_reducible refine Below.setCell ?_ (by simp <;> omega) _) | (with_reducible refine Below.alloc ?_ (by simp <;> omega) _) | (with_reducible assumption) | (with_reducible exact Below.refl _ _)))⟩
set_option maxRecDepth 100000 in
theorem eq_Wait (d : DWait) (w : World) : Calls Try.prog 93 #[.agg #[.int .i64 d.1, .int .i64 d.2], .agg #[.int .i64 d.1, .int .i64 d.2]] w fun e w' => e = .returned (.bool true) ∧ Below w.heap.size w w' := by
  go_enter Try.func93, Try.ntmps93
  go_wp2
  go_ret
  exact ⟨rfl, (by repeat' (first | (with_reducible refine Below.setCell ?_ (by simp <;> omega) _) | (with_reducible refine Below.alloc ?_ (by simp <;> omega) _) | (with_reducible assumption) | (with_reducible exact Below.refl _ _)))⟩
theorem sz_WaitS (A : Option Addr) (c : Nat) (l : List DWait) (left : Int) (w : World) (hmx : l.length ≤ maxLen) (h0 : 0 ≤ left) (h1 : left ≤ 1048576) :
    Calls Try.prog 37 #[.slice A l.length c, .int .i64 left] w fun e w' => e = .returned (.int .i64 (szOf left ((rowF fWait).cnt l))) ∧ w = w' := by
  have e0 : (rowF fWait).cnt l = l.length := by
    show l.length + (l.map fWait.cnt).sum = _
    rw [show fWait.cnt = fun _ => 0 from funext fun x => cnt_Wait x, zsum]
    rfl
  rw [e0]
  unfold maxLen at hmx
  by_cases hl : left < l.length
  · have h2 : left - (l.length : Int) < 0 := by omega
    go_enter Try.func37, Try.ntmps37
    go_wp2
    go_ret
    exact ⟨by unfold szOf; rw [if_pos (by omega)]; rfl, rfl⟩
  · have h2 : ¬ left - (l.length : Int) < 0 := by omega
    go_enter Try.func37, Try.ntmps37
    go_wp2
    go_ret
    exact ⟨by unfold szOf; rw [if_neg (by omega)]; rfl, rfl⟩
theorem info_Wait : (Try.prog.info? 138).map (fun i => (i.zero, i.size, i.bytes)) = some (some (.agg #[.int .i64 0, .int .i64 0]), 2, 16) := by kernel_rfl
theorem make_Wait (n : Nat) (h : n ≤ 1048576) (w : World) :
    (Instr.makeSlice 69 (.int .i64 (n : Int)) (.int .i64 (n : Int))).run Try.prog w = .ok (.slice (some ⟨w.heap.size, 0, none⟩) n n) (w.alloc (.cells (madeCells #[.int .i64 0, .int .i64 0] (n * 2)) 138)) := by
  obtain ⟨i, hi, hzz⟩ := Option.map_eq_some_iff.1 info_Wait
  simp only [Prod.mk.injEq] at hzz
  obtain ⟨hz, hs, hb⟩ := hzz
  have := run_make (P := Try.prog) w 69 138 i _ Try.underlying69 hi hz .i64 .i64 n n (by omega) (Int.le_refl _) (by rw [hb]; omega) (by omega)
  simpa [hs, Value.cells] using this
set_option maxHeartbeats 1600000 in
set_option maxRecDepth 100000 in
theorem to_WaitS (A : Option Addr) (c B : Nat) (l : List DWait) (w : World) (hs : (rowF fWait).cnt l ≤ 1048576) (hB : B ≤ w.heap.size) (h : RAt fWait w B A l) :
    Calls Try.prog 39 #[.slice A l.length c] w fun e w' => ∃ G c', e = .returned (.slice G l.length c') ∧ Below w.heap.size w w' ∧ ROwn fWait w' w.heap.size w'.heap.size G l := by
  have hlen : l.length ≤ 1048576 := by rw [row_cnt] at hs; omega
  have hmx : l.length ≤ maxLen := h.1
  have hmk := make_Wait l.length hlen
  go_enter Try.func39, Try.ntmps39
  go_wp2
  clear hmk
  go_loopw [4] (fun i wr => ∃ k : Nat, k ≤ l.length ∧ i = .int .i64 k ∧ Below w.heap.size w wr ∧ ∃ vs L H, Laid fWait w.heap.size [.int .i64 0, .int .i64 0] l wr k vs L H) (fun i _ => l.length - (intOf i).toNat)
  case atStart => exact ⟨0, Nat.zero_le _, rfl, (Below.refl _ _).alloc (Nat.le_refl _) _, _, _, _, made_laid (F := fWait) w (z := [.int .i64 0, .int .i64 0]) rfl (by decide) (rfl)⟩
  case round =>
    obtain ⟨k, hk, rfl, hb, vs, L, H, hld⟩ := hrel
    by_cases hkn : k < l.length
    · obtain ⟨b, off, rfl, hbB, hc⟩ := h.2 (by omega)
      have hkz : (k : Int) < l.length := by omega
      have hget : l[k]? = some l[k] := List.getElem?_eq_getElem hkn
      obtain ⟨v, hv0, hat0⟩ := hc k _ hget
      have hcn := cnt_at (F := fWait) hget
      have hsz := hb.size
      have hat := fWait.at_same hat0 (.of hb hB)
      have hv := hv0.below hb (show b < w.heap.size by omega)
      rw [show fWait.n = 2 from rfl] at hv
      clear hv0 hat0
      generalize l[k] = d at hget hat hcn
      have ev := at_Wait hat
      subst ev
      obtain ⟨a0, a1⟩ := hv.c2
      clear hc h hv
      go_wp2_with fail
      refine (to_Wait d _).mono ?_; rintro o w1 ⟨rfl, hb1⟩
      have hs1 := hb1.size
      have hld1 := hld.next hb1
      have hzr := hld1.zero hkn
      rw [show fWait.n = 2 from rfl] at hzr
      obtain ⟨z0, z1⟩ := hzr.c2
      have r0 := hld1.free
      have HB := Lib.hid (((hb.trans (hb1.mono hsz)).setCell (p := ⟨w.heap.size, k * 2, none⟩) (Nat.le_refl _) (.int .i64 d.1)).setCell (p := ⟨w.heap.size, k * 2 + 1, none⟩) (Nat.le_refl _) (.int .i64 d.2))
      have hl1 := hld1.step hkn hget (v := [.int .i64 d.1, .int .i64 d.2]) (s := wr.heap.size) rfl rfl hld.lt (fun j hj => (hld.own j _ hj (List.getElem?_eq_getElem (by omega))).2.1) (own_Wait hb1.size d)
      have HL := Lib.hid hl1
      clear hld hld1 hzr hb hb1 hl1 a0 a1
      go_wp2
      exact ⟨⟨k + 1, by omega, by go_num, HB.out, _, _, _, HL.out⟩, by simp [intOf]; omega⟩
    · obtain rfl : k = l.length := by omega
      have HO := Lib.hid (hld.done hmx (Nat.le_refl _) (Nat.le_refl _))
      clear hld
      go_wp2
      go_ret
      exact ⟨_, _, rfl, hb, HO.out⟩
set_option maxHeartbeats 1600000 in
set_option maxRecDepth 100000 in
theorem eq_WaitS (A A' : Option Addr) (c c' B B' : Nat) (l : List DWait) (w : World) (hB : B ≤ w.heap.size) (hB' : B' ≤ w.heap.size) (h : RAt fWait w B A l) (h' : RAt fWait w B' A' l) :
    Calls Try.prog 41 #[.slice A l.length c, .slice A' l.length c'] w fun e w' => e = .returned (.bool true) ∧ Below w.heap.size w w' := by
  have hmx := h.1
  unfold maxLen at hmx
  go_enter Try.func41, Try.ntmps41
  go_wp2
  go_loopw [5] (fun i wr => ∃ k : Nat, k ≤ l.length ∧ i = .int .i64 k ∧ Below w.heap.size w wr) (fun i _ => l.length - (intOf i).toNat)
  case atStart => exact ⟨0, Nat.zero_le _, rfl, Below.refl _ _⟩
  case round =>
    obtain ⟨k, hk, rfl, hb⟩ := hrel
    by_cases hkn : k < l.length
    · obtain ⟨b, off, rfl, hbB, hc⟩ := h.2 (by omega)
      obtain ⟨b', off', rfl, hbB', hc'⟩ := h'.2 (by omega)
      have hkz : (k : Int) < l.length := by omega
      have hget : l[k]? = some l[k] := List.getElem?_eq_getElem hkn
      obtain ⟨v, hv0, hat0⟩ := hc k _ hget
      obtain ⟨v', hv0', hat0'⟩ := hc' k _ hget
      have hsz := hb.size
      have hat := fWait.at_same hat0 (.of hb hB)
      have hat' := fWait.at_same hat0' (.of hb hB')
      have hv := hv0.below hb (show b < w.heap.size by omega)
      have hv' := hv0'.below hb (show b' < w.heap.size by omega)
      rw [show fWait.n = 2 from rfl] at hv hv'
      clear hv0 hat0 hv0' hat0'
      generalize l[k] = d at hget hat hat'
      have ev := at_Wait hat
      have ev' := at_Wait hat'
      subst ev ev'
      obtain ⟨a0, a1⟩ := hv.c2
      obtain ⟨b0, b1⟩ := hv'.c2
      clear hc hc' h h' hv hv' hget
      go_wp2_with fail
      go_still_tail 8, (by kernel_rfl)
      change wpList _ _ _ _ _ wr.drew
      have hb2 := hb.drew
      clear a0 b0 a1 b1
      generalize wr.drew = w2 at hb2 ⊢
      have hs2 := hb2.size
      go_wp2_with fail
      refine (eq_Wait d _).mono ?_; rintro o w3 ⟨rfl, hb3⟩
      go_wp2
      exact ⟨⟨k + 1, by omega, by go_num, hb2.trans (hb3.mono hs2)⟩, by simp [intOf]; omega⟩
    · obtain rfl : k = l.length := by omega
      go_wp2
      go_ret
      exact ⟨rfl, hb⟩
end Go.Proofs.Ytomkfldimkpmdaa
