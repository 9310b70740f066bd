/- Wait graphs: WaitsFor of the model. -/
import Derived.Test.YtkpkjcmoldkmmaaGreatWfH
import Derived.Test.YtkpkjcmoldkmmaaGreatWBase
import Derived.Test.YtkpkjcmoldkmmaaGreatGc
import Derived.Test.YtkpkjcmoldkmmaaGreatWfC
import Derived.Test.YtkpkjcmoldkmmaaGreatWfF
import Derived.Test.YtkpkjcmoldkmmaaGreatWfE
import Derived.Deep.AppendLies
namespace Go.Proofs.YtkpkjcmoldkmmaaGreat
open Go.RowKit Go.Lib

def updB (M : Nat → Bool) (i : Nat) (v : Bool) (j : Nat) : Bool := if j = i then v else M j
/-- the marks in block g, the engine's box below it -/
structure MkS (w wr : World) (g n : Nat) (M : Nat → Bool) (cs : List Value) : Prop where
  b : Below w.heap.size w wr
  lt : g < wr.heap.size
  ge : w.heap.size < g
  cell : ∀ j, j < n → wr.cell? ⟨g, j, none⟩ = some (.bool (M j))
  free : ∀ o, wr.frozen? ⟨g, o, none⟩ = false
  box : Bx wr w.heap.size cs
section
variable {w wr w' : World} {g n : Nat} {M : Nat → Bool} {cs : List Value}
theorem MkS.next (h : MkS w wr g n M cs) (hb : Below wr.heap.size wr w') : MkS w w' g n M cs :=
  ⟨h.b.trans (hb.mono h.b.size), Nat.lt_of_lt_of_le h.lt hb.size, h.ge, fun j hj => (hb.cell (p := ⟨g, j, none⟩) h.lt).trans (h.cell j hj), fun o => (hb.frozen (p := ⟨g, o, none⟩) h.lt).trans (h.free o), h.box.next hb⟩
theorem MkS.set {i : Nat} (h : MkS w wr g n M cs) (hi : i < n) (v : Bool) : MkS w (wr.setCell ⟨g, i, none⟩ (.bool v)) g n (updB M i v) cs := by
  refine ⟨h.b.setCell (p := ⟨g, i, none⟩) (Nat.le_of_lt h.ge) _, by simpa [World.setCell] using h.lt, h.ge, fun j hj => ?_, fun o => by rw [World.frozen?_setCell]; exact h.free o, h.box.far _ (by have := h.ge; simp; omega)⟩
  by_cases e : j = i
  · subst e
    rw [World.cell?_setCell_same _ _ _ (h.cell j hj)]
    unfold updB
    rw [if_pos rfl]
  · rw [World.cell?_setCell_other _ _ _ _ (by intro e2; injection e2 with _ h2 _; exact e h2.symm)]
    unfold updB
    rw [if_neg e]
    exact h.cell j hj
end
theorem infoB_Bool : (Tryz.prog.info? 4).map (fun i => (i.zero, i.size, i.bytes)) = some (some (.bool false), 1, 1) := by kernel_rfl
theorem make_Bool (n : Nat) (h : n ≤ 1048576) (w : World) :
    (Instr.makeSlice 87 (.int .i64 (n : Int)) (.int .i64 (n : Int))).run Tryz.prog w = .ok (.slice (some ⟨w.heap.size, 0, none⟩) n n) (w.alloc (.cells (madeCells #[.bool false] n) 4)) := by
  obtain ⟨i, hi, hzz⟩ := Option.map_eq_some_iff.1 infoB_Bool
  simp only [Prod.mk.injEq] at hzz
  obtain ⟨hz, hs, hb⟩ := hzz
  have := run_make (P := Tryz.prog) w 87 4 i _ Tryz.underlying87 hi hz .i64 .i64 n n (by omega) (Int.le_refl _) (by rw [hb]; omega) (by omega)
  simpa [hs, Value.cells] using this
def anyT (l : HL) (p : Nat) : Bool := l.any fun h => decide (h.1 - 1 = (p : Int))
theorem any_hit {l : HL} {j : Nat} {h : Int × Bool} (hg : l[j]? = some h) (p : Nat) : anyT (l.take (j + 1)) p = (anyT (l.take j) p || decide (h.1 - 1 = (p : Int))) := by
  unfold anyT
  rw [List.take_add_one, hg, List.any_append]
  simp
theorem any_app (a c : HL) (p : Nat) : anyT (a ++ c) p = (anyT a p || anyT c p) := by unfold anyT; rw [List.any_append]
theorem lock_any_mem {d : DEngine} {w p : Nat} (hp : p < d.2.2.1.length) : anyT (aheadOf d w) p = (lockL d w).contains (p : Int) := by
  rw [Bool.eq_iff_iff, List.contains_iff_mem, lock_mem]
  unfold anyT
  rw [List.any_eq_true]
  constructor
  · rintro ⟨h, h1, h2⟩
    have h2 : h.1 - 1 = (p : Int) := of_decide_eq_true h2
    exact ⟨h, h1, by omega, h2⟩
  · rintro ⟨h, h1, _, h2⟩
    exact ⟨h, h1, decide_eq_true h2⟩

/-- the marks that spec.l08To leaves -/
def MarksOf (d : DEngine) (k : Nat) (w : World) (e : Ending) (w' : World) : Prop := ∃ g, e = .returned (.slice (some ⟨g, 0, none⟩) d.2.2.1.length d.2.2.1.length) ∧ Below w.heap.size w w' ∧ w.heap.size ≤ g ∧ g < w'.heap.size ∧ ∀ j, j < d.2.2.1.length → w'.cell? ⟨g, j, none⟩ = some (.bool (waitB d k j))
theorem marks_done {d : DEngine} {k g : Nat} {w wr : World} {M : Nat → Bool} {cs : List Value} {y : DWorker} (MK : MkS w wr g d.2.2.1.length M cs) (hkw : k < d.2.2.1.length) (hget : d.2.2.1[k]? = some y)
    (hM : ∀ p, p < d.2.2.1.length → M p = (anyT (aheadOf d k) p || (gateL d k y).contains (p : Int))) :
    MarksOf d k w (.returned (.slice (some ⟨g, 0, none⟩) d.2.2.1.length d.2.2.1.length)) (wr.setCell ⟨g, k, none⟩ (.bool false)) := by
  have h := MK.set hkw false
  refine ⟨g, rfl, h.b, Nat.le_of_lt h.ge, h.lt, fun j hj => ?_⟩
  rw [h.cell j hj]
  unfold updB waitB
  by_cases e : j = k
  · simp [e]
  · rw [if_neg e, hM j hj, lock_any_mem hj, gate_some hget]
    simp [e]
theorem keys_has {M : Nat → Bool} {n p : Nat} (hp : p < n) : (keysUp M n).contains (p : Int) = M p := by
  rw [Bool.eq_iff_iff, List.contains_iff_mem, keysUp_mem]
  constructor
  · rintro ⟨j, _, h1, h2⟩
    obtain rfl : j = p := by omega
    exact h1
  · exact fun h => ⟨p, hp, h, rfl⟩
set_option maxHeartbeats 6400000 in
set_option maxRecDepth 100000 in
theorem specL08To_any (d : DEngine) (k : Nat) (B : Nat) (vs : List Value) (w : World) (hs : fEngine.cnt d ≤ 1048576) (hB : B ≤ w.heap.size) (h : fEngine.At w B d vs) (hok : engOk d = true) (hkw : k < d.2.2.1.length) :
    Calls Tryz.prog 43 #[.agg vs.toArray, .int .i64 k] w (MarksOf d k w) := by
  obtain ⟨A5, c5, A6, c6, A7, c7, A10, c10, rfl, r5, r6, r7, r10⟩ := at_Engine h
  clear h r7 r10
  have h4 := eng_four hok
  have hgt := eng_gate hok
  have hc3 : (rowF fCell).cnt d.2.1 ≤ 1048576 := by have h2 := cnt_Engine d; have h3 := cnt_Table d.2.1; omega
  clear hs
  obtain ⟨bw0, ow0, hA6, hbw0, hcw⟩ := r6.2 (by omega)
  have hgetw : d.2.2.1[k]? = some d.2.2.1[k] := List.getElem?_eq_getElem hkw
  obtain ⟨vw, hvw, hatw⟩ := hcw k _ hgetw
  generalize d.2.2.1[k] = y at hgetw hatw
  have HVW := Lib.hid hvw
  have HATW := Lib.hid hatw
  have HGETW := Lib.hid hgetw
  have HCW := Lib.hid hcw
  clear hvw hatw hgetw hcw
  subst hA6
  have hmk := make_Bool d.2.2.1.length (by omega)
  have b := (Below.refl w.heap.size w).alloc (Nat.le_refl _) (.cells #[.int .i64 d.1.1, .int .i64 d.1.2.1, .int .i64 d.1.2.2.1, .bool d.1.2.2.2.1, .int .i64 d.1.2.2.2.2, .slice A5 (d.2.1).length c5, .slice (some ⟨bw0, ow0, none⟩) (d.2.2.1).length c6, .slice A7 (d.2.2.2.1).length c7, .int .i64 d.2.2.2.2.1, .int .i64 d.2.2.2.2.2.1, .slice A10 (d.2.2.2.2.2.2.1).length c10, .int .i64 d.2.2.2.2.2.2.2.1, .int .i64 d.2.2.2.2.2.2.2.2] 41)
  have X := Bx.new (w := w) (c := #[.int .i64 d.1.1, .int .i64 d.1.2.1, .int .i64 d.1.2.2.1, .bool d.1.2.2.2.1, .int .i64 d.1.2.2.2.2, .slice A5 (d.2.1).length c5, .slice (some ⟨bw0, ow0, none⟩) (d.2.2.1).length c6, .slice A7 (d.2.2.2.1).length c7, .int .i64 d.2.2.2.2.1, .int .i64 d.2.2.2.2.2.1, .slice A10 (d.2.2.2.2.2.2.1).length c10, .int .i64 d.2.2.2.2.2.2.2.1, .int .i64 d.2.2.2.2.2.2.2.2]) (t := 41) rfl
  have hs1 : (w.alloc (.cells #[.int .i64 d.1.1, .int .i64 d.1.2.1, .int .i64 d.1.2.2.1, .bool d.1.2.2.2.1, .int .i64 d.1.2.2.2.2, .slice A5 (d.2.1).length c5, .slice (some ⟨bw0, ow0, none⟩) (d.2.2.1).length c6, .slice A7 (d.2.2.2.1).length c7, .int .i64 d.2.2.2.2.1, .int .i64 d.2.2.2.2.2.1, .slice A10 (d.2.2.2.2.2.2.1).length c10, .int .i64 d.2.2.2.2.2.2.2.1, .int .i64 d.2.2.2.2.2.2.2.2] 41)).heap.size = w.heap.size + 1 := by simp
  go_enter Tryz.func43, Tryz.ntmps43
  go_upto_region 0 with (fail)
  go_upto_region 1 with (fail)
  generalize w.alloc (.cells #[.int .i64 d.1.1, .int .i64 d.1.2.1, .int .i64 d.1.2.2.1, .bool d.1.2.2.2.1, .int .i64 d.1.2.2.2.2, .slice A5 (d.2.1).length c5, .slice (some ⟨bw0, ow0, none⟩) (d.2.2.1).length c6, .slice A7 (d.2.2.2.1).length c7, .int .i64 d.2.2.2.2.1, .int .i64 d.2.2.2.2.2.1, .slice A10 (d.2.2.2.2.2.2.1).length c10, .int .i64 d.2.2.2.2.2.2.2.1, .int .i64 d.2.2.2.2.2.2.2.2] 41) = w1 at b X hs1 ⊢
  obtain ⟨⟨x0, x1, x2, x3, x4, x5, x6, x7, x8, x9, x10, x11, x12⟩, _⟩ := X.c13
  have Xl := X.lt
  go_upto_region 2 with (fail)
  clear hmk x0 x1 x2 x3 x4 x5 x6 x7 x8 x9 x10 x11 x12 Xl
  have MK0 : MkS w (w1.alloc (.cells (madeCells #[.bool false] d.2.2.1.length) 4)) (w.heap.size + 1) d.2.2.1.length (fun _ => false) [.int .i64 d.1.1, .int .i64 d.1.2.1, .int .i64 d.1.2.2.1, .bool d.1.2.2.2.1, .int .i64 d.1.2.2.2.2, .slice A5 (d.2.1).length c5, .slice (some ⟨bw0, ow0, none⟩) (d.2.2.1).length c6, .slice A7 (d.2.2.2.1).length c7, .int .i64 d.2.2.2.2.1, .int .i64 d.2.2.2.2.2.1, .slice A10 (d.2.2.2.2.2.2.1).length c10, .int .i64 d.2.2.2.2.2.2.2.1, .int .i64 d.2.2.2.2.2.2.2.2] := by
    have hr := World.rowIs_made w1 (.bool false) d.2.2.1.length 4
    rw [← hs1]
    exact ⟨b.alloc b.size _, by simp, by omega, fun j hj => hr.cell hj, fun o => hr.frozen o, X.alloc _⟩
  generalize w1.alloc (.cells (madeCells #[.bool false] d.2.2.1.length) 4) = w2 at MK0 ⊢
  clear b X hs1
  obtain ⟨⟨x0, x1, x2, x3, x4, x5, x6, x7, x8, x9, x10, x11, x12⟩, _⟩ := MK0.box.c13
  have Xl := MK0.box.lt
  go_wp2_with fail
  (with_reducible refine (specWaitsD A5 c5 B d.2.1 ((k : Int) + 1) _ hc3 (Nat.le_trans hB MK0.b.size) (r5.keep MK0.b hB)).mono ?_); rintro o w3 ⟨rfl, hb⟩
  have MK := MK0.next hb
  clear hb MK0 x0 x1 x2 x3 x4 x5 x6 x7 x8 x9 x10 x11 x12 Xl
  generalize w.heap.size + 1 = g at MK ⊢
  go_upto_if 22 with (fail)
  go_cut [7, 8, 9] from 23 to 144 (fun _ _ _ wx => ∃ M, MkS w wx g d.2.2.1.length M [.int .i64 d.1.1, .int .i64 d.1.2.1, .int .i64 d.1.2.2.1, .bool d.1.2.2.2.1, .int .i64 d.1.2.2.2.2, .slice A5 (d.2.1).length c5, .slice (some ⟨bw0, ow0, none⟩) (d.2.2.1).length c6, .slice A7 (d.2.2.2.1).length c7, .int .i64 d.2.2.2.2.1, .int .i64 d.2.2.2.2.2.1, .slice A10 (d.2.2.2.2.2.2.1).length c10, .int .i64 d.2.2.2.2.2.2.2.1, .int .i64 d.2.2.2.2.2.2.2.2] ∧ Hid (∀ p, p < d.2.2.1.length → M p = anyT (aheadOf d k) p))
  case first =>
    by_cases hz : waitK (toT d.2.1) ((k : Int) + 1) < 0
    · have HE := Lib.hid (ahead_no hz)
      have hz' : ¬ 0 ≤ waitK (toT d.2.1) ((k : Int) + 1) := by omega
      go_wp2_with fail
      go_meet
      exact ⟨_, MK, Lib.hid (fun p _ => by rw [HE.out]; rfl)⟩
    · obtain ⟨m, q, hm, hml, hlo, hq, he, hn, hi, ha, h2⟩ := ahead_yes hok (show 0 ≤ waitK (toT d.2.1) ((k : Int) + 1) by omega)
      generalize waitK (toT d.2.1) ((k : Int) + 1) = z at *
      subst hm
      clear hz hi h2
      obtain ⟨bb, off, rfl, hbB, hc⟩ := r5.2 (by omega)
      have hget : d.2.1[m]? = some d.2.1[m] := List.getElem?_eq_getElem hml
      obtain ⟨v, hv0, hat0⟩ := hc m _ hget
      have hv := hv0.below MK.b (show bb < w.heap.size by omega)
      rw [show fCell.n = 6 from rfl] at hv
      rw [toT_cd hget] at hlo hq he hn ha
      generalize d.2.1[m] = x at hget hat0 hlo hq he hn ha
      obtain ⟨A4, c4, AW, cW, rfl, g4, gW⟩ := at_Cell hat0
      replace hlo : lockOk x.2.2.1 x.2.2.2 = true := hlo
      replace hq : q < x.2.2.2.length := hq
      replace he : hT x.2.2.2 q = (k : Int) + 1 := he
      replace hn : NoT x.2.2.2 ((k : Int) + 1) q := hn
      have hl8 := (lock_ids hlo).2
      have HIN := Lib.hid (lock_ids hlo).1
      have HAH := Lib.hid (show aheadOf d k = x.2.2.1 ++ x.2.2.2.take q from ha)
      have HG4 := Lib.hid g4
      have HGW := Lib.hid gW
      have HEQ := Lib.hid he
      have HNO := Lib.hid hn
      clear ha hlo hat0 hv0 hc hget g4 gW he hn
      obtain ⟨a0, a1, a2, a3, a4, a5⟩ := hv.c6
      clear hv
      obtain ⟨⟨x0, x1, x2, x3, x4, x5, x6, x7, x8, x9, x10, x11, x12⟩, _⟩ := MK.box.c13
      have Xl := MK.box.lt
      have hgl := MK.lt
      have hmz : (m : Int) < d.2.1.length := by omega
      have hA := (Below.refl w3.heap.size w3).alloc (Nat.le_refl _) (.cells #[.slice A4 (x.2.2.1).length c4, .slice AW (x.2.2.2).length cW] 65)
      have MK := MK.next hA
      have Y := Bx.new (w := w3) (c := #[.slice A4 (x.2.2.1).length c4, .slice AW (x.2.2.2).length cW]) (t := 65) rfl
      clear hA
      go_wp2_with fail
      clear a0 a1 a2 a3 a4 a5 x0 x1 x2 x3 x4 x5 x6 x7 x8 x9 x10 x11 x12 Xl
      generalize w3.alloc (.cells #[.slice A4 (x.2.2.1).length c4, .slice AW (x.2.2.2).length cW] 65) = w4 at MK Y ⊢
      generalize w3.heap.size = yb at Y hgl ⊢
      have hgy : ¬ g = yb := by omega
      clear hgl
      go_loopw [8] (fun i wr => ∃ (j : Nat) (M : Nat → Bool), j ≤ x.2.2.1.length ∧ i = .int .i64 j ∧ MkS w wr g d.2.2.1.length M [.int .i64 d.1.1, .int .i64 d.1.2.1, .int .i64 d.1.2.2.1, .bool d.1.2.2.2.1, .int .i64 d.1.2.2.2.2, .slice (some ⟨bb, off, none⟩) (d.2.1).length c5, .slice (some ⟨bw0, ow0, none⟩) (d.2.2.1).length c6, .slice A7 (d.2.2.2.1).length c7, .int .i64 d.2.2.2.2.1, .int .i64 d.2.2.2.2.2.1, .slice A10 (d.2.2.2.2.2.2.1).length c10, .int .i64 d.2.2.2.2.2.2.2.1, .int .i64 d.2.2.2.2.2.2.2.2] ∧ Bx wr yb [.slice A4 (x.2.2.1).length c4, .slice AW (x.2.2.2).length cW] ∧ Hid (∀ p, p < d.2.2.1.length → M p = anyT (x.2.2.1.take j) p)) (fun i _ => x.2.2.1.length - (intOf i).toNat)
      case atStart => exact ⟨0, _, Nat.zero_le _, rfl, MK, Y, Lib.hid (fun p _ => by simp [anyT])⟩
      case round =>
        clear MK Y
        obtain ⟨j, M, hj, rfl, MK, Y, HM⟩ := hrel
        obtain ⟨⟨y0, y1⟩, _⟩ := Y.c2
        have Yl := Y.lt
        by_cases hjn : j < x.2.2.1.length
        · have hjz : (j : Int) < x.2.2.1.length := by omega
          obtain ⟨b4, o4, rfl, hb4, hc4⟩ := HG4.out.2 (by omega)
          have hget : x.2.2.1[j]? = some x.2.2.1[j] := List.getElem?_eq_getElem hjn
          have hin := HIN.out _ (List.mem_append_left _ (List.mem_map.2 ⟨x.2.2.1[j], List.getElem_mem _, rfl⟩))
          obtain ⟨v, hv0, hat0⟩ := hc4 j _ hget
          generalize x.2.2.1[j] = h at hget hin hat0
          have e := at_Hold hat0
          subst e
          have hv := hv0.below MK.b (show b4 < w.heap.size by omega)
          rw [show fHold.n = 2 from rfl] at hv
          obtain ⟨a0, a1⟩ := hv.c2
          obtain ⟨t, bt⟩ := h
          obtain ⟨p, rfl⟩ : ∃ p : Nat, t = (p : Int) + 1 := ⟨(t - 1).toNat, by have := hin.1; replace this : 1 ≤ t := this; omega⟩
          have hp8 : p < 8 := by have := hin.2; replace this : (p : Int) + 1 ≤ 8 := this; omega
          have HGJ := Lib.hid hget
          clear hc4 hv0 hat0 hv hget hin
          by_cases hpn : p < d.2.2.1.length
          · have hI := Lib.hid (show inW (p : Int) 0 ((d.2.2.1.length : Int) - 1) = true by unfold inW; simp; omega)
            have hpz : (p : Int) < d.2.2.1.length := by omega
            have mc := MK.cell p hpn
            have mf := MK.free p
            go_wp2_with fail
            (with_reducible refine (l01InW_any _ _ _ _).mono ?_); rintro o w5 ⟨rfl, rfl⟩
            rw [hI.out]
            have MS := Lib.hid (MK.set hpn true)
            have YS := Lib.hid (Y.far (a := ⟨g, p, none⟩) (.bool true) hgy)
            have HM' := Lib.hid (show ∀ p', p' < d.2.2.1.length → updB M p true p' = anyT (x.2.2.1.take (j + 1)) p' from fun p' hp' => by
              rw [any_hit HGJ.out]
              unfold updB
              by_cases e : p' = p
              · subst e; simp
              · rw [if_neg e, HM.out p' hp']
                have : ¬ (p : Int) = (p' : Int) := by omega
                simp [this])
            clear MK Y HM
            go_wp2
            exact ⟨⟨j + 1, _, by omega, by go_num, MS.out, YS.out, HM'⟩, by simp [intOf]; omega⟩
          · have hI := Lib.hid (show inW (p : Int) 0 ((d.2.2.1.length : Int) - 1) = false by unfold inW; simp; omega)
            go_wp2_with fail
            (with_reducible refine (l01InW_any _ _ _ _).mono ?_); rintro o w5 ⟨rfl, rfl⟩
            rw [hI.out]
            have HM' := Lib.hid (show ∀ p', p' < d.2.2.1.length → M p' = anyT (x.2.2.1.take (j + 1)) p' from fun p' hp' => by
              rw [any_hit HGJ.out, HM.out p' hp']
              have : ¬ (p : Int) = (p' : Int) := by omega
              simp [this])
            have MS := Lib.hid MK
            have YS := Lib.hid Y
            clear MK Y HM
            go_wp2
            exact ⟨⟨j + 1, _, by omega, by go_num, MS.out, YS.out, HM'⟩, by simp [intOf]; omega⟩
        · obtain rfl : j = x.2.2.1.length := by omega
          have HM1 := Lib.hid (show ∀ p, p < d.2.2.1.length → M p = anyT x.2.2.1 p from fun p hp => by rw [HM.out p hp, List.take_length])
          clear HM hjn
          go_wp2_with fail
          have hqz : (q : Int) < x.2.2.2.length := by omega
          have MK1 := MK
          have Y1 := Y
          clear MK Y y0 y1 Yl
          go_loopw [9] (fun i wr => ∃ (j : Nat) (M : Nat → Bool), j ≤ q ∧ i = .int .i64 j ∧ MkS w wr g d.2.2.1.length M [.int .i64 d.1.1, .int .i64 d.1.2.1, .int .i64 d.1.2.2.1, .bool d.1.2.2.2.1, .int .i64 d.1.2.2.2.2, .slice (some ⟨bb, off, none⟩) (d.2.1).length c5, .slice (some ⟨bw0, ow0, none⟩) (d.2.2.1).length c6, .slice A7 (d.2.2.2.1).length c7, .int .i64 d.2.2.2.2.1, .int .i64 d.2.2.2.2.2.1, .slice A10 (d.2.2.2.2.2.2.1).length c10, .int .i64 d.2.2.2.2.2.2.2.1, .int .i64 d.2.2.2.2.2.2.2.2] ∧ Bx wr yb [.slice A4 (x.2.2.1).length c4, .slice AW (x.2.2.2).length cW] ∧ Hid (∀ p, p < d.2.2.1.length → M p = (anyT x.2.2.1 p || anyT (x.2.2.2.take j) p))) (fun i _ => q - (intOf i).toNat)
          case atStart => exact ⟨0, _, Nat.zero_le _, rfl, MK1, Y1, Lib.hid (fun p hp => by rw [HM1.out p hp]; simp [anyT])⟩
          case round =>
            clear MK1 Y1 HM1
            obtain ⟨j, M, hj, rfl, MK, Y, HM⟩ := hrel
            obtain ⟨⟨y0, y1⟩, _⟩ := Y.c2
            have Yl := Y.lt
            have hjz : (j : Int) < x.2.2.2.length := by omega
            obtain ⟨b4, o4, hAW, hb4, hc4⟩ := HGW.out.2 (by omega)
            have hjl : j < x.2.2.2.length := by omega
            have hget : x.2.2.2[j]? = some x.2.2.2[j] := List.getElem?_eq_getElem hjl
            have hin := HIN.out _ (List.mem_append_right _ (List.mem_map.2 ⟨x.2.2.2[j], List.getElem_mem _, rfl⟩))
            have hht : hT x.2.2.2 j = x.2.2.2[j].1 := by unfold hT; rw [List.getD_eq_getElem?_getD, hget]; rfl
            obtain ⟨v, hv0, hat0⟩ := hc4 j _ hget
            generalize x.2.2.2[j] = h at hget hin hat0 hht
            have e := at_Hold hat0
            subst e
            have hv := hv0.below MK.b (show b4 < w.heap.size by omega)
            rw [show fHold.n = 2 from rfl] at hv
            obtain ⟨a0, a1⟩ := hv.c2
            rw [hAW] at y1
            obtain ⟨t, bt⟩ := h
            replace hht : hT x.2.2.2 j = t := hht
            obtain ⟨p, rfl⟩ : ∃ p : Nat, t = (p : Int) + 1 := ⟨(t - 1).toNat, by have := hin.1; replace this : 1 ≤ t := this; omega⟩
            have hp8 : p < 8 := by have := hin.2; replace this : (p : Int) + 1 ≤ 8 := this; omega
            have HGJ := Lib.hid hget
            clear hc4 hv0 hat0 hv hget hin hAW
            by_cases hjq : j = q
            · subst hjq
              have hpk : p = k := by have := HEQ.out; rw [hht] at this; omega
              have HM2 := Lib.hid (show ∀ p, p < d.2.2.1.length → M p = anyT (aheadOf d k) p from fun p hp => by rw [HM.out p hp, HAH.out, any_app])
              have MS := Lib.hid MK
              rw [hpk] at a0
              clear MK Y HM HGJ hht
              go_wp2_with fail
              go_meet
              exact ⟨_, MS.out, HM2⟩
            · have hne : ¬ p = k := fun e => HNO.out j (by omega) (by rw [hht, e])
              have hbz : ¬ ((p : Int) + 1 = (k : Int) + 1) := by omega
              by_cases hpn : p < d.2.2.1.length
              · have hI := Lib.hid (show inW (p : Int) 0 ((d.2.2.1.length : Int) - 1) = true by unfold inW; simp; omega)
                have hpz : (p : Int) < d.2.2.1.length := by omega
                have mc := MK.cell p hpn
                have mf := MK.free p
                go_wp2_with fail
                (with_reducible refine (l01InW_any _ _ _ _).mono ?_); rintro o w5 ⟨rfl, rfl⟩
                rw [hI.out]
                have MS := Lib.hid (MK.set hpn true)
                have YS := Lib.hid (Y.far (a := ⟨g, p, none⟩) (.bool true) hgy)
                have HM' := Lib.hid (show ∀ p', p' < d.2.2.1.length → updB M p true p' = (anyT x.2.2.1 p' || anyT (x.2.2.2.take (j + 1)) p') from fun p' hp' => by
                  rw [any_hit HGJ.out]
                  unfold updB
                  by_cases e : p' = p
                  · subst e; simp
                  · rw [if_neg e, HM.out p' hp']
                    have : ¬ (p : Int) = (p' : Int) := by omega
                    simp [this])
                clear MK Y HM
                go_wp2
                exact ⟨⟨j + 1, _, by omega, by go_num, MS.out, YS.out, HM'⟩, by simp [intOf]; omega⟩
              · have hI := Lib.hid (show inW (p : Int) 0 ((d.2.2.1.length : Int) - 1) = false by unfold inW; simp; omega)
                go_wp2_with fail
                (with_reducible refine (l01InW_any _ _ _ _).mono ?_); rintro o w5 ⟨rfl, rfl⟩
                rw [hI.out]
                have HM' := Lib.hid (show ∀ p', p' < d.2.2.1.length → M p' = (anyT x.2.2.1 p' || anyT (x.2.2.2.take (j + 1)) p') from fun p' hp' => by
                  rw [any_hit HGJ.out, HM.out p' hp']
                  have : ¬ (p : Int) = (p' : Int) := by omega
                  simp [this])
                have MS := Lib.hid MK
                have YS := Lib.hid Y
                clear MK Y HM
                go_wp2
                exact ⟨⟨j + 1, _, by omega, by go_num, MS.out, YS.out, HM'⟩, by simp [intOf]; omega⟩
  case rest =>
    clear MK
    obtain ⟨M0, MK, HM⟩ := hcut
    obtain ⟨A0w, c0w, A5w, c5w, A6w, c6w, A7w, c7w, A8w, c8w, hvw, _, _, _, _, _⟩ := at_Worker HATW.out
    have hv := HVW.out.below MK.b (show bw0 < w.heap.size by omega)
    rw [show fWorker.n = 9 from rfl] at hv
    have HATW := Lib.hid (hvw ▸ HATW.out)
    rw [hvw] at hv
    clear hvw HVW
    obtain ⟨a0, a1, a2, a3, a4, a5, a6, a7, a8⟩ := hv.c9
    clear hv
    obtain ⟨⟨x0, x1, x2, x3, x4, x5, x6, x7, x8, x9, x10, x11, x12⟩, _⟩ := MK.box.c13
    have Xl := MK.box.lt
    have hkz : (k : Int) < d.2.2.1.length := by omega
    have hA := (Below.refl wc.heap.size wc).alloc (Nat.le_refl _) (.cells #[.slice A0w (y.1).length c0w, .int .i64 y.2.1, .int .i64 y.2.2.1, .int .i64 y.2.2.2.1, .int .i64 y.2.2.2.2.1, .slice A5w (y.2.2.2.2.2.1).length c5w, .slice A6w (y.2.2.2.2.2.2.1).length c6w, .slice A7w (y.2.2.2.2.2.2.2.1).length c7w, .slice A8w (y.2.2.2.2.2.2.2.2).length c8w] 73)
    have MK := MK.next hA
    have Z := Bx.new (w := wc) (c := #[.slice A0w (y.1).length c0w, .int .i64 y.2.1, .int .i64 y.2.2.1, .int .i64 y.2.2.2.1, .int .i64 y.2.2.2.2.1, .slice A5w (y.2.2.2.2.2.1).length c5w, .slice A6w (y.2.2.2.2.2.2.1).length c6w, .slice A7w (y.2.2.2.2.2.2.2.1).length c7w, .slice A8w (y.2.2.2.2.2.2.2.2).length c8w]) (t := 73) rfl
    clear hA
    go_wp2_with fail
    clear a0 a1 a2 a3 a4 a5 a6 a7 a8 x0 x1 x2 x3 x4 x5 x6 x7 x8 x9 x10 x11 x12 Xl
    generalize wc.alloc (.cells #[.slice A0w (y.1).length c0w, .int .i64 y.2.1, .int .i64 y.2.2.1, .int .i64 y.2.2.2.1, .int .i64 y.2.2.2.2.1, .slice A5w (y.2.2.2.2.2.1).length c5w, .slice A6w (y.2.2.2.2.2.2.1).length c6w, .slice A7w (y.2.2.2.2.2.2.2.1).length c7w, .slice A8w (y.2.2.2.2.2.2.2.2).length c8w] 73) = w6 at MK Z ⊢
    (with_reducible refine (specDone_any y B _ _ (fWorker.at_same HATW.out (.of MK.b hB))).mono ?_); rintro o w7 ⟨rfl, hb⟩
    have MK := MK.next hb
    have Z := Z.next hb
    clear hb
    obtain ⟨⟨a0, a1, a2, a3, a4, a5, a6, a7, a8⟩, _⟩ := Z.c9
    have Zl := Z.lt
    cases hd : doneW y with
    | true =>
      have HE := Lib.hid (marks_done MK hkw HGETW.out (fun p hp => by rw [HM.out p hp, gateL_done hd]; simp))
      have mc := MK.cell k hkw
      have mf := MK.free k
      have ml := MK.lt
      clear MK HM
      go_wp2
      go_ret
      exact HE.out
    | false =>
      have HD := Lib.hid hd
      clear hd
      by_cases hp : y.2.2.1 = 0
      · have HP := Lib.hid hp
        rw [hp] at a2
        clear hp
        obtain ⟨⟨x0, x1, x2, x3, x4, x5, x6, x7, x8, x9, x10, x11, x12⟩, _⟩ := MK.box.c13
        have Xl := MK.box.lt
        by_cases hg : d.2.2.2.2.2.1 = -1
        · have HE := Lib.hid (marks_done MK hkw HGETW.out (fun p hp => by rw [HM.out p hp, gateL_open hg]; simp))
          rw [hg] at x9
          have hkm : ¬ ((-1 : Int) = (k : Int)) := by omega
          have mc := MK.cell k hkw
          have mf := MK.free k
          have ml := MK.lt
          clear MK HM
          go_wp2
          go_ret
          exact HE.out
        · by_cases hq : d.2.2.2.2.2.1 = (k : Int)
          · rw [hq] at x9
            have hkm : ¬ ((k : Int) = -1) := by omega
            have HGS := Lib.hid (gateL_self HD.out HP.out hq)
            have MK0 := MK
            clear MK
            go_wp2_with fail
            clear x0 x1 x2 x3 x4 x5 x6 x7 x8 x9 x10 x11 x12 Xl a0 a1 a2 a3 a4 a5 a6 a7 a8 Zl Z
            go_loopw [11] (fun i wr => ∃ (j : Nat) (M : Nat → Bool), j ≤ d.2.2.1.length ∧ i = .int .i64 j ∧ MkS w wr g d.2.2.1.length M [.int .i64 d.1.1, .int .i64 d.1.2.1, .int .i64 d.1.2.2.1, .bool d.1.2.2.2.1, .int .i64 d.1.2.2.2.2, .slice A5 (d.2.1).length c5, .slice (some ⟨bw0, ow0, none⟩) (d.2.2.1).length c6, .slice A7 (d.2.2.2.1).length c7, .int .i64 d.2.2.2.2.1, .int .i64 d.2.2.2.2.2.1, .slice A10 (d.2.2.2.2.2.2.1).length c10, .int .i64 d.2.2.2.2.2.2.2.1, .int .i64 d.2.2.2.2.2.2.2.2] ∧ Hid (∀ p, p < d.2.2.1.length → M p = (M0 p || (decide (p < j) && actAt d.2.2.1 p)))) (fun i _ => d.2.2.1.length - (intOf i).toNat)
            case atStart => exact ⟨0, _, Nat.zero_le _, rfl, MK0, Lib.hid (fun p _ => by simp)⟩
            case round =>
              clear MK0
              obtain ⟨j, M, hj, rfl, MK, HMj⟩ := hrel
              obtain ⟨⟨x0, x1, x2, x3, x4, x5, x6, x7, x8, x9, x10, x11, x12⟩, _⟩ := MK.box.c13
              have Xl := MK.box.lt
              by_cases hjn : j < d.2.2.1.length
              · have hjz : (j : Int) < d.2.2.1.length := by omega
                have hget : d.2.2.1[j]? = some d.2.2.1[j] := List.getElem?_eq_getElem hjn
                generalize d.2.2.1[j] = u at hget
                obtain ⟨v, hv0, hat0⟩ := HCW.out j _ hget
                have HACT := Lib.hid (act_some hget)
                have hat := fWorker.at_same hat0 (.of MK.b hB)
                have hv := hv0.below MK.b (show bw0 < w.heap.size by omega)
                rw [show fWorker.n = 9 from rfl] at hv
                have HATU := Lib.hid hat
                clear hv0 hat0 hget
                obtain ⟨A0v, c0v, A5v, c5v, A6v, c6v, A7v, c7v, A8v, c8v, rfl, _, _, _, _, _⟩ := at_Worker hat
                obtain ⟨a0, a1, a2, a3, a4, a5, a6, a7, a8⟩ := hv.c9
                clear hat hv
                have mc := MK.cell j hjn
                have mf := MK.free j
                have ml := MK.lt
                go_wp2_with fail
                clear a0 a1 a2 a3 a4 a5 a6 a7 a8 mc mf ml x0 x1 x2 x3 x4 x5 x6 x7 x8 x9 x10 x11 x12 Xl
                (with_reducible refine (specActive_any u B _ _ (Nat.le_trans hB MK.b.size) HATU.out).mono ?_); rintro o w8 ⟨rfl, hb⟩
                have MK := MK.next hb
                clear hb
                have mc := MK.cell j hjn
                have mf := MK.free j
                have ml := MK.lt
                cases hac : actB u with
                | true =>
                  have HM' := Lib.hid (show ∀ p, p < d.2.2.1.length → updB M j true p = (M0 p || (decide (p < j + 1) && actAt d.2.2.1 p)) from fun p hp => by
                    unfold updB
                    by_cases e : p = j
                    · subst e
                      rw [if_pos rfl, HACT.out, hac]
                      simp
                    · rw [if_neg e, HMj.out p hp, show decide (p < j + 1) = decide (p < j) from decide_eq_decide.2 (by omega)])
                  have MS := Lib.hid (MK.set hjn true)
                  clear MK HMj
                  go_wp2
                  exact ⟨⟨j + 1, _, by omega, by go_num, MS.out, HM'⟩, by simp [intOf]; omega⟩
                | false =>
                  have HM' := Lib.hid (show ∀ p, p < d.2.2.1.length → M p = (M0 p || (decide (p < j + 1) && actAt d.2.2.1 p)) from fun p hp => by
                    rw [HMj.out p hp]
                    by_cases e : p = j
                    · subst e
                      rw [HACT.out, hac]
                      simp
                    · rw [show decide (p < j + 1) = decide (p < j) from decide_eq_decide.2 (by omega)])
                  have MS := Lib.hid MK
                  clear MK HMj
                  go_wp2
                  exact ⟨⟨j + 1, _, by omega, by go_num, MS.out, HM'⟩, by simp [intOf]; omega⟩
              · obtain rfl : j = d.2.2.1.length := by omega
                have HE := Lib.hid (marks_done MK hkw HGETW.out (fun p hp => by
                  rw [HMj.out p hp, HM.out p hp, HGS.out, decide_eq_true hp, Bool.true_and, keys_has hp]))
                have mc := MK.cell k hkw
                have mf := MK.free k
                have ml := MK.lt
                clear MK HM HMj
                go_wp2
                go_ret
                exact HE.out
          · obtain ⟨gp, hgp⟩ : ∃ gp : Nat, d.2.2.2.2.2.1 = (gp : Int) := ⟨d.2.2.2.2.2.1.toNat, by omega⟩
            have hgn : gp < d.2.2.1.length := by omega
            have hgz : (gp : Int) < d.2.2.1.length := by omega
            have hkm : ¬ ((gp : Int) = -1) := by omega
            have hkq : ¬ ((gp : Int) = (k : Int)) := by omega
            have MS := MK.set hgn true
            have HE := Lib.hid (marks_done MS hkw HGETW.out (fun p hp => by
              rw [gateL_other HD.out HP.out hg hq, hgp]
              unfold updB
              by_cases e : p = gp
              · subst e; simp
              · rw [if_neg e, HM.out p hp]
                have : ¬ ((p : Int) = (gp : Int)) := by omega
                simp [this]))
            rw [hgp] at x9
            have gc := MK.cell gp hgn
            have gf := MK.free gp
            have mc := MK.cell k hkw
            have mf := MK.free k
            have ml := MK.lt
            have hgk0 : ¬ gp = k := by omega
            have hkg : ¬ k = gp := by omega
            have hb1 : ((gp : Int) != -1) = true := bne_iff_ne.2 hkm
            have hb2 : ((gp : Int) != (k : Int)) = true := bne_iff_ne.2 hkq
            have hb3 : ((gp : Int) == (k : Int)) = false := beq_eq_false_iff_ne.2 hkq
            have hgk : ¬ gp = k := by omega
            have hgb : ¬ w.heap.size = g := by have := MK.ge; omega
            have hgb2 : ¬ g = w.heap.size := by have := MK.ge; omega
            clear MK MS HM
            go_wp2
            go_ret
            exact HE.out
      · have HE := Lib.hid (marks_done MK hkw HGETW.out (fun p hp' => by rw [HM.out p hp', gateL_phase hp]; simp))
        have mc := MK.cell k hkw
        have mf := MK.free k
        have ml := MK.lt
        clear MK HM
        go_wp2
        go_ret
        exact HE.out
end Go.Proofs.YtkpkjcmoldkmmaaGreat

namespace Go.Proofs.YtkpkjcmoldkmmaaGreat
open Go.RowKit Go.Lib

theorem infoD_Wait : (Tryz.prog.info? 90).map (fun i => (i.zero, i.size, i.bytes)) = some (some (.agg #[.int .i64 0, .int .i64 0]), 2, 16) := by kernel_rfl
/-- a row of marks beside a row in the making -/
def BesB (w : World) (v : Value) (g n : Nat) (M : Nat → Bool) : Prop := g < w.heap.size ∧ ¬ v.ownBlock = some g ∧ ∀ j, j < n → w.cell? ⟨g, j, none⟩ = some (.bool (M j))
theorem BesB.push {w w5 : World} {v : Value} {q k : Nat} {M : Nat → Bool} {o : Obj} {g n cap : Nat} (h : BesB w v q k M) (hgrow : (w.alloc o).grownBy w5 v.ownBlock) (hat : v.ownBlock = some g ∨ w.heap.size ≤ g) : BesB w5 (.slice (some ⟨g, 0, none⟩) n cap) q k M := by
  obtain ⟨hb, hne, hc⟩ := h
  have hs : (w.alloc o).heap.size = w.heap.size + 1 := by simp
  refine ⟨?_, fun h => ?_, fun j hj => ?_⟩
  · have := hgrow.size
    omega
  · injection h with h
    replace h : g = q := h
    subst h
    rcases hat with hat | hat
    · exact hne hat
    · omega
  · have h1 := hgrow.block q (by omega) (fun e => hne e.symm)
    rw [World.cell?_of_block (a := ⟨q, j, none⟩) h1, World.cell?_alloc_lt _ _ _ hb]
    exact hc j hj
def rowW (d : DEngine) (k j : Nat) : List DWait := ((List.range j).filter (waitB d k)).map fun (b : Nat) => ((k : Int), (b : Int))
def pairsK (d : DEngine) (k : Nat) : List DWait := (List.range k).flatMap fun a => rowW d a d.2.2.1.length
theorem pairsK_succ (d : DEngine) (k : Nat) : pairsK d (k + 1) = pairsK d k ++ rowW d k d.2.2.1.length := by
  unfold pairsK
  rw [List.range_succ, List.flatMap_append]
  simp
theorem rowW_yes {d : DEngine} {k j : Nat} (h : waitB d k j = true) : rowW d k (j + 1) = rowW d k j ++ [((k : Int), (j : Int))] := by simp [rowW, List.range_succ, List.filter_append, h]
theorem rowW_no {d : DEngine} {k j : Nat} (h : waitB d k j = false) : rowW d k (j + 1) = rowW d k j := by simp [rowW, List.range_succ, List.filter_append, h]
theorem rowW_len (d : DEngine) (k j : Nat) : (rowW d k j).length ≤ j := by
  unfold rowW
  rw [List.length_map]
  exact Nat.le_trans (List.length_filter_le _ _) (by simp)
theorem pairsK_len (d : DEngine) : ∀ k, (pairsK d k).length ≤ k * d.2.2.1.length
  | 0 => by simp [pairsK]
  | k + 1 => by
    rw [pairsK_succ, List.length_append, Nat.succ_mul]
    have h1 := pairsK_len d k
    have h2 := rowW_len d k d.2.2.1.length
    omega
theorem pairsK_all {d : DEngine} (hok : engOk d = true) : pairsK d d.2.2.1.length = waitsL d := by
  rw [waits_yes hok]
  rfl
set_option maxHeartbeats 6400000 in
set_option maxRecDepth 100000 in
theorem specWaitsFor_any (d : DEngine) (B : Nat) (vs : List Value) (w : World) (hs : fEngine.cnt d ≤ 1048576) (hB : B ≤ w.heap.size) (h : fEngine.At w B d vs) :
    Calls Tryz.prog 11 #[.agg vs.toArray] w (RetF fWait w (waitsL d)) := by
  have HAT := Lib.hid h
  have HCNT := Lib.hid hs
  obtain ⟨A5, c5, A6, c6, A7, c7, A10, c10, rfl, r5, r6, r7, r10⟩ := at_Engine h
  clear h r5 r6 r7 r10 hs
  have b := (Below.refl w.heap.size w).alloc (Nat.le_refl _) (.cells #[.int .i64 d.1.1, .int .i64 d.1.2.1, .int .i64 d.1.2.2.1, .bool d.1.2.2.2.1, .int .i64 d.1.2.2.2.2, .slice A5 (d.2.1).length c5, .slice A6 (d.2.2.1).length c6, .slice A7 (d.2.2.2.1).length c7, .int .i64 d.2.2.2.2.1, .int .i64 d.2.2.2.2.2.1, .slice A10 (d.2.2.2.2.2.2.1).length c10, .int .i64 d.2.2.2.2.2.2.2.1, .int .i64 d.2.2.2.2.2.2.2.2] 41)
  have X := Bx.new (w := w) (c := #[.int .i64 d.1.1, .int .i64 d.1.2.1, .int .i64 d.1.2.2.1, .bool d.1.2.2.2.1, .int .i64 d.1.2.2.2.2, .slice A5 (d.2.1).length c5, .slice A6 (d.2.2.1).length c6, .slice A7 (d.2.2.2.1).length c7, .int .i64 d.2.2.2.2.1, .int .i64 d.2.2.2.2.2.1, .slice A10 (d.2.2.2.2.2.2.1).length c10, .int .i64 d.2.2.2.2.2.2.2.1, .int .i64 d.2.2.2.2.2.2.2.2]) (t := 41) rfl
  have hsz := b.size
  go_enter Tryz.func11, Tryz.ntmps11
  go_upto_region 0 with (fail)
  go_upto_region 1 with (fail)
  have hs1 : (w.alloc (.cells #[.int .i64 d.1.1, .int .i64 d.1.2.1, .int .i64 d.1.2.2.1, .bool d.1.2.2.2.1, .int .i64 d.1.2.2.2.2, .slice A5 (d.2.1).length c5, .slice A6 (d.2.2.1).length c6, .slice A7 (d.2.2.2.1).length c7, .int .i64 d.2.2.2.2.1, .int .i64 d.2.2.2.2.2.1, .slice A10 (d.2.2.2.2.2.2.1).length c10, .int .i64 d.2.2.2.2.2.2.2.1, .int .i64 d.2.2.2.2.2.2.2.2] 41)).heap.size = w.heap.size + 1 := by simp
  generalize w.alloc (.cells #[.int .i64 d.1.1, .int .i64 d.1.2.1, .int .i64 d.1.2.2.1, .bool d.1.2.2.2.1, .int .i64 d.1.2.2.2.2, .slice A5 (d.2.1).length c5, .slice A6 (d.2.2.1).length c6, .slice A7 (d.2.2.2.1).length c7, .int .i64 d.2.2.2.2.1, .int .i64 d.2.2.2.2.2.1, .slice A10 (d.2.2.2.2.2.2.1).length c10, .int .i64 d.2.2.2.2.2.2.2.1, .int .i64 d.2.2.2.2.2.2.2.2] 41) = w1 at b X hsz hs1 ⊢
  go_upto_region 2 with (fail)
  have hown := World.ownsRow_made (base := w1.heap.size) (size := 2) (e := 90) w1 #[] 0 (Nat.le_refl _) (Nat.zero_le _) rfl
  have hG0 := Grow.of_row (F := fWait) hown
  have hb1 := (Below.refl w1.heap.size w1).alloc (Nat.le_refl _) (.cells #[] 90)
  have X1 := X.next hb1
  have b1 := b.trans (hb1.mono hsz)
  clear hown
  generalize w1.alloc (.cells #[] 90) = w2 at hG0 hb1 X1 b1 ⊢
  rw [hs1] at hG0 hb1
  clear X b hs1 hsz
  have hsz := b1.size
  obtain ⟨⟨x0, x1, x2, x3, x4, x5, x6, x7, x8, x9, x10, x11, x12⟩, _⟩ := X1.c13
  have Xl := X1.lt
  go_wp2_with fail
  (with_reducible refine (specEngineOk_any d B _ _ HCNT.out (Nat.le_trans hB hsz) (fEngine.at_same HAT.out (.of b1 hB))).mono ?_); rintro o w3 ⟨rfl, hb⟩
  have X := X1.next hb
  have b := b1.trans (hb.mono hsz)
  have hG := hG0.next hb
  have hs2 := hb1.size
  clear X1 b1 hG0 hb1 x0 x1 x2 x3 x4 x5 x6 x7 x8 x9 x10 x11 x12 Xl
  have hsz3 := b.size
  have hs3 := hb.size
  have h13 := X.lt
  clear hb
  cases hok : engOk d with
  | false =>
    have HE := Lib.hid (waits_no hok)
    clear hG
    go_wp2
    go_ret
    rw [HE.out]
    exact RetF.nil b
  | true =>
    have HOK := Lib.hid hok
    have h4 := eng_four hok
    clear hok
    obtain ⟨i0, hi, hzz⟩ := Option.map_eq_some_iff.1 infoD_Wait
    injection hzz with hz0 hz12
    injection hz12 with hz1 hz2
    have Hi := Lib.hid hi
    have Hz0 := Lib.hid hz0
    have Hz1 := Lib.hid hz1
    have Hz2 := Lib.hid hz2
    clear hi hz0 hz1 hz2
    have HG := Lib.hid hG
    clear hG
    go_wp2_with fail
    go_loopw [3, 4] (fun v i wr => ∃ (k : Nat) (M : List DWait) (vs : Nat → List Value) (L H : Nat → Nat), k ≤ d.2.2.1.length ∧ i = .int .i64 k ∧ Hid (M = pairsK d k) ∧ Grow fWait 90 (w.heap.size + 1) wr v M vs L H ∧ Below (w.heap.size + 1) w3 wr) (fun _ i _ => d.2.2.1.length - (intOf i).toNat)
    case atStart => exact ⟨0, [], _, _, _, Nat.zero_le _, rfl, Lib.hid (by simp [pairsK]), HG.out, Below.refl _ _⟩
    case round =>
      clear HG
      obtain ⟨k, M, vs, L, H, hk, rfl, HM, hG, br⟩ := hrel
      have hszr := br.size
      have Xr := X.below br (by omega)
      have bw := b.trans (br.mono (by omega))
      obtain ⟨⟨x0, x1, x2, x3, x4, x5, x6, x7, x8, x9, x10, x11, x12⟩, _⟩ := Xr.c13
      have Xl := Xr.lt
      by_cases hkn : k < d.2.2.1.length
      · have hkz : (k : Int) < d.2.2.1.length := by omega
        go_wp2_with fail
        clear x0 x1 x2 x3 x4 x5 x6 x7 x8 x9 x10 x11 x12 Xl
        (with_reducible refine (specL08To_any d k B _ _ HCNT.out (Nat.le_trans hB bw.size) (fEngine.at_same HAT.out (.of bw hB)) HOK.out hkn).mono ?_); rintro o w4 ⟨g, rfl, hb, hg1, hg2, hc⟩
        have hGl := hG.row.lt
        have HB := Lib.hid (show BesB w4 u3 g d.2.2.1.length (waitB d k) from ⟨hg2, fun e => by have := (hGl g e).2; omega, hc⟩)
        have hGc := hG.next hb
        have brc := br.trans (hb.mono (by omega))
        have hMl := pairsK_len d k
        rw [← HM.out] at hMl
        have hM16 : M.length ≤ 16 := Nat.le_trans hMl (Nat.le_trans (Nat.mul_le_mul (Nat.le_trans hk h4) h4) (by decide))
        clear hG hb br bw hGl hc hMl Xr
        go_wp2_with fail
        go_loopw [3, 6] (fun v i wi => ∃ (j : Nat) (N : List DWait) (vs : Nat → List Value) (L H : Nat → Nat), j ≤ d.2.2.1.length ∧ i = .int .i64 j ∧ Hid (N = M ++ rowW d k j) ∧ N.length ≤ 100 ∧ Grow fWait 90 (w.heap.size + 1) wi v N vs L H ∧ Hid (BesB wi v g d.2.2.1.length (waitB d k)) ∧ Below (w.heap.size + 1) w3 wi) (fun _ i _ => d.2.2.1.length - (intOf i).toNat)
        case atStart => exact ⟨0, M, _, _, _, Nat.zero_le _, rfl, Lib.hid (by simp [rowW]), by omega, hGc, HB, brc⟩
        case round =>
          clear hGc HB brc
          obtain ⟨j, N, vs, L, H, hj, rfl, HN, hNl, hG, HB, bi⟩ := hrel
          have hszi := bi.size
          by_cases hjn : j < d.2.2.1.length
          · have hjz : (j : Int) < d.2.2.1.length := by omega
            have mc := HB.out.2.2 j hjn
            have ml := HB.out.1
            cases hwb : waitB d k j with
            | true =>
              rw [hwb] at mc
              have hA := (Below.refl wr.heap.size wr).alloc (Nat.le_refl _) (.cells #[.int .i64 (k : Int), .int .i64 (j : Int)] 90)
              have hGa := hG.next hA
              have hbk := hG.row.lt
              have hH4 := hG.top
              have OW := Lib.hid (own_Wait (w := wr.alloc (.cells #[.int .i64 (k : Int), .int .i64 (j : Int)] 90)) (Nat.le_refl wr.heap.size) ((k : Int), (j : Int)))
              have HWB := Lib.hid hwb
              clear hA hG hwb
              go_wp2_with (at_builtin; refine wpList_append_lies _ rfl _ _ 45 rfl (w.heap.size + 1) 90 i0 (.agg #[.int .i64 0, .int .i64 0]) 2 16 Tryz.underlying45 Hi.out Hz0.out Hz1.out Hz2.out rfl (by decide) _ _ _ rfl (show World.ownsRow _ _ _ 2 _ _ _ from hGa.row) ⟨wr.heap.size, 0, none⟩ 1 1 [.int .i64 (k : Int), .int .i64 (j : Int)] rfl rfl ?c1 (fun u hu => by simp at hu; rcases hu with rfl | rfl <;> rfl) (by decide) ?c3 ?c4 ?c5 (wr.heap.size + 1) ?c6 ?_)
              case c3 => unfold maxLen; omega
              case c4 => omega
              case c5 => first | omega | (simp; omega)
              intro q cap w5 hown' hgrow hat hlt
              have HG5 := Lib.hid (hGa.push (a := ((k : Int), (j : Int))) (nv := [.int .i64 (k : Int), .int .i64 (j : Int)]) (s := wr.heap.size) (t := wr.heap.size) hown' hgrow (by rcases hat with h | h; exact .inl h; exact .inr (by simpa using h)) OW.out (by omega) (by simp) hH4 (fun q hq => (hbk q hq).2))
              have HB5 := Lib.hid (HB.out.push (n := N.length + 1) (cap := cap) hgrow (by rcases hat with h | h; exact .inl h; exact .inr (by omega)))
              have b45 : Below (w.heap.size + 1) wr w5 := ((Below.refl (w.heap.size + 1) wr).alloc (by omega) (.cells #[.int .i64 (k : Int), .int .i64 (j : Int)] 90)).grown hgrow (by simp; omega) (fun q hq => (hGa.row.lt q hq).1)
              have bi := bi.trans b45
              have HN5 := Lib.hid (show N ++ [((k : Int), (j : Int))] = M ++ rowW d k (j + 1) by rw [rowW_yes HWB.out, HN.out, List.append_assoc])
              have HN5L := Lib.hid (show (N ++ [((k : Int), (j : Int))]).length ≤ 100 by rw [HN5.out, List.length_append]; have := rowW_len d k (j + 1); omega)
              clear hown' hgrow hat hGa OW b45 hbk hH4 HN hNl mc HB
              go_wp2
              exact ⟨⟨j + 1, N ++ [((k : Int), (j : Int))], _, _, _, by omega, by go_num, HN5, HN5L.out, HG5.out, HB5, bi⟩, by simp [intOf]; omega⟩
            | false =>
              rw [hwb] at mc
              have HN5 := Lib.hid (show N = M ++ rowW d k (j + 1) by rw [rowW_no hwb, HN.out])
              have HG5 := Lib.hid hG
              have HB5 := HB
              clear hG HN HB hwb
              go_wp2
              exact ⟨⟨j + 1, N, _, _, _, by omega, by go_num, HN5, hNl, HG5.out, HB5, bi⟩, by simp [intOf]; omega⟩
          · obtain rfl : j = d.2.2.1.length := by omega
            have HM5 := Lib.hid (show N = pairsK d (k + 1) by rw [HN.out, pairsK_succ, HM.out])
            have HG5 := Lib.hid hG
            clear hG HN HB
            go_wp2
            exact ⟨⟨k + 1, N, _, _, _, by omega, by go_num, HM5, HG5.out, bi⟩, by simp [intOf]; omega⟩
      · obtain rfl : k = d.2.2.1.length := by omega
        have HE := Lib.hid (show M = waitsL d by rw [HM.out, pairsK_all HOK.out])
        obtain ⟨A, c, rfl, ho⟩ := hG.done
        have HO := Lib.hid (ho.more (show w.heap.size ≤ w.heap.size + 1 by omega) (Nat.le_refl _))
        rw [HE.out] at HO ⊢
        clear hG ho
        go_wp2
        go_ret
        exact ⟨A, c, rfl, bw, HO.out⟩
end Go.Proofs.YtkpkjcmoldkmmaaGreat
