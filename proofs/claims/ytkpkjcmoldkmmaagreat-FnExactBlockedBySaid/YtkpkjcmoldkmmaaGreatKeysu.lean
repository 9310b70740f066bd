/- Contracts of l01Keys and markedKeys: the marked keys, ascending. -/
import Derived.Test.YtkpkjcmoldkmmaaGreatIntsu
namespace Go.Proofs.YtkpkjcmoldkmmaaGreat
open Go.RowKit

/-- the marked keys below m, ascending -/
def keysUp (M : Nat → Bool) (m : Nat) : List Int := ((List.range m).filter M).map Int.ofNat
theorem keysUp_yes {M : Nat → Bool} {m : Nat} (h : M m = true) : keysUp M (m + 1) = keysUp M m ++ [(m : Int)] := by simp [keysUp, List.range_succ, List.filter_append, h]
theorem keysUp_no {M : Nat → Bool} {m : Nat} (h : M m = false) : keysUp M (m + 1) = keysUp M m := by simp [keysUp, List.range_succ, List.filter_append, h]
theorem keysUp_le (M : Nat → Bool) (m : Nat) : (keysUp M m).length ≤ m := by
  have := List.length_filter_le M (List.range m)
  simpa [keysUp] using this

/-- the answer is a slice of the call's own that holds l; nothing that was there has turned -/
def OwnsOut (w : World) (l : List Int) (e : Ending) (w' : World) : Prop :=
  ∃ v, e = .returned v ∧ w'.ownsRow w.heap.size 3 1 v l.length (l.map (.int .i64)) ∧ Below w.heap.size w w'

theorem ownsRow_base {w : World} {base base' size n : Nat} {e : TypeId} {v : Value} {xs : List Value} (h : w.ownsRow base' e size v n xs) (hb : base ≤ base') : w.ownsRow base e size v n xs := by
  refine ⟨h.1, ?_⟩
  rcases h.2 with h' | ⟨g, cap, cur, h1, h2, h3⟩
  · exact .inl h'
  · exact .inr ⟨g, cap, cur, h1, by omega, h3⟩

theorem infoInt : (Tryz.prog.info? 3).map (fun i => (i.zero, i.size, i.bytes)) = some (some (.int .i64 0), 1, 8) := by kernel_rfl

/-- the slice holds the bools M 0, M 1, .. -/
def BoolsAt (w : World) (b off N : Nat) (M : Nat → Bool) : Prop := ∀ j, j < N → w.cell? ⟨b, off + j, none⟩ = some (.bool (M j))

set_option maxHeartbeats 400000 in
theorem l01Keys_any (b off cap : Nat) (M : Nat → Bool) (w : World) (hB : b < w.heap.size) (hc : BoolsAt w b off 8 M) :
    Calls Tryz.prog 113 #[.slice (some ⟨b, off, none⟩) 8 cap] w (OwnsOut w (keysUp M 8)) := by
  obtain ⟨i0, hi, hz0, hz1, hz2⟩ := info_parts infoInt
  go_enter Tryz.func113, Tryz.ntmps113
  go_wp2
  go_loopw [3, 4] (fun v i wr => ∃ k : Nat, k ≤ 8 ∧ i = .int .i64 k ∧ wr.ownsRow w.heap.size 3 1 v (keysUp M k).length ((keysUp M k).map (.int .i64)) ∧ Below w.heap.size w wr) (fun _ i _ => 8 - (intOf i).toNat)
  case atStart => exact ⟨0, Nat.zero_le _, rfl, World.ownsRow_made w #[] 0 (Nat.le_refl _) (Nat.zero_le _) rfl, (Below.refl _ _).alloc (Nat.le_refl _) _⟩
  case round =>
    obtain ⟨k, hk, rfl, hown, hb⟩ := hrel
    by_cases hkn : k < 8
    · have hkz : (k : Int) < 8 := by omega
      have d0 : wr.cell? ⟨b, off + k, none⟩ = some (.bool (M k)) := (hb.cell (p := ⟨b, off + k, none⟩) hB).trans (hc k hkn)
      have hle := keysUp_le M k
      have hs := hb.size
      clear hc
      cases hM : M k with
      | true =>
        rw [hM] at d0
        have Hy := Lib.hid (keysUp_yes hM)
        clear hM
        go_wp2_with (at_builtin; refine wpList_append_own _ rfl _ _ 28 rfl w.heap.size 3 i0 (.int .i64 0) 1 8 Tryz.underlying28 hi hz0 hz1 hz2 rfl (by decide) _ _ _ rfl (hown.alloc _) ⟨wr.heap.size, 0, none⟩ 1 1 [.int .i64 k] rfl rfl ?c1 ?c2 ?c3 ?c4 ?c5 ?_)
        case c1 =>
          intro j u hj
          match j, hj with
          | 0, hj => simp at hj; subst hj; simp [Addr.add]
        case c2 => intro u hu; simp at hu; subst hu; rfl
        case c3 => unfold maxLen; omega
        case c4 => omega
        case c5 => simp; omega
        intro v' w1 hown' hgrow _
        have hb' := (hb.alloc hs _).grown hgrow (by simp; omega) (fun q hq => (hown.lt q hq).1)
        have hown2 : w1.ownsRow w.heap.size 3 1 v' (keysUp M (k + 1)).length ((keysUp M (k + 1)).map (.int .i64)) := by rw [Hy.out]; simpa using hown'
        clear hown' hgrow hown hb d0 hi hz0 hz1 hz2
        go_wp2
        exact ⟨⟨k + 1, by omega, by go_num, hown2, hb'⟩, by simp [intOf]; omega⟩
      | false =>
        rw [hM] at d0
        have hown2 := hown
        rw [← keysUp_no hM] at hown2
        clear hM hown hi hz0 hz1 hz2
        go_wp2
        exact ⟨⟨k + 1, by omega, by go_num, hown2, hb⟩, by simp [intOf]; omega⟩
    · obtain rfl : k = 8 := by omega
      go_wp2
      go_ret
      exact ⟨_, rfl, hown, hb⟩

set_option maxHeartbeats 400000 in
theorem markedKeys_any (M : Nat → Bool) (w : World) :
    Calls Tryz.prog 175 #[.agg #[.bool (M 0), .bool (M 1), .bool (M 2), .bool (M 3), .bool (M 4), .bool (M 5), .bool (M 6), .bool (M 7)]] w (OwnsOut w (keysUp M 8)) := by
  obtain ⟨i0, hi, hz0, hz1, hz2⟩ := info_parts infoInt
  go_enter Tryz.func175, Tryz.ntmps175
  go_wp2
  go_loopw [3, 7] (fun v i wr => ∃ k : Nat, k ≤ 8 ∧ i = .int .i64 k ∧ wr.ownsRow w.heap.size 3 1 v (keysUp M k).length ((keysUp M k).map (.int .i64)) ∧ Below w.heap.size w wr) (fun _ i _ => 8 - (intOf i).toNat)
  case atStart => exact ⟨0, Nat.zero_le _, rfl, World.ownsRow_nil _ _ _ _, (Below.refl _ _).alloc (Nat.le_refl _) _⟩
  case round =>
    obtain ⟨k, hk, rfl, hown, hb⟩ := hrel
    by_cases hkn : k < 8
    · have hkz : (k : Int) < 8 := by omega
      have hle := keysUp_le M k
      have hs := hb.size
      have hidx : ∀ w, (Instr.index 248 (.agg #[.bool (M 0), .bool (M 1), .bool (M 2), .bool (M 3), .bool (M 4), .bool (M 5), .bool (M 6), .bool (M 7)]) (.int .i64 (k : Int))).run Tryz.prog w = .ok (.bool (M k)) w := by
        have h8 : k = 0 ∨ k = 1 ∨ k = 2 ∨ k = 3 ∨ k = 4 ∨ k = 5 ∨ k = 6 ∨ k = 7 := by omega
        rcases h8 with rfl | rfl | rfl | rfl | rfl | rfl | rfl | rfl <;> (intro w; kernel_rfl)
      cases hM : M k with
      | true =>
        rw [hM] at hidx
        have Hy := Lib.hid (keysUp_yes hM)
        clear hM
        go_wp2_with (at_builtin; refine wpList_append_own _ rfl _ _ 28 rfl w.heap.size 3 i0 (.int .i64 0) 1 8 Tryz.underlying28 hi hz0 hz1 hz2 rfl (by decide) _ _ _ rfl (hown.alloc _) ⟨wr.heap.size, 0, none⟩ 1 1 [.int .i64 k] rfl rfl ?c1 ?c2 ?c3 ?c4 ?c5 ?_)
        case c1 =>
          intro j u hj
          match j, hj with
          | 0, hj => simp at hj; subst hj; simp [Addr.add]
        case c2 => intro u hu; simp at hu; subst hu; rfl
        case c3 => unfold maxLen; omega
        case c4 => omega
        case c5 => simp; omega
        intro v' w1 hown' hgrow _
        have hb' := (hb.alloc hs _).grown hgrow (by simp; omega) (fun q hq => (hown.lt q hq).1)
        have hown2 : w1.ownsRow w.heap.size 3 1 v' (keysUp M (k + 1)).length ((keysUp M (k + 1)).map (.int .i64)) := by rw [Hy.out]; simpa using hown'
        clear hown' hgrow hown hb hidx hi hz0 hz1 hz2
        go_wp2
        exact ⟨⟨k + 1, by omega, by go_num, hown2, hb'⟩, by simp [intOf]; omega⟩
      | false =>
        rw [hM] at hidx
        have hown2 := hown
        rw [← keysUp_no hM] at hown2
        clear hM hown hi hz0 hz1 hz2
        go_wp2
        exact ⟨⟨k + 1, by omega, by go_num, hown2, hb⟩, by simp [intOf]; omega⟩
    · obtain rfl : k = 8 := by omega
      go_wp2
      go_ret
      exact ⟨_, rfl, hown, hb⟩

/-- key j is among the keys of the first k acts that bear the mark P -/
def marksTo (P : Nat → Bool) (f : Nat → Int) (k : Nat) (j : Nat) : Bool := (List.range k).any fun i => P i && f (i * 3 + 1) == (j : Int)
theorem marksTo_succ (P : Nat → Bool) (f : Nat → Int) (k j : Nat) : marksTo P f (k + 1) j = (marksTo P f k j || (P k && f (k * 3 + 1) == (j : Int))) := by
  simp [marksTo, List.range_succ, List.any_append]
theorem key_range {n i : Nat} {f : Nat → Int} (h : progOk n f = true) (hi : i < n) : 0 ≤ f (i * 3 + 1) ∧ f (i * 3 + 1) < 8 := by
  simp only [progOk, Bool.and_eq_true, List.all_eq_true, List.mem_range] at h
  have := h.2 i hi
  simp only [actOk, inB, Bool.and_eq_true, decide_eq_true_eq] at this
  omega
theorem kind_range {n i : Nat} {f : Nat → Int} (h : progOk n f = true) (hi : i < n) : 0 ≤ f (i * 3) ∧ f (i * 3) ≤ 2 := by
  simp only [progOk, Bool.and_eq_true, List.all_eq_true, List.mem_range] at h
  have := h.2 i hi
  simp only [actOk, inB, Bool.and_eq_true, decide_eq_true_eq] at this
  omega
theorem prog_len {n : Nat} {f : Nat → Int} (h : progOk n f = true) : 1 ≤ n ∧ n ≤ 6 := by
  simp only [progOk, inB, Bool.and_eq_true, decide_eq_true_eq] at h
  omega

/-- the keys of the acts that bear the mark -/
def keysOut (P : Nat → Bool) (n : Nat) (f : Nat → Int) : List Int := if progOk n f = true then keysUp (marksTo P f n) 8 else []

theorem keysOut_le (P : Nat → Bool) (n : Nat) (f : Nat → Int) : (keysOut P n f).length ≤ 8 := by
  unfold keysOut
  split
  · exact keysUp_le _ 8
  · exact Nat.zero_le _

theorem infoBool : (Tryz.prog.info? 4).map (fun i => (i.zero, i.size, i.bytes)) = some (some (.bool false), 1, 1) := by kernel_rfl

theorem OwnsOut.nil (w w' : World) (hb : Below w.heap.size w w') : OwnsOut w [] (.returned (.slice none 0 0)) w' := ⟨_, rfl, World.ownsRow_nil _ _ _ _, hb⟩
theorem OwnsOut.later {w w1 w' : World} {l : List Int} {e : Ending} (h : OwnsOut w1 l e w') (hb : Below w.heap.size w w1) : OwnsOut w l e w' := by
  obtain ⟨v, he, ho, hb'⟩ := h
  exact ⟨v, he, ownsRow_base ho hb.size, hb.trans (hb'.mono hb.size)⟩

theorem run_make_bools (w : World) : (Instr.makeSlice 87 (.int .i64 8) (.int .i64 8)).run Tryz.prog w = .ok (.slice (some ⟨w.heap.size, 0, none⟩) 8 8) (w.alloc (.cells (madeCells #[.bool false] 8) 4)) :=
  run_make_row' (P := Tryz.prog) 87 4 (.bool false) 1 Tryz.underlying87 infoBool rfl .i64 .i64 8 (by omega) (by omega) w

theorem row_mark {w : World} {g t N k y : Nat} {P : Nat → Bool} {f : Nat → Int} (h : w.rowIs g t N (fun j => .bool (marksTo P f k j))) (hP : P k = true) (hy : f (k * 3 + 1) = (y : Int)) :
    (w.setCell ⟨g, y, none⟩ (.bool true)).rowIs g t N (fun j => .bool (marksTo P f (k + 1) j)) :=
  (h.set y _).congr fun j _ => by
    rw [marksTo_succ, hP, hy]
    by_cases e : j = y
    · subst e; rw [if_pos rfl]; simp
    · have : ((y : Int) == (j : Int)) = false := by rw [beq_eq_false_iff_ne]; omega
      rw [if_neg e, this]; simp
theorem row_nomark {w : World} {g t N k : Nat} {P : Nat → Bool} {f : Nat → Int} (h : w.rowIs g t N (fun j => .bool (marksTo P f k j))) (hP : P k = false) :
    w.rowIs g t N (fun j => .bool (marksTo P f (k + 1) j)) :=
  h.congr fun j _ => by rw [marksTo_succ, hP]; simp

set_option maxHeartbeats 400000 in
theorem specKeysOf_any (A : Option Addr) (n cap : Nat) (f : Nat → Int) (w : World) (h1 : IntsAt w w.heap.size A (n * 3) f) :
    Calls Tryz.prog 79 #[.slice A n cap] w (OwnsOut w (keysOut (fun _ => true) n f)) := by
  cases hp : progOk n f with
  | false =>
    have HF := Lib.hid (show keysOut (fun _ => true) n f = [] by simp [keysOut, hp])
    go_enter Tryz.func79, Tryz.ntmps79
    go_wp2_with fail
    refine (specProgOk_any _ _ _ f _ h1).mono ?_; rintro e w1 ⟨rfl, hb1⟩
    rw [hp]
    clear hp h1
    go_wp2
    go_ret
    rw [HF.out]
    exact OwnsOut.nil _ _ hb1
  | true =>
    have h16 := prog_len hp
    have HF := Lib.hid (show keysOut (fun _ => true) n f = keysUp (marksTo (fun _ => true) f n) 8 by simp [keysOut, hp])
    have HP := Lib.hid hp
    obtain ⟨b, off, rfl, hB, hc⟩ := h1 (by omega)
    have hmk := run_make_bools
    go_enter Tryz.func79, Tryz.ntmps79
    go_wp2_with fail
    refine (specProgOk_any _ _ _ f _ h1).mono ?_; rintro e w1 ⟨rfl, hb1⟩
    rw [hp]
    clear hp h1
    have hs1 := hb1.size
    go_wp2
    clear hmk
    go_loopw [4] (fun i wr => ∃ k : Nat, k ≤ n ∧ i = .int .i64 k ∧ Below w.heap.size w wr ∧ wr.rowIs w1.heap.size 4 8 (fun j => .bool (marksTo (fun _ => true) f k j))) (fun i _ => n - (intOf i).toNat)
    case atStart => exact ⟨0, Nat.zero_le _, rfl, hb1.alloc hs1 _, (World.rowIs_made w1 (.bool false) 8 _).congr (fun j _ => by simp [marksTo])⟩
    case round =>
      obtain ⟨k, hk, rfl, hb, hrow⟩ := hrel
      by_cases hkn : k < n
      · have hkz : (k : Int) < n := by omega
        have hkr := key_range HP.out hkn
        obtain ⟨y, hy⟩ := Int.eq_ofNat_of_zero_le hkr.1
        have d1 : wr.cell? ⟨b, off + k * 3 + 1, none⟩ = some (.int .i64 (y : Int)) := by rw [← hy]; exact (hb.cell (p := ⟨b, off + k * 3 + 1, none⟩) hB).trans (hc (k * 3 + 1) (by omega))
        have hy8 : (y : Int) < 8 := by omega
        have e0 : wr.cell? ⟨w1.heap.size, y, none⟩ = some (.bool (marksTo (fun _ => true) f k y)) := hrow.cell (by omega)
        have e1 : wr.frozen? ⟨w1.heap.size, y, none⟩ = false := hrow.frozen _
        have R := Lib.hid (row_mark hrow rfl hy)
        clear hc hrow hkr hy
        go_wp2
        exact ⟨⟨k + 1, by omega, by go_num, hb.setCell hs1 _, R.out⟩, by simp [intOf]; omega⟩
      · obtain rfl : k = n := by omega
        have hg := hrow.lt
        clear hc
        go_wp2_with fail
        refine (l01Keys_any _ _ _ _ _ hg (fun j hj => by rw [Nat.zero_add]; exact hrow.cell hj)).mono ?_; rintro e w2 hout
        obtain ⟨v, rfl, hown, hb2⟩ := hout
        go_wp2
        go_ret
        rw [HF.out]
        exact ⟨v, rfl, ownsRow_base hown hb.size, hb.trans (hb2.mono hb.size)⟩

end Go.Proofs.YtkpkjcmoldkmmaaGreat
