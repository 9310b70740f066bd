/- Wait graphs: LocksClean of the model and of the program. -/
import Derived.Test.YtomkfldimkpmdaaGreatRk
import Derived.Test.YtomkfldimkpmdaaGreatEa
namespace Go.Proofs.YtomkfldimkpmdaaGreat
open Go.RowKit

def actB (x : DWorker) : Bool := !doneW x && decide (0 < x.2.2.1)
def actAt (l : List DWorker) (j : Nat) : Bool := match l[j]? with
  | some x => actB x
  | none => false
def lkAt (T : TL) (tid : Int) : Bool := decide ((heldL T tid).length = 0) && decide (waitK T tid < 0)
def cleanAt (d : DEngine) (j : Nat) : Bool := actAt d.2.2.1 j || lkAt (toT d.2.1) ((j : Int) + 1)
def cleanB (d : DEngine) : Bool := engOk d && (List.range 8).all (cleanAt d)
theorem clean_no {d : DEngine} (h : engOk d = false) : cleanB d = false := by simp [cleanB, h]
theorem clean_yes {d : DEngine} (h : engOk d = true) (ha : ∀ j, j < 8 → cleanAt d j = true) : cleanB d = true := by
  unfold cleanB
  rw [h, Bool.true_and, List.all_eq_true]
  intro j hj
  exact ha j (List.mem_range.1 hj)
theorem clean_bad {d : DEngine} {k : Nat} (hk : k < 8) (h : cleanAt d k = false) : cleanB d = false := by
  unfold cleanB
  rw [Bool.and_eq_false_iff]
  refine .inr ?_
  rw [Bool.eq_false_iff]
  intro ha
  rw [List.all_eq_true] at ha
  rw [ha k (List.mem_range.2 hk)] at h
  cases h
theorem act_some {l : List DWorker} {k : Nat} {x : DWorker} (h : l[k]? = some x) : actAt l k = actB x := by unfold actAt; rw [h]
theorem act_none {l : List DWorker} {k : Nat} (h : l.length ≤ k) : actAt l k = false := by unfold actAt; rw [List.getElem?_eq_none h]
theorem up_contains (l : List DWorker) (k : Nat) : (keysUp (actAt l) l.length).contains (k : Int) = actAt l k := by
  rw [Bool.eq_iff_iff, List.contains_iff_mem]
  unfold keysUp
  simp only [List.mem_map, List.mem_filter, List.mem_range]
  constructor
  · rintro ⟨j, ⟨_, h2⟩, e⟩
    have : j = k := by injection e
    exact this ▸ h2
  · intro h
    refine ⟨k, ⟨?_, h⟩, rfl⟩
    by_cases hk : k < l.length
    · exact hk
    · rw [act_none (by omega)] at h; cases h
theorem own_neL {v : Value} : v.ownBlock = none ∨ v.ownBlock ≠ none := by cases v.ownBlock <;> simp
theorem sl_formL {w : World} {base size n : Nat} {e : TypeId} {v : Value} {xs : List Value} (h : w.ownsRow base e size v n xs) : ∃ X C, v = .slice X n C := by
  rcases Go.Joins.ownsRow_forms h with ⟨rfl, rfl⟩ | ⟨g, cap, rfl⟩
  · exact ⟨none, 0, rfl⟩
  · exact ⟨_, cap, rfl⟩
theorem specActive_any (x : DWorker) (B : Nat) (vs : List Value) (w : World) (hB : B ≤ w.heap.size) (h : fWorker.At w B x vs) : Calls Tryz.prog 67 #[.agg vs.toArray] w fun e w' => e = .returned (.bool (actB x)) ∧ Below w.heap.size w w' := by
  have HAT := Lib.hid h
  obtain ⟨A0w, c0w, A5w, c5w, A6w, c6w, A7w, c7w, A8w, c8w, rfl, _, _, _, _, _⟩ := at_Worker h
  clear h
  go_enter Tryz.func67, Tryz.ntmps67
  go_wp2_with fail
  have b := (Below.refl w.heap.size w).alloc (Nat.le_refl _) (.cells #[.slice A0w (x.1).length c0w, .int .i64 x.2.1, .int .i64 x.2.2.1, .int .i64 x.2.2.2.1, .int .i64 x.2.2.2.2.1, .slice A5w (x.2.2.2.2.2.1).length c5w, .slice A6w (x.2.2.2.2.2.2.1).length c6w, .slice A7w (x.2.2.2.2.2.2.2.1).length c7w, .slice A8w (x.2.2.2.2.2.2.2.2).length c8w] 73)
  have X := Bx.new (w := w) (c := #[.slice A0w (x.1).length c0w, .int .i64 x.2.1, .int .i64 x.2.2.1, .int .i64 x.2.2.2.1, .int .i64 x.2.2.2.2.1, .slice A5w (x.2.2.2.2.2.1).length c5w, .slice A6w (x.2.2.2.2.2.2.1).length c6w, .slice A7w (x.2.2.2.2.2.2.2.1).length c7w, .slice A8w (x.2.2.2.2.2.2.2.2).length c8w]) (t := 73) rfl
  generalize w.alloc (.cells #[.slice A0w (x.1).length c0w, .int .i64 x.2.1, .int .i64 x.2.2.1, .int .i64 x.2.2.2.1, .int .i64 x.2.2.2.2.1, .slice A5w (x.2.2.2.2.2.1).length c5w, .slice A6w (x.2.2.2.2.2.2.1).length c6w, .slice A7w (x.2.2.2.2.2.2.2.1).length c7w, .slice A8w (x.2.2.2.2.2.2.2.2).length c8w] 73) = w1 at b X ⊢
  (with_reducible refine (specDone_any x B _ _ (fWorker.at_same HAT.out (.of b hB))).mono ?_); rintro o w2 ⟨rfl, hb⟩
  have X := X.next hb
  have b := b.trans (hb.mono b.size)
  clear hb
  obtain ⟨⟨a0, a1, a2, a3, a4, a5, a6, a7, a8⟩, _⟩ := X.c9
  cases hd : doneW x with
  | true =>
    have HE := Lib.hid (show actB x = false by unfold actB; rw [hd]; rfl)
    go_wp2
    go_ret
    exact ⟨ret_bool HE.out.symm, b⟩
  | false =>
    have HE := Lib.hid (show actB x = decide (0 < x.2.2.1) by unfold actB; rw [hd]; simp)
    go_wp2
    go_ret
    exact ⟨ret_bool HE.out.symm, b⟩
set_option maxHeartbeats 3200000 in
set_option maxRecDepth 100000 in
theorem underWay_any (A : Option Addr) (c B : Nat) (l : List DWorker) (w : World) (hn : l.length ≤ 1048576) (hB : B ≤ w.heap.size) (r : RAt fWorker w B A l) :
    Calls Tryz.prog 68 #[.slice A l.length c] w (RetI w (keysUp (actAt l) l.length)) := by
  obtain ⟨i0, hi, hz0, hz1, hz2⟩ := info_parts infoInt
  have Hi := Lib.hid hi
  have Hz0 := Lib.hid hz0
  have Hz1 := Lib.hid hz1
  have Hz2 := Lib.hid hz2
  clear hi hz0 hz1 hz2
  go_enter Tryz.func68, Tryz.ntmps68
  go_wp2
  go_loopw [3, 8] (fun v i wr => ∃ k : Nat, k ≤ l.length ∧ i = .int .i64 k ∧ wr.ownsRow w.heap.size 3 1 v (keysUp (actAt l) k).length ((keysUp (actAt l) k).map (.int .i64)) ∧ Below w.heap.size w wr) (fun _ i _ => l.length - (intOf i).toNat)
  case atStart => exact ⟨0, Nat.zero_le _, rfl, World.ownsRow_nil _ _ _ _, Below.refl _ _⟩
  case round =>
    obtain ⟨k, hk, rfl, hown, b⟩ := hrel
    have hsz := b.size
    by_cases hkn : k < l.length
    · obtain ⟨bb, off, hA6, hbB, hc⟩ := r.2 (by omega)
      have hkz : (k : Int) < l.length := by omega
      have hget : l[k]? = some l[k] := List.getElem?_eq_getElem hkn
      obtain ⟨v, hv0, hat0⟩ := hc k _ hget
      have hat := fWorker.at_same hat0 (.of b hB)
      have hv := hv0.below b (show bb < w.heap.size by omega)
      rw [show fWorker.n = 9 from rfl] at hv
      clear hv0 hat0
      generalize hx : l[k] = x at hget hat
      have HAT := Lib.hid hat
      have HAC := Lib.hid (act_some hget)
      obtain ⟨A0w, c0w, A5w, c5w, A6w, c6w, A7w, c7w, A8w, c8w, rfl, _, _, _, _, _⟩ := at_Worker hat
      subst hA6
      obtain ⟨a0, a1, a2, a3, a4, a5, a6, a7, a8⟩ := hv.c9
      have hA := (Below.refl wr.heap.size wr).alloc (Nat.le_refl _) (.cells #[.slice A0w (x.1).length c0w, .int .i64 x.2.1, .int .i64 x.2.2.1, .int .i64 x.2.2.2.1, .int .i64 x.2.2.2.2.1, .slice A5w (x.2.2.2.2.2.1).length c5w, .slice A6w (x.2.2.2.2.2.2.1).length c6w, .slice A7w (x.2.2.2.2.2.2.2.1).length c7w, .slice A8w (x.2.2.2.2.2.2.2.2).length c8w] 73)
      have X := Bx.new (w := wr) (c := #[.slice A0w (x.1).length c0w, .int .i64 x.2.1, .int .i64 x.2.2.1, .int .i64 x.2.2.2.1, .int .i64 x.2.2.2.2.1, .slice A5w (x.2.2.2.2.2.1).length c5w, .slice A6w (x.2.2.2.2.2.2.1).length c6w, .slice A7w (x.2.2.2.2.2.2.2.1).length c7w, .slice A8w (x.2.2.2.2.2.2.2.2).length c8w]) (t := 73) rfl
      have hat2 := fWorker.at_same HAT.out (.of hA (by omega))
      have b := b.trans (hA.mono hsz)
      have hown := hown.kept ⟨hA.os, hA.tape, hA.output, hA.size, fun k hk _ => hA.block k hk⟩ own_neL
      have hsz2 := hA.size
      have hkl := keysUp_le (actAt l) k
      have HY := Lib.hid (keysUp_yes (M := actAt l) (m := k))
      have HN := Lib.hid (keysUp_no (M := actAt l) (m := k))
      clear hc hv hx hat hget hA
      obtain ⟨X0, C0, rfl⟩ := sl_formL hown
      go_wp2_with fail
      clear a0 a1 a2 a3 a4 a5 a6 a7 a8
      generalize wr.alloc (.cells #[.slice A0w (x.1).length c0w, .int .i64 x.2.1, .int .i64 x.2.2.1, .int .i64 x.2.2.2.1, .int .i64 x.2.2.2.2.1, .slice A5w (x.2.2.2.2.2.1).length c5w, .slice A6w (x.2.2.2.2.2.2.1).length c6w, .slice A7w (x.2.2.2.2.2.2.2.1).length c7w, .slice A8w (x.2.2.2.2.2.2.2.2).length c8w] 73) = w1 at X hat2 b hown hsz2 ⊢
      generalize keysUp (actAt l) k = K at hown hkl HY HN
      (with_reducible refine (implDone_any x B _ _ hat2).mono ?_); rintro o w2 ⟨rfl, hb⟩
      have X := X.next hb
      have hsz3 := hb.size
      have hown := hown.kept ⟨hb.os, hb.tape, hb.output, hb.size, fun k hk _ => hb.block k hk⟩ own_neL
      have b := b.trans (hb.mono b.size)
      clear hb hat2
      obtain ⟨⟨a0, a1, a2, a3, a4, a5, a6, a7, a8⟩, _⟩ := X.c9
      have Xl := X.lt
      cases hd : doneW x with
      | true =>
        have HE := Lib.hid (HN.out (by rw [HAC.out]; unfold actB; rw [hd]; rfl))
        have HO := Lib.hid hown
        clear hown
        go_wp2
        exact ⟨⟨k + 1, by omega, by go_num, by rw [HE.out]; exact HO.out, b⟩, by simp [intOf]; omega⟩
      | false =>
        by_cases hp : 0 < x.2.2.1
        · have HE := Lib.hid (HY.out (by rw [HAC.out]; unfold actB; rw [hd]; simpa using hp))
          have hbz := b.size
          go_wp2_with (at_builtin; refine wpList_append_own _ rfl _ _ 28 rfl w.heap.size 3 i0 (.int .i64 0) 1 8 Tryz.underlying28 Hi.out Hz0.out Hz1.out Hz2.out rfl (by decide) _ _ _ rfl (hown.alloc _) ⟨w2.heap.size, 0, none⟩ 1 1 [.int .i64 k] rfl rfl ?c1 ?c2 ?c3 ?c4 ?c5 ?_)
          case c1 =>
            intro j u hj
            match j, hj with
            | 0, hj => simp at hj; subst hj; simp [Addr.add]
          case c2 => intro u hu; simp at hu; subst hu; rfl
          case c3 => unfold maxLen; omega
          case c4 => omega
          case c5 => simp; omega
          intro v' w3 hown' hgrow _
          have hb3 := (b.alloc hbz (.cells #[.int .i64 k] 3)).grown hgrow (by simp; omega) (fun q hq => (hown.lt q hq).1)
          have hown3 : w3.ownsRow w.heap.size 3 1 v' (keysUp (actAt l) (k + 1)).length ((keysUp (actAt l) (k + 1)).map (.int .i64)) := by rw [HE.out]; simpa using hown'
          clear hown' hgrow hown b a0 a1 a2 a3 a4 a5 a6 a7 a8 X
          go_wp2
          exact ⟨⟨k + 1, by omega, by go_num, hown3, hb3⟩, by simp [intOf]; omega⟩
        · have HE := Lib.hid (HN.out (by rw [HAC.out]; unfold actB; simp; intro _; omega))
          have HO := Lib.hid hown
          clear hown
          go_wp2
          exact ⟨⟨k + 1, by omega, by go_num, by rw [HE.out]; exact HO.out, b⟩, by simp [intOf]; omega⟩
    · obtain rfl : k = l.length := by omega
      have HO := Lib.hid hown
      clear hown
      go_wp2
      go_ret
      exact RetI.of HO.out (Nat.le_refl _) b
set_option maxHeartbeats 6400000 in
set_option maxRecDepth 100000 in
theorem implClean_any (d : DEngine) (B : Nat) (vs : List Value) (w : World) (hs : fEngine.cnt d ≤ 1048576) (hB : B ≤ w.heap.size) (h : fEngine.At w B d vs) :
    Calls Tryz.prog 22 #[.agg vs.toArray] w fun e w' => e = .returned (.bool (cleanB d)) ∧ Below w.heap.size w w' := by
  obtain ⟨A5, c5, A6, c6, A7, c7, A10, c10, rfl, r5, r6, r7, r10⟩ := at_Engine h
  have hct := cnt_Engine d
  have hc2 := cnt_Table d.2.1
  have hc3 : (rowF fCell).cnt d.2.1 ≤ 1048576 := by omega
  have hmx := r6.1
  unfold maxLen at hmx
  have HAT := Lib.hid h
  clear hct hc2 h
  go_enter Tryz.func22, Tryz.ntmps22
  go_wp2_with fail
  have b := (Below.refl w.heap.size w).alloc (Nat.le_refl _) (.cells #[.int .i64 d.1.1, .int .i64 d.1.2.1, .int .i64 d.1.2.2.1, .bool d.1.2.2.2.1, .int .i64 d.1.2.2.2.2, .slice A5 (d.2.1).length c5, .slice A6 (d.2.2.1).length c6, .slice A7 (d.2.2.2.1).length c7, .int .i64 d.2.2.2.2.1, .int .i64 d.2.2.2.2.2.1, .slice A10 (d.2.2.2.2.2.2.1).length c10, .int .i64 d.2.2.2.2.2.2.2.1, .int .i64 d.2.2.2.2.2.2.2.2] 41)
  have X := Bx.new (w := w) (c := #[.int .i64 d.1.1, .int .i64 d.1.2.1, .int .i64 d.1.2.2.1, .bool d.1.2.2.2.1, .int .i64 d.1.2.2.2.2, .slice A5 (d.2.1).length c5, .slice A6 (d.2.2.1).length c6, .slice A7 (d.2.2.2.1).length c7, .int .i64 d.2.2.2.2.1, .int .i64 d.2.2.2.2.2.1, .slice A10 (d.2.2.2.2.2.2.1).length c10, .int .i64 d.2.2.2.2.2.2.2.1, .int .i64 d.2.2.2.2.2.2.2.2]) (t := 41) rfl
  generalize w.alloc (.cells #[.int .i64 d.1.1, .int .i64 d.1.2.1, .int .i64 d.1.2.2.1, .bool d.1.2.2.2.1, .int .i64 d.1.2.2.2.2, .slice A5 (d.2.1).length c5, .slice A6 (d.2.2.1).length c6, .slice A7 (d.2.2.2.1).length c7, .int .i64 d.2.2.2.2.1, .int .i64 d.2.2.2.2.2.1, .slice A10 (d.2.2.2.2.2.2.1).length c10, .int .i64 d.2.2.2.2.2.2.2.1, .int .i64 d.2.2.2.2.2.2.2.2] 41) = w1 at b X ⊢
  obtain ⟨⟨x0, x1, x2, x3, x4, x5, x6, x7, x8, x9, x10, x11, x12⟩, _⟩ := X.c13
  have Xl := X.lt
  go_wp2_with fail
  clear x0 x1 x2 x3 x4 x5 x6 x7 x8 x9 x10 x11 x12 Xl
  (with_reducible refine (implEngineOk_any d B _ _ hs (Nat.le_trans hB b.size) (fEngine.at_same HAT.out (.of b hB))).mono ?_); rintro o w2 ⟨rfl, hb⟩
  have X := X.next hb
  have b := b.trans (hb.mono b.size)
  clear hb
  obtain ⟨⟨x0, x1, x2, x3, x4, x5, x6, x7, x8, x9, x10, x11, x12⟩, _⟩ := X.c13
  have Xl := X.lt
  cases h1 : engOk d with
  | false =>
    have HF := Lib.hid (clean_no h1)
    go_wp2
    go_ret
    exact ⟨ret_bool HF.out.symm, b⟩
  | true =>
    have H1 := Lib.hid h1
    clear h1
    go_wp2_with fail
    clear x0 x1 x2 x3 x4 x5 x6 x7 x8 x9 x10 x11 x12 Xl
    have hwl : d.2.2.1.length ≤ 1048576 := by have := hs; have h2 := cnt_Engine d; rw [row_cnt] at h2; omega
    (with_reducible refine (underWay_any A6 c6 B d.2.2.1 _ hwl (Nat.le_trans hB b.size) (r6.keep b hB)).mono ?_); rintro o w3 ⟨Au, cu, rfl, OU, hb⟩
    have hbU : w2.heap.size ≤ w3.heap.size := hb.size
    have X := X.next hb
    have b := b.trans (hb.mono b.size)
    clear hb
    have hul := keysUp_le (actAt d.2.2.1) d.2.2.1.length
    have OU := Lib.hid OU
    have HUP := Lib.hid (up_contains d.2.2.1)
    generalize keysUp (actAt d.2.2.1) d.2.2.1.length = U at OU hul HUP ⊢
    obtain ⟨⟨x0, x1, x2, x3, x4, x5, x6, x7, x8, x9, x10, x11, x12⟩, _⟩ := X.c13
    have Xl := X.lt
    go_wp2_with fail
    have HW3 := Lib.hid (Below.refl w3.heap.size w3)
    have hw3 : w.heap.size ≤ w3.heap.size := b.size
    go_loopw [11] (fun i wr => ∃ k : Nat, k ≤ 8 ∧ i = .int .i64 k ∧ Below w.heap.size w wr ∧ Below w3.heap.size w3 wr ∧ Bx wr w.heap.size [.int .i64 d.1.1, .int .i64 d.1.2.1, .int .i64 d.1.2.2.1, .bool d.1.2.2.2.1, .int .i64 d.1.2.2.2.2, .slice A5 (d.2.1).length c5, .slice A6 (d.2.2.1).length c6, .slice A7 (d.2.2.2.1).length c7, .int .i64 d.2.2.2.2.1, .int .i64 d.2.2.2.2.2.1, .slice A10 (d.2.2.2.2.2.2.1).length c10, .int .i64 d.2.2.2.2.2.2.2.1, .int .i64 d.2.2.2.2.2.2.2.2] ∧ Hid (∀ j, j < k → cleanAt d j = true)) (fun i _ => 8 - (intOf i).toNat)
    case atStart => exact ⟨0, Nat.zero_le _, rfl, b, HW3.out, X, Lib.hid (fun j hj => absurd hj (by omega))⟩
    case round =>
      clear x0 x1 x2 x3 x4 x5 x6 x7 x8 x9 x10 x11 x12 Xl X b
      obtain ⟨k, hk, rfl, b, b3, X, HA⟩ := hrel
      obtain ⟨⟨x0, x1, x2, x3, x4, x5, x6, x7, x8, x9, x10, x11, x12⟩, _⟩ := X.c13
      have Xl := X.lt
      by_cases hkn : k < 8
      · have hkz : (k : Int) < 8 := by omega
        have OUk := OU.out.at_.below b3 b3.size
        have OUk := Lib.hid OUk
        go_wp2_with fail
        (with_reducible refine (contains_any Au cu _ U (k : Int) _ (by omega) OUk.out).mono ?_); rintro o w4 ⟨rfl, rfl⟩
        rw [HUP.out k]
        cases hac : actAt d.2.2.1 k with
        | true =>
          have HA := Lib.hid (show ∀ j, j < k + 1 → cleanAt d j = true from fun j hj => by
            by_cases e : j = k
            · subst e; unfold cleanAt; rw [hac]; rfl
            · exact HA.out j (by omega))
          go_wp2
          exact ⟨⟨k + 1, by omega, by go_num, b, b3, X, HA⟩, by simp [intOf]; omega⟩
        | false =>
          have HAC := Lib.hid hac
          clear hac
          go_wp2_with fail
          clear x0 x1 x2 x3 x4 x5 x6 x7 x8 x9 x10 x11 x12 Xl
          (with_reducible refine (implHeldD A5 c5 B d.2.1 ((k : Int) + 1) _ hc3 (Nat.le_trans hB b.size) (r5.keep b hB)).mono ?_); rintro o w5 ⟨Ah, ch, rfl, _, hb⟩
          have b3 := b3.trans (hb.mono b3.size)
          have X := X.next hb
          have b := b.trans (hb.mono b.size)
          clear hb
          obtain ⟨⟨x0, x1, x2, x3, x4, x5, x6, x7, x8, x9, x10, x11, x12⟩, _⟩ := X.c13
          have Xl := X.lt
          have HK := Lib.hid (show cleanAt d k = lkAt (toT d.2.1) ((k : Int) + 1) by unfold cleanAt; rw [HAC.out]; rfl)
          have HLK := Lib.hid (show lkAt (toT d.2.1) ((k : Int) + 1) = (decide ((heldL (toT d.2.1) ((k : Int) + 1)).length = 0) && decide (waitK (toT d.2.1) ((k : Int) + 1) < 0)) from rfl)
          generalize (heldL (toT d.2.1) ((k : Int) + 1)).length = nh at HLK ⊢
          by_cases hh : 0 < nh
          · have HF := Lib.hid (clean_bad hkn (by rw [HK.out, HLK.out]; simp; omega))
            have hhz : (0 : Int) < (nh : Int) := by omega
            clear hh
            go_wp2
            go_ret
            exact ⟨ret_bool HF.out.symm, b⟩
          · obtain rfl : nh = 0 := by omega
            clear hh
            go_wp2_with fail
            clear x0 x1 x2 x3 x4 x5 x6 x7 x8 x9 x10 x11 x12 Xl
            (with_reducible refine (implWaitsD A5 c5 B d.2.1 ((k : Int) + 1) _ hc3 (Nat.le_trans hB b.size) (r5.keep b hB)).mono ?_); rintro o w6 ⟨rfl, hb⟩
            have b3 := b3.trans (hb.mono b3.size)
            have X := X.next hb
            have b := b.trans (hb.mono b.size)
            clear hb
            obtain ⟨⟨x0, x1, x2, x3, x4, x5, x6, x7, x8, x9, x10, x11, x12⟩, _⟩ := X.c13
            have Xl := X.lt
            generalize waitK (toT d.2.1) ((k : Int) + 1) = z at HLK ⊢
            by_cases hz : 0 ≤ z
            · have HF := Lib.hid (clean_bad hkn (by rw [HK.out, HLK.out]; simp; omega))
              go_wp2
              go_ret
              exact ⟨ret_bool HF.out.symm, b⟩
            · have HA := Lib.hid (show ∀ j, j < k + 1 → cleanAt d j = true from fun j hj => by
                by_cases e : j = k
                · subst e; rw [HK.out, HLK.out]; simp; omega
                · exact HA.out j (by omega))
              go_wp2
              exact ⟨⟨k + 1, by omega, by go_num, b, b3, X, HA⟩, by simp [intOf]; omega⟩
      · obtain rfl : k = 8 := by omega
        have HT := Lib.hid (clean_yes H1.out HA.out)
        go_wp2
        go_ret
        exact ⟨ret_bool HT.out.symm, b⟩
set_option maxHeartbeats 6400000 in
set_option maxRecDepth 100000 in
theorem specClean_any (d : DEngine) (B : Nat) (vs : List Value) (w : World) (hs : fEngine.cnt d ≤ 1048576) (hB : B ≤ w.heap.size) (h : fEngine.At w B d vs) :
    Calls Tryz.prog 21 #[.agg vs.toArray] w fun e w' => e = .returned (.bool (cleanB d)) ∧ Below w.heap.size w w' := by
  obtain ⟨A5, c5, A6, c6, A7, c7, A10, c10, rfl, r5, r6, r7, r10⟩ := at_Engine h
  have hct := cnt_Engine d
  have hc2 := cnt_Table d.2.1
  have hc3 : (rowF fCell).cnt d.2.1 ≤ 1048576 := by omega
  have hmx := r6.1
  unfold maxLen at hmx
  have HAT := Lib.hid h
  clear hct hc2 h
  go_enter Tryz.func21, Tryz.ntmps21
  go_wp2_with fail
  have b := (Below.refl w.heap.size w).alloc (Nat.le_refl _) (.cells #[.int .i64 d.1.1, .int .i64 d.1.2.1, .int .i64 d.1.2.2.1, .bool d.1.2.2.2.1, .int .i64 d.1.2.2.2.2, .slice A5 (d.2.1).length c5, .slice A6 (d.2.2.1).length c6, .slice A7 (d.2.2.2.1).length c7, .int .i64 d.2.2.2.2.1, .int .i64 d.2.2.2.2.2.1, .slice A10 (d.2.2.2.2.2.2.1).length c10, .int .i64 d.2.2.2.2.2.2.2.1, .int .i64 d.2.2.2.2.2.2.2.2] 41)
  have X := Bx.new (w := w) (c := #[.int .i64 d.1.1, .int .i64 d.1.2.1, .int .i64 d.1.2.2.1, .bool d.1.2.2.2.1, .int .i64 d.1.2.2.2.2, .slice A5 (d.2.1).length c5, .slice A6 (d.2.2.1).length c6, .slice A7 (d.2.2.2.1).length c7, .int .i64 d.2.2.2.2.1, .int .i64 d.2.2.2.2.2.1, .slice A10 (d.2.2.2.2.2.2.1).length c10, .int .i64 d.2.2.2.2.2.2.2.1, .int .i64 d.2.2.2.2.2.2.2.2]) (t := 41) rfl
  generalize w.alloc (.cells #[.int .i64 d.1.1, .int .i64 d.1.2.1, .int .i64 d.1.2.2.1, .bool d.1.2.2.2.1, .int .i64 d.1.2.2.2.2, .slice A5 (d.2.1).length c5, .slice A6 (d.2.2.1).length c6, .slice A7 (d.2.2.2.1).length c7, .int .i64 d.2.2.2.2.1, .int .i64 d.2.2.2.2.2.1, .slice A10 (d.2.2.2.2.2.2.1).length c10, .int .i64 d.2.2.2.2.2.2.2.1, .int .i64 d.2.2.2.2.2.2.2.2] 41) = w1 at b X ⊢
  obtain ⟨⟨x0, x1, x2, x3, x4, x5, x6, x7, x8, x9, x10, x11, x12⟩, _⟩ := X.c13
  have Xl := X.lt
  go_wp2_with fail
  clear x0 x1 x2 x3 x4 x5 x6 x7 x8 x9 x10 x11 x12 Xl
  (with_reducible refine (specEngineOk_any d B _ _ hs (Nat.le_trans hB b.size) (fEngine.at_same HAT.out (.of b hB))).mono ?_); rintro o w2 ⟨rfl, hb⟩
  have X := X.next hb
  have b := b.trans (hb.mono b.size)
  clear hb
  obtain ⟨⟨x0, x1, x2, x3, x4, x5, x6, x7, x8, x9, x10, x11, x12⟩, _⟩ := X.c13
  have Xl := X.lt
  cases h1 : engOk d with
  | false =>
    have HF := Lib.hid (clean_no h1)
    go_wp2
    go_ret
    exact ⟨ret_bool HF.out.symm, b⟩
  | true =>
    have H1 := Lib.hid h1
    clear h1
    go_wp2_with fail
    go_loopw [3] (fun i wr => ∃ k : Nat, k ≤ 8 ∧ i = .int .i64 ((k : Int) + 1) ∧ Below w.heap.size w wr ∧ Bx wr w.heap.size [.int .i64 d.1.1, .int .i64 d.1.2.1, .int .i64 d.1.2.2.1, .bool d.1.2.2.2.1, .int .i64 d.1.2.2.2.2, .slice A5 (d.2.1).length c5, .slice A6 (d.2.2.1).length c6, .slice A7 (d.2.2.2.1).length c7, .int .i64 d.2.2.2.2.1, .int .i64 d.2.2.2.2.2.1, .slice A10 (d.2.2.2.2.2.2.1).length c10, .int .i64 d.2.2.2.2.2.2.2.1, .int .i64 d.2.2.2.2.2.2.2.2] ∧ Hid (∀ j, j < k → cleanAt d j = true)) (fun i _ => 9 - (intOf i).toNat)
    case atStart => exact ⟨0, Nat.zero_le _, rfl, b, X, Lib.hid (fun j hj => absurd hj (by omega))⟩
    case round =>
      clear x0 x1 x2 x3 x4 x5 x6 x7 x8 x9 x10 x11 x12 Xl X b
      obtain ⟨k, hk, rfl, b, X, HA⟩ := hrel
      obtain ⟨⟨x0, x1, x2, x3, x4, x5, x6, x7, x8, x9, x10, x11, x12⟩, _⟩ := X.c13
      have Xl := X.lt
      have hkz0 : (0 : Int) ≤ k := by omega
      by_cases hkn : k < 8
      · have hkz : (k : Int) < 8 := by omega
        have hkz1 : (k : Int) + 1 ≤ 8 := by omega
        have hsub : (k : Int) + 1 - 1 = k := by omega
        by_cases hkw : k < d.2.2.1.length
        · obtain ⟨bb, off, hA6, hbB, hc⟩ := r6.2 (by omega)
          have hkwz : (k : Int) < d.2.2.1.length := by omega
          have hget : d.2.2.1[k]? = some d.2.2.1[k] := List.getElem?_eq_getElem hkw
          obtain ⟨v, hv0, hat0⟩ := hc k _ hget
          have hsz := b.size
          have hat := fWorker.at_same hat0 (.of b hB)
          have hv := hv0.below b (show bb < w.heap.size by omega)
          rw [show fWorker.n = 9 from rfl] at hv
          clear hv0 hat0
          generalize hx : d.2.2.1[k] = x at hget hat
          have HATW := Lib.hid hat
          have HACS := Lib.hid (act_some hget)
          obtain ⟨A0w, c0w, A5w, c5w, A6w, c6w, A7w, c7w, A8w, c8w, rfl, _, _, _, _, _⟩ := at_Worker hat
          subst hA6
          obtain ⟨a0, a1, a2, a3, a4, a5, a6, a7, a8⟩ := hv.c9
          clear hc hv hx hat hget
          go_wp2_with fail
          (with_reducible refine (specActive_any x B _ _ (Nat.le_trans hB hsz) HATW.out).mono ?_); rintro o w4 ⟨rfl, hb⟩
          clear x0 x1 x2 x3 x4 x5 x6 x7 x8 x9 x10 x11 x12 Xl a0 a1 a2 a3 a4 a5 a6 a7 a8
          have X := X.next hb
          have b := b.trans (hb.mono b.size)
          clear hb
          obtain ⟨⟨x0, x1, x2, x3, x4, x5, x6, x7, x8, x9, x10, x11, x12⟩, _⟩ := X.c13
          have Xl := X.lt
          cases hac : actB x with
          | true =>
            have HA := Lib.hid (show ∀ j, j < k + 1 → cleanAt d j = true from fun j hj => by
              by_cases e : j = k
              · subst e; unfold cleanAt; rw [HACS.out, hac]; rfl
              · exact HA.out j (by omega))
            go_wp2
            exact ⟨⟨k + 1, by omega, by go_num, b, X, HA⟩, by simp [intOf]; omega⟩
          | false =>
            have HAC := Lib.hid (show actAt d.2.2.1 k = false by rw [HACS.out, hac])
            clear hac HATW HACS
            go_wp2_with fail
            clear x0 x1 x2 x3 x4 x5 x6 x7 x8 x9 x10 x11 x12 Xl
            (with_reducible refine (specHeldD A5 c5 B d.2.1 ((k : Int) + 1) _ hc3 (Nat.le_trans hB b.size) (r5.keep b hB)).mono ?_); rintro o w5 ⟨Ah, ch, rfl, _, hb⟩
            have X := X.next hb
            have b := b.trans (hb.mono b.size)
            clear hb
            obtain ⟨⟨x0, x1, x2, x3, x4, x5, x6, x7, x8, x9, x10, x11, x12⟩, _⟩ := X.c13
            have Xl := X.lt
            have HK := Lib.hid (show cleanAt d k = lkAt (toT d.2.1) ((k : Int) + 1) by unfold cleanAt; rw [HAC.out]; rfl)
            have HLK := Lib.hid (show lkAt (toT d.2.1) ((k : Int) + 1) = (decide ((heldL (toT d.2.1) ((k : Int) + 1)).length = 0) && decide (waitK (toT d.2.1) ((k : Int) + 1) < 0)) from rfl)
            generalize (heldL (toT d.2.1) ((k : Int) + 1)).length = nh at HLK ⊢
            by_cases hh : 0 < nh
            · have HF := Lib.hid (clean_bad hkn (by rw [HK.out, HLK.out]; simp; omega))
              have hhz : (0 : Int) < (nh : Int) := by omega
              clear hh
              go_wp2
              go_ret
              exact ⟨ret_bool HF.out.symm, b⟩
            · obtain rfl : nh = 0 := by omega
              clear hh
              go_wp2_with fail
              clear x0 x1 x2 x3 x4 x5 x6 x7 x8 x9 x10 x11 x12 Xl
              (with_reducible refine (specWaitsD A5 c5 B d.2.1 ((k : Int) + 1) _ hc3 (Nat.le_trans hB b.size) (r5.keep b hB)).mono ?_); rintro o w6 ⟨rfl, hb⟩
              have X := X.next hb
              have b := b.trans (hb.mono b.size)
              clear hb
              obtain ⟨⟨x0, x1, x2, x3, x4, x5, x6, x7, x8, x9, x10, x11, x12⟩, _⟩ := X.c13
              have Xl := X.lt
              generalize waitK (toT d.2.1) ((k : Int) + 1) = z at HLK ⊢
              by_cases hz : 0 ≤ z
              · have HF := Lib.hid (clean_bad hkn (by rw [HK.out, HLK.out]; simp; omega))
                go_wp2
                go_ret
                exact ⟨ret_bool HF.out.symm, b⟩
              · have HA := Lib.hid (show ∀ j, j < k + 1 → cleanAt d j = true from fun j hj => by
                  by_cases e : j = k
                  · subst e; rw [HK.out, HLK.out]; simp; omega
                  · exact HA.out j (by omega))
                go_wp2
                exact ⟨⟨k + 1, by omega, by go_num, b, X, HA⟩, by simp [intOf]; omega⟩
        · have HAC := Lib.hid (act_none (l := d.2.2.1) (k := k) (by omega))
          have hkwz : ¬ (k : Int) < d.2.2.1.length := by omega
          have hkwz2 : (d.2.2.1.length : Int) ≤ k := by omega
          go_wp2_with fail
          clear x0 x1 x2 x3 x4 x5 x6 x7 x8 x9 x10 x11 x12 Xl
          (with_reducible refine (specHeldD A5 c5 B d.2.1 ((k : Int) + 1) _ hc3 (Nat.le_trans hB b.size) (r5.keep b hB)).mono ?_); rintro o w5 ⟨Ah, ch, rfl, _, hb⟩
          have X := X.next hb
          have b := b.trans (hb.mono b.size)
          clear hb
          obtain ⟨⟨x0, x1, x2, x3, x4, x5, x6, x7, x8, x9, x10, x11, x12⟩, _⟩ := X.c13
          have Xl := X.lt
          have HK := Lib.hid (show cleanAt d k = lkAt (toT d.2.1) ((k : Int) + 1) by unfold cleanAt; rw [HAC.out]; rfl)
          have HLK := Lib.hid (show lkAt (toT d.2.1) ((k : Int) + 1) = (decide ((heldL (toT d.2.1) ((k : Int) + 1)).length = 0) && decide (waitK (toT d.2.1) ((k : Int) + 1) < 0)) from rfl)
          generalize (heldL (toT d.2.1) ((k : Int) + 1)).length = nh at HLK ⊢
          by_cases hh : 0 < nh
          · have HF := Lib.hid (clean_bad hkn (by rw [HK.out, HLK.out]; simp; omega))
            have hhz : (0 : Int) < (nh : Int) := by omega
            clear hh
            go_wp2
            go_ret
            exact ⟨ret_bool HF.out.symm, b⟩
          · obtain rfl : nh = 0 := by omega
            clear hh
            go_wp2_with fail
            clear x0 x1 x2 x3 x4 x5 x6 x7 x8 x9 x10 x11 x12 Xl
            (with_reducible refine (specWaitsD A5 c5 B d.2.1 ((k : Int) + 1) _ hc3 (Nat.le_trans hB b.size) (r5.keep b hB)).mono ?_); rintro o w6 ⟨rfl, hb⟩
            have X := X.next hb
            have b := b.trans (hb.mono b.size)
            clear hb
            obtain ⟨⟨x0, x1, x2, x3, x4, x5, x6, x7, x8, x9, x10, x11, x12⟩, _⟩ := X.c13
            have Xl := X.lt
            generalize waitK (toT d.2.1) ((k : Int) + 1) = z at HLK ⊢
            by_cases hz : 0 ≤ z
            · have HF := Lib.hid (clean_bad hkn (by rw [HK.out, HLK.out]; simp; omega))
              go_wp2
              go_ret
              exact ⟨ret_bool HF.out.symm, b⟩
            · have HA := Lib.hid (show ∀ j, j < k + 1 → cleanAt d j = true from fun j hj => by
                by_cases e : j = k
                · subst e; rw [HK.out, HLK.out]; simp; omega
                · exact HA.out j (by omega))
              go_wp2
              exact ⟨⟨k + 1, by omega, by go_num, b, X, HA⟩, by simp [intOf]; omega⟩
      · obtain rfl : k = 8 := by omega
        have HT := Lib.hid (clean_yes H1.out HA.out)
        go_wp2
        go_ret
        exact ⟨ret_bool HT.out.symm, b⟩
end Go.Proofs.YtomkfldimkpmdaaGreat
