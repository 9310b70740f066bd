/- Contracts of the functions that RunSerial calls: copies of integers, the checks, the acts' methods. -/
import Derived.Test.YtkpkjcmoldkmmaaGreatKeysu
import Derived.Lib.LazyBuf
namespace Go.Proofs.YtkpkjcmoldkmmaaGreat
open Go.RowKit

theorem ownsRow_below {w w' : World} {B base size n : Nat} {e : TypeId} {v : Value} {xs : List Value} (h : w.ownsRow base e size v n xs) (hb : Below B w w') (hB : w.heap.size ≤ B) : w'.ownsRow base e size v n xs := by
  refine ⟨h.1, ?_⟩
  rcases h.2 with h' | ⟨g, cap, cur, h1, h2, h3, h4⟩
  · exact .inl h'
  · refine .inr ⟨g, cap, cur, h1, h2, ?_, h4⟩
    rw [hb.block g (by have := (Array.getElem?_eq_some_iff.1 h3).1; omega)]
    exact h3

/-- the first k integers -/
def firstI (f : Nat → Int) (k : Nat) : List Int := (List.range k).map f
theorem firstI_succ (f : Nat → Int) (k : Nat) : firstI f (k + 1) = firstI f k ++ [f k] := by simp [firstI, List.range_succ]
theorem firstI_len (f : Nat → Int) (k : Nat) : (firstI f k).length = k := by simp [firstI]
theorem firstI_get (f : Nat → Int) (k j : Nat) (h : j < k) : (firstI f k).getD j 0 = f j := by simp [firstI, h]

set_option maxHeartbeats 400000 in
theorem l01Copy_any (A : Option Addr) (n cap : Nat) (f : Nat → Int) (w : World) (hn : n ≤ 1048576) (hr : IntsAt w w.heap.size A n f) :
    Calls Tryz.prog 111 #[.slice A n cap] w (OwnsOut w (firstI f n)) := by
  obtain ⟨i0, hi, hz0, hz1, hz2⟩ := info_parts infoInt
  go_enter Tryz.func111, Tryz.ntmps111
  go_wp2
  go_loopw [3, 4] (fun v i wr => ∃ k : Nat, k ≤ n ∧ i = .int .i64 k ∧ wr.ownsRow w.heap.size 3 1 v k ((firstI f k).map (.int .i64)) ∧ Below w.heap.size w wr) (fun _ i _ => n - (intOf i).toNat)
  case atStart => exact ⟨0, Nat.zero_le _, rfl, World.ownsRow_made w #[] 0 (Nat.le_refl _) (Nat.zero_le _) rfl, (Below.refl _ _).alloc (Nat.le_refl _) _⟩
  case round =>
    obtain ⟨k, hk, rfl, hown, hb⟩ := hrel
    by_cases hkn : k < n
    · obtain ⟨b, off, rfl, hB, hc⟩ := hr (by omega)
      have hkz : (k : Int) < n := by omega
      have d0 : wr.cell? ⟨b, off + k, none⟩ = some (.int .i64 (f k)) := (hb.cell (p := ⟨b, off + k, none⟩) hB).trans (hc k hkn)
      have hs := hb.size
      have Hy := Lib.hid (firstI_succ f k)
      clear hc hr
      go_wp2_with (at_builtin; refine wpList_append_own _ rfl _ _ 28 rfl w.heap.size 3 i0 (.int .i64 0) 1 8 Tryz.underlying28 hi hz0 hz1 hz2 rfl (by decide) _ _ _ rfl (hown.alloc _) ⟨wr.heap.size, 0, none⟩ 1 1 [.int .i64 (f k)] rfl rfl ?c1 ?c2 ?c3 ?c4 ?c5 ?_)
      case c1 =>
        intro j u hj
        match j, hj with
        | 0, hj => simp at hj; subst hj; simp [Addr.add]
      case c2 => intro u hu; simp at hu; subst hu; rfl
      case c3 => unfold maxLen; omega
      case c4 => omega
      case c5 => simp; omega
      intro v' w1 hown' hgrow _
      have hb' := (hb.alloc hs _).grown hgrow (by simp; omega) (fun q hq => (hown.lt q hq).1)
      have hown2 : w1.ownsRow w.heap.size 3 1 v' (k + 1) ((firstI f (k + 1)).map (.int .i64)) := by rw [Hy.out]; simpa using hown'
      clear hown' hgrow hown hb d0 hi hz0 hz1 hz2
      go_wp2
      exact ⟨⟨k + 1, by omega, by go_num, hown2, hb'⟩, by simp [intOf]; omega⟩
    · obtain rfl : k = n := by omega
      go_wp2
      go_ret
      exact ⟨_, rfl, by rw [firstI_len]; exact hown, hb⟩

theorem ints_one (f : Nat → Int) (n : Nat) : ∀ u ∈ (firstI f n).map (Value.int .i64), u.oneCell' = true := by
  intro u hu
  obtain ⟨x, _, rfl⟩ := List.mem_map.1 hu
  rfl

set_option maxHeartbeats 400000 in
theorem clone_any (b off n cap : Nat) (f : Nat → Int) (w : World) (hn : n ≤ 1048576) (hB : b < w.heap.size) (hc : ∀ j, j < n → w.cell? ⟨b, off + j, none⟩ = some (.int .i64 (f j))) :
    Calls Tryz.prog 123 #[.slice (some ⟨b, off, none⟩) n cap] w (OwnsOut w (firstI f n)) := by
  obtain ⟨i0, hi, hz0, hz1, hz2⟩ := info_parts infoInt
  have hnil := fun w => Lib.run_eql_slice_nil (P := Tryz.prog) w 28 3 (some ⟨b, off, none⟩) n cap 0 0 Tryz.underlying28
  go_enter Tryz.func123, Tryz.ntmps123
  go_wp2_with (at_builtin; refine wpList_append_own _ rfl _ _ 28 rfl w.heap.size 3 i0 (.int .i64 0) 1 8 Tryz.underlying28 hi hz0 hz1 hz2 rfl (by decide) _ 0 [] rfl (World.ownsRow_made w #[] 0 (Nat.le_refl _) (Nat.zero_le _) rfl) ⟨b, off, none⟩ n cap ((firstI f n).map (.int .i64)) rfl (by simp [firstI_len]) ?c1 (ints_one f n) ?c3 ?c4 ?c5 ?_)
  case c1 =>
    intro j u hj
    have hj' : j < n := by
      rcases Nat.lt_or_ge j n with h | h
      · exact h
      · rw [List.getElem?_eq_none (by simp [firstI_len]; omega)] at hj; cases hj
    have hu : u = .int .i64 (f j) := by simpa [firstI, hj'] using hj.symm
    subst hu
    have h0 : ((⟨b, off, none⟩ : Addr).add j) = ⟨b, off + j, none⟩ := by
      by_cases hj0 : j = 0
      · subst hj0; rfl
      · simp [Addr.add, hj0]
    rw [h0, World.cell?_alloc_lt _ _ _ hB]
    exact hc j hj'
  case c3 => unfold maxLen; omega
  case c4 => omega
  case c5 => simp
  intro v' w1 hown' hgrow _
  have hb' := ((Below.refl w.heap.size w).alloc (Nat.le_refl _) (.cells #[] 3)).grown hgrow (by simp) (fun q hq => by simp [Value.ownBlock] at hq; omega)
  have hown2 : w1.ownsRow w.heap.size 3 1 v' n ((firstI f n).map (.int .i64)) := by simpa using hown'
  clear hown' hgrow hnil hi hz0 hz1 hz2
  go_wp2
  go_ret
  exact ⟨_, rfl, by rw [firstI_len]; exact hown2, hb'⟩

theorem run_make_ints (n : Nat) (h : n ≤ 1048576) (w : World) : (Instr.makeSlice 28 (.int .i64 (n : Int)) (.int .i64 (n : Int))).run Tryz.prog w = .ok (.slice (some ⟨w.heap.size, 0, none⟩) n n) (w.alloc (.cells (madeCells #[.int .i64 0] n) 3)) :=
  run_make_row' (P := Tryz.prog) 28 3 (.int .i64 0) 8 Tryz.underlying28 infoInt rfl .i64 .i64 n (by omega) (by omega) w

set_option maxHeartbeats 400000 in
theorem toIntS_any (A : Option Addr) (n cap : Nat) (f : Nat → Int) (w : World) (hn : n ≤ 1048576) (hr : IntsAt w w.heap.size A n f) :
    Calls Tryz.prog 33 #[.slice A n cap] w fun e w' => e = .returned (.slice (some ⟨w.heap.size, 0, none⟩) n n) ∧ Below w.heap.size w w' ∧ w'.rowIs w.heap.size 3 n (fun j => .int .i64 (f j)) := by
  have hmk := run_make_ints n hn
  go_enter Tryz.func33, Tryz.ntmps33
  go_wp2
  clear hmk
  go_loopw [4] (fun i wr => ∃ k : Nat, k ≤ n ∧ i = .int .i64 k ∧ Below w.heap.size w wr ∧ wr.rowIs w.heap.size 3 n (fun j => .int .i64 (if j < k then f j else 0))) (fun i _ => n - (intOf i).toNat)
  case atStart => exact ⟨0, Nat.zero_le _, rfl, (Below.refl _ _).alloc (Nat.le_refl _) _, (World.rowIs_made w (.int .i64 0) n _).congr (fun j _ => by simp)⟩
  case round =>
    obtain ⟨k, hk, rfl, hb, hrow⟩ := hrel
    by_cases hkn : k < n
    · obtain ⟨b, off, rfl, hB, hc⟩ := hr (by omega)
      have hkz : (k : Int) < n := by omega
      have c0 : wr.cell? ⟨b, off + k, none⟩ = some (.int .i64 (f k)) := (hb.cell (p := ⟨b, off + k, none⟩) hB).trans (hc _ (by omega))
      have s0 : wr.cell? ⟨w.heap.size, k, none⟩ = some (.int .i64 0) := by rw [hrow.cell (by omega), if_neg (by omega)]
      have r0 : wr.frozen? ⟨w.heap.size, k, none⟩ = false := hrow.frozen _
      have Hrow1 := Lib.hid ((hrow.set k (.int .i64 (f k))).congr (g := fun j => .int .i64 (if j < k + 1 then f j else 0)) (fun j _ => by
        by_cases e : j = k
        · subst e; rw [if_pos rfl, if_pos (by omega)]
        · rw [if_neg e]
          by_cases hlt : j < k
          · rw [if_pos hlt, if_pos (by omega)]
          · rw [if_neg hlt, if_neg (by omega)]))
      clear hrow hc hr
      go_wp2
      exact ⟨⟨k + 1, by omega, by go_num, hb.setCell (Nat.le_refl _) _, Hrow1.out⟩, by simp [intOf]; omega⟩
    · obtain rfl : k = n := by omega
      go_wp2
      go_ret
      exact ⟨rfl, hb, hrow.congr (fun j hj => by simp [hj])⟩

/-- a sum is kept within the values -/
def cut (x : Int) : Int := if 1000000 < x then 1000000 else if x < -1000000 then -1000000 else x
theorem cut_hi {x : Int} (h : 1000000 < x) : cut x = 1000000 := by unfold cut; rw [if_pos h]
theorem cut_lo {x : Int} (h : ¬ 1000000 < x) (h' : x < -1000000) : cut x = -1000000 := by unfold cut; rw [if_neg h, if_pos h']
theorem cut_mid {x : Int} (h : ¬ 1000000 < x) (h' : ¬ x < -1000000) : cut x = x := by unfold cut; rw [if_neg h, if_neg h']
theorem cut_range (x : Int) : -1000000 ≤ cut x ∧ cut x ≤ 1000000 := by unfold cut; split; · omega
                                                                       · split <;> omega
theorem ret_num {a b : Int} (h : a = b) : Ending.returned (.int .i64 a) = .returned (.int .i64 b) := by rw [h]

theorem l01Cut_any (x : Int) (w : World) : Calls Tryz.prog 112 #[.int .i64 x] w fun e w' => e = .returned (.int .i64 (cut x)) ∧ w = w' := by
  by_cases h : 1000000 < x
  · go_enter Tryz.func112, Tryz.ntmps112
    go_wp2
    go_ret
    exact ⟨ret_num (cut_hi h).symm, rfl⟩
  · by_cases h' : x < -1000000
    · go_enter Tryz.func112, Tryz.ntmps112
      go_wp2
      go_ret
      exact ⟨ret_num (cut_lo (by omega) h').symm, rfl⟩
    · go_enter Tryz.func112, Tryz.ntmps112
      go_wp2
      go_ret
      exact ⟨ret_num (cut_mid (by omega) (by omega)).symm, rfl⟩

/-- all values are in range -/
def valsOk (L : Nat) (v : Nat → Int) : Bool := (List.range L).all fun j => inB (v j) (-1000000) 1000000
theorem valsOk_true {L : Nat} {v : Nat → Int} (h : ∀ j, j < L → inB (v j) (-1000000) 1000000 = true) : valsOk L v = true := by
  simp only [valsOk, List.all_eq_true, List.mem_range]
  exact h
theorem valsOk_false {L j : Nat} {v : Nat → Int} (hj : j < L) (h : inB (v j) (-1000000) 1000000 = false) : valsOk L v = false := by
  rw [Bool.eq_false_iff]
  intro hp
  simp only [valsOk, List.all_eq_true, List.mem_range] at hp
  rw [hp j hj] at h
  cases h
theorem valsOk_get {L j : Nat} {v : Nat → Int} (h : valsOk L v = true) (hj : j < L) : -1000000 ≤ v j ∧ v j ≤ 1000000 := by
  simp only [valsOk, List.all_eq_true, List.mem_range] at h
  have := h j hj
  simp only [inB, Bool.and_eq_true, decide_eq_true_eq] at this
  exact this

theorem valuesOk_any (A : Option Addr) (n cap : Nat) (f : Nat → Int) (w : World) (hn : n ≤ 1048576) (hr : IntsAt w w.heap.size A n f) :
    Calls Tryz.prog 172 #[.slice A n cap] w fun e w' => e = .returned (.bool (valsOk n f)) ∧ w = w' := by
  go_enter Tryz.func172, Tryz.ntmps172
  go_wp2
  go_loop [7] (fun i => ∃ k : Nat, k ≤ n ∧ i = .int .i64 k ∧ ∀ j, j < k → inB (f j) (-1000000) 1000000 = true) (fun i => n - (intOf i).toNat)
  case atStart => exact ⟨0, Nat.zero_le _, rfl, fun j hj => absurd hj (by omega)⟩
  case round =>
    obtain ⟨k, hk, rfl, hall⟩ := hrel
    have Hall := Lib.hid hall
    clear hall
    by_cases hkn : k < n
    · obtain ⟨b, off, rfl, hB, hc⟩ := hr (by omega)
      have hkz : (k : Int) < n := by omega
      have c0 : w.cell? ⟨b, off + k, none⟩ = some (.int .i64 (f k)) := hc _ (by omega)
      clear hc hr
      go_wp2_with fail
      refine (implValue_any _ _).mono ?_; rintro e w' ⟨rfl, rfl⟩
      cases hv : inB (f k) (-1000000) 1000000 with
      | true =>
        go_wp2
        exact ⟨⟨k + 1, by omega, by go_num, fun j hj => by
          by_cases e : j = k
          · subst e; exact hv
          · exact Hall.out j (by omega)⟩, by simp [intOf]; omega⟩
      | false =>
        go_wp2
        go_ret
        exact ⟨ret_bool (valsOk_false hkn hv).symm, rfl⟩
    · obtain rfl : k = n := by omega
      go_wp2
      go_ret
      exact ⟨ret_bool (valsOk_true Hall.out).symm, rfl⟩

/-- every act's key has a value -/
def keysIn (L n : Nat) (f : Nat → Int) : Bool := (List.range n).all fun i => decide (f (i * 3 + 1) < (L : Int))
theorem keysIn_true {L n : Nat} {f : Nat → Int} (h : ∀ i, i < n → f (i * 3 + 1) < (L : Int)) : keysIn L n f = true := by
  simp only [keysIn, List.all_eq_true, List.mem_range, decide_eq_true_eq]
  exact h
theorem keysIn_get {L n i : Nat} {f : Nat → Int} (h : keysIn L n f = true) (hi : i < n) : f (i * 3 + 1) < (L : Int) := by
  simp only [keysIn, List.all_eq_true, List.mem_range, decide_eq_true_eq] at h
  exact h i hi
theorem keysIn_false {L n i : Nat} {f : Nat → Int} (hi : i < n) (h : ¬ f (i * 3 + 1) < (L : Int)) : keysIn L n f = false := by
  rw [Bool.eq_false_iff]
  intro hp
  exact h (keysIn_get hp hi)

/-- RunSerial can run -/
def runOk (L : Nat) (v : Nat → Int) (n : Nat) (f : Nat → Int) : Bool := inB L 1 8 && valsOk L v && progOk n f && keysIn L n f

set_option maxHeartbeats 400000 in
theorem canRun_any (A1 A2 : Option Addr) (L n c1 c2 : Nat) (v f : Nat → Int) (w : World) (hL : L ≤ 1048576) (h1 : IntsAt w w.heap.size A1 L v) (h2 : IntsAt w w.heap.size A2 (n * 3) f) :
    Calls Tryz.prog 124 #[.slice A1 L c1, .slice A2 n c2] w fun e w' => e = .returned (.bool (runOk L v n f)) ∧ Below w.heap.size w w' := by
  by_cases hlo : L < 1
  · have hlo' : (L : Int) < 1 := by omega
    have hin : inB L 1 8 = false := by simp [inB]; omega
    go_enter Tryz.func124, Tryz.ntmps124
    go_wp2
    go_ret
    exact ⟨ret_bool (by simp [runOk, hin]), Below.refl _ _⟩
  by_cases hhi : 8 < L
  · have hlo' : ¬ (L : Int) < 1 := by omega
    have hhi' : (8 : Int) < L := by omega
    have hin : inB L 1 8 = false := by simp [inB]; omega
    go_enter Tryz.func124, Tryz.ntmps124
    go_wp2
    go_ret
    exact ⟨ret_bool (by simp [runOk, hin]), Below.refl _ _⟩
  have hlo' : ¬ (L : Int) < 1 := by omega
  have hhi' : ¬ (8 : Int) < L := by omega
  have HIN := Lib.hid (show inB L 1 8 = true by simp [inB]; omega)
  cases hv : valsOk L v with
  | false =>
    go_enter Tryz.func124, Tryz.ntmps124
    go_wp2_with fail
    refine (valuesOk_any _ _ _ v _ hL h1).mono ?_; rintro e w' ⟨rfl, rfl⟩
    rw [hv]
    go_wp2
    go_ret
    exact ⟨ret_bool (by simp [runOk, HIN.out, hv]), Below.refl _ _⟩
  | true =>
    have HV := Lib.hid hv
    cases hp : progOk n f with
    | false =>
      have HP := Lib.hid hp
      go_enter Tryz.func124, Tryz.ntmps124
      go_wp2_with fail
      refine (valuesOk_any _ _ _ v _ hL h1).mono ?_; rintro e w' ⟨rfl, rfl⟩
      rw [hv]
      clear hv
      go_wp2_with fail
      refine (implProgOk_any _ _ _ f _ h2).mono ?_; rintro e w2 ⟨rfl, hb2⟩
      rw [hp]
      clear hp
      go_wp2
      go_ret
      exact ⟨ret_bool (by simp [runOk, HP.out]), hb2⟩
    | true =>
      have HP := Lib.hid hp
      have h16 := prog_len hp
      obtain ⟨b, off, rfl, hB, hc⟩ := h2 (by omega)
      go_enter Tryz.func124, Tryz.ntmps124
      go_wp2_with fail
      refine (valuesOk_any _ _ _ v _ hL h1).mono ?_; rintro e w' ⟨rfl, rfl⟩
      rw [hv]
      clear hv
      go_wp2_with fail
      refine (implProgOk_any _ _ _ f _ h2).mono ?_; rintro e w2 ⟨rfl, hb2⟩
      rw [hp]
      clear hp h1 h2
      go_wp2
      go_loopw [27] (fun i wr => ∃ k : Nat, k ≤ n ∧ i = .int .i64 k ∧ Below w.heap.size w wr ∧ ∀ i, i < k → f (i * 3 + 1) < (L : Int)) (fun i _ => n - (intOf i).toNat)
      case atStart => exact ⟨0, Nat.zero_le _, rfl, hb2, fun i hi => absurd hi (by omega)⟩
      case round =>
        obtain ⟨k, hk, rfl, hb, hall⟩ := hrel
        have Hall := Lib.hid hall
        clear hall
        by_cases hkn : k < n
        · have hkz : (k : Int) < n := by omega
          have d0 : wr.cell? ⟨b, off + k * 3, none⟩ = some (.int .i64 (f (k * 3))) := (hb.cell (p := ⟨b, off + k * 3, none⟩) hB).trans (hc _ (by omega))
          have d1 : wr.cell? ⟨b, off + k * 3 + 1, none⟩ = some (.int .i64 (f (k * 3 + 1))) := (hb.cell (p := ⟨b, off + k * 3 + 1, none⟩) hB).trans (hc (k * 3 + 1) (by omega))
          have d2 : wr.cell? ⟨b, off + k * 3 + 2, none⟩ = some (.int .i64 (f (k * 3 + 2))) := (hb.cell (p := ⟨b, off + k * 3 + 2, none⟩) hB).trans (hc (k * 3 + 2) (by omega))
          clear hc
          have hs := hb.size
          by_cases hkey : f (k * 3 + 1) < (L : Int)
          · go_wp2
            exact ⟨⟨k + 1, by omega, by go_num, hb.alloc hs _, fun i hi => by
              by_cases e : i = k
              · subst e; exact hkey
              · exact Hall.out i (by omega)⟩, by simp [intOf]; omega⟩
          · have hkey' : (L : Int) ≤ f (k * 3 + 1) := by omega
            go_wp2
            go_ret
            exact ⟨ret_bool (by simp [runOk, keysIn_false hkn (show ¬ f (k * 3 + 1) < (L : Int) by omega)]), hb.alloc hs _⟩
        · obtain rfl : k = n := by omega
          go_wp2
          go_ret
          exact ⟨ret_bool (by simp [runOk, HIN.out, HV.out, HP.out, keysIn_true Hall.out]), hb⟩
end Go.Proofs.YtkpkjcmoldkmmaaGreat
