/- The draws of heats, another code, and the helpers of the law FnWants. -/
import Derived.Test.YtognfnfbmbfidaaVd
import Derived.Deep.AppendLies
namespace Go.Proofs.Ytognfnfbmbfidaa
open Go.RowKit

/-- x is among the first n -/
def wth (n : Nat) (l : Nat → Int) (x : Int) : Bool := (List.range n).any fun j => l j == x
theorem wth_true {n k : Nat} {l : Nat → Int} {x : Int} (hk : k < n) (h : l k = x) : wth n l x = true := by
  simp only [wth, List.any_eq_true, List.mem_range, beq_iff_eq]
  exact ⟨k, hk, h⟩
theorem wth_false {n : Nat} {l : Nat → Int} {x : Int} (h : ∀ j, j < n → ¬ l j = x) : wth n l x = false := by
  rw [Bool.eq_false_iff]
  simp only [wth, List.any_eq_true, List.mem_range, beq_iff_eq, ne_eq, not_exists, not_and]
  exact h

theorem withinL_any (A : Option Addr) (n cap B : Nat) (l : Nat → Int) (x : Int) (w : World) (hn : n ≤ 1048576) (hr : IntsAt w B A n l) :
    Calls Try.prog 26 #[.slice A n cap, .int .i64 x] w fun e w' => e = .returned (.bool (wth n l x)) ∧ w = w' := by
  go_enter Try.func26, Try.ntmps26
  go_wp2
  go_loop [5] (fun i => ∃ k : Nat, k ≤ n ∧ i = .int .i64 k ∧ ∀ j, j < k → ¬ l j = x) (fun i => n - (intOf i).toNat)
  case atStart => exact ⟨0, Nat.zero_le _, rfl, fun j hj => absurd hj (by omega)⟩
  case round =>
    obtain ⟨k, hk, rfl, hall⟩ := hrel
    have Hall := Lib.hid hall
    clear hall
    by_cases hkn : k < n
    · obtain ⟨b, off, rfl, hB, hc⟩ := hr (by omega)
      have hkz : (k : Int) < n := by omega
      have c0 : w.cell? ⟨b, off + k, none⟩ = some (.int .i64 (l k)) := hc _ (by omega)
      clear hc hr
      by_cases hv : l k = x
      · have HW := Lib.hid (wth_true hkn hv)
        rw [hv] at c0
        clear hv
        go_wp2
        go_ret
        exact ⟨ret_bool HW.out.symm, rfl⟩
      · go_wp2
        exact ⟨⟨k + 1, by omega, by go_num, fun j hj => by
          by_cases e : j = k
          · subst e; exact hv
          · exact Hall.out j (by omega)⟩, by simp [intOf]; omega⟩
    · obtain rfl : k = n := by omega
      go_wp2
      go_ret
      exact ⟨ret_bool (wth_false Hall.out).symm, rfl⟩

theorem big_any (A : Option Addr) (n cap : Nat) (w : World) :
    Calls Try.prog 14 #[.slice A n cap] w fun e w' => e = .returned (.bool (decide ((1048576 : Int) < n))) ∧ w = w' := by
  go_enter Try.func14, Try.ntmps14
  go_wp2
  go_ret
  exact ⟨rfl, rfl⟩

theorem same_eq (A1 A2 : Option Addr) (n c1 c2 B1 B2 : Nat) (f : Nat → Int) (w : World) (hn : n ≤ maxLen) (h1 : IntsAt w B1 A1 n f) (h2 : IntsAt w B2 A2 n f) :
    Calls Try.prog 23 #[.slice A1 n c1, .slice A2 n c2] w fun e w' => e = .returned (.bool true) ∧ Below w.heap.size w w' := by
  unfold maxLen at hn
  go_enter Try.func23, Try.ntmps23
  go_wp2
  go_loopw [5] (fun i wr => ∃ k : Nat, k ≤ n ∧ i = .int .i64 k ∧ ∃ m, wr = w.drewN m) (fun i _ => n - (intOf i).toNat)
  case atStart => exact ⟨0, Nat.zero_le _, rfl, 0, rfl⟩
  case round =>
    obtain ⟨k, hk, rfl, m, rfl⟩ := hrel
    by_cases hkn : k < n
    · obtain ⟨b, off, rfl, _, hc⟩ := h1 (by omega)
      obtain ⟨b', off', rfl, _, hc'⟩ := h2 (by omega)
      have hkz : (k : Int) < n := by omega
      have d0 : w.cell? ⟨b, off + k, none⟩ = some (.int .i64 (f k)) := hc _ hkn
      have d0' : w.cell? ⟨b', off' + k, none⟩ = some (.int .i64 (f k)) := hc' _ hkn
      clear hc hc' h1 h2
      go_wp2_with fail
      go_quiet (fail)
      go_wp2
      exact ⟨⟨k + 1, by omega, by go_num, _, rfl⟩, by simp [intOf]; omega⟩
    · obtain rfl : k = n := by omega
      go_wp2
      go_ret
      exact ⟨rfl, ⟨rfl, rfl, rfl, Nat.le_refl _, fun _ _ => rfl⟩⟩


theorem infoIntD : (Try.prog.info? 3).map (fun i => (i.zero, i.size, i.bytes)) = some (some (.int .i64 0), 1, 8) := by kernel_rfl
theorem infoU8D : (Try.prog.info? 5).map (fun i => (i.zero, i.size, i.bytes)) = some (some (.int .u8 0), 1, 1) := by kernel_rfl
theorem Drawn.firstV {c n cp : Nat} {A : Option Addr} {w w' : World} {o : Obj} (h : Drawn c A n cp (w.alloc o) w') : Drawn c A n cp w w' :=
  ⟨h.cur, (But.of_below ((Below.refl w.heap.size w).alloc (Nat.le_refl _) o) (Nat.le_refl _)).trans (h.but.mono (by simp))⟩
/-- m numbers in memory of the call's own -/
def OwnV (w : World) (lo : Nat) (v : Value) (m : Nat) : Prop := ∃ xs : List Int, xs.length = m ∧ w.ownsRow lo 3 1 v m (xs.map (.int .i64))
theorem OwnV.block {w w' : World} {lo m : Nat} {v : Value} (h : OwnV w lo v m) (hb : ∀ k, k < w.heap.size → lo ≤ k → w'.heap[k]? = w.heap[k]?) : OwnV w' lo v m := by
  obtain ⟨xs, hx, hr⟩ := h
  exact ⟨xs, hx, ownsRow_block' hr hb⟩
theorem OwnV.slice {w : World} {lo m : Nat} {v : Value} (h : OwnV w lo v m) : ∃ a cap, v = .slice a m cap := by
  obtain ⟨xs, hx, h0, h | ⟨g, cap, cur, rfl, _⟩⟩ := h
  · obtain ⟨rfl, rfl⟩ := h; exact ⟨_, _, rfl⟩
  · exact ⟨_, _, rfl⟩
theorem OwnV.ints {w : World} {lo m : Nat} {v : Value} (h : OwnV w lo v m) : ∃ A cap f, v = .slice A m cap ∧ IntsAt w w.heap.size A m f := by
  obtain ⟨xs, hx, hr⟩ := h
  subst hx
  obtain ⟨A, cap, rfl, _, hO⟩ := OwnI.of_owns hr
  exact ⟨A, cap, _, rfl, hO.at_⟩

set_option maxHeartbeats 1600000 in
set_option maxRecDepth 100000 in
theorem DrawHeat_any (c n cp : Nat) (A : Option Addr) (g : Nat → Int) (w : World) (hn : n ≤ 1048576) (hs : St w c n cp A g) :
    Calls Try.prog 61 #[.pointer (some ⟨c, 0, none⟩)] w fun e w' => ∃ v m, m ≤ 9 ∧ e = .returned v ∧ OwnV w' w.heap.size v m ∧ Drawn c A n cp w w' := by
  obtain ⟨ii, hi, hz0, hz1, hz2⟩ := info_parts infoIntD
  have Hi := Lib.hid hi
  have Hz0 := Lib.hid hz0
  have Hz1 := Lib.hid hz1
  have Hz2 := Lib.hid hz2
  clear hi hz0 hz1 hz2
  have hcl := hs.lt
  have hd0 : Drawn c A n cp w w := by
    obtain ⟨i, x, h0, h1, k⟩ := hs.cur
    exact Drawn.refl h0 h1 k
  have HD0 := Lib.hid (hd0.allocV hcl (.cells #[] 3))
  have HV0 : OwnV (w.alloc (.cells #[] 3)) w.heap.size (.slice (some ⟨w.heap.size, 0, none⟩) 0 0) 0 := ⟨[], rfl, World.ownsRow_made w #[] 0 (Nat.le_refl _) (Nat.zero_le _) rfl⟩
  have HV0 := Lib.hid HV0
  clear hd0
  go_enter Try.func61, Try.ntmps61
  go_wp2
  go_loopw [3, 4] (fun u x wr => ∃ k : Nat, (k : Int) ≤ 8 ∧ x = .int .i64 (k : Int) ∧ OwnV wr w.heap.size u k ∧ Drawn c A n cp w wr) (fun _ x _ => (9 - intOf x).toNat)
  case atStart => exact ⟨0, by omega, rfl, HV0.out, HD0.out⟩
  case round =>
    obtain ⟨k, hkn, rfl, hv, hd⟩ := hrel
    have hsr := hs.drawn hd
    have hzr := hd.but.size
    have hsl := hv.slice
    obtain ⟨pa, pc, rfl⟩ := hsl
    clear HD0 HV0
    by_cases hlt : (k : Int) < 8
    · have HVr := Lib.hid hv
      have HDr := Lib.hid hd
      clear hv hd
      go_wp2_with fail
      refine (l01Below_any c n cp A g 8 (by omega) (by omega) _ hn hsr).mono ?_; rintro e w6 ⟨x, _, rfl, hd6⟩
      have hs6 := hsr.drawn hd6
      have hz6 := hd6.but.size
      have hv6 := HVr.out.block (fun k hk hl => hd6.but.block k hk (by omega))
      have HD6 := Lib.hid (HDr.out.trans hd6)
      clear hsr hd6 HVr HDr
      go_wp2_with fail
      have hs7 := hs6.allocV (.cells #[.int .i64 0, .int .i64 1, .int .i64 x, .int .i64 20, .int .i64 19] 3)
      have hv7 := hv6.block (w' := w6.alloc (.cells #[.int .i64 0, .int .i64 1, .int .i64 x, .int .i64 20, .int .i64 19] 3)) (fun k hk _ => Below.heap_alloc _ _ k hk)
      have hcl6 := hs6.lt
      refine (l01PickInt_any c n cp A g _ 0 5 5 (fun j => if j = 0 then 0 else if j = 1 then 1 else if j = 2 then x else if j = 3 then 20 else 19) _ hn hs7 (by omega) (by omega) (by omega) (by simp) (fun j hj => ?_)).mono ?_
      · have h5 : j = 0 ∨ j = 1 ∨ j = 2 ∨ j = 3 ∨ j = 4 := by omega
        rcases h5 with rfl | rfl | rfl | rfl | rfl <;> simp
      rintro e w8 ⟨y, _, rfl, hd8⟩
      have hz8 : w6.heap.size < w8.heap.size := by have := hd8.but.size; simp at this; omega
      obtain ⟨xs, hxl, hox⟩ := hv7.block (fun k hk hl => hd8.but.block k hk (by omega))
      have HD8 := Lib.hid (HD6.out.trans hd8.firstV)
      clear hv6 hv7 hd8 hs6 hs7 HD6
      go_wp2_with (at_builtin; refine wpList_append_own _ rfl _ _ 33 rfl w.heap.size 3 ii (.int .i64 0) 1 8 Try.underlying33 Hi.out Hz0.out Hz1.out Hz2.out rfl (by decide) _ _ _ rfl (hox.alloc _) ⟨w8.heap.size, 0, none⟩ 1 1 [.int .i64 y] rfl rfl ?c1 ?c2 ?c3 ?c4 ?c5 ?_)
      case c1 =>
        intro j u hj
        match j, hj with
        | 0, hj => simp at hj; subst hj; simp [Addr.add]
      case c2 => intro u hu; simp at hu; subst hu; rfl
      case c3 => unfold maxLen; omega
      case c4 => omega
      case c5 => simp; omega
      intro v' w9 hown' hgrow _
      have hb9 : Below w.heap.size w8 w9 := ((Below.refl w.heap.size w8).alloc (by omega) _).grown hgrow (by simp; omega) (fun q hq => (hox.lt q hq).1)
      have hd9 : Drawn c A n cp w w9 := HD8.out.belowV hb9 hcl
      have hv9 : OwnV w9 w.heap.size v' (k + 1) := ⟨xs ++ [y], by simp [hxl], by simpa using hown'⟩
      clear hown' hgrow hox hb9 hxl
      go_wp2
      exact ⟨⟨k + 1, by omega, by go_num, hv9, hd9⟩, by simp [intOf]; omega⟩
    · have hkN : k = 8 := by omega
      subst hkN
      have HVr := Lib.hid hv
      have HDr := Lib.hid hd
      clear hv hd
      go_wp2_with fail
      refine (l01Once_any c n cp A g 12 (by omega) (by omega) _ hn hsr).mono ?_; rintro e w6 ⟨b2, rfl, hd6⟩
      have hs6 := hsr.drawn hd6
      have hz6 := hd6.but.size
      have hv6 := HVr.out.block (fun k hk hl => hd6.but.block k hk (by omega))
      have HD6 := Lib.hid (HDr.out.trans hd6)
      clear hsr hd6 HVr HDr
      cases b2 with
      | false =>
        have HV6 := Lib.hid hv6
        clear hv6
        go_wp2
        go_ret
        exact ⟨_, 8, by omega, rfl, HV6.out, HD6.out⟩
      | true =>
        go_wp2_with fail
        refine (l01Once_any c n cp A g 2 (by omega) (by omega) _ hn hs6).mono ?_; rintro e w7 ⟨b3, rfl, hd7⟩
        have hs7 := hs6.drawn hd7
        have hz7 := hd7.but.size
        have hv7 := hv6.block (fun k hk hl => hd7.but.block k hk (by omega))
        have HD7 := Lib.hid (HD6.out.trans hd7)
        clear hs6 hd7 hv6 HD6
        cases b3 with
        | true =>
          obtain ⟨xs, hxl, hox⟩ := hv7
          go_wp2_with (at_builtin; refine wpList_append_own _ rfl _ _ 33 rfl w.heap.size 3 ii (.int .i64 0) 1 8 Try.underlying33 Hi.out Hz0.out Hz1.out Hz2.out rfl (by decide) _ _ _ rfl (hox.alloc _) ⟨w7.heap.size, 0, none⟩ 1 1 [.int .i64 0] rfl rfl ?d1 ?d2 ?d3 ?d4 ?d5 ?_)
          case d1 =>
            intro j u hj
            match j, hj with
            | 0, hj => simp at hj; subst hj; simp [Addr.add]
          case d2 => intro u hu; simp at hu; subst hu; rfl
          case d3 => unfold maxLen; omega
          case d4 => omega
          case d5 => simp; omega
          intro v' w9 hown' hgrow _
          have hb9 : Below w.heap.size w7 w9 := ((Below.refl w.heap.size w7).alloc (by omega) _).grown hgrow (by simp; omega) (fun q hq => (hox.lt q hq).1)
          have HD9 := Lib.hid (HD7.out.belowV hb9 hcl)
          have hv9 : OwnV w9 w.heap.size v' 9 := ⟨xs ++ [0], by simp [hxl], by simpa using hown'⟩
          have HV9 := Lib.hid hv9
          clear hown' hgrow hox hb9 hxl hv9 hs7
          go_wp2
          go_ret
          exact ⟨_, 9, by omega, rfl, HV9.out, HD9.out⟩
        | false =>
          have HV7 := Lib.hid hv7
          clear hv7
          go_wp2_with fail
          refine (l01Below_any c n cp A g 8 (by omega) (by omega) _ hn hs7).mono ?_; rintro e w8 ⟨i, ⟨i0, _, i1⟩, rfl, hd8⟩
          have i1 := i1 (by omega)
          obtain ⟨i, rfl⟩ := Int.eq_ofNat_of_zero_le i0
          have hs8 := hs7.drawn hd8
          have hz8 := hd8.but.size
          have HV8 := Lib.hid (HV7.out.block (fun k hk hl => hd8.but.block k hk (by omega)))
          have HD8 := Lib.hid (HD7.out.trans hd8)
          clear hs7 hd8 HV7 HD7
          go_wp2_with fail
          have hs9 := hs8.allocV (.cells #[.int .i64 (-1), .int .i64 21] 3)
          have HV9 := Lib.hid (HV8.out.block (w' := w8.alloc (.cells #[.int .i64 (-1), .int .i64 21] 3)) (fun k hk _ => Below.heap_alloc _ _ k hk))
          refine (l01PickInt_any c n cp A g _ 0 2 2 (fun j => if j = 0 then -1 else 21) _ hn hs9 (by omega) (by omega) (by omega) (by simp) (fun j hj => ?_)).mono ?_
          · have h5 : j = 0 ∨ j = 1 := by omega
            rcases h5 with rfl | rfl <;> simp
          rintro e w9 ⟨y, _, rfl, hd9⟩
          have hz9 : w8.heap.size < w9.heap.size := by have := hd9.but.size; simp at this; omega
          obtain ⟨xs, hxl, hox⟩ := HV9.out.block (fun k hk hl => hd9.but.block k hk (by omega))
          have HD9 := Lib.hid (HD8.out.trans hd9.firstV)
          have hik : i < 8 := by omega
          obtain ⟨gb, cap, he, hgb, hgl⟩ := hox.form (by omega)
          simp only [Value.slice.injEq] at he
          obtain ⟨rfl, _, rfl⟩ := he
          have f0 := hox.frozenAt i
          obtain ⟨cell, hcell⟩ := List.getElem?_eq_some_iff.2 ⟨(by simp [hxl]; omega : i < (xs.map (Value.int .i64)).length), rfl⟩ |> fun h => (⟨_, h⟩ : ∃ u, (xs.map (Value.int .i64))[i]? = some u)
          have d0 := (hox.cellAt i (by omega)).trans hcell
          have hX : OwnV (w9.setCell ⟨gb, i, none⟩ (.int .i64 y)) w.heap.size (.slice (some ⟨gb, 0, none⟩) 8 pc) 8 := ⟨xs.set i y, by simpa using hxl, by rw [List.map_set]; exact (hox.stored i _).1⟩
          have HX := Lib.hid hX
          have HY := Lib.hid (HD9.out.belowV ((Below.refl w.heap.size w9).setCell (p := ⟨gb, i, none⟩) hgb (.int .i64 y)) hcl)
          clear hox hX hd9 hcell hs8 hs9 HV8 HV9 HD8 HD9
          have hik' : (i : Int) < 8 := by omega
          go_wp2
          go_ret
          exact ⟨_, 8, by omega, rfl, HX.out, HY.out⟩

set_option maxHeartbeats 800000 in
set_option maxRecDepth 100000 in
theorem DrawHot_any (n cp : Nat) (A : Option Addr) (g : Nat → Int) (w : World) (hn : n ≤ 1048576) (hbs : BytesAt w w.heap.size A n g) :
    Calls Try.prog 20 #[.slice A n cp] w fun e w' => ∃ A1 c1 m f x, m ≤ 9 ∧ (-1 ≤ x ∧ x ≤ 21) ∧ e = .returned (.tuple #[.slice A1 m c1, .int .i64 x]) ∧ IntsAt w' w'.heap.size A1 m f ∧ Below w.heap.size w w' := by
  go_enter Try.func20, Try.ntmps20
  go_wp2_with fail
  refine (l01New_any n cp A g _ hn hbs).mono ?_; rintro e w1 ⟨c, hcw, rfl, hs1, hb1⟩
  have hz1 := hb1.size
  have HB1 := Lib.hid hb1
  clear hb1 hbs
  go_wp2_with fail
  refine (DrawHeat_any c n cp A g _ hn hs1).mono ?_; rintro e w2 ⟨v, m, hm, rfl, ho, hd2⟩
  have hs2 := hs1.drawn hd2
  have hcl := hs1.lt
  have hz2 := hd2.but.size
  have HD2 := Lib.hid hd2
  have HO := Lib.hid ho
  clear hd2 ho hs1
  have hs3 := hs2.allocV (.cells #[.int .i64 0, .int .i64 1, .int .i64 3, .int .i64 20, .int .i64 21, .int .i64 (-1)] 3)
  go_wp2_with fail
  refine (l01PickInt_any c n cp A g _ 0 6 6 (fun j => if j = 0 then 0 else if j = 1 then 1 else if j = 2 then 3 else if j = 3 then 20 else if j = 4 then 21 else -1) _ hn hs3 (by omega) (by omega) (by have := hs2.lt; omega) (by simp) (fun j hj => ?_)).mono ?_
  · have h5 : j = 0 ∨ j = 1 ∨ j = 2 ∨ j = 3 ∨ j = 4 ∨ j = 5 := by omega
    rcases h5 with rfl | rfl | rfl | rfl | rfl | rfl <;> simp
  rintro e w3 ⟨x, ⟨j, hj, hx⟩, rfl, hd3⟩
  have hx2 : -1 ≤ x ∧ x ≤ 21 := by
    subst hx
    have h5 : j = 0 ∨ j = 1 ∨ j = 2 ∨ j = 3 ∨ j = 4 ∨ j = 5 := by omega
    rcases h5 with rfl | rfl | rfl | rfl | rfl | rfl <;> simp
  clear hx
  have hd3 := hd3.firstV
  obtain ⟨A1, c1, f, rfl, hI⟩ := (HO.out.block (fun k hk hl => hd3.but.block k hk (by omega))).ints
  have HR := Lib.hid (show ∃ A3 c3 m3 f3 x3, m3 ≤ 9 ∧ (-1 ≤ x3 ∧ x3 ≤ 21) ∧ Ending.returned (.tuple #[.slice A1 m c1, .int .i64 x]) = .returned (.tuple #[.slice A3 m3 c3, .int .i64 x3]) ∧ IntsAt w3 w3.heap.size A3 m3 f3 ∧ Below w.heap.size w w3 from ⟨A1, c1, m, f, x, hm, hx2, rfl, hI, HB1.out.trans ((HD2.out.trans hd3).but.below hz1 hcw)⟩)
  clear hd3 hI hs2 hs3 HO
  go_wp2
  exact bodyPost_ret (v := .tuple #[.slice A1 m c1, .int .i64 x]) (by simp [results, Try.results20, go_sem]) rfl HR.out

def AltOut (w : World) (e : Ending) (w' : World) : Prop := ∃ A1 c1 m f, m ≤ 3001 ∧ e = .returned (.slice A1 m c1) ∧ BytesAt w' w'.heap.size A1 m f ∧ Below w.heap.size w w'
def byteI (x : Int) : Int := if x < 0 ∨ 255 < x then 0 else x
theorem byteI_in (x : Int) : 0 ≤ byteI x ∧ byteI x ≤ 255 := by unfold byteI; split <;> omega
theorem byteI_eq {x : Int} (h : 0 ≤ x ∧ x ≤ 255) : byteI x = x := by unfold byteI; rw [if_neg (by omega)]
set_option maxHeartbeats 800000 in
set_option maxRecDepth 100000 in
theorem alt_any (n cp : Nat) (A : Option Addr) (g : Nat → Int) (w : World) (hn : n ≤ 1048576) (hbs : BytesAt w w.heap.size A n g) :
    Calls Try.prog 21 #[.slice A n cp, .int .i64 1] w (AltOut w) := by
  obtain ⟨ii, hi, hz0, hz1, hz2⟩ := info_parts infoU8D
  have Hi := Lib.hid hi
  have Hz0 := Lib.hid hz0
  have Hz1 := Lib.hid hz1
  have Hz2 := Lib.hid hz2
  clear hi hz0 hz1 hz2
  have B0 := Lib.hid ((Below.refl w.heap.size w).alloc (Nat.le_refl _) (.cells #[.int .u8 1] 5))
  have R0 : (w.alloc (.cells #[.int .u8 1] 5)).ownsRow w.heap.size 5 1 (.slice (some ⟨w.heap.size, 0, none⟩) 1 1) 1 (([1] : List Int).map (.int .u8)) := by
    exact ⟨by simp, .inr ⟨w.heap.size, 1, #[.int .u8 1], rfl, Nat.le_refl _, heap_alloc_new w _, Nat.le_refl _, by unfold maxLen; omega, rfl, by simp⟩⟩
  have R0 := Lib.hid R0
  have HB := Lib.hid hbs
  clear hbs
  go_enter Try.func21, Try.ntmps21
  go_wp2
  go_loopw [5, 6] (fun u x wr => ∃ (k : Nat) (xs : List Int), k ≤ 3000 ∧ k ≤ n ∧ x = .int .i64 (k : Int) ∧ (∀ y ∈ xs, 0 ≤ y ∧ y ≤ 255) ∧ wr.ownsRow w.heap.size 5 1 u (k + 1) (xs.map (.int .u8)) ∧ Below w.heap.size w wr) (fun _ x _ => (3000 - intOf x).toNat)
  case atStart => exact ⟨0, [1], by omega, by omega, rfl, fun y hy => by simp at hy; subst hy; omega, R0.out, B0.out⟩
  case round =>
    obtain ⟨k, xs, hk3, hkn, rfl, hxs, hrow, hb⟩ := hrel
    clear B0 R0
    have hsz := hb.size
    by_cases hin : k < n ∧ k < 3000
    · obtain ⟨hin1, hin2⟩ := hin
      have HBB := HB.out
      obtain ⟨b, off, rfl, hlt, hby⟩ := HBB.2 (by omega)
      have hgm := HBB.1 k
      clear HBB
      have d0 : wr.cell? ⟨b, off + k, none⟩ = some (.int .u8 (g k)) := (World.cell?_of_block (a := ⟨b, off + k, none⟩) (hb.block b (by omega))).trans (hby k (by omega))
      have h1 : (k : Int) < n := by omega
      have h2 : (k : Int) < 3000 := by omega
      have HX := Lib.hid hxs
      clear hby hxs
      have hro := hrow.alloc (.cells #[.int .u8 (g k)] 5)
      go_wp2_with (at_builtin; refine wpList_append_own _ rfl _ _ 22 rfl w.heap.size 5 ii (.int .u8 0) 1 1 Try.underlying22 Hi.out Hz0.out Hz1.out Hz2.out rfl (by decide) _ _ _ rfl hro ⟨wr.heap.size, 0, none⟩ 1 1 [.int .u8 (g k)] rfl rfl ?c1 ?c2 ?c3 ?c4 ?c5 ?_)
      case c1 =>
        intro j u hj
        match j, hj with
        | 0, hj => simp at hj; subst hj; simp [Addr.add]
      case c2 => intro u hu; simp at hu; subst hu; rfl
      case c3 => unfold maxLen; omega
      case c4 => omega
      case c5 => simp; omega
      intro v' w9 hown' hgrow _
      have hb9 := (hb.alloc hsz (.cells #[.int .u8 (g k)] 5)).grown hgrow (by simp; omega) (fun q hq => (hrow.lt q hq).1)
      have hv9 : w9.ownsRow w.heap.size 5 1 v' (k + 1 + 1) ((xs ++ [g k]).map (.int .u8)) := by simpa using hown'
      have hx9 : ∀ y ∈ xs ++ [g k], 0 ≤ y ∧ y ≤ 255 := fun y hy => by
        rcases List.mem_append.1 hy with h | h
        · exact HX.out y h
        · rw [List.mem_singleton.1 h]; exact hgm
      have HV9 := Lib.hid hv9
      have HX9 := Lib.hid hx9
      have HB9 := Lib.hid hb9
      clear hown' hgrow hro hrow hb9 hv9 hx9 hb
      go_wp2
      exact ⟨⟨k + 1, xs ++ [g k], by omega, by omega, by go_num, HX9.out, HV9.out, HB9.out⟩, by simp [intOf]; omega⟩
    · have hout : (k : Int) < n → ¬ (k : Int) < 3000 := by omega
      have hxl : xs.length = k + 1 := by have := hrow.1; simpa using this
      have hres : ∃ A1 c1, u5 = .slice A1 (k + 1) c1 ∧ BytesAt wr wr.heap.size A1 (k + 1) (fun j => byteI (xs.getD j 0)) := by
        rcases hrow.2 with ⟨rfl, e0⟩ | ⟨gb, cap, cur, rfl, hg, hh, h3, h4, h5, h6⟩
        · omega
        · refine ⟨_, cap, rfl, fun j => byteI_in _, fun _ => ⟨gb, 0, rfl, (Array.getElem?_eq_some_iff.1 hh).1, fun j hj => ?_⟩⟩
          · rw [Nat.zero_add, hrow.cellAt _ (by omega)]
            have hjx : j < xs.length := by omega
            have hm := hxs (xs.getD j 0) (by rw [List.getD_eq_getElem?_getD, List.getElem?_eq_getElem hjx]; simp)
            show _ = some (Value.int .u8 (byteI (xs.getD j 0)))
            rw [byteI_eq hm]
            simp [List.getD_eq_getElem?_getD, hjx]
      obtain ⟨A1, c1, rfl, hbt⟩ := hres
      have HR := Lib.hid (show AltOut w (.returned (.slice A1 (k + 1) c1)) wr from ⟨A1, c1, k + 1, _, by omega, rfl, hbt, hb⟩)
      clear hrow hb hxs hbt
      by_cases h1 : (k : Int) < n
      · have h2 := hout h1
        clear hout
        go_wp2
        go_ret
        exact HR.out
      · clear hout
        go_wp2
        go_ret
        exact HR.out
end Go.Proofs.Ytognfnfbmbfidaa
