/- Contracts of a new cursor and of the drawn values. -/
import Derived.Test.YtilgfcbjonalaaaDoorDrawL
import Derived.Test.YtilgfcbjonalaaaDoorNew
namespace Go.Proofs.YtilgfcbjonalaaaDoor
open Go.RowKit

theorem infoIntD : (Tryd.prog.info? 3).map (fun i => (i.zero, i.size, i.bytes)) = some (some (.int .i64 0), 1, 8) := by kernel_rfl
/-- m numbers in memory of the call's own -/
def OwnV (w : World) (lo : Nat) (v : Value) (m : Nat) : Prop := ∃ xs : List Int, xs.length = m ∧ w.ownsRow lo 3 1 v m (xs.map (.int .i64))
theorem OwnV.block {w w' : World} {lo m : Nat} {v : Value} (h : OwnV w lo v m) (hb : ∀ k, k < w.heap.size → lo ≤ k → w'.heap[k]? = w.heap[k]?) : OwnV w' lo v m := by
  obtain ⟨xs, hx, hr⟩ := h
  exact ⟨xs, hx, ownsRow_block hr hb⟩
theorem OwnV.mono {w : World} {lo lo' m : Nat} {v : Value} (h : OwnV w lo v m) (hl : lo' ≤ lo) : OwnV w lo' v m := by
  obtain ⟨xs, hx, hr⟩ := h
  exact ⟨xs, hx, ownsRow_base3 hr hl⟩
theorem OwnV.slice {w : World} {lo m : Nat} {v : Value} (h : OwnV w lo v m) : ∃ a cap, v = .slice a m cap := by
  obtain ⟨xs, hx, h0, h | ⟨g, cap, cur, rfl, _⟩⟩ := h
  · obtain ⟨rfl, rfl⟩ := h; exact ⟨_, _, rfl⟩
  · exact ⟨_, _, rfl⟩
theorem OwnA.block {w w' : World} {lo m : Nat} {v : Value} (h : OwnA w lo v m) (hb : ∀ k, k < w.heap.size → lo ≤ k → w'.heap[k]? = w.heap[k]?) : OwnA w' lo v m := by
  obtain ⟨xs, hx, hr⟩ := h
  exact ⟨xs, hx, ownsRow_block hr hb⟩
theorem OwnA.mono {w : World} {lo lo' m : Nat} {v : Value} (h : OwnA w lo v m) (hl : lo' ≤ lo) : OwnA w lo' v m := by
  obtain ⟨xs, hx, hr⟩ := h
  exact ⟨xs, hx, ownsRow_base3 hr hl⟩

set_option maxHeartbeats 1600000 in
set_option maxRecDepth 100000 in
theorem DrawRunSerial_any (n cp : Nat) (A : Option Addr) (g : Nat → Int) (w : World) (hn : n ≤ 1048576) (hbs : BytesAt w w.heap.size A n g) :
    Calls Tryd.prog 9 #[.slice A n cp] w fun e w' => ∃ v1 m1 v2 m2, m1 ≤ 9 ∧ m2 ≤ 8 ∧ e = .returned (.tuple #[v1, v2]) ∧ OwnV w' w.heap.size v1 m1 ∧ OwnA w' w.heap.size v2 m2 ∧ Below w.heap.size w w' := by
  obtain ⟨ii, hi, hz0, hz1, hz2⟩ := info_parts infoIntD
  have Hi := Lib.hid hi
  have Hz0 := Lib.hid hz0
  have Hz1 := Lib.hid hz1
  have Hz2 := Lib.hid hz2
  clear hi hz0 hz1 hz2
  have HB := Lib.hid hbs
  go_enter Tryd.func9, Tryd.ntmps9
  go_wp2_with fail
  refine (l01New_any n cp A g _ hn hbs).mono ?_; rintro e w1 ⟨c, hcw, rfl, hs1, hb1⟩
  have hlo := hs1.lt
  have hlo' : w.heap.size ≤ w1.heap.size := by omega
  have HB1 := Lib.hid hb1
  clear hb1 hbs
  go_wp2_with fail
  refine (l01DrawLoose_any c n cp A g _ hn hs1).mono ?_; rintro e w2 ⟨v, m, hm, rfl, ho2, hd2⟩
  have hs2 := hs1.drawn hd2
  have hz2 := hd2.but.size
  have hcl : c < w2.heap.size := hs2.lt
  have hfin : ∀ w' v1 m1, m1 ≤ 9 → OwnV w' w2.heap.size v1 m1 → Drawn c A n cp w2 w' → ∃ x1 m1 x2 m2, m1 ≤ 9 ∧ m2 ≤ 8 ∧ Ending.returned (.tuple #[v1, v]) = .returned (.tuple #[x1, x2]) ∧ OwnV w' w.heap.size x1 m1 ∧ OwnA w' w.heap.size x2 m2 ∧ Below w.heap.size w w' :=
    fun w' v1 m1 h9 hv hd => ⟨v1, m1, v, m, h9, hm, rfl, hv.mono (by omega), (ho2.block (fun k hk hl => hd.but.block k hk (by omega))).mono hlo', HB1.out.trans ((hd2.trans hd).but.below hlo' hcw)⟩
  have HF := Lib.hid hfin
  clear hfin HB1
  have hs3 := hs2.below ((Below.refl _ _).alloc (Nat.le_refl _) (.cells #[] 3)) hs2.lt
  have hv3 : OwnV (w2.alloc (.cells #[] 3)) w2.heap.size (.slice (some ⟨w2.heap.size, 0, none⟩) 0 0) 0 := ⟨[], rfl, World.ownsRow_made w2 #[] 0 (Nat.le_refl _) (Nat.zero_le _) rfl⟩
  clear hd2 ho2
  go_wp2_with fail
  refine (l01Once_any c n cp A g 4 (by omega) (by omega) _ hn hs3).mono ?_; rintro e w4 ⟨b, rfl, hd4⟩
  have hs4 := hs3.drawn hd4
  have hz4 : w2.heap.size < w4.heap.size := by have := hd4.but.size; simp at this; omega
  have hv4 := hv3.block (fun k hk _ => hd4.but.block k hk (by omega))
  have hd4 := hd4.alloc_first hcl
  clear hs3 hv3
  cases b with
  | false =>
    have HV := Lib.hid hv4
    have HD := Lib.hid hd4
    clear hv4 hd4 hs4
    go_wp2
    go_loopw [6, 8] (fun u x wr => ∃ k : Nat, (k : Int) ≤ 8 ∧ x = .int .i64 (k : Int) ∧ OwnV wr w2.heap.size u k ∧ Drawn c A n cp w2 wr) (fun _ x _ => (9 - intOf x).toNat)
    case atStart => exact ⟨0, by omega, rfl, HV.out, HD.out⟩
    case round =>
      obtain ⟨k, hkn, rfl, hv, hd⟩ := hrel
      have hsr := hs2.drawn hd
      have hzr := hd.but.size
      have hsl := hv.slice
      obtain ⟨pa, pc, rfl⟩ := hsl
      by_cases hlt : (k : Int) < 8
      · have HVr := Lib.hid hv
        have HDr := Lib.hid hd
        clear hv hd
        go_wp2_with fail
        refine (l01Below_any c n cp A g 40 (by omega) (by omega) _ hn hsr).mono ?_; rintro e w6 ⟨x, _, rfl, hd6⟩
        have hs6 := hsr.drawn hd6
        have hz6 := hd6.but.size
        have hv6 := HVr.out.block (fun k hk hl => hd6.but.block k hk (by omega))
        have HD6 := Lib.hid (HDr.out.trans hd6)
        clear hsr hd6 HVr HDr
        go_wp2_with fail
        have hs7 := hs6.below ((Below.refl _ _).alloc (Nat.le_refl _) (.cells #[.int .i64 0, .int .i64 x, .int .i64 999997, .int .i64 (-1000000)] 3)) hs6.lt
        have hv7 := hv6.block (w' := w6.alloc (.cells #[.int .i64 0, .int .i64 x, .int .i64 999997, .int .i64 (-1000000)] 3)) (fun k hk _ => Below.heap_alloc _ _ k hk)
        have hcl6 := hs6.lt
        refine (l01PickInt_any c n cp A g _ 0 4 4 (fun j => if j = 0 then 0 else if j = 1 then x else if j = 2 then 999997 else -1000000) _ hn hs7 (by omega) (by omega) (by omega) (by simp) (fun j hj => ?_)).mono ?_
        · have h5 : j = 0 ∨ j = 1 ∨ j = 2 ∨ j = 3 := by omega
          rcases h5 with rfl | rfl | rfl | rfl <;> simp
        rintro e w8 ⟨y, _, rfl, hd8⟩
        have hz8 : w6.heap.size < w8.heap.size := by have := hd8.but.size; simp at this; omega
        obtain ⟨xs, hxl, hox⟩ := hv7.block (fun k hk hl => hd8.but.block k hk (by omega))
        have HD8 := Lib.hid (HD6.out.trans (hd8.alloc_first hcl6))
        clear hv6 hv7 hd8 hs6 hs7 HD6
        go_wp2_with (at_builtin; refine wpList_append_own _ rfl _ _ 24 rfl w2.heap.size 3 ii (.int .i64 0) 1 8 Tryd.underlying24 Hi.out Hz0.out Hz1.out Hz2.out rfl (by decide) _ _ _ rfl (hox.alloc _) ⟨w8.heap.size, 0, none⟩ 1 1 [.int .i64 y] rfl rfl ?c1 ?c2 ?c3 ?c4 ?c5 ?_)
        case c1 =>
          intro j u hj
          match j, hj with
          | 0, hj => simp at hj; subst hj; simp [Addr.add]
        case c2 => intro u hu; simp at hu; subst hu; rfl
        case c3 => unfold maxLen; omega
        case c4 => omega
        case c5 => simp; omega
        intro v' w9 hown' hgrow _
        have hb9 : Below w2.heap.size w8 w9 := ((Below.refl w2.heap.size w8).alloc (by omega) _).grown hgrow (by simp; omega) (fun q hq => (hox.lt q hq).1)
        have hd9 : Drawn c A n cp w2 w9 := HD8.out.below hb9 (Nat.le_refl _) hcl
        have hv9 : OwnV w9 w2.heap.size v' (k + 1) := ⟨xs ++ [y], by simp [hxl], by simpa using hown'⟩
        clear hown' hgrow hox hb9 hxl
        go_wp2
        exact ⟨⟨k + 1, by omega, by go_num, hv9, hd9⟩, by simp [intOf]; omega⟩
      · have hkN : (k : Int) = 8 := by omega
        have HK := Lib.hid hkN
        have HVr := Lib.hid hv
        have HDr := Lib.hid hd
        clear hv hd hkN
        go_wp2_with fail
        refine (l01Once_any c n cp A g 25 (by omega) (by omega) _ hn hsr).mono ?_; rintro e w6 ⟨b2, rfl, hd6⟩
        have hs6 := hsr.drawn hd6
        have hz6 := hd6.but.size
        have hv6 := HVr.out.block (fun k hk hl => hd6.but.block k hk (by omega))
        have HD6 := Lib.hid (HDr.out.trans hd6)
        clear hsr hd6 HVr HDr
        cases b2 with
        | false =>
          have HX := Lib.hid (HF.out _ _ k (by omega) hv6 HD6.out)
          go_wp2
          go_ret2
          exact HX.out
        | true =>
          by_cases hpos : (0 : Int) < 8
          · go_wp2_with fail
            refine (l01Below_any c n cp A g 8 (by omega) (by omega) _ hn hs6).mono ?_; rintro e w7 ⟨i, ⟨i0, _, i1⟩, rfl, hd7⟩
            have i1 := i1 (by omega)
            obtain ⟨i, rfl⟩ := Int.eq_ofNat_of_zero_le i0
            have hz7 := hd7.but.size
            obtain ⟨xs, hxl, hox⟩ := hv6.block (fun k hk hl => hd7.but.block k hk (by omega))
            have HD7 := Lib.hid (HD6.out.trans hd7)
            have hik : i < k := by have := HK.out; omega
            obtain ⟨gb, cap, he, hgb, hgl⟩ := hox.form (by omega)
            simp only [Value.slice.injEq] at he
            obtain ⟨rfl, _, rfl⟩ := he
            have f0 := hox.frozenAt i
            obtain ⟨cell, hcell⟩ := List.getElem?_eq_some_iff.2 ⟨(by simp [hxl]; omega : i < (xs.map (Value.int .i64)).length), rfl⟩ |> fun h => (⟨_, h⟩ : ∃ u, (xs.map (Value.int .i64))[i]? = some u)
            have d0 := (hox.cellAt i (by omega)).trans hcell
            have hX : OwnV (w7.setCell ⟨gb, i, none⟩ (.int .i64 1000001)) w2.heap.size (.slice (some ⟨gb, 0, none⟩) k pc) k ∧ Drawn c A n cp w2 (w7.setCell ⟨gb, i, none⟩ (.int .i64 1000001)) :=
              ⟨⟨xs.set i 1000001, by simpa using hxl, by rw [List.map_set]; exact (hox.stored i _).1⟩, HD7.out.below ((Below.refl w2.heap.size w7).setCell (p := ⟨gb, i, none⟩) hgb _) (Nat.le_refl _) hcl⟩
            have HX := Lib.hid (HF.out _ _ k (by omega) hX.1 hX.2)
            clear hox hv6 hX hd7 hcell
            have hik' : (i : Int) < k := by omega
            go_wp2
            go_ret2
            exact HX.out
          · exact absurd (by omega) hpos
  | true =>
    go_wp2_with fail
    refine (l01Below_any c n cp A g 10 (by omega) (by omega) _ hn hs4).mono ?_; rintro e w5 ⟨nn, ⟨n0, _, n1⟩, rfl, hd5⟩
    have n1 := n1 (by omega)
    obtain ⟨nn, rfl⟩ := Int.eq_ofNat_of_zero_le n0
    have hz5 := hd5.but.size
    have HV := Lib.hid (hv4.block (fun k hk _ => hd5.but.block k hk (by omega)))
    have HD := Lib.hid (hd4.trans hd5)
    clear hv4 hd4 hs4 hd5
    go_wp2
    go_loopw [6, 8] (fun u x wr => ∃ k : Nat, (k : Int) ≤ nn ∧ x = .int .i64 (k : Int) ∧ OwnV wr w2.heap.size u k ∧ Drawn c A n cp w2 wr) (fun _ x _ => (9 - intOf x).toNat)
    case atStart => exact ⟨0, by omega, rfl, HV.out, HD.out⟩
    case round =>
      obtain ⟨k, hkn, rfl, hv, hd⟩ := hrel
      have hsr := hs2.drawn hd
      have hzr := hd.but.size
      have hsl := hv.slice
      obtain ⟨pa, pc, rfl⟩ := hsl
      by_cases hlt : (k : Int) < nn
      · have HVr := Lib.hid hv
        have HDr := Lib.hid hd
        clear hv hd
        go_wp2_with fail
        refine (l01Below_any c n cp A g 40 (by omega) (by omega) _ hn hsr).mono ?_; rintro e w6 ⟨x, _, rfl, hd6⟩
        have hs6 := hsr.drawn hd6
        have hz6 := hd6.but.size
        have hv6 := HVr.out.block (fun k hk hl => hd6.but.block k hk (by omega))
        have HD6 := Lib.hid (HDr.out.trans hd6)
        clear hsr hd6 HVr HDr
        go_wp2_with fail
        have hs7 := hs6.below ((Below.refl _ _).alloc (Nat.le_refl _) (.cells #[.int .i64 0, .int .i64 x, .int .i64 999997, .int .i64 (-1000000)] 3)) hs6.lt
        have hv7 := hv6.block (w' := w6.alloc (.cells #[.int .i64 0, .int .i64 x, .int .i64 999997, .int .i64 (-1000000)] 3)) (fun k hk _ => Below.heap_alloc _ _ k hk)
        have hcl6 := hs6.lt
        refine (l01PickInt_any c n cp A g _ 0 4 4 (fun j => if j = 0 then 0 else if j = 1 then x else if j = 2 then 999997 else -1000000) _ hn hs7 (by omega) (by omega) (by omega) (by simp) (fun j hj => ?_)).mono ?_
        · have h5 : j = 0 ∨ j = 1 ∨ j = 2 ∨ j = 3 := by omega
          rcases h5 with rfl | rfl | rfl | rfl <;> simp
        rintro e w8 ⟨y, _, rfl, hd8⟩
        have hz8 : w6.heap.size < w8.heap.size := by have := hd8.but.size; simp at this; omega
        obtain ⟨xs, hxl, hox⟩ := hv7.block (fun k hk hl => hd8.but.block k hk (by omega))
        have HD8 := Lib.hid (HD6.out.trans (hd8.alloc_first hcl6))
        clear hv6 hv7 hd8 hs6 hs7 HD6
        go_wp2_with (at_builtin; refine wpList_append_own _ rfl _ _ 24 rfl w2.heap.size 3 ii (.int .i64 0) 1 8 Tryd.underlying24 Hi.out Hz0.out Hz1.out Hz2.out rfl (by decide) _ _ _ rfl (hox.alloc _) ⟨w8.heap.size, 0, none⟩ 1 1 [.int .i64 y] rfl rfl ?c1 ?c2 ?c3 ?c4 ?c5 ?_)
        case c1 =>
          intro j u hj
          match j, hj with
          | 0, hj => simp at hj; subst hj; simp [Addr.add]
        case c2 => intro u hu; simp at hu; subst hu; rfl
        case c3 => unfold maxLen; omega
        case c4 => omega
        case c5 => simp; omega
        intro v' w9 hown' hgrow _
        have hb9 : Below w2.heap.size w8 w9 := ((Below.refl w2.heap.size w8).alloc (by omega) _).grown hgrow (by simp; omega) (fun q hq => (hox.lt q hq).1)
        have hd9 : Drawn c A n cp w2 w9 := HD8.out.below hb9 (Nat.le_refl _) hcl
        have hv9 : OwnV w9 w2.heap.size v' (k + 1) := ⟨xs ++ [y], by simp [hxl], by simpa using hown'⟩
        clear hown' hgrow hox hb9 hxl
        go_wp2
        exact ⟨⟨k + 1, by omega, by go_num, hv9, hd9⟩, by simp [intOf]; omega⟩
      · have hkN : (k : Int) = nn := by omega
        have HK := Lib.hid hkN
        have HVr := Lib.hid hv
        have HDr := Lib.hid hd
        clear hv hd hkN
        go_wp2_with fail
        refine (l01Once_any c n cp A g 25 (by omega) (by omega) _ hn hsr).mono ?_; rintro e w6 ⟨b2, rfl, hd6⟩
        have hs6 := hsr.drawn hd6
        have hz6 := hd6.but.size
        have hv6 := HVr.out.block (fun k hk hl => hd6.but.block k hk (by omega))
        have HD6 := Lib.hid (HDr.out.trans hd6)
        clear hsr hd6 HVr HDr
        cases b2 with
        | false =>
          have HX := Lib.hid (HF.out _ _ k (by omega) hv6 HD6.out)
          go_wp2
          go_ret2
          exact HX.out
        | true =>
          by_cases hpos : (0 : Int) < nn
          · go_wp2_with fail
            refine (l01Below_any c n cp A g nn (by omega) (by omega) _ hn hs6).mono ?_; rintro e w7 ⟨i, ⟨i0, _, i1⟩, rfl, hd7⟩
            have i1 := i1 (by omega)
            obtain ⟨i, rfl⟩ := Int.eq_ofNat_of_zero_le i0
            have hz7 := hd7.but.size
            obtain ⟨xs, hxl, hox⟩ := hv6.block (fun k hk hl => hd7.but.block k hk (by omega))
            have HD7 := Lib.hid (HD6.out.trans hd7)
            have hik : i < k := by have := HK.out; omega
            obtain ⟨gb, cap, he, hgb, hgl⟩ := hox.form (by omega)
            simp only [Value.slice.injEq] at he
            obtain ⟨rfl, _, rfl⟩ := he
            have f0 := hox.frozenAt i
            obtain ⟨cell, hcell⟩ := List.getElem?_eq_some_iff.2 ⟨(by simp [hxl]; omega : i < (xs.map (Value.int .i64)).length), rfl⟩ |> fun h => (⟨_, h⟩ : ∃ u, (xs.map (Value.int .i64))[i]? = some u)
            have d0 := (hox.cellAt i (by omega)).trans hcell
            have hX : OwnV (w7.setCell ⟨gb, i, none⟩ (.int .i64 1000001)) w2.heap.size (.slice (some ⟨gb, 0, none⟩) k pc) k ∧ Drawn c A n cp w2 (w7.setCell ⟨gb, i, none⟩ (.int .i64 1000001)) :=
              ⟨⟨xs.set i 1000001, by simpa using hxl, by rw [List.map_set]; exact (hox.stored i _).1⟩, HD7.out.below ((Below.refl w2.heap.size w7).setCell (p := ⟨gb, i, none⟩) hgb _) (Nat.le_refl _) hcl⟩
            have HX := Lib.hid (HF.out _ _ k (by omega) hX.1 hX.2)
            clear hox hv6 hX hd7 hcell
            have hik' : (i : Int) < k := by omega
            go_wp2
            go_ret2
            exact HX.out
          · have HX := Lib.hid (HF.out _ _ k (by omega) hv6 HD6.out)
            go_wp2
            go_ret2
            exact HX.out
end Go.Proofs.YtilgfcbjonalaaaDoor
