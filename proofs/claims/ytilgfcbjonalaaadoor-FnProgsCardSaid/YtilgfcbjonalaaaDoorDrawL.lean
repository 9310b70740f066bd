/- Contracts of the loose draws. -/
import Derived.Test.YtilgfcbjonalaaaDoorDrawP
import Derived.Deep.AppendLies
namespace Go.Proofs.YtilgfcbjonalaaaDoor
open Go.RowKit

theorem loose_store {c n cp : Nat} {A : Option Addr} {w w6 : World} {gb m cap : Nat} {xs : List Int} (hD : Drawn c A n cp w w6) (hcl : c < w.heap.size) (hxl : xs.length = m * 3) (hgb : w.heap.size ≤ gb)
    (hox : w6.ownsRow w.heap.size 40 3 (.slice (some ⟨gb, 0, none⟩) m cap) m (xs.map (.int .i64))) (j : Nat) (x : Int) :
    OwnA (w6.setCell ⟨gb, j, none⟩ (.int .i64 x)) w.heap.size (.slice (some ⟨gb, 0, none⟩) m cap) m ∧ Drawn c A n cp w (w6.setCell ⟨gb, j, none⟩ (.int .i64 x)) :=
  ⟨⟨xs.set j x, by simpa using hxl, by rw [List.map_set]; exact (hox.stored j _).1⟩, hD.below ((Below.refl w.heap.size w6).setCell (p := ⟨gb, j, none⟩) hgb _) (Nat.le_refl _) hcl⟩
def rowLen : Value → Nat
  | .slice _ l _ => l
  | _ => 0
theorem OwnA.len {w : World} {lo m : Nat} {v : Value} (h : OwnA w lo v m) : rowLen v = m := by
  obtain ⟨xs, hx, h0, h | ⟨g, cap, cur, rfl, _⟩⟩ := h
  · obtain ⟨rfl, rfl⟩ := h; rfl
  · rfl
theorem OwnA.slice {w : World} {lo m : Nat} {v : Value} (h : OwnA w lo v m) : ∃ a cap, v = .slice a m cap := by
  obtain ⟨xs, hx, h0, h | ⟨g, cap, cur, rfl, _⟩⟩ := h
  · obtain ⟨rfl, rfl⟩ := h; exact ⟨_, _, rfl⟩
  · exact ⟨_, _, rfl⟩

set_option maxHeartbeats 3200000 in
set_option maxRecDepth 100000 in
theorem l01DrawLoose_any (c n cp : Nat) (A : Option Addr) (g : Nat → Int) (w : World) (hn : n ≤ 1048576) (hs : St w c n cp A g) :
    Calls Tryd.prog 41 #[.pointer (some ⟨c, 0, none⟩)] w fun e w' => ∃ v m, m ≤ 8 ∧ e = .returned v ∧ OwnA w' w.heap.size v m ∧ Drawn c A n cp w w' := by
  obtain ⟨ii, hi, hz0, hz1, hz2⟩ := info_parts infoAct
  have Hi := Lib.hid hi
  have Hz0 := Lib.hid hz0
  have Hz1 := Lib.hid hz1
  have Hz2 := Lib.hid hz2
  clear hi hz0 hz1 hz2
  have hcl := hs.lt
  go_enter Tryd.func41, Tryd.ntmps41
  go_wp2_with fail
  refine (l01Below_any c n cp A g 8 (by omega) (by omega) _ hn hs).mono ?_; rintro e w1 ⟨q, ⟨q0, q2, _⟩, rfl, hd1⟩
  have hs1 := hs.drawn hd1
  go_wp2_with fail
  refine (l01DrawProg_any c n cp A g (1 + q) (by omega) (by omega) _ hn hs1).mono ?_; rintro e w2 ⟨v, m, m1, m4, rfl, ho2, hd2⟩
  have hs2 := hs1.drawn hd2
  have hcw := hd1.but.size
  have ho2 : OwnA w2 w.heap.size v m := by obtain ⟨xs, hx, hr⟩ := ho2; exact ⟨xs, hx, ownsRow_base3 hr hcw⟩
  have HD2 := Lib.hid (hd1.trans hd2)
  have hz2 : w.heap.size ≤ w2.heap.size := HD2.out.but.size
  clear hd1 hd2 hs1
  go_wp2_with fail
  refine (l01Once_any c n cp A g 8 (by omega) (by omega) _ hn hs2).mono ?_; rintro e w3 ⟨b, rfl, hd3⟩
  have hs3 := hs2.drawn hd3
  obtain ⟨xs, hxl, hox⟩ := ho2
  have hox3 := ownsRow_block hox (fun k hk hb => hd3.but.block k hk (by omega))
  have HD3 := Lib.hid (HD2.out.trans hd3)
  have hz3 : w.heap.size ≤ w3.heap.size := HD3.out.but.size
  clear hox hd3 hs2 HD2
  obtain ⟨gb, cap, rfl, hgb, hgl⟩ := hox3.form (by omega)
  cases b with
  | false =>
    go_wp2
    go_ret
    exact ⟨_, m, by omega, rfl, ⟨xs, hxl, hox3⟩, HD3.out⟩
  | true =>
    go_wp2_with fail
    refine (l01Below_any c n cp A g m (by omega) (by omega) _ hn hs3).mono ?_; rintro e w4 ⟨i, ⟨i0, _, i1⟩, rfl, hd4⟩
    have i1 := i1 (by omega)
    obtain ⟨i, rfl⟩ := Int.eq_ofNat_of_zero_le i0
    have hs4 := hs3.drawn hd4
    have hox4 := ownsRow_block hox3 (fun k hk hb => hd4.but.block k hk (by omega))
    have HD4 := Lib.hid (HD3.out.trans hd4)
    have hz4 : w.heap.size ≤ w4.heap.size := HD4.out.but.size
    clear hox3 hd4 hs3 HD3
    go_wp2_with fail
    refine (l01Below_any c n cp A g 5 (by omega) (by omega) _ hn hs4).mono ?_; rintro e w5 ⟨k, ⟨k0, _, k1⟩, rfl, hd5⟩
    have k1 := k1 (by omega)
    have hs5 := hs4.drawn hd5
    have hox5 := ownsRow_block hox4 (fun k hk hb => hd5.but.block k hk (by omega))
    have HD5 := Lib.hid (HD4.out.trans hd5)
    have hz5 : w.heap.size ≤ w5.heap.size := HD5.out.but.size
    clear hox4 hd5 hs4 HD4
    have hk5 : k = 0 ∨ k = 1 ∨ k = 2 ∨ k = 3 ∨ k = 4 := by omega
    clear k0 k1
    rcases hk5 with rfl | rfl | rfl | rfl | rfl
    · go_wp2_with fail
      have hs6 := hs5.below ((Below.refl _ _).alloc (Nat.le_refl _) (.cells #[.int .i64 (-1), .int .i64 (0), .int .i64 (3)] 3)) hs5.lt
      have hox6 := hox5.alloc (.cells #[.int .i64 (-1), .int .i64 (0), .int .i64 (3)] 3)
      refine (l01PickInt_any c n cp A g _ 0 3 3 (fun j => if j = 0 then -1 else if j = 1 then 0 else 3) _ hn hs6 (by omega) (by omega) (by have := hs5.lt; omega) (by simp) (fun j hj => ?_)).mono ?_
      · have h5 : j = 0 ∨ j = 1 ∨ j = 2 := by omega
        rcases h5 with rfl | rfl | rfl <;> simp
      rintro e w6 ⟨x, _, rfl, hd6⟩
      have hox7 := ownsRow_block hox6 (fun k hk hb => hd6.but.block k hk (by omega))
      have HD6 := Lib.hid (HD5.out.trans (hd6.alloc_first hs5.lt))
      clear hox5 hox6 hd6 hs6 hs5 HD5
      have f0 := hox7.frozenAt (i * 3)
      obtain ⟨cell, hcell⟩ := List.getElem?_eq_some_iff.2 ⟨(by simp [hxl]; omega : i * 3 < (xs.map (Value.int .i64)).length), rfl⟩ |> fun h => (⟨_, h⟩ : ∃ u, (xs.map (Value.int .i64))[i * 3]? = some u)
      have d0 := (hox7.cellAt (i * 3) (by omega)).trans hcell
      have HX := Lib.hid (loose_store HD6.out hcl hxl hgb hox7 (i * 3) x)
      clear hox7 hcell
      go_wp2
      go_ret
      exact ⟨_, m, by omega, rfl, HX.out.1, HX.out.2⟩
    · go_wp2_with fail
      have hs6 := hs5.below ((Below.refl _ _).alloc (Nat.le_refl _) (.cells #[.int .i64 (-1), .int .i64 (7), .int .i64 (8)] 3)) hs5.lt
      have hox6 := hox5.alloc (.cells #[.int .i64 (-1), .int .i64 (7), .int .i64 (8)] 3)
      refine (l01PickInt_any c n cp A g _ 0 3 3 (fun j => if j = 0 then -1 else if j = 1 then 7 else 8) _ hn hs6 (by omega) (by omega) (by have := hs5.lt; omega) (by simp) (fun j hj => ?_)).mono ?_
      · have h5 : j = 0 ∨ j = 1 ∨ j = 2 := by omega
        rcases h5 with rfl | rfl | rfl <;> simp
      rintro e w6 ⟨x, _, rfl, hd6⟩
      have hox7 := ownsRow_block hox6 (fun k hk hb => hd6.but.block k hk (by omega))
      have HD6 := Lib.hid (HD5.out.trans (hd6.alloc_first hs5.lt))
      clear hox5 hox6 hd6 hs6 hs5 HD5
      have f0 := hox7.frozenAt (i * 3 + 1)
      obtain ⟨cell, hcell⟩ := List.getElem?_eq_some_iff.2 ⟨(by simp [hxl]; omega : i * 3 + 1 < (xs.map (Value.int .i64)).length), rfl⟩ |> fun h => (⟨_, h⟩ : ∃ u, (xs.map (Value.int .i64))[i * 3 + 1]? = some u)
      have d0 := (hox7.cellAt (i * 3 + 1) (by omega)).trans hcell
      have HX := Lib.hid (loose_store HD6.out hcl hxl hgb hox7 (i * 3 + 1) x)
      clear hox7 hcell
      go_wp2
      go_ret
      exact ⟨_, m, by omega, rfl, HX.out.1, HX.out.2⟩
    · go_wp2_with fail
      have hs6 := hs5.below ((Below.refl _ _).alloc (Nat.le_refl _) (.cells #[.int .i64 (1), .int .i64 (1000000), .int .i64 (1000001), .int .i64 (-1000001)] 3)) hs5.lt
      have hox6 := hox5.alloc (.cells #[.int .i64 (1), .int .i64 (1000000), .int .i64 (1000001), .int .i64 (-1000001)] 3)
      refine (l01PickInt_any c n cp A g _ 0 4 4 (fun j => if j = 0 then 1 else if j = 1 then 1000000 else if j = 2 then 1000001 else -1000001) _ hn hs6 (by omega) (by omega) (by have := hs5.lt; omega) (by simp) (fun j hj => ?_)).mono ?_
      · have h5 : j = 0 ∨ j = 1 ∨ j = 2 ∨ j = 3 := by omega
        rcases h5 with rfl | rfl | rfl | rfl <;> simp
      rintro e w6 ⟨x, _, rfl, hd6⟩
      have hox7 := ownsRow_block hox6 (fun k hk hb => hd6.but.block k hk (by omega))
      have HD6 := Lib.hid (HD5.out.trans (hd6.alloc_first hs5.lt))
      clear hox5 hox6 hd6 hs6 hs5 HD5
      have f0 := hox7.frozenAt (i * 3 + 2)
      obtain ⟨cell, hcell⟩ := List.getElem?_eq_some_iff.2 ⟨(by simp [hxl]; omega : i * 3 + 2 < (xs.map (Value.int .i64)).length), rfl⟩ |> fun h => (⟨_, h⟩ : ∃ u, (xs.map (Value.int .i64))[i * 3 + 2]? = some u)
      have d0 := (hox7.cellAt (i * 3 + 2) (by omega)).trans hcell
      have HX := Lib.hid (loose_store HD6.out hcl hxl hgb hox7 (i * 3 + 2) x)
      clear hox7 hcell
      go_wp2
      go_ret
      exact ⟨_, m, by omega, rfl, HX.out.1, HX.out.2⟩
    · go_wp2
      go_ret
      exact ⟨_, 0, by omega, rfl, ⟨[], rfl, World.ownsRow_nil _ _ _ _⟩, HD5.out⟩
    · have hrel0 : OwnA w5 w.heap.size (.slice (some ⟨gb, 0, none⟩) m cap) m := ⟨xs, hxl, hox5⟩
      have HO := Lib.hid hrel0
      clear hrel0 hox5 hs5
      go_wp2
      go_loopw [3] (fun v wr => ∃ m : Nat, m ≤ 7 ∧ OwnA wr w.heap.size v m ∧ Drawn c A n cp w wr) (fun v _ => 8 - rowLen v)
      case atStart => exact ⟨m, by omega, HO.out, HD5.out⟩
      case round =>
        obtain ⟨m', hm7, ho, hd⟩ := hrel
        have hsr := hs.drawn hd
        have hlen := ho.len
        obtain ⟨a, cap', rfl⟩ := ho.slice
        have HO' := Lib.hid ho
        have HD' := Lib.hid hd
        have hzr : w.heap.size ≤ wr.heap.size := hd.but.size
        clear ho hd
        go_wp2_with fail
        refine (l01Below_any c n cp A g 2 (by omega) (by omega) _ hn hsr).mono ?_; rintro e w6 ⟨x, ⟨x0, _, x1⟩, rfl, hd6⟩
        have x1 := x1 (by omega)
        have HD6 := Lib.hid (HD'.out.trans hd6)
        obtain ⟨ys, hyl, hoy⟩ := HO'.out
        have hz6 := hd6.but.size
        have hoy6 := ownsRow_block hoy (fun k hk hb => hd6.but.block k hk (by omega))
        clear hoy hd6 hsr
        by_cases hlt : (m' : Int) < 6 + x
        · have hm6 : m' ≤ 6 := by omega
          go_wp2_with (at_builtin; refine wpList_append_own _ rfl _ _ 25 rfl w.heap.size 40 ii _ 3 24 Tryd.underlying25 Hi.out Hz0.out Hz1.out Hz2.out rfl (by decide) _ _ _ rfl (hoy6.alloc _) ⟨w6.heap.size, 0, none⟩ 1 1 [.int .i64 0, .int .i64 0, .int .i64 0] rfl rfl ?c1 ?c2 ?c3 ?c4 ?c5 ?_)
          case c1 =>
            intro j u hj
            match j, hj with
            | 0, hj => simp at hj; subst hj; simp [Addr.add]
            | 1, hj => simp at hj; subst hj; simp [Addr.add]
            | 2, hj => simp at hj; subst hj; simp [Addr.add]
          case c2 =>
            intro u hu
            simp at hu
            subst hu; rfl
          case c3 => unfold maxLen; omega
          case c4 => omega
          case c5 => simp; omega
          intro v' w4 hown' hgrow _
          have hb4 : Below w.heap.size w6 w4 := ((Below.refl w.heap.size w6).alloc (by omega) _).grown hgrow (by simp; omega) (fun q hq => (hoy6.lt q hq).1)
          have hd4 : Drawn c A n cp w w4 := HD6.out.below hb4 (Nat.le_refl _) hcl
          have ho4 : OwnA w4 w.heap.size v' (m' + 1) := ⟨ys ++ [0, 0, 0], by simp [hyl]; omega, by simpa using hown'⟩
          have hl4 := ho4.len
          clear hown' hgrow hoy6 hb4 hyl
          go_wp2
          exact ⟨⟨m' + 1, by omega, ho4, hd4⟩, by show 8 - rowLen v' < 8 - m'; omega⟩
        · have ho6 : OwnA w6 w.heap.size (.slice a m' cap') m' := ⟨ys, hyl, hoy6⟩
          go_wp2
          go_ret
          exact ⟨_, m', by omega, rfl, ho6, HD6.out⟩
end Go.Proofs.YtilgfcbjonalaaaDoor
