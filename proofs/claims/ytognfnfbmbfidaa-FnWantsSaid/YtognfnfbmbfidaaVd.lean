/- The draws of stage 4: lists of wants, heats. -/
import Derived.Test.YtognfnfbmbfidaaNew
import Derived.Test.YtognfnfbmbfidaaVk
namespace Go.Proofs.Ytognfnfbmbfidaa
open Go.RowKit

theorem Drawn.belowV {c n cp : Nat} {A : Option Addr} {w w' w'' : World} (h : Drawn c A n cp w w') (hb : Below w.heap.size w' w'') (hc : c < w.heap.size) : Drawn c A n cp w w'' := by
  obtain ⟨i, x, h0, h1, k⟩ := h.cur
  exact ⟨⟨i, x, h0, h1, k.keep (hb.block c hc)⟩, h.but.trans (But.of_below hb (Nat.le_refl _))⟩
theorem St.allocV {w : World} {c n cp : Nat} {A : Option Addr} {g : Nat → Int} (h : St w c n cp A g) (o : Obj) : St (w.alloc o) c n cp A g :=
  h.below ((Below.refl w.heap.size w).alloc (Nat.le_refl _) o) h.lt
theorem Drawn.allocV {c n cp : Nat} {A : Option Addr} {w w' : World} (h : Drawn c A n cp w w') (hc : c < w.heap.size) (o : Obj) : Drawn c A n cp w (w'.alloc o) :=
  h.belowV (((Below.refl w'.heap.size w').alloc (Nat.le_refl _) o).mono h.but.size) hc
theorem RowW.drawn {c n cp lo m : Nat} {A : Option Addr} {w w' : World} {v : Value} {L : HL} (h : RowW w lo m v L) (hd : Drawn c A n cp w w') (hc : c < lo) : RowW w' lo m v L :=
  ⟨ownsRow_block' h.1 (fun k hk hb => hd.but.block k hk (by omega)), h.2⟩
theorem RowW.allocV {w : World} {lo m : Nat} {v : Value} {L : HL} (h : RowW w lo m v L) (o : Obj) : RowW (w.alloc o) lo m v L := h.next ((Below.refl _ _).alloc (Nat.le_refl _) o)

set_option maxHeartbeats 1600000 in
set_option maxRecDepth 100000 in
theorem DrawWants_any (c n cp : Nat) (A : Option Addr) (g : Nat → Int) (w : World) (hn : n ≤ 1048576) (hs : St w c n cp A g) :
    Calls Try.prog 55 #[.pointer (some ⟨c, 0, none⟩)] w fun e w' => ∃ A2 c2 L, L.length ≤ 9 ∧ L.length ≤ c2 ∧ (A2 = Option.none → c2 = 0) ∧ e = .returned (.slice A2 L.length c2) ∧ HOwn w' w.heap.size w'.heap.size A2 L ∧ Drawn c A n cp w w' := by
  obtain ⟨i0, hi, hz0, hz1, hz2⟩ := info_parts infoWant
  have Hi := Lib.hid hi
  have Hz0 := Lib.hid hz0
  have Hz1 := Lib.hid hz1
  have Hz2 := Lib.hid hz2
  clear hi hz0 hz1 hz2
  have hcl := hs.lt
  have hd0 : Drawn c A n cp w w := by
    obtain ⟨i, x, h0, h1, k⟩ := hs.cur
    exact Drawn.refl h0 h1 k
  have HD0 := Lib.hid (hd0.allocV hcl (.cells #[] 32))
  have HR0 := Lib.hid (RowW.made w 32 w.heap.size rfl)
  clear hd0
  go_enter Try.func55, Try.ntmps55
  go_wp2
  go_loopw [3, 4] (fun v i wr => ∃ k : Nat, k ≤ 8 ∧ i = .int .i64 k ∧ ∃ L : HL, L.length ≤ k ∧ RowW wr w.heap.size w.heap.size v L ∧ Drawn c A n cp w wr) (fun _ i _ => 8 - (intOf i).toNat)
  case atStart => exact ⟨0, by omega, rfl, [], by simp, HR0.out, HD0.out⟩
  case round =>
    obtain ⟨k, hk, rfl, L, hL, hrow, hd⟩ := hrel
    have hsr := hs.drawn hd
    have hzr := hd.but.size
    clear HD0 HR0
    by_cases hk8 : k < 8
    · have hkz : (k : Int) < 8 := by omega
      have HROW := Lib.hid hrow
      have HD := Lib.hid hd
      clear hrow hd
      go_wp2_with fail
      refine (l01Once_any c n cp A g 3 (by omega) (by omega) _ hn hsr).mono ?_; rintro e w1 ⟨b, rfl, hd1⟩
      have hs1 := hsr.drawn hd1
      have D1 := HD.out.trans hd1
      have R1 := HROW.out.drawn hd1 hcl
      clear hd1 hsr HD HROW
      cases b with
      | false =>
        go_wp2
        exact ⟨⟨k + 1, by omega, by go_num, L, by omega, R1, D1⟩, by simp [intOf]; omega⟩
      | true =>
        have D1 := Lib.hid D1
        have R1 := Lib.hid R1
        go_wp2_with fail
        refine (l01Once_any c n cp A g 2 (by omega) (by omega) _ hn hs1).mono ?_; rintro e w2 ⟨y, rfl, hd2⟩
        have D2 := D1.out.trans hd2
        have hrow := R1.out.drawn hd2 hcl
        have hsz := D2.but.size
        clear hs1 R1 D1 hd2
        have hba := (Below.refl w2.heap.size w2).alloc (Nat.le_refl _) (.cells #[.int .i64 k, .bool y] 32)
        have HRR := Lib.hid hrow
        have HBA := Lib.hid hba
        have hro := (hrow.next hba).1
        have NB := cells_two (Box.new (w := w2) (b := w2.heap.size) (c := #[.int .i64 k, .bool y]) (t := 32) rfl)
        have hHH : (w2.alloc (.cells #[.int .i64 k, .bool y] 32)).heap.size = w2.heap.size + 1 := by simp
        have HHH := Lib.hid hHH
        have D2 := Lib.hid D2
        clear hba hrow
        go_wp2_with (at_builtin; refine wpList_append_lies _ rfl _ _ 24 rfl w.heap.size 32 i0 (.agg #[.int .i64 0, .bool false]) 2 16 Try.underlying24 Hi.out Hz0.out Hz1.out Hz2.out rfl (by decide) _ _ _ rfl hro ⟨w2.heap.size, 0, none⟩ 1 1 [.int .i64 k, .bool y] rfl rfl NB (hcs_two k y) (by decide) (by unfold maxLen; omega) (by omega) (by omega) (w2.heap.size + 1) hHH ?_)
        intro g5 cap5 w5 hown5 hgr hat5 hlt5
        have hR := HRR.out.1.lt
        have R5 := RowW.grown (H := w2.heap.size + 1) HRR.out (by omega) hown5 hat5
        have b5 := (HBA.out.mono hsz).grown hgr (by rw [HHH.out]; omega) (fun q hq => (hR q hq).1)
        have D5 := D2.out.belowV b5 hcl
        have R5 := Lib.hid R5
        have D5 := Lib.hid D5
        clear hown5 hgr hat5 hlt5 hR HRR HBA NB hHH HHH hro b5 D2
        go_wp2
        exact ⟨⟨k + 1, by omega, by go_num, L ++ [((k : Int), y)], by simp; omega, by simpa using R5.out, D5.out⟩, by simp [intOf]; omega⟩
    · obtain rfl : k = 8 := by omega
      have HROW := Lib.hid hrow
      have HD := Lib.hid hd
      clear hrow hd
      go_wp2_with fail
      refine (l01Once_any c n cp A g 12 (by omega) (by omega) _ hn hsr).mono ?_; rintro e w1 ⟨b, rfl, hd1⟩
      have hs1 := hsr.drawn hd1
      have D1 := HD.out.trans hd1
      have R1 := HROW.out.drawn hd1 hcl
      clear hd1 hsr HD HROW
      cases b with
      | false =>
        obtain ⟨A2, c2, rfl, hl2, h02, HO⟩ := R1.ownC
        go_wp2
        go_ret
        exact ⟨A2, c2, L, by omega, hl2, h02, rfl, HO, D1⟩
      | true =>
        have D1 := Lib.hid D1
        have R1 := Lib.hid R1
        go_wp2_with fail
        refine (l01Below_any c n cp A g 10 (by omega) (by omega) _ hn hs1).mono ?_; rintro e w2 ⟨x, ⟨x0, x1, _⟩, rfl, hd2⟩
        have D2 := D1.out.trans hd2
        have hrow := R1.out.drawn hd2 hcl
        have hsz := D2.but.size
        clear hs1 R1 D1 hd2
        have hba := (Below.refl w2.heap.size w2).alloc (Nat.le_refl _) (.cells #[.int .i64 (x - 1), .bool false] 32)
        have HRR := Lib.hid hrow
        have HBA := Lib.hid hba
        have hro := (hrow.next hba).1
        have NB := cells_two (Box.new (w := w2) (b := w2.heap.size) (c := #[.int .i64 (x - 1), .bool false]) (t := 32) rfl)
        have hHH : (w2.alloc (.cells #[.int .i64 (x - 1), .bool false] 32)).heap.size = w2.heap.size + 1 := by simp
        have HHH := Lib.hid hHH
        have D2 := Lib.hid D2
        clear hba hrow
        go_wp2_with (at_builtin; refine wpList_append_lies _ rfl _ _ 24 rfl w.heap.size 32 i0 (.agg #[.int .i64 0, .bool false]) 2 16 Try.underlying24 Hi.out Hz0.out Hz1.out Hz2.out rfl (by decide) _ _ _ rfl hro ⟨w2.heap.size, 0, none⟩ 1 1 [.int .i64 (x - 1), .bool false] rfl rfl NB (hcs_two (x - 1) false) (by decide) (by unfold maxLen; omega) (by omega) (by omega) (w2.heap.size + 1) hHH ?_)
        intro g5 cap5 w5 hown5 hgr hat5 hlt5
        have hR := HRR.out.1.lt
        have R5 := RowW.grown (H := w2.heap.size + 1) HRR.out (by omega) hown5 hat5
        have b5 := (HBA.out.mono hsz).grown hgr (by rw [HHH.out]; omega) (fun q hq => (hR q hq).1)
        have D5 := D2.out.belowV b5 hcl
        have hL9 : (L ++ [(x - 1, false)]).length ≤ 9 := by simp; omega
        have e9 : L.length + 1 = (L ++ [(x - 1, false)]).length := by simp
        rw [e9] at R5 ⊢
        obtain ⟨A2, c2, he, hl2, h02, HO⟩ := R5.ownC
        clear hown5 hgr hat5 hR HRR HBA NB hHH HHH hro b5 D2
        injection he with q1 q2 q3
        subst q1 q3
        have D5 := Lib.hid D5
        go_wp2
        go_ret
        exact ⟨_, _, L ++ [(x - 1, false)], hL9, hl2, h02, rfl, HO, D5.out⟩

/-- what DrawMergeWants answers -/
structure TwoW (w w' : World) (A1 A2 : Option Addr) (c1 c2 : Nat) (a b : HL) : Prop where
  la : a.length ≤ 9
  lb : b.length ≤ 9
  ca : a.length ≤ c1
  cb : b.length ≤ c2
  na : A1 = Option.none → c1 = 0
  nb : A2 = Option.none → c2 = 0
  ha : HAt w' w'.heap.size A1 a
  hb : HAt w' w'.heap.size A2 b
  bel : Below w.heap.size w w'
set_option maxHeartbeats 800000 in
set_option maxRecDepth 100000 in
theorem DrawMerge_any (n cp : Nat) (A : Option Addr) (g : Nat → Int) (w : World) (hn : n ≤ 1048576) (hbs : BytesAt w w.heap.size A n g) :
    Calls Try.prog 15 #[.slice A n cp] w fun e w' => ∃ A1 A2 c1 c2 a b, e = .returned (.tuple #[.slice A1 a.length c1, .slice A2 b.length c2]) ∧ TwoW w w' A1 A2 c1 c2 a b := by
  go_enter Try.func15, Try.ntmps15
  go_wp2_with fail
  refine (l01New_any n cp A g _ hn hbs).mono ?_; rintro e w1 ⟨c, hcw, rfl, hs1, hb1⟩
  have hz1 := hb1.size
  have HB1 := Lib.hid hb1
  clear hb1
  go_wp2_with fail
  refine (DrawWants_any c n cp A g _ hn hs1).mono ?_; rintro e w2 ⟨A1, c1, a, hl1, hc1, hn1, rfl, ho1, hd2⟩
  have hs2 := hs1.drawn hd2
  have hcl := hs1.lt
  have hz2 := hd2.but.size
  have HD2 := Lib.hid hd2
  have HO1 := Lib.hid ho1
  clear hd2 ho1 hs1
  go_wp2_with fail
  refine (DrawWants_any c n cp A g _ hn hs2).mono ?_; rintro e w3 ⟨A2, c2, b, hl2, hc2, hn2, rfl, ho2, hd3⟩
  have hz3 := hd3.but.size
  have HA1 : HAt w3 w3.heap.size A1 a := fun hn => by
    obtain ⟨q, off, e, h1, h2, hc⟩ := HO1.out hn
    have hk := hd3.but.block q h2 (by omega)
    exact ⟨q, off, e, by omega, fun j hj => ⟨(World.cell?_of_block (a := ⟨q, _, none⟩) hk).trans (hc j hj).1.1, (World.cell?_of_block (a := ⟨q, _, none⟩) hk).trans (hc j hj).1.2⟩⟩
  have HB3 := HB1.out.trans ((HD2.out.trans hd3).but.below (B' := w.heap.size) hz1 hcw)
  have HA1 := Lib.hid HA1
  have HB3 := Lib.hid HB3
  have ho2 := Lib.hid ho2.at_
  clear hd3 hs2
  go_wp2
  exact bodyPost_ret (v := .tuple #[.slice A1 a.length c1, .slice A2 b.length c2]) (by simp [results, Try.results15, go_sem]) rfl ⟨A1, A2, c1, c2, a, b, rfl, hl1, hl2, hc1, hc2, hn1, hn2, HA1.out, ho2.out, HB3.out⟩
end Go.Proofs.Ytognfnfbmbfidaa
