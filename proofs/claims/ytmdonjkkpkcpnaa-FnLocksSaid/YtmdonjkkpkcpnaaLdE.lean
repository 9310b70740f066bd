/- The drawn operations of a play. -/
import Derived.Test.YtmdonjkkpkcpnaaLdC
namespace Go.Proofs.Ytmdonjkkpkcpnaa
open Go.RowKit

set_option maxHeartbeats 1600000 in
set_option maxRecDepth 100000 in
theorem DrawPlay_any (n cp : Nat) (A : Option Addr) (g : Nat → Int) (w : World) (hn : n ≤ 1048576) (hbs : BytesAt w w.heap.size A n g) :
    Calls Try.prog 13 #[.slice A n cp] w fun e w' => ∃ A2 c2 ops, e = .returned (.slice A2 ops.length c2) ∧ ops.length ≤ 301 ∧ (∀ j, j < ops.length → (opAt ops j).length ≤ 3) ∧ OpsAt w' w'.heap.size A2 ops ∧ Below w.heap.size w w' := by
  go_enter Try.func13, Try.ntmps13
  go_wp2_with fail
  refine (l01New_any n cp A g _ hn hbs).mono ?_; rintro e w1 ⟨c, hcw, rfl, hs1, hb1⟩
  have hz1 := hb1.size
  have HB1 := Lib.hid hb1
  clear hb1 hbs
  go_wp2_with fail
  refine (l01Size_any A n cp 40 _ hn (by omega) (by omega)).mono ?_; rintro e w' ⟨x, x2, x40, rfl, rfl⟩
  go_wp2_with fail
  refine (l01Below_any c n cp A g x (by omega) (by omega) _ hn hs1).mono ?_; rintro e w2 ⟨y, ⟨y0, _, y1⟩, rfl, hd2⟩
  have y1 := y1 (by omega)
  obtain ⟨y, rfl⟩ := Int.eq_ofNat_of_zero_le y0
  have hs2 := hs1.drawn hd2
  have HD2 := Lib.hid hd2
  clear hs1 hd2
  go_wp2_with fail
  refine (l01Once_any c n cp A g 40 (by omega) (by omega) _ hn hs2).mono ?_; rintro e w3 ⟨b, rfl, hd3⟩
  have hs3 := hs2.drawn hd3
  have HD3 := Lib.hid (HD2.out.trans hd3)
  clear hs2 hd3 HD2
  cases b with
  | false =>
    go_wp2_with fail
    refine (DrawOps_any c n cp A g y (by omega) _ hn hs3).mono ?_; rintro e w4 ⟨A2, c2, ops, rfl, hl, h3, hO, hd4⟩
    have HR := Lib.hid (show ∃ A3 c3 os, Ending.returned (.slice A2 ops.length c2) = .returned (.slice A3 os.length c3) ∧ os.length ≤ 301 ∧ (∀ j, j < os.length → (opAt os j).length ≤ 3) ∧ OpsAt w4 w4.heap.size A3 os ∧ Below w.heap.size w w4 from ⟨A2, c2, ops, rfl, by omega, h3, hO, HB1.out.trans ((HD3.out.trans hd4).but.below hz1 hcw)⟩)
    clear hl h3 hO hd4 hs3 HD3 HB1
    go_wp2
    go_ret
    exact HR.out
  | true =>
    go_wp2_with fail
    refine (l01Below_any c n cp A g 2 (by omega) (by omega) _ hn hs3).mono ?_; rintro e w5 ⟨z, ⟨z0, _, z1⟩, rfl, hd5⟩
    have z1 := z1 (by omega)
    have hs5 := hs3.drawn hd5
    have HD5 := Lib.hid (HD3.out.trans hd5)
    clear hs3 hd5 HD3
    go_wp2_with fail
    obtain ⟨z, rfl⟩ := Int.eq_ofNat_of_zero_le z0
    have e5 : (300 : Int) + (z : Int) = ((300 + z : Nat) : Int) := by omega
    rw [e5]
    refine (DrawOps_any c n cp A g (300 + z) (by omega) _ hn hs5).mono ?_; rintro e w4 ⟨A2, c2, ops, rfl, hl, h3, hO, hd4⟩
    have HR := Lib.hid (show ∃ A3 c3 os, Ending.returned (.slice A2 ops.length c2) = .returned (.slice A3 os.length c3) ∧ os.length ≤ 301 ∧ (∀ j, j < os.length → (opAt os j).length ≤ 3) ∧ OpsAt w4 w4.heap.size A3 os ∧ Below w.heap.size w w4 from ⟨A2, c2, ops, rfl, by omega, h3, hO, HB1.out.trans ((HD5.out.trans hd4).but.below hz1 hcw)⟩)
    clear hl h3 hO hd4 hs5 HD5 HB1 e5
    go_wp2
    go_ret
    exact HR.out
end Go.Proofs.Ytmdonjkkpkcpnaa
