/- Wait graphs: RingIn of the model. -/
import Derived.Test.YtomkfldimkpmdaaRs
import Derived.Deep.RegionLaw
namespace Go.Proofs.Ytomkfldimkpmdaa
open Go.RowKit

theorem ring_at {L : WL} {j : Nat} {e : Int × Int} (h : Rch L e.1 e.1) (_hg : L[j]? = some e) : Ring L := ⟨_, h⟩
theorem ring_none {L : WL} (h : ∀ j e, j < L.length → L[j]? = some e → ¬ Rch L e.1 e.1) : ¬ Ring L := fun ⟨a, n, b, hb, hw⟩ => by
  obtain ⟨j, hj⟩ := List.getElem?_of_mem hb
  exact h j _ (List.getElem?_eq_some_iff.1 hj).1 hj ⟨n, b, hb, hw⟩
theorem cell_row {w w' : World} {b o B : Nat} {v : Value} (hb : Below B w w') (h : w.cell? ⟨b, o, none⟩ = some v) (hB : b < B) : w'.cell? ⟨b, o, none⟩ = some v := (hb.cell (p := ⟨b, o, none⟩) hB).trans h
set_option maxHeartbeats 1600000 in
set_option maxRecDepth 100000 in
theorem specRing_any (A : Option Addr) (c B : Nat) (L : WL) (w : World) (hB : B ≤ w.heap.size) (hn : L.length ≤ 1048576) (r : WAt w B A L) :
    Calls Try.prog 38 #[.slice A L.length c] w fun e w' => e = .returned (.bool (ringB L)) ∧ Below w.heap.size w w' := by
  go_enter Try.func38, Try.ntmps38
  go_wp2
  go_loopw [3] (fun i wr => ∃ k : Nat, k ≤ L.length ∧ i = .int .i64 k ∧ Below w.heap.size w wr ∧ Hid (∀ j e, j < k → L[j]? = some e → ¬ Rch L e.1 e.1)) (fun i _ => L.length - (intOf i).toNat)
  case atStart => exact ⟨0, Nat.zero_le _, rfl, Below.refl _ _, Lib.hid (fun j e hj => absurd hj (by omega))⟩
  case round =>
    obtain ⟨k, hk, rfl, hb, HC⟩ := hrel
    have hsz := hb.size
    by_cases hkn : k < L.length
    · have hbd := hb.drew
      have RD := Lib.hid (r.keep hbd hB)
      have hBd : B ≤ wr.drew.heap.size := Nat.le_trans hB hbd.size
      obtain ⟨b, off, hA, hbB, hc⟩ := (r.keep hb hB) (by omega)
      have hkz : (k : Int) < L.length := by omega
      have hget : L[k]? = some L[k] := List.getElem?_eq_getElem hkn
      generalize L[k] = e at hget
      obtain ⟨d0, d1⟩ := hc k e hget
      have HG := Lib.hid hget
      have D0 := Lib.hid d0
      have hbl : b < wr.heap.size := by omega
      subst hA
      clear hc hget d1 r
      go_wp2_with fail
      go_region_law (first | (go_simp; go_at_call 90; refine (reach_any (some ⟨b, off, none⟩) c B L e.1 _ hBd hn RD.out).mono ?_; rintro o w8 ⟨out, X, C, rfl, hI, hb8, hol, hm⟩; have hI8 := Lib.hid hI; have HM := Lib.hid hm; clear hI hm; have d8 := cell_row hb8 D0.out hbl) | (go_simp; go_at_call 89; refine (hasR_any X C _ out e.1 _ (by omega) hI8.out).mono ?_; rintro o w9 ⟨rfl, rfl⟩))
      all_goals
        have hb2 := hb.trans ((Below.drew (Below.refl wr.heap.size wr)).trans hb8 |>.mono hsz)
        by_cases hq : e.1 ∈ out
        · have HE := Lib.hid (ring_yes (ring_at ((HM.out _).1 hq) HG.out))
          clear hb8 d8 d0
          go_wp2
          go_ret
          exact ⟨ret_bool HE.out.symm, hb2⟩
        · have HC := Lib.hid (show ∀ j x, j < k + 1 → L[j]? = some x → ¬ Rch L x.1 x.1 from fun j x hj hx hr => by
            by_cases ej : j = k
            · subst ej
              rw [HG.out] at hx
              cases hx
              exact hq ((HM.out _).2 hr)
            · exact HC.out j x (by omega) hx hr)
          clear hb8 d8 d0
          go_wp2
          exact ⟨⟨k + 1, by omega, by go_num, hb2, HC⟩, by simp [intOf]; omega⟩
    · obtain rfl : k = L.length := by omega
      have HE := Lib.hid (ring_no (ring_none HC.out))
      go_wp2
      go_ret
      exact ⟨ret_bool HE.out.symm, hb⟩
end Go.Proofs.Ytomkfldimkpmdaa
