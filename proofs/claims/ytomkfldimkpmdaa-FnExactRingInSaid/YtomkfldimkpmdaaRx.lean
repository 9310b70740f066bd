/- Wait graphs: RingIn and DepthOf of the program. -/
import Derived.Test.YtomkfldimkpmdaaRr
import Derived.Test.YtomkfldimkpmdaaRu
namespace Go.Proofs.Ytomkfldimkpmdaa
open Go.RowKit
open Go.Maps (Keyed)

set_option maxHeartbeats 1600000 in
set_option maxRecDepth 100000 in
theorem implRing_any (A : Option Addr) (c B : Nat) (L : WL) (w : World) (hB : B ≤ w.heap.size) (hn : L.length ≤ 1048576) (r : WAt w B A L) (hw : ∀ e, e ∈ L → wfI e.1 ∧ wfI e.2) :
    Calls Try.prog 40 #[.slice A L.length c] w fun e w' => e = .returned (.bool (ringB L)) ∧ Below w.heap.size w w' := by
  go_enter Try.func40, Try.ntmps40
  go_wp2_with fail
  (with_reducible refine (depths_any A c B L _ hB hn r hw).mono ?_); rintro o w1 ⟨hb, ⟨hR, rfl⟩ | ⟨hR, b, n, f, dd, rfl, hM, hv, hd⟩⟩
  · have HE := Lib.hid (ring_yes hR)
    clear hR
    go_wp2
    go_ret
    exact ⟨ret_bool HE.out.symm, hb⟩
  · have HE := Lib.hid (ring_no hR)
    clear hR hM hv hd
    go_wp2
    go_ret
    exact ⟨ret_bool HE.out.symm, hb⟩
set_option maxHeartbeats 1600000 in
set_option maxRecDepth 100000 in
theorem implDepth_any (A : Option Addr) (c B : Nat) (L : WL) (x0 : Int) (w : World) (hB : B ≤ w.heap.size) (hn : L.length ≤ 1048576) (r : WAt w B A L) (hw : ∀ e, e ∈ L → wfI e.1 ∧ wfI e.2) (hx : wfI x0) :
    Calls Try.prog 43 #[.slice A L.length c, .int .i64 x0] w fun e w' => e = .returned (.int .i64 (depB L x0)) ∧ Below w.heap.size w w' := by
  have hkey := keyR_of hx
  go_enter Try.func43, Try.ntmps43
  go_wp2_with fail
  (with_reducible refine (depths_any A c B L _ hB hn r hw).mono ?_); rintro o w1 ⟨hb, ⟨hR, rfl⟩ | ⟨hR, b, n, f, dd, rfl, hM, hv, hd⟩⟩
  · have HE := Lib.hid (dep_ring (w := x0) hR)
    clear hR
    go_wp2
    go_ret
    exact ⟨ret_intG HE.out.symm, hb⟩
  · have HE := Lib.hid (dep_is hR (hd x0))
    have HV := Lib.hid (hv x0)
    clear hR hv hd
    generalize dd x0 = z at HE HV
    go_wp2_with (first | (at_lookup; refine wp_look _ rfl _ _ rfl keyR Try.underlying141 (zeroRI _) rfl hM x0 rfl hkey (.int .i64 z) HV.out ?_) | fail)
    go_ret
    exact ⟨ret_intG HE.out.symm, hb⟩
end Go.Proofs.Ytomkfldimkpmdaa
