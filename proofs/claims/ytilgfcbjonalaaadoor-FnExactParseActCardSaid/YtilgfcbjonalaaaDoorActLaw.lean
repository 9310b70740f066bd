/- ParseAct: the law. -/
import Derived.Test.YtilgfcbjonalaaaDoorActI
import Derived.Test.YtilgfcbjonalaaaDoorActM
import Derived.Test.YtilgfcbjonalaaaDoorActs
namespace Go.Proofs.YtilgfcbjonalaaaDoor
open Go.RowKit

set_option maxHeartbeats 1600000 in
set_option maxRecDepth 100000 in
theorem exactParseAct_walk (s : ByteArray) (w : World) (ht : Tab w) :
    Calls Tryd.prog 5 #[.string s] w fun e w' => e = .returned (.bool true) ∧ Below w.heap.size w w' := by
  have HT := Lib.hid ht
  clear ht
  by_cases hs : 1048576 < s.size
  · go_enter Tryd.func5, Tryd.ntmps5
    go_wp2
    go_ret
    exact ⟨rfl, Below.refl _ _⟩
  · go_enter Tryd.func5, Tryd.ntmps5
    go_wp2_with fail
    refine (specParseAct_any s (by omega) _).mono ?_; rintro e w1 ⟨hout1, hb1⟩
    rcases hout1 with ⟨a, q, h, hw, rfl⟩ | ⟨hn, rfl⟩
    all_goals
      go_wp2_with fail
      refine (implParseAct_any s (by omega) _ (Tab.below (HT.out.below hb1) ((Below.refl _ _).alloc (Nat.le_refl _) _))).mono ?_; rintro e w2 ⟨hout2, hb2⟩; obtain ⟨hc2, hf2⟩ := bcell hb2
      have hz2 : w1.heap.size < w2.heap.size := by have := hb2.size; simp at this; omega
      have hz1 := hb1.size
      have hB2 : Below w.heap.size w w2 := (hb1.alloc hz1 _).trans (hb2.mono (by simp; omega))
      rcases hout2 with ⟨a', q', h', hw', rfl⟩ | ⟨hn', rfl⟩
    · obtain ⟨rfl, rfl, rfl⟩ := actIs_one hw hw'
      go_wp2_with fail
      refine (eqAct_same _ _ _ _).mono ?_; rintro e w3 ⟨rfl, hb3⟩
      have hB3 := (hB2.alloc (by omega) _).trans (hb3.mono (by simp; omega))
      go_wp2
      go_ret
      exact ⟨rfl, hB3⟩
    · exact absurd hw (hn' _ _ _)
    · exact absurd hw' (hn _ _ _)
    · go_wp2_with fail
      refine (eqAct_same _ _ _ _).mono ?_; rintro e w3 ⟨rfl, hb3⟩
      have hB3 := (hB2.alloc (by omega) _).trans (hb3.mono (by simp; omega))
      go_wp2
      go_ret
      exact ⟨rfl, hB3⟩
end Go.Proofs.YtilgfcbjonalaaaDoor
