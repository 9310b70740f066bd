/- A law's copy of a lock: its lists have no room to spare. -/
import Derived.Test.YtaninlnobmjbmaaGreatLv4
namespace Go.Proofs.YtaninlnobmjbmaaGreat
open Go.RowKit

theorem leaveL_len (hs ws : HL) (t : Int) : (leaveL hs ws t).1.length + (leaveL hs ws t).2.length ≤ hs.length + ws.length := by
  unfold leaveL
  split
  · have h1 := off_len hs t
    have h2 := off_len ws t
    have := grant_len (offL hs t) (offL ws t)
    omega
  · simp
set_option maxHeartbeats 400000 in
theorem toLockC_any (A A' : Option Addr) (c c' : Nat) (l l' : HL) (w : World) (hn : l.length ≤ 1048576) (hn' : l'.length ≤ 1048576) (hr : LAt w w.heap.size A A' (l, l')) :
    Calls Tryz.prog 96 #[.agg #[.slice A l.length c, .slice A' l'.length c']] w fun e w' => ∃ G G', e = .returned (.agg #[.slice G l.length l.length, .slice G' l'.length l'.length]) ∧ Below w.heap.size w w' ∧ LOwn w' w.heap.size w'.heap.size G G' (l, l') := by
  obtain ⟨h1, h2⟩ := hr
  go_enter Tryz.func96, Tryz.ntmps96
  go_wp2_with fail
  have b3 : Below w.heap.size w (((w.alloc (.cells #[.slice A l.length c, .slice A' l'.length c'] 104)).alloc (.cells #[.slice none 0 0, .slice none 0 0] 109)).alloc (.cells #[.slice none 0 0, .slice none 0 0] 109)) :=
    (((Below.refl _ _).alloc (Nat.le_refl _) _).alloc (by simp) _).alloc (by simp; omega) _
  have X := ((Box.new (w := w) (c := #[.slice A l.length c, .slice A' l'.length c']) (t := 104) rfl).alloc (.cells #[.slice none 0 0, .slice none 0 0] 109)).alloc (.cells #[.slice none 0 0, .slice none 0 0] 109)
  have Y := (Box.new (w := w.alloc (.cells #[.slice A l.length c, .slice A' l'.length c'] 104)) (b := w.heap.size + 1) (c := #[.slice none 0 0, .slice none 0 0]) (t := 109) (by simp)).alloc (.cells #[.slice none 0 0, .slice none 0 0] 109)
  have Z := Box.new (w := (w.alloc (.cells #[.slice A l.length c, .slice A' l'.length c'] 104)).alloc (.cells #[.slice none 0 0, .slice none 0 0] 109)) (b := w.heap.size + 1 + 1) (c := #[.slice none 0 0, .slice none 0 0]) (t := 109) (by simp)
  refine (toHoldS_any A c l _ hn (h1.below b3 b3.size)).mono ?_; rintro e w1 ⟨g, rfl, hb1, ho1⟩
  have X := X.next hb1
  have Y := Y.next hb1
  have Z := Z.next hb1
  have b4 := b3.trans (hb1.mono b3.size)
  obtain ⟨x0, x1, xf⟩ := X.c2
  obtain ⟨y0, y1, yf⟩ := Y.c2
  obtain ⟨z0, z1, zf⟩ := Z.c2
  clear b3 hb1
  go_wp2_with fail
  clear x0 x1 xf y0 y1 yf z0 z1 zf
  have b5 := b4.setCell (p := ⟨w.heap.size + 1 + 1, 0, none⟩) (by simp; omega) (.slice (some ⟨g, 0, none⟩) l.length l.length)
  have Y := Y.far (a := ⟨w.heap.size + 1 + 1, 0, none⟩) (.slice (some ⟨g, 0, none⟩) l.length l.length) (by simp)
  have hz := Z.lt
  have Z := Z.set (j := 0) (.slice (some ⟨g, 0, none⟩) l.length l.length) (by simp)
  have ho1 := ho1.far (a := ⟨w.heap.size + 1 + 1, 0, none⟩) (.slice (some ⟨g, 0, none⟩) l.length l.length) (by simp)
  refine (toHoldS_any A' c' l' _ hn' (h2.below b5 b5.size)).mono ?_; rintro e w2 ⟨g', rfl, hb2, ho2⟩
  have Y := Y.next hb2
  have Z := Z.next hb2
  have b6 := b5.trans (hb2.mono b5.size)
  obtain ⟨y0, y1, yf⟩ := Y.c2
  obtain ⟨z0, z1, zf⟩ := Z.c2
  go_wp2
  have HB := Lib.hid (((b6.setCell (p := ⟨w.heap.size + 1 + 1, 1, none⟩) (by simp; omega) (.slice (some ⟨g', 0, none⟩) l'.length l'.length)).setCell (p := ⟨w.heap.size + 1, 0, none⟩) (by simp) (.slice (some ⟨g, 0, none⟩) l.length l.length)).setCell (p := ⟨w.heap.size + 1, 1, none⟩) (by simp) (.slice (some ⟨g', 0, none⟩) l'.length l'.length))
  have ho1 := ((((ho1.below hb2 (by simp [World.setCell])).far (a := ⟨w.heap.size + 1 + 1, 1, none⟩) (.slice (some ⟨g', 0, none⟩) l'.length l'.length) (by simp)).far (a := ⟨w.heap.size + 1, 0, none⟩) (.slice (some ⟨g, 0, none⟩) l.length l.length) (by simp)).far (a := ⟨w.heap.size + 1, 1, none⟩) (.slice (some ⟨g', 0, none⟩) l'.length l'.length) (by simp)).more (lo' := w.heap.size) (B' := w1.heap.size) (by simp; omega) (Nat.le_refl _)
  have ho2 := (ho2.more (lo' := w1.heap.size) (B' := w2.heap.size) (by simp [World.setCell]) (Nat.le_refl _))
  have ho2 := ((ho2.far (a := ⟨w.heap.size + 1 + 1, 1, none⟩) (.slice (some ⟨g', 0, none⟩) l'.length l'.length) (.inl hz)).far (a := ⟨w.heap.size + 1, 0, none⟩) (.slice (some ⟨g, 0, none⟩) l.length l.length) (.inl (Nat.lt_of_succ_lt hz))).far (a := ⟨w.heap.size + 1, 1, none⟩) (.slice (some ⟨g', 0, none⟩) l'.length l'.length) (.inl (Nat.lt_of_succ_lt hz))
  have hz2 : w1.heap.size ≤ w2.heap.size := by have := hb2.size; simpa [World.setCell] using this
  exact bodyPost_ret (v := .agg #[.slice (some ⟨g, 0, none⟩) l.length l.length, .slice (some ⟨g', 0, none⟩) l'.length l'.length]) (by simp [results, Tryz.results96, go_sem, y0, y1]) rfl ⟨_, _, rfl, HB.out, (LOwn.two ho1 ho2 (by omega) hz2).more (Nat.le_refl _) (by simp [World.setCell])⟩
end Go.Proofs.YtaninlnobmjbmaaGreat
