/- A text cut at a byte: the program's splitAt. -/
import Derived.Test.YtilgfcbjonalaaaDoorCut
import Derived.WalkSmall
namespace Go.Proofs.YtilgfcbjonalaaaDoor
open Go.RowKit

set_option maxHeartbeats 1600000 in
set_option maxRecDepth 100000 in
theorem splitAt_any (s : ByteArray) (c : Nat) (hc : c < 128) (w : World) (hs : s.size ≤ 1048576) :
    Calls Tryd.prog 57 #[.string s, .int .i32 c] w fun e w' => ∃ v, e = .returned v ∧ w'.ownsRow w.heap.size 9 1 v ((cutTo s c s.size).1.length + 1) ((parts s c).map .string) ∧ Below w.heap.size w w' := by
  obtain ⟨ii, hi, hz0, hz1, hz2⟩ := info_parts infoStr
  have Hi := Lib.hid hi
  have Hz0 := Lib.hid hz0
  have Hz1 := Lib.hid hz1
  have Hz2 := Lib.hid hz2
  clear hi hz0 hz1 hz2
  go_enter Tryd.func57, Tryd.ntmps57
  go_wp2
  go_loopw [5, 6] (fun u fr wr => ∃ pos : Nat, pos ≤ s.size ∧ fr = .int .i64 ((cutTo s c pos).2 : Nat) ∧ wr.heap[w.heap.size]? = some (.stringIter s pos) ∧ wr.ownsRow (w.heap.size + 1) 9 1 u (cutTo s c pos).1.length ((cutTo s c pos).1.map .string) ∧ Below w.heap.size w wr) (fun _ _ wr => s.size - wr.iterPos w.heap.size)
  case atStart => exact ⟨0, Nat.zero_le _, rfl, World.iter_heap w s 0, World.ownsRow_nil _ _ _ _, (Below.refl _ _).alloc (Nat.le_refl _) _⟩
  case round =>
    obtain ⟨pos, hp, rfl, hit, hrow, hb⟩ := hrel
    by_cases hlt : pos < s.size
    · have hnx := fun ty => Lib.run_next_any_at (P := Tryd.prog) wr w.heap.size s pos ty hit hlt
      have hwd := decode_width s pos hlt
      obtain ⟨hw1, hw2⟩ := hwd
      have hitW := Lib.iterAt_heap wr w.heap.size s pos (pos + (Utf8.decode s pos).2) hit
      have hrowW := ownsRow_iterAt hrow (Nat.lt_succ_self w.heap.size) s (pos + (Utf8.decode s pos).2)
      have hbW := Lib.below_iterAt hb (Nat.le_refl _) s (pos + (Utf8.decode s pos).2)
      have hsz := hb.size
      have hlen := cutTo_len s c pos
      have hfrom := cutTo_le s c pos
      have hlts := (Array.getElem?_eq_some_iff.1 hitW).1
      have HPr := Lib.hid (iterPos_of hit)
      clear hit hrow hb
      by_cases hr : (Utf8.decode s pos).1 = c
      · obtain ⟨hK, hcut⟩ := cutTo_rune_yes hc hlt hr
        have HC := Lib.hid hcut
        have HK := Lib.hid hK
        rw [hr] at hnx
        clear hcut hr
        generalize (Utf8.decode s pos).2 = K at hnx hitW hrowW hbW hw1 hw2 HC HK hK hlts
        subst hK
        generalize wr.iterAt w.heap.size s (pos + 1) = W at hnx hitW hrowW hbW hlts
        have hszW := hbW.size
        have HIT := Lib.hid hitW
        clear hitW
        go_wp2_with (at_builtin; refine wpList_append_own _ rfl _ _ 77 rfl (w.heap.size + 1) 9 ii (.string ⟨#[]⟩) 1 16 Tryd.underlying77 Hi.out Hz0.out Hz1.out Hz2.out rfl (by decide) _ _ _ rfl (hrowW.alloc _) ⟨W.heap.size, 0, none⟩ 1 1 [.string (s.extract (cutTo s c pos).2 pos)] rfl rfl ?c1 ?c2 ?c3 ?c4 ?c5 ?_)
        case c2 => rfl
        case c3 => unfold maxLen; omega
        case c4 => omega
        intro v' w9 hown' hgrow _
        have hb9 := (hbW.alloc hszW (.cells #[.string (s.extract (cutTo s c pos).2 pos)] 9)).grown hgrow (by simp; omega) (fun q hq => by have := (hrowW.lt q hq).1; omega)
        have hit9 : w9.heap[w.heap.size]? = some (.stringIter s (pos + 1)) :=
          (hgrow.block w.heap.size (by simp; omega) (fun e => by have := (hrowW.lt _ e.symm).1; omega)).trans ((Below.heap_alloc _ _ _ hlts).trans HIT.out)
        have hr9 : w9.ownsRow (w.heap.size + 1) 9 1 v' (cutTo s c (pos + 1)).1.length ((cutTo s c (pos + 1)).1.map .string) := by rw [HC.out]; simpa using hown'
        have HE := Lib.hid (show (cutTo s c (pos + 1)).2 = pos + 1 by rw [HC.out])
        have HP := Lib.hid (iterPos_of hit9)
        clear hown' hgrow hrowW hnx
        go_wp2
        exact ⟨⟨pos + 1, hw2, by rw [HE.out]; go_num, hit9, hr9, hb9⟩, by rw [HP.out, HPr.out]; omega⟩
      · have hcut := cutTo_rune_no hc hlt hr
        have HC := Lib.hid hcut
        have hne : (((Utf8.decode s pos).1 : Int) == (c : Int)) = false := by rw [beq_eq_false_iff_ne]; omega
        clear hcut hr
        generalize (Utf8.decode s pos).1 = R at hnx hne
        generalize (Utf8.decode s pos).2 = K at hnx hitW hrowW hbW hw1 hw2 HC hlts
        generalize wr.iterAt w.heap.size s (pos + K) = W at hnx hitW hrowW hbW hlts
        have hszW := hbW.size
        have HIT := Lib.hid hitW
        have HP := Lib.hid (iterPos_of hitW)
        clear hitW
        go_wp2
        exact ⟨⟨pos + K, hw2, by rw [HC.out], HIT.out, by rw [HC.out]; exact hrowW, hbW⟩, by rw [HP.out, HPr.out]; omega⟩
    · have hnx := fun ty => Lib.run_next_end_at (P := Tryd.prog) wr w.heap.size s pos ty hit hlt
      obtain rfl : pos = s.size := by omega
      have hfrom := cutTo_le s c s.size
      have hlen := cutTo_len s c s.size
      have hsz := hb.size
      clear hit
      have HC := Lib.hid (show (cutTo s c s.size).1 ++ [s.extract (cutTo s c s.size).2 s.size] = parts s c from rfl)
      go_wp2_with (at_builtin; refine wpList_append_own _ rfl _ _ 77 rfl (w.heap.size + 1) 9 ii (.string ⟨#[]⟩) 1 16 Tryd.underlying77 Hi.out Hz0.out Hz1.out Hz2.out rfl (by decide) _ _ _ rfl (hrow.alloc _) ⟨wr.heap.size, 0, none⟩ 1 1 [.string (s.extract (cutTo s c s.size).2 s.size)] rfl rfl ?d1 ?d2 ?d3 ?d4 ?d5 ?_)
      case d1 =>
        intro j u hj
        match j, hj with
        | 0, hj => simp at hj; subst hj; simp [Addr.add]
      case d2 => intro u hu; simp at hu; subst hu; rfl
      case d5 => simp; omega
      case d3 => unfold maxLen; omega
      case d4 => omega
      intro v' w9 hown' hgrow _
      have hb9 := (hb.alloc hsz (.cells #[.string (s.extract (cutTo s c s.size).2 s.size)] 9)).grown hgrow (by simp; omega) (fun q hq => by have := (hrow.lt q hq).1; omega)
      have hr9 : w9.ownsRow w.heap.size 9 1 v' ((cutTo s c s.size).1.length + 1) ((parts s c).map .string) := ownsRow_low (by rw [← HC.out]; simpa using hown')
      clear hown' hgrow hrow hnx hb
      go_wp2
      go_ret
      exact ⟨_, rfl, hr9, hb9⟩
end Go.Proofs.YtilgfcbjonalaaaDoor
