/- A text cut at a byte: the model's l01Parts. -/
import Derived.Test.YtilgfcbjonalaaaDoorCut
namespace Go.Proofs.YtilgfcbjonalaaaDoor
open Go.RowKit

set_option maxHeartbeats 1600000 in
set_option maxRecDepth 100000 in
theorem l01Parts_any (s : ByteArray) (c : Nat) (w : World) (hs : s.size ≤ 1048576) :
    Calls Tryd.prog 77 #[.string s, .int .u8 c] w fun e w' => ∃ v, e = .returned v ∧ w'.ownsRow w.heap.size 9 1 v ((cutTo s c s.size).1.length + 1) ((parts s c).map .string) ∧ Below w.heap.size w w' := by
  obtain ⟨ii, hi, hz0, hz1, hz2⟩ := info_parts infoStr
  have Hi := Lib.hid hi
  have Hz0 := Lib.hid hz0
  have Hz1 := Lib.hid hz1
  have Hz2 := Lib.hid hz2
  clear hi hz0 hz1 hz2
  have HR0 := Lib.hid (World.ownsRow_made (base := w.heap.size) (size := 1) (e := 9) w #[] 0 (Nat.le_refl _) (Nat.zero_le _) rfl)
  go_enter Tryd.func77, Tryd.ntmps77
  go_wp2
  go_loopw [5, 6, 7] (fun u a x wr => ∃ (i : Nat) (L : List ByteArray) (at_ : Nat), i ≤ s.size + 1 ∧ x = .int .i64 (i : Int) ∧ a = .int .i64 (at_ : Int) ∧ wr.ownsRow w.heap.size 9 1 u L.length (L.map .string) ∧ Below w.heap.size w wr ∧ (i ≤ s.size → L = (cutTo s c i).1 ∧ at_ = (cutTo s c i).2) ∧ (i = s.size + 1 → L = parts s c)) (fun _ _ x _ => s.size + 1 - (intOf x).toNat)
  case atStart => exact ⟨0, [], 0, by omega, rfl, rfl, HR0.out, (Below.refl _ _).alloc (Nat.le_refl _) _, fun _ => ⟨rfl, rfl⟩, fun h => by omega⟩
  case round =>
    obtain ⟨i, L, at_, hi, rfl, rfl, hrow, hb, hin, hout⟩ := hrel
    have hsz := hb.size
    by_cases h1 : i = s.size + 1
    · have hL := hout h1
      have hiz : ¬ (i : Int) ≤ s.size := by omega
      have hlen : L.length = (cutTo s c s.size).1.length + 1 := by rw [hL]; simp [parts]
      rw [hlen, hL] at hrow
      have HROW := Lib.hid hrow
      clear hin hout hL hlen hrow h1
      go_wp2
      go_ret
      exact ⟨_, rfl, HROW.out, hb⟩
    · obtain ⟨hL, hat⟩ := hin (by omega)
      have hlen := cutTo_len s c i
      have hfrom := cutTo_le s c i
      rw [← hL] at hlen
      rw [← hat] at hfrom
      have hiz : (i : Int) ≤ s.size := by omega
      have HL := Lib.hid hL
      have HAT := Lib.hid hat
      clear hin hout hL hat
      by_cases h2 : i = s.size
      · subst h2
        have HP := Lib.hid (show parts s c = L ++ [s.extract at_ s.size] by rw [HL.out, HAT.out]; rfl)
        go_wp2_with (at_builtin; refine wpList_append_own _ rfl _ _ 77 rfl w.heap.size 9 ii (.string ⟨#[]⟩) 1 16 Tryd.underlying77 Hi.out Hz0.out Hz1.out Hz2.out rfl (by decide) _ _ _ rfl (hrow.alloc _) ⟨wr.heap.size, 0, none⟩ 1 1 [.string (s.extract at_ s.size)] rfl rfl ?c1 ?c2 ?c3 ?c4 ?c5 ?_)
        case c1 =>
          intro j u hj
          match j, hj with
          | 0, hj => simp at hj; subst hj; simp [Addr.add]
        case c2 => intro u hu; simp at hu; subst hu; rfl
        case c3 => unfold maxLen; omega
        case c4 => omega
        case c5 => simp; omega
        intro v' w9 hown' hgrow _
        have hb9 := (hb.alloc hsz (.cells #[.string (s.extract at_ s.size)] 9)).grown hgrow (by simp; omega) (fun q hq => (hrow.lt q hq).1)
        have hr9 : w9.ownsRow w.heap.size 9 1 v' (L ++ [s.extract at_ s.size]).length ((L ++ [s.extract at_ s.size]).map .string) := by simpa using hown'
        clear hown' hgrow hrow
        go_wp2
        exact ⟨⟨s.size + 1, L ++ [s.extract at_ s.size], s.size + 1, by omega, by go_num, by go_num, hr9, hb9, fun h => by omega, fun _ => HP.out.symm⟩, by simp [intOf]⟩
      · have hil : i < s.size := by omega
        have hne : ((i : Int) == (s.size : Int)) = false := by rw [beq_eq_false_iff_ne]; omega
        have hgi : s.get! i = s[i]'hil := by have := get_at s i hil; rwa [Nat.add_zero] at this
        by_cases h3 : (s.get! i).toNat = c
        · have HC := Lib.hid (cutTo_yes h3)
          have hbe : (((s[i]'hil).toNat : Int) == (c : Int)) = true := by rw [← hgi, h3]; exact beq_self_eq_true _
          clear hgi h3
          go_wp2_with (at_builtin; refine wpList_append_own _ rfl _ _ 77 rfl w.heap.size 9 ii (.string ⟨#[]⟩) 1 16 Tryd.underlying77 Hi.out Hz0.out Hz1.out Hz2.out rfl (by decide) _ _ _ rfl (hrow.alloc _) ⟨wr.heap.size, 0, none⟩ 1 1 [.string (s.extract at_ i)] rfl rfl ?d1 ?d2 ?d3 ?d4 ?d5 ?_)
          case d1 =>
            intro j u hj
            match j, hj with
            | 0, hj => simp at hj; subst hj; simp [Addr.add]
          case d2 => intro u hu; simp at hu; subst hu; rfl
          case d3 => unfold maxLen; omega
          case d4 => omega
          case d5 => simp; omega
          intro v' w9 hown' hgrow _
          have hb9 := (hb.alloc hsz (.cells #[.string (s.extract at_ i)] 9)).grown hgrow (by simp; omega) (fun q hq => (hrow.lt q hq).1)
          have hr9 : w9.ownsRow w.heap.size 9 1 v' (L ++ [s.extract at_ i]).length ((L ++ [s.extract at_ i]).map .string) := by simpa using hown'
          clear hown' hgrow hrow
          go_wp2
          exact ⟨⟨i + 1, L ++ [s.extract at_ i], i + 1, by omega, by go_num, by go_num, hr9, hb9, fun _ => by rw [HC.out, HL.out, HAT.out]; exact ⟨rfl, rfl⟩, fun h => by omega⟩, by simp [intOf]; omega⟩
        · have HC := Lib.hid (cutTo_no h3)
          have hbe : (((s[i]'hil).toNat : Int) == (c : Int)) = false := by rw [← hgi, beq_eq_false_iff_ne]; omega
          clear hgi h3
          go_wp2
          exact ⟨⟨i + 1, L, at_, by omega, by go_num, rfl, hrow, hb, fun _ => by rw [HC.out, HL.out, HAT.out]; exact ⟨rfl, rfl⟩, fun h => by omega⟩, by simp [intOf]; omega⟩
end Go.Proofs.YtilgfcbjonalaaaDoor
