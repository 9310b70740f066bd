/- The program's LockText. -/
import Derived.Test.YtmdonjkkpkcpnaaDoorLx1
import Derived.Test.YtmdonjkkpkcpnaaDoorLi2
import Derived.Test.YtmdonjkkpkcpnaaDoorTab
import Derived.Test.YtmdonjkkpkcpnaaDoorJoin
import Derived.Deep.AppendLies
import Derived.Maps.AppendAt
import Derived.Laws.AppendOwnNone
namespace Go.Proofs.YtmdonjkkpkcpnaaDoor
open Go.RowKit

theorem infoStr : (Tryd.prog.info? 9).map (fun i => (i.zero, i.size, i.bytes)) = some (some (.string ⟨#[]⟩), 1, 16) := by kernel_rfl
/-- the texts of holds as Go's strings -/
def txtB (l : HL) : List ByteArray := (txtL l).map fun x => ⟨x.toArray⟩
theorem txtB_len (l : HL) : (txtB l).length = l.length := by simp [txtB, txtL]
theorem txtB_succ {l : HL} {k : Nat} (h : k < l.length) : txtB (l.take (k + 1)) = txtB (l.take k) ++ [⟨(txt (hT l k) (hW l k)).toArray⟩] := by simp [txtB, txtL_succ h]
theorem itoa_small (x : Int) (h : 1 ≤ x ∧ x ≤ 8) (w : World) :
    Calls Tryd.prog 25 #[.int .i64 x] w fun e w' => e = .returned (.string ⟨(Lib.itoa x).toArray⟩) ∧ w = w' := by
  obtain ⟨n, rfl⟩ := Int.eq_ofNat_of_zero_le (show 0 ≤ x by omega)
  rw [Lib.itoa_nonneg]
  exact (Tryd.strconv_Itoa_small n (by omega) w).mono fun e w' ⟨he, hw⟩ => ⟨he, hw.symm⟩
/-- strings of the call's own -/
def RetS (w : World) (xs : List ByteArray) (e : Ending) (w' : World) : Prop := ∃ v, e = .returned v ∧ w'.ownsRow w.heap.size 9 1 v xs.length (xs.map .string) ∧ Below w.heap.size w w'

set_option maxHeartbeats 1600000 in
set_option maxRecDepth 100000 in
theorem holdTexts_any (A : Option Addr) (c B : Nat) (l : HL) (w : World) (hl8 : l.length ≤ 8) (ht : ∀ j, j < l.length → 1 ≤ hT l j ∧ hT l j ≤ 8) (h : HAt w B A l) :
    Calls Tryd.prog 14 #[.slice A l.length c] w (RetS w (txtB l)) := by
  have h := h.lt
  obtain ⟨ii, hi, hz0, hz1, hz2⟩ := info_parts infoStr
  have Hi := Lib.hid hi
  have Hz0 := Lib.hid hz0
  have Hz1 := Lib.hid hz1
  have Hz2 := Lib.hid hz2
  clear hi hz0 hz1 hz2
  go_enter Tryd.func14, Tryd.ntmps14
  go_wp2
  go_loopw [3, 9] (fun v i wr => ∃ k : Nat, k ≤ l.length ∧ i = .int .i64 (k : Int) ∧ ∃ M, M = txtB (l.take k) ∧ wr.ownsRow w.heap.size 9 1 v k (M.map .string) ∧ Below w.heap.size w wr) (fun _ i _ => l.length - (intOf i).toNat)
  case atStart => exact ⟨0, Nat.zero_le _, rfl, [], rfl, World.ownsRow_nil _ _ _ _, Below.refl _ _⟩
  case round =>
    obtain ⟨k, hk, rfl, M, hM, hrow, hb⟩ := hrel
    have hs := hb.size
    by_cases hkn : k < l.length
    · have hkz : (k : Int) < l.length := by omega
      obtain ⟨b, off, rfl, hB, hc⟩ := h (by omega)
      have d0 : wr.cell? ⟨b, off + k * 2, none⟩ = some (.int .i64 (hT l k)) := (hb.cell (p := ⟨b, off + k * 2, none⟩) hB).trans (hc k hkn).1
      have d1 : wr.cell? ⟨b, off + k * 2 + 1, none⟩ = some (.bool (hW l k)) := (hb.cell (p := ⟨b, off + k * 2 + 1, none⟩) hB).trans (hc k hkn).2
      have hr := ht k hkn
      have hal := itoa_tid hr
      have hE := txtB_succ hkn
      have hlt := txtB_len (l.take k)
      clear hc
      rw [← hM] at hE hlt
      clear hM
      unfold txt at hE
      obtain ⟨M', hM'⟩ : ∃ M', M' = txtB (l.take (k + 1)) := ⟨_, rfl⟩
      rw [← hM'] at hE
      have HM' := Lib.hid hM'
      clear hM'
      generalize hT l k = x at d0 hr hal hE
      generalize hW l k = y at d1 hE
      have HN := fun w2 => itoa_small x hr w2
      have hcat : ¬ (9223372036854775807 < (Lib.itoa x).length + 1) := by omega
      generalize Lib.itoa x = T at hal hE HN hcat
      have HE := Lib.hid hE
      have HLT := Lib.hid hlt
      clear hE hlt
      have hrow1 := hrow.alloc (.cells #[.int .i64 x, .bool y] 43)
      have hb1 := hb.alloc hs (.cells #[.int .i64 x, .bool y] 43)
      have hs1 : w.heap.size ≤ (wr.alloc (.cells #[.int .i64 x, .bool y] 43)).heap.size := by simp; omega
      have hrow2 := hrow1.alloc (.cells #[.string ⟨(T ++ [mdB y]).toArray⟩] 9)
      cases y with
      | false =>
        have hbt : ((⟨T.toArray⟩ : ByteArray) ++ ⟨#[114]⟩) = ⟨(T ++ [mdB false]).toArray⟩ := by apply ByteArray.ext; simp [ByteArray.data_append, mdB]
        generalize (⟨(T ++ [mdB false]).toArray⟩ : ByteArray) = S at hbt HE hrow2
        go_wp2_with fail
        refine (HN _).mono ?_; rintro e w' ⟨rfl, rfl⟩
        go_wp2_with (at_builtin; refine wpList_append_own _ rfl _ _ 37 rfl w.heap.size 9 ii (.string ⟨#[]⟩) 1 16 Tryd.underlying37 Hi.out Hz0.out Hz1.out Hz2.out rfl (by decide) _ _ _ rfl hrow2 ⟨wr.heap.size + 1, 0, none⟩ 1 1 [.string S] rfl rfl ?c1 ?c2 ?c3 ?c4 ?c5 ?_)
        case c1 =>
          intro j u hj
          match j, hj with
          | 0, hj => simp at hj; subst hj; simp [Addr.add]
        case c2 => intro u hu; simp at hu; subst hu; rfl
        case c3 => unfold maxLen; omega
        case c4 => omega
        case c5 => simp; omega
        intro v' w9 hown' hgrow _
        have hb9 := Lib.hid ((hb1.alloc hs1 (.cells #[.string S] 9)).grown hgrow (by simp; omega) (fun q hq => (hrow.lt q hq).1))
        have hr9 : w9.ownsRow w.heap.size 9 1 v' (k + 1) (M'.map .string) := by rw [HE.out, List.map_append]; exact hown'
        have hr9 := Lib.hid hr9
        clear hown' hgrow hrow2 hrow1 hrow hb hb1 d0 d1 HN hbt
        go_wp2
        exact ⟨⟨k + 1, by omega, by go_num, M', HM'.out, hr9.out, hb9.out⟩, by simp [intOf]; omega⟩
      | true =>
        have hbt : ((⟨T.toArray⟩ : ByteArray) ++ ⟨#[119]⟩) = ⟨(T ++ [mdB true]).toArray⟩ := by apply ByteArray.ext; simp [ByteArray.data_append, mdB]
        generalize (⟨(T ++ [mdB true]).toArray⟩ : ByteArray) = S at hbt HE hrow2
        go_wp2_with fail
        refine (HN _).mono ?_; rintro e w' ⟨rfl, rfl⟩
        go_wp2_with (at_builtin; refine wpList_append_own _ rfl _ _ 37 rfl w.heap.size 9 ii (.string ⟨#[]⟩) 1 16 Tryd.underlying37 Hi.out Hz0.out Hz1.out Hz2.out rfl (by decide) _ _ _ rfl hrow2 ⟨wr.heap.size + 1, 0, none⟩ 1 1 [.string S] rfl rfl ?d1 ?d2 ?d3 ?d4 ?d5 ?_)
        case d1 =>
          intro j u hj
          match j, hj with
          | 0, hj => simp at hj; subst hj; simp [Addr.add]
        case d2 => intro u hu; simp at hu; subst hu; rfl
        case d3 => unfold maxLen; omega
        case d4 => omega
        case d5 => simp; omega
        intro v' w9 hown' hgrow _
        have hb9 := Lib.hid ((hb1.alloc hs1 (.cells #[.string S] 9)).grown hgrow (by simp; omega) (fun q hq => (hrow.lt q hq).1))
        have hr9 : w9.ownsRow w.heap.size 9 1 v' (k + 1) (M'.map .string) := by rw [HE.out, List.map_append]; exact hown'
        have hr9 := Lib.hid hr9
        clear hown' hgrow hrow2 hrow1 hrow hb hb1 d0 d1 HN hbt
        go_wp2
        exact ⟨⟨k + 1, by omega, by go_num, M', HM'.out, hr9.out, hb9.out⟩, by simp [intOf]; omega⟩
    · obtain rfl : k = l.length := by omega
      rw [List.take_length] at hM
      subst hM
      have HB := Lib.hid hb
      have HR := Lib.hid hrow
      clear hrow hb
      go_wp2
      go_ret
      exact ⟨_, rfl, by rw [txtB_len]; exact HR.out, HB.out⟩
end Go.Proofs.YtmdonjkkpkcpnaaDoor
