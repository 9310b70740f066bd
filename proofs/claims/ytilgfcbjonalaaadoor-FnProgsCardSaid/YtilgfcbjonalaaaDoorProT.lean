/- ProgText: the model's, the program's, and the law. -/
import Derived.Test.YtilgfcbjonalaaaDoorTextI
import Derived.Test.YtilgfcbjonalaaaDoorActs
import Derived.Test.YtilgfcbjonalaaaDoorJoin
import Derived.Test.YtilgfcbjonalaaaDoorCut
namespace Go.Proofs.YtilgfcbjonalaaaDoor
open Go.RowKit

/-- the first k acts' texts -/
def textsOf (f : Nat → Int) (k : Nat) : List (List UInt8) := (List.range k).map fun i => actText (f (i * 3)) (f (i * 3 + 1)) (f (i * 3 + 2))
theorem textsOf_succ (f : Nat → Int) (k : Nat) : textsOf f (k + 1) = textsOf f k ++ [actText (f (k * 3)) (f (k * 3 + 1)) (f (k * 3 + 2))] := by simp [textsOf, List.range_succ]
/-- a program's text -/
def progText (n : Nat) (f : Nat → Int) : List UInt8 := Lib.join (textsOf f n) [59, 32]

def outText (n : Nat) (f : Nat → Int) : List UInt8 := if progOk n f = true then progText n f else []
theorem outText_yes {n : Nat} {f : Nat → Int} (h : progOk n f = true) : outText n f = progText n f := by unfold outText; rw [if_pos h]
theorem outText_no {n : Nat} {f : Nat → Int} (h : progOk n f = false) : outText n f = [] := by unfold outText; rw [if_neg (by rw [h]; decide)]
theorem prog_len6 {n : Nat} {f : Nat → Int} (h : progOk n f = true) : 1 ≤ n ∧ n ≤ 6 := by
  simp only [progOk, Bool.and_eq_true, inB, decide_eq_true_eq] at h
  omega
theorem actText_len (k y n : Int) : (actText k y n).length ≤ 64 := by
  cases h : actOk k y n with
  | false => rw [actText_no h]; simp
  | true =>
    obtain ⟨hk, hy, hn⟩ := act_parts h
    have h1 := Lib.itoa_length_le y (by omega) (by omega)
    have h2 := Lib.itoa_length_le n (by omega) (by omega)
    rcases hk with rfl | rfl | rfl
    · rw [actText_get h]; simp; omega
    · rw [actText_put h]; simp; omega
    · rw [actText_add h]; simp; omega
theorem join_more (xs : List (List UInt8)) (x sep : List UInt8) (h : xs ≠ []) : Lib.join (xs ++ [x]) sep = Lib.join xs sep ++ sep ++ x := by
  obtain ⟨y, r, rfl⟩ := List.exists_cons_of_ne_nil h
  rw [List.cons_append, Lib.join_cons, Lib.join_cons]
  simp [Lib.joinTail]
theorem textsOf_ne {f : Nat → Int} {k : Nat} (h : 0 < k) : textsOf f k ≠ [] := by
  intro e
  have := congrArg List.length e
  simp [textsOf] at this
  omega
theorem progText_len (f : Nat → Int) : ∀ k, (progText k f).length ≤ 66 * k
  | 0 => by simp [progText, textsOf, Lib.join_nil]
  | 1 => by
    have := actText_len (f (0 * 3)) (f (0 * 3 + 1)) (f (0 * 3 + 2))
    simp only [progText, textsOf_succ]
    simp only [textsOf, List.range_zero, List.map_nil, List.nil_append, Lib.join_one]
    omega
  | k + 2 => by
    have := actText_len (f ((k + 1) * 3)) (f ((k + 1) * 3 + 1)) (f ((k + 1) * 3 + 2))
    have ih := progText_len f (k + 1)
    unfold progText at ih ⊢
    rw [textsOf_succ, join_more _ _ _ (textsOf_ne (by omega))]
    simp only [List.length_append, List.length_cons, List.length_nil]
    omega

theorem bytes_more (a b : List UInt8) : ((⟨a.toArray⟩ : ByteArray) ++ ⟨#[59, 32]⟩ ++ ⟨b.toArray⟩) = ⟨(a ++ [59, 32] ++ b).toArray⟩ := by
  apply ByteArray.ext
  simp [ByteArray.data_append]
theorem bytes_first (b : List UInt8) : ((⟨#[]⟩ : ByteArray) ++ ⟨b.toArray⟩) = ⟨b.toArray⟩ := by
  apply ByteArray.ext
  simp [ByteArray.data_append]
theorem progText_one (f : Nat → Int) : progText 1 f = actText (f 0) (f 1) (f 2) := by
  simp [progText, textsOf, Lib.join_one]
theorem progText_more {f : Nat → Int} {k : Nat} (h : 0 < k) : progText (k + 1) f = progText k f ++ [59, 32] ++ actText (f (k * 3)) (f (k * 3 + 1)) (f (k * 3 + 2)) := by
  unfold progText
  rw [textsOf_succ, join_more _ _ _ (textsOf_ne h)]

set_option maxHeartbeats 1600000 in
set_option maxRecDepth 100000 in
theorem specProgText_any (A : Option Addr) (n cap : Nat) (f : Nat → Int) (w : World) (h1 : IntsAt w w.heap.size A (n * 3) f) :
    Calls Tryd.prog 83 #[.slice A n cap] w fun e w' => e = .returned (.tuple #[.string ⟨(outText n f).toArray⟩, .bool (progOk n f)]) ∧ Below w.heap.size w w' := by
  go_enter Tryd.func83, Tryd.ntmps83
  go_wp2_with fail
  refine (specProgOk_any _ _ _ f _ h1).mono ?_; rintro e w1 ⟨rfl, hb1⟩
  cases hp : progOk n f with
  | false =>
    have HP := Lib.hid hp
    clear hp
    go_wp2
    go_ret2
    exact ⟨by rw [outText_no HP.out]; first | rfl | (rw [HP.out]; rfl), hb1⟩
  | true =>
    have h16 := prog_len6 hp
    have HP := Lib.hid hp
    clear hp
    obtain ⟨b, off, rfl, hB, hc⟩ := h1 (by omega)
    go_wp2
    go_loopw [4, 5] (fun t i wr => ∃ k : Nat, k ≤ n ∧ i = .int .i64 (k : Int) ∧ t = .string ⟨(progText k f).toArray⟩ ∧ Below w.heap.size w wr) (fun _ i _ => n - (intOf i).toNat)
    case atStart => exact ⟨0, Nat.zero_le _, rfl, rfl, hb1⟩
    case round =>
      obtain ⟨k, hk, rfl, rfl, hb⟩ := hrel
      by_cases hkn : k < n
      · have hkz : (k : Int) < n := by omega
        have d0 : wr.cell? ⟨b, off + k * 3, none⟩ = some (.int .i64 (f (k * 3))) := (hb.cell (p := ⟨b, off + k * 3, none⟩) hB).trans (hc _ (by omega))
        have d1 : wr.cell? ⟨b, off + k * 3 + 1, none⟩ = some (.int .i64 (f (k * 3 + 1))) := (hb.cell (p := ⟨b, off + k * 3 + 1, none⟩) hB).trans (hc (k * 3 + 1) (by omega))
        have d2 : wr.cell? ⟨b, off + k * 3 + 2, none⟩ = some (.int .i64 (f (k * 3 + 2))) := (hb.cell (p := ⟨b, off + k * 3 + 2, none⟩) hB).trans (hc (k * 3 + 2) (by omega))
        have hl := progText_len f k
        have hal := actText_len (f (k * 3)) (f (k * 3 + 1)) (f (k * 3 + 2))
        have hs := hb.size
        by_cases hk0 : k = 0
        · subst hk0
          rw [show progText 0 f = [] from rfl]
          simp only [Nat.zero_mul, Nat.add_zero, Nat.zero_add] at d0 d1 d2 hal
          have hcat : ¬ (9223372036854775807 < (actText (f 0) (f 1) (f 2)).length) := by omega
          go_wp2_with fail
          refine (specActText_any _ _ _ _).mono ?_; rintro e w2 ⟨rfl, hb2⟩
          have HB2 := Lib.hid (hb.trans (hb2.mono hs))
          clear d0 d1 d2 hb hb2 hl
          go_wp2
          exact ⟨⟨1, by omega, by go_num, by rw [progText_one]; exact congrArg Value.string (bytes_first _), HB2.out⟩, by simp [intOf]; omega⟩
        · have hpos : (0 : Int) < k := by omega
          have hposn : 0 < k := by omega
          have HE := Lib.hid (progText_more (f := f) hposn)
          generalize hP : progText k f = P at hl HE ⊢
          have hcat : ¬ (9223372036854775807 < P.length + 2) := by omega
          have hcat2 : ¬ (9223372036854775807 < P.length + 2 + (actText (f (k * 3)) (f (k * 3 + 1)) (f (k * 3 + 2))).length) := by omega
          clear hP
          go_wp2_with fail
          refine (specActText_any _ _ _ _).mono ?_; rintro e w2 ⟨rfl, hb2⟩
          have HB2 := Lib.hid (hb.trans (hb2.mono hs))
          clear d0 d1 d2 hb hb2
          go_wp2
          exact ⟨⟨k + 1, by omega, by go_num, by rw [HE.out]; exact congrArg Value.string (bytes_more _ _), HB2.out⟩, by simp [intOf]; omega⟩
      · obtain rfl : k = n := by omega
        go_wp2
        go_ret2
        exact ⟨by rw [outText_yes HP.out]; first | rfl | (rw [HP.out]; rfl), hb⟩


/-- the texts as Go's strings -/
def textsB (f : Nat → Int) (k : Nat) : List ByteArray := (textsOf f k).map fun l => ⟨l.toArray⟩
theorem textsB_succ (f : Nat → Int) (k : Nat) : textsB f (k + 1) = textsB f k ++ [⟨(actText (f (k * 3)) (f (k * 3 + 1)) (f (k * 3 + 2))).toArray⟩] := by simp [textsB, textsOf_succ]
theorem textsB_len (f : Nat → Int) (k : Nat) : (textsB f k).length = k := by simp [textsB, textsOf]
theorem textsB_join (f : Nat → Int) (k : Nat) : Lib.join ((textsB f k).map (·.data.toList)) ((⟨#[59, 32]⟩ : ByteArray).data.toList) = progText k f := by
  have : (textsB f k).map (·.data.toList) = textsOf f k := by
    unfold textsB
    rw [List.map_map]
    exact (List.map_congr_left (fun l _ => by simp)).trans (List.map_id _)
  rw [this]
  rfl
theorem join_texts (f : Nat → Int) (n : Nat) (hn : 1 ≤ n) (hn6 : n ≤ 6) (u : Value) (lo : Nat) (w : World) (ho : w.ownsRow lo 9 1 u n ((textsB f n).map .string)) :
    Calls Tryd.prog 55 #[u, .string ⟨#[59, 32]⟩] w fun e w' => e = .returned (.string ⟨(progText n f).toArray⟩) ∧ Below w.heap.size w w' := by
  rcases ho.2 with ⟨_, h0⟩ | ⟨g, cap, cur, rfl, hb, hg, hnc, _⟩
  · omega
  · have hl := progText_len f n
    have h := Tryd.strings_Join g 0 cap (textsB f n) ⟨#[59, 32]⟩ w (fun j x hj => by
        have hjn : j < n := by
          have := (List.getElem?_eq_some_iff.1 hj).1
          rwa [textsB_len] at this
        rw [Nat.zero_add, ho.cellAt j (by omega), List.getElem?_map, hj]
        rfl) (Array.getElem?_eq_some_iff.1 hg).1 (by rw [textsB_len]; omega) (by rw [textsB_len]; exact hnc) (by rw [textsB_join]; omega)
    rw [textsB_join, textsB_len] at h
    exact h

set_option maxHeartbeats 1600000 in
set_option maxRecDepth 100000 in
theorem implProgText_any (A : Option Addr) (n cap : Nat) (f : Nat → Int) (w : World) (ht : Tab w) (h1 : IntsAt w w.heap.size A (n * 3) f) :
    Calls Tryd.prog 13 #[.slice A n cap] w fun e w' => e = .returned (.tuple #[.string ⟨(outText n f).toArray⟩, .bool (progOk n f)]) ∧ Below w.heap.size w w' := by
  obtain ⟨ii, hi, hz0, hz1, hz2⟩ := info_parts infoStr
  have Hi := Lib.hid hi
  have Hz0 := Lib.hid hz0
  have Hz1 := Lib.hid hz1
  have Hz2 := Lib.hid hz2
  have HTab := Lib.hid ht
  clear hi hz0 hz1 hz2 ht
  go_enter Tryd.func13, Tryd.ntmps13
  go_wp2_with fail
  refine (implProgOk_any _ _ _ f _ h1).mono ?_; rintro e w1 ⟨rfl, hb1⟩
  cases hp : progOk n f with
  | false =>
    have HP := Lib.hid hp
    clear hp
    go_wp2
    go_ret2
    exact ⟨by rw [outText_no HP.out]; first | rfl | (rw [HP.out]; rfl), hb1⟩
  | true =>
    have h16 := prog_len6 hp
    obtain ⟨hn1, hn6⟩ := h16
    have HP := Lib.hid hp
    clear hp
    obtain ⟨b, off, rfl, hB, hc⟩ := h1 (by omega)
    go_wp2
    go_loopw [4, 12] (fun u i wr => ∃ k : Nat, k ≤ n ∧ i = .int .i64 (k : Int) ∧ wr.ownsRow w.heap.size 9 1 u k ((textsB f k).map .string) ∧ Below w.heap.size w wr) (fun _ i _ => n - (intOf i).toNat)
    case atStart => exact ⟨0, Nat.zero_le _, rfl, World.ownsRow_nil _ _ _ _, hb1⟩
    case round =>
      obtain ⟨k, hk, rfl, hrow, hb⟩ := hrel
      have hs := hb.size
      by_cases hkn : k < n
      · have hkz : (k : Int) < n := by omega
        have d0 : wr.cell? ⟨b, off + k * 3, none⟩ = some (.int .i64 (f (k * 3))) := (hb.cell (p := ⟨b, off + k * 3, none⟩) hB).trans (hc _ (by omega))
        have d1 : wr.cell? ⟨b, off + k * 3 + 1, none⟩ = some (.int .i64 (f (k * 3 + 1))) := (hb.cell (p := ⟨b, off + k * 3 + 1, none⟩) hB).trans (hc (k * 3 + 1) (by omega))
        have d2 : wr.cell? ⟨b, off + k * 3 + 2, none⟩ = some (.int .i64 (f (k * 3 + 2))) := (hb.cell (p := ⟨b, off + k * 3 + 2, none⟩) hB).trans (hc (k * 3 + 2) (by omega))
        have htr := HTab.out.below (hb.alloc hs (.cells #[.int .i64 (f (k * 3)), .int .i64 (f (k * 3 + 1)), .int .i64 (f (k * 3 + 2))] 40))
        have HE := Lib.hid (textsB_succ f k)
        clear hc
        go_wp2_with fail
        refine (implActText_any _ _ _ _ htr).mono ?_; rintro e w2 ⟨rfl, hb2⟩
        have hrow2 : w2.ownsRow w.heap.size 9 1 _ k ((textsB f k).map .string) := ownsRow_keep3 (hrow.alloc _) hb2
        have hb3 := (hb.alloc hs _).trans (hb2.mono (by simp; omega))
        have HB3 := Lib.hid hb3
        have hs3 := hb3.size
        clear hrow hb hb2 d0 d1 d2 htr hb3
        go_wp2_with (at_builtin; refine wpList_append_own _ rfl _ _ 77 rfl w.heap.size 9 ii (.string ⟨#[]⟩) 1 16 Tryd.underlying77 Hi.out Hz0.out Hz1.out Hz2.out rfl (by decide) _ _ _ rfl (hrow2.alloc _) ⟨w2.heap.size, 0, none⟩ 1 1 [.string ⟨(actText (f (k * 3)) (f (k * 3 + 1)) (f (k * 3 + 2))).toArray⟩] rfl rfl ?c1 ?c2 ?c3 ?c4 ?c5 ?_)
        case c1 =>
          intro j u hj
          match j, hj with
          | 0, hj => simp at hj; subst hj; simp [Addr.add]
        case c2 => intro u hu; simp at hu; subst hu; rfl
        case c3 => unfold maxLen; omega
        case c4 => omega
        case c5 => simp; omega
        intro v' w9 hown' hgrow _
        have hb9 := (HB3.out.alloc hs3 _).grown hgrow (by simp; omega) (fun q hq => (hrow2.lt q hq).1)
        have hr9 : w9.ownsRow w.heap.size 9 1 v' (k + 1) ((textsB f (k + 1)).map .string) := by rw [HE.out]; simpa using hown'
        clear hown' hgrow hrow2
        go_wp2
        exact ⟨⟨k + 1, by omega, by go_num, hr9, hb9⟩, by simp [intOf]; omega⟩
      · obtain rfl : k = n := by omega
        clear hc
        go_wp2_with fail
        refine (join_texts f k hn1 hn6 _ _ _ hrow).mono ?_; rintro e w2 ⟨rfl, hb2⟩
        have HB2 := Lib.hid (hb.trans (hb2.mono hs))
        go_wp2
        go_ret2
        exact ⟨by rw [outText_yes HP.out]; first | rfl | (rw [HP.out]; rfl), HB2.out⟩
end Go.Proofs.YtilgfcbjonalaaaDoor
