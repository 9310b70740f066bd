/- ParseProg: the program's. -/
import Derived.Test.YtilgfcbjonalaaaDoorLines
import Derived.Test.YtilgfcbjonalaaaDoorActI
import Derived.Test.YtilgfcbjonalaaaDoorActs
import Derived.Test.YtilgfcbjonalaaaDoorSplit
namespace Go.Proofs.YtilgfcbjonalaaaDoor
open Go.RowKit

def vals (az : Acts3) : List Int := az.flatMap fun a => [a.1, a.2.1, a.2.2]
theorem vals_len (az : Acts3) : (vals az).length = az.length * 3 := by
  induction az with
  | nil => rfl
  | cons a r ih => simp [vals] at ih ⊢; omega
theorem vals_more (az : Acts3) (a : Int × Int × Int) : vals (az ++ [a]) = vals az ++ [a.1, a.2.1, a.2.2] := by simp [vals]
theorem vals_at : ∀ (az : Acts3) (i : Nat) (a : Int × Int × Int), az[i]? = some a → (vals az)[i * 3]? = some a.1 ∧ (vals az)[i * 3 + 1]? = some a.2.1 ∧ (vals az)[i * 3 + 2]? = some a.2.2
  | [], i, a, h => by cases h
  | b :: r, 0, a, h => by
    obtain rfl : b = a := Option.some.inj h
    simp [vals]
  | b :: r, i + 1, a, h => by
    have h' : r[i]? = some a := h
    obtain ⟨h1, h2, h3⟩ := vals_at r i a h'
    have e : vals (b :: r) = b.1 :: b.2.1 :: b.2.2 :: vals r := rfl
    rw [e]
    refine ⟨?_, ?_, ?_⟩
    · rw [show (i + 1) * 3 = i * 3 + 1 + 1 + 1 by omega]; simpa using h1
    · rw [show (i + 1) * 3 + 1 = i * 3 + 1 + 1 + 1 + 1 by omega]; simpa using h2
    · rw [show (i + 1) * 3 + 2 = i * 3 + 2 + 1 + 1 + 1 by omega]; simpa using h3
def fOf (az : Acts3) : Nat → Int := fun j => (vals az).getD j 0
theorem fOf_at {az : Acts3} {i : Nat} {a : Int × Int × Int} (h : az[i]? = some a) : fOf az (i * 3) = a.1 ∧ fOf az (i * 3 + 1) = a.2.1 ∧ fOf az (i * 3 + 2) = a.2.2 := by
  obtain ⟨h1, h2, h3⟩ := vals_at az i a h
  unfold fOf
  exact ⟨by rw [List.getD_eq_getElem?_getD, h1]; rfl, by rw [List.getD_eq_getElem?_getD, h2]; rfl, by rw [List.getD_eq_getElem?_getD, h3]; rfl⟩
theorem progOk_iff (az : Acts3) : progOk az.length (fOf az) = true ↔ okAll az := by
  unfold progOk okAll
  rw [Bool.and_eq_true, List.all_eq_true]
  constructor
  · rintro ⟨h1, h2⟩
    refine ⟨by simp [inB] at h1; omega, fun a ha => ?_⟩
    obtain ⟨i, hi⟩ := List.getElem?_of_mem ha
    obtain ⟨e1, e2, e3⟩ := fOf_at hi
    have := h2 i (by rw [List.mem_range]; exact (List.getElem?_eq_some_iff.1 hi).1)
    rwa [e1, e2, e3] at this
  · rintro ⟨⟨h1, h2⟩, h3⟩
    refine ⟨by simp [inB]; omega, fun i hi => ?_⟩
    have hi' : i < az.length := List.mem_range.1 hi
    obtain ⟨e1, e2, e3⟩ := fOf_at (List.getElem?_eq_getElem hi')
    rw [e1, e2, e3]
    exact h3 _ (List.getElem_mem hi')
theorem row_ints {w : World} {lo n : Nat} {v : Value} {az : Acts3} (hl : az.length = n) (h : w.ownsRow lo 40 3 v n ((vals az).map (.int .i64))) :
    ∃ A cap, v = .slice A n cap ∧ IntsAt w w.heap.size A (n * 3) (fOf az) := by
  rcases Nat.eq_zero_or_pos n with hn | hn
  · subst hn
    rcases h.2 with ⟨e, _⟩ | ⟨g, cap, cur, e, _⟩
    · exact ⟨_, _, e, fun h => by omega⟩
    · exact ⟨_, _, e, fun h => by omega⟩
  · obtain ⟨g, cap, rfl, _, hg⟩ := h.form hn
    refine ⟨_, _, rfl, fun _ => ⟨g, 0, rfl, hg, fun j hj => ?_⟩⟩
    have := h.cellAt j hj
    rw [Nat.zero_add, this, List.getElem?_map]
    have hj' : j < (vals az).length := by rw [vals_len, hl]; exact hj
    rw [List.getElem?_eq_getElem hj']
    unfold fOf
    rw [List.getD_eq_getElem?_getD, List.getElem?_eq_getElem hj']
    rfl

/-- the acts of the first i parts -/
def LinesTo (P : List ByteArray) (i : Nat) (az : Acts3) : Prop := az.length = i ∧ ∀ (j : Nat) (x : ByteArray), j < i → P[j]? = some x → ∃ a : Int × Int × Int, az[j]? = some a ∧ bare j (bl x) = some (txt a) ∧ actOk a.1 a.2.1 a.2.2 = true
theorem LinesTo.more {P : List ByteArray} {i : Nat} {az : Acts3} (h : LinesTo P i az) {x : ByteArray} (hx : P[i]? = some x) {a : Int × Int × Int} (hb : bare i (bl x) = some (txt a)) (ho : actOk a.1 a.2.1 a.2.2 = true) : LinesTo P (i + 1) (az ++ [a]) := by
  refine ⟨by simp [h.1], fun j z hj hz => ?_⟩
  by_cases hji : j < i
  · obtain ⟨v, hv, hn⟩ := h.2 j z hji hz
    refine ⟨v, ?_, hn⟩
    rw [List.getElem?_append_left (by rw [h.1]; exact hji)]
    exact hv
  · obtain rfl : j = i := by omega
    rw [hx] at hz
    obtain rfl := Option.some.inj hz
    refine ⟨a, ?_, hb, ho⟩
    rw [List.getElem?_append_right (by rw [h.1]; exact Nat.le_refl _), h.1]
    simp
theorem LinesTo.same {s : ByteArray} {az cz : Acts3} (h : LinesTo (parts s 59) (parts s 59).length az) (hc : progIs s cz) : az = cz := by
  refine List.ext_getElem? fun j => ?_
  cases hx : (parts s 59)[j]? with
  | none =>
    have hj := List.getElem?_eq_none_iff.1 hx
    rw [List.getElem?_eq_none_iff.2 (by rw [h.1]; exact hj), List.getElem?_eq_none_iff.2 (by rw [prog_count hc]; exact hj)]
  | some x =>
    obtain ⟨a, ha, hb, ho⟩ := h.2 j x (List.getElem?_eq_some_iff.1 hx).1 hx
    obtain ⟨c, hcj, hcb, hco⟩ := prog_part hc hx
    rw [ha, hcj]
    rw [hb] at hcb
    rw [txt_inj ho hco (Option.some.inj hcb)]

theorem strOf_bl2 (l : List UInt8) : bl ⟨l.toArray⟩ = l := by simp [bl]
/-- what ParseProg answers -/
def LinesOut (s : ByteArray) (w : World) (e : Ending) (w' : World) : Prop :=
  ((∃ (az : Acts3) (v : Value), progIs s az ∧ e = .returned (.tuple #[v, .bool true]) ∧ w'.ownsRow w.heap.size 40 3 v az.length ((vals az).map (.int .i64))) ∨
   ((∀ az, ¬ progIs s az) ∧ e = .returned (.tuple #[.slice none 0 0, .bool false]))) ∧ Below w.heap.size w w'

theorem ownsRow_base4 {w : World} {base base' size n : Nat} {e : TypeId} {v : Value} {xs : List Value} (h : w.ownsRow base e size v n xs) (hb : base' ≤ base) : w.ownsRow base' e size v n xs := by
  refine ⟨h.1, ?_⟩
  rcases h.2 with h' | ⟨g, cap, cur, h1, h2, h3⟩
  · exact .inl h'
  · exact .inr ⟨g, cap, cur, h1, by omega, h3⟩
theorem prefix_cases (l : List UInt8) : (Lib.hasPrefix l [32] = true ∧ l = 32 :: Lib.trimPrefix l [32]) ∨ (Lib.hasPrefix l [32] = false ∧ ∀ r, l ≠ 32 :: r) := by
  cases l with
  | nil => exact .inr ⟨rfl, fun r h => by cases h⟩
  | cons b r =>
    by_cases hb : b = 32
    · subst hb
      exact .inl ⟨by simp [Lib.hasPrefix], by simp [Lib.trimPrefix, Lib.hasPrefix]⟩
    · refine .inr ⟨?_, fun q h => hb (List.cons.inj h).1⟩
      simp [Lib.hasPrefix, List.isPrefixOf]
      exact fun e => hb e.symm

theorem bare_spaced {i : Nat} (h0 : ¬ i = 0) : ∀ {l t : List UInt8}, l = 32 :: t → bare i l = some t := by
  intro l t h
  subst h
  unfold bare
  rw [if_neg h0]
  rfl

set_option maxHeartbeats 6400000 in
set_option maxRecDepth 100000 in
theorem implParseProg_any (s : ByteArray) (hs : s.size ≤ 1048576) (w : World) (ht : Tab w) :
    Calls Tryd.prog 15 #[.string s] w (LinesOut s w) := by
  obtain ⟨ii, hi, hz0, hz1, hz2⟩ := info_parts infoAct
  have Hi := Lib.hid hi
  have Hz0 := Lib.hid hz0
  have Hz1 := Lib.hid hz1
  have Hz2 := Lib.hid hz2
  have HT := Lib.hid ht
  clear hi hz0 hz1 hz2 ht
  go_enter Tryd.func15, Tryd.ntmps15
  go_wp2_with fail
  refine (show Calls Tryd.prog 57 #[.string s, .int .i32 59] w _ from splitAt_any s 59 (by decide) w hs).mono ?_; rintro e w1 ⟨v, rfl, hrow, hb1⟩
  have hcount := parts_count s 59
  have hnn : (cutTo s 59 s.size).1.length + 1 = (parts s 59).length := by simp [parts]
  rw [hnn] at hrow
  clear hnn
  have hsz : ∀ x ∈ parts s 59, x.size ≤ 1048576 := fun x hx => Nat.le_trans (parts_sizes (c := 59) hx) hs
  obtain ⟨g, cap, rfl, _, hg⟩ := hrow.form (by obtain ⟨p0, R, e⟩ := parts_cons s 59; rw [e]; simp)
  have hcellP : ∀ (j : Nat) (x : ByteArray), (parts s 59)[j]? = some x → w1.cell? ⟨g, j, none⟩ = some (.string x) := fun j x hx => by
    rw [hrow.cellAt j (by rw [Nat.mul_one]; exact (List.getElem?_eq_some_iff.1 hx).1), List.getElem?_map, hx]; rfl
  have HC := Lib.hid hcellP
  have HSZ := Lib.hid hsz
  have HT1 := Lib.hid (HT.out.below hb1)
  have hPl : (parts s 59).length ≤ 1048577 := by omega
  have hw1 := hb1.size
  clear hrow hcellP hsz hcount HT
  generalize hP : parts s 59 = P at HC HSZ hPl ⊢
  have HP := Lib.hid hP
  clear hP
  go_wp2
  go_loopw [4, 14] (fun u x wr => ∃ (i : Nat) (az : Acts3), i ≤ P.length ∧ x = .int .i64 (i : Int) ∧ LinesTo P i az ∧ wr.ownsRow w1.heap.size 40 3 u i ((vals az).map (.int .i64)) ∧ Below w1.heap.size w1 wr) (fun _ x _ => (P.length - intOf x).toNat)
  case atStart => exact ⟨0, [], Nat.zero_le _, rfl, ⟨rfl, fun j x hj => by omega⟩, World.ownsRow_nil _ _ _ _, Below.refl _ _⟩
  case round =>
    obtain ⟨i, az, hi, rfl, hto, hrow, hb⟩ := hrel
    have hszr := hb.size
    have HTO := Lib.hid hto
    clear hto
    by_cases hlt : i < P.length
    · have hltz : (i : Int) < P.length := by omega
      obtain ⟨x, hx⟩ : ∃ x, P[i]? = some x := ⟨P[i], List.getElem?_eq_getElem hlt⟩
      have d0 : wr.cell? ⟨g, i, none⟩ = some (.string x) := ((bcell hb).1 _ _ hg).trans (HC.out i x hx)
      have hxs := HSZ.out x (List.mem_of_getElem? hx)
      have HX := Lib.hid hx
      have HPART := Lib.hid (show ∀ cz, progIs s cz → ∃ a : Int × Int × Int, bare i (bl x) = some (txt a) ∧ actOk a.1 a.2.1 a.2.2 = true from fun cz hc => by
        obtain ⟨a, _, h2, h3⟩ := prog_part hc (j := i) (x := x) (by rw [HP.out]; exact hx)
        exact ⟨a, h2, h3⟩)
      clear hx
      by_cases h0 : i = 0
      · subst h0
        have HBA := Lib.hid (show bare 0 (bl x) = some (bl x) from rfl)
        go_wp2_with fail
        refine (implParseAct_any x hxs _ (HT1.out.below hb)).mono ?_; rintro e w5 ⟨hout, hb5⟩
        have hox := ownsRow_keep3 hrow hb5
        have hB5 := hb.trans (hb5.mono hszr)
        have hsz5 : w1.heap.size ≤ w5.heap.size := hB5.size
        clear hrow hb hb5 d0 hszr
        rcases hout with ⟨k, y, n, ha, rfl⟩ | ⟨hno, rfl⟩
        rotate_left
        · have HN := Lib.hid (show ∀ cz, ¬ progIs s cz from fun cz hc => by
            obtain ⟨a, h2, h3⟩ := HPART.out cz hc
            rw [HBA.out] at h2
            exact hno a.1 a.2.1 a.2.2 ⟨h3, Option.some.inj h2⟩)
          have hbq := (hb1.trans (hB5.mono hw1)).alloc (by omega) (.cells #[.int .i64 0, .int .i64 0, .int .i64 0] 40)
          clear hno
          go_wp2
          go_ret2
          exact ⟨.inr ⟨HN.out, rfl⟩, hbq⟩
        · have HTN := Lib.hid (HTO.out.more (a := (k, y, n)) HX.out (by rw [HBA.out, ha.2]; rfl) ha.1)
          have hil : 0 < P.length := hlt
          clear ha
          go_wp2_with (at_builtin; refine wpList_append_own _ rfl _ _ 25 rfl w1.heap.size 40 ii _ 3 24 Tryd.underlying25 Hi.out Hz0.out Hz1.out Hz2.out rfl (by decide) _ _ _ rfl ((hox.alloc _).alloc _) ⟨w5.heap.size + 1, 0, none⟩ 1 1 [.int .i64 k, .int .i64 y, .int .i64 n] rfl rfl ?c1 ?c2 ?c3 ?c4 ?c5 ?_)
          case c1 =>
            intro j u hj
            match j, hj with
            | 0, hj => simp at hj; subst hj; simp [Addr.add]
            | 1, hj => simp at hj; subst hj; simp [Addr.add]
            | 2, hj => simp at hj; subst hj; simp [Addr.add]
          case c2 =>
            intro u hu
            simp at hu
            rcases hu with rfl | rfl | rfl <;> rfl
          case c3 => unfold maxLen; omega
          case c4 => omega
          case c5 => simp; omega
          intro v' w9 hown' hgrow _
          have hb9 : Below w1.heap.size w1 w9 := ((hB5.alloc hsz5 _).alloc (by simp; omega) _).grown hgrow (by simp; omega) (fun q hq => (hox.lt q hq).1)
          have hr9 : w9.ownsRow w1.heap.size 40 3 v' (0 + 1) ((vals (az ++ [(k, y, n)])).map (.int .i64)) := by rw [vals_more]; simpa using hown'
          clear hown' hgrow hox
          go_wp2
          exact ⟨⟨0 + 1, az ++ [(k, y, n)], by omega, by go_num, HTN.out, hr9, hb9⟩, by simp [intOf]; omega⟩
      · have hpos : (0 : Int) < i := by omega
        go_wp2_with fail
        refine (Tryd.strings_CutPrefix x ⟨#[32]⟩ _).mono ?_; rintro e w' ⟨rfl, rfl⟩
        rw [show (⟨#[32]⟩ : ByteArray).data.toList = [32] from rfl, show x.data.toList = bl x from rfl]
        rcases prefix_cases (bl x) with ⟨c1, c2⟩ | ⟨c1, c2⟩
        · rw [c1]
          have HBA := Lib.hid (show bare i (bl x) = some (bl ⟨(Lib.trimPrefix (bl x) [32]).toArray⟩) from by rw [strOf_bl2]; exact bare_spaced h0 c2)
          have hds : (⟨(Lib.trimPrefix (bl x) [32]).toArray⟩ : ByteArray).size ≤ 1048576 := by
            have := congrArg List.length c2
            rw [bl_len] at this
            simp at this
            rw [← bl_len, strOf_bl2]
            omega
          clear c1 c2 h0
          generalize (⟨(Lib.trimPrefix (bl x) [32]).toArray⟩ : ByteArray) = D at HBA hds ⊢
          go_wp2_with fail
          refine (implParseAct_any D hds _ (HT1.out.below hb)).mono ?_; rintro e w5 ⟨hout, hb5⟩
          have hox := ownsRow_keep3 hrow hb5
          have hB5 := hb.trans (hb5.mono hszr)
          have hsz5 : w1.heap.size ≤ w5.heap.size := hB5.size
          clear hrow hb hb5 d0 hszr
          rcases hout with ⟨k, y, n, ha, rfl⟩ | ⟨hno, rfl⟩
          rotate_left
          · have HN := Lib.hid (show ∀ cz, ¬ progIs s cz from fun cz hc => by
              obtain ⟨a, h2, h3⟩ := HPART.out cz hc
              rw [HBA.out] at h2
              exact hno a.1 a.2.1 a.2.2 ⟨h3, Option.some.inj h2⟩)
            have hbq := (hb1.trans (hB5.mono hw1)).alloc (by omega) (.cells #[.int .i64 0, .int .i64 0, .int .i64 0] 40)
            clear hno
            go_wp2
            go_ret2
            exact ⟨.inr ⟨HN.out, rfl⟩, hbq⟩
          · have HTN := Lib.hid (HTO.out.more (a := (k, y, n)) HX.out (by rw [HBA.out, ha.2]; rfl) ha.1)
            have hil : i ≤ 1048577 := by omega
            clear ha
            go_wp2_with (at_builtin; refine wpList_append_own _ rfl _ _ 25 rfl w1.heap.size 40 ii _ 3 24 Tryd.underlying25 Hi.out Hz0.out Hz1.out Hz2.out rfl (by decide) _ _ _ rfl ((hox.alloc _).alloc _) ⟨w5.heap.size + 1, 0, none⟩ 1 1 [.int .i64 k, .int .i64 y, .int .i64 n] rfl rfl ?d1 ?d2 ?d3 ?d4 ?d5 ?_)
            case d1 =>
              intro j u hj
              match j, hj with
              | 0, hj => simp at hj; subst hj; simp [Addr.add]
              | 1, hj => simp at hj; subst hj; simp [Addr.add]
              | 2, hj => simp at hj; subst hj; simp [Addr.add]
            case d2 =>
              intro u hu
              simp at hu
              rcases hu with rfl | rfl | rfl <;> rfl
            case d3 => unfold maxLen; omega
            case d4 => omega
            case d5 => simp; omega
            intro v' w9 hown' hgrow _
            have hb9 : Below w1.heap.size w1 w9 := ((hB5.alloc hsz5 _).alloc (by simp; omega) _).grown hgrow (by simp; omega) (fun q hq => (hox.lt q hq).1)
            have hr9 : w9.ownsRow w1.heap.size 40 3 v' (i + 1) ((vals (az ++ [(k, y, n)])).map (.int .i64)) := by rw [vals_more]; simpa using hown'
            clear hown' hgrow hox
            go_wp2
            exact ⟨⟨i + 1, az ++ [(k, y, n)], by omega, by go_num, HTN.out, hr9, hb9⟩, by simp [intOf]; omega⟩
        · rw [c1]
          have HN := Lib.hid (show ∀ cz, ¬ progIs s cz from fun cz hc => by
            obtain ⟨a, h2, _⟩ := HPART.out cz hc
            unfold bare at h2
            rw [if_neg h0] at h2
            split at h2
            · rename_i r heq
              exact c2 r heq
            · cases h2)
          clear c1 c2 h0
          go_wp2
          go_ret2
          exact ⟨.inr ⟨HN.out, rfl⟩, hb1.trans (hb.mono hw1)⟩
    · obtain rfl : i = P.length := by omega
      obtain ⟨A, cap2, rfl, hints⟩ := row_ints HTO.out.1 hrow
      have hrow0 := Lib.hid hrow
      clear hrow
      go_wp2_with fail
      refine (implProgOk_any A _ cap2 (fOf az) _ hints).mono ?_; rintro e w5 ⟨rfl, hb5⟩
      have HROW := Lib.hid (ownsRow_base4 (ownsRow_keep3 hrow0.out hb5) hw1)
      have hB5 := (hb1.trans (hb.mono hw1)).trans (hb5.mono (by omega))
      cases hok : progOk P.length (fOf az) with
      | false =>
        have HN := Lib.hid (show ∀ cz, ¬ progIs s cz from fun cz hc => by
          have e : az = cz := LinesTo.same (s := s) (by rw [HP.out]; exact HTO.out) hc
          have : progOk az.length (fOf az) = true := (progOk_iff az).2 (by rw [e]; exact hc.1)
          rw [HTO.out.1, hok] at this
          cases this)
        clear hok hb5 hrow0
        go_wp2
        go_ret2
        exact ⟨.inr ⟨HN.out, rfl⟩, hB5⟩
      | true =>
        have HY := Lib.hid (show progIs s az from prog_of ((progOk_iff az).1 (by rw [HTO.out.1]; exact hok)) (by rw [HP.out]; exact HTO.out.1) (fun j x hx => by
          rw [HP.out] at hx
          obtain ⟨a, h1, h2, _⟩ := HTO.out.2 j x (List.getElem?_eq_some_iff.1 hx).1 hx
          exact ⟨a, h1, h2⟩))
        have HL := Lib.hid HTO.out.1
        clear hok hb5 hrow0
        go_wp2
        go_ret2
        exact ⟨.inl ⟨az, _, HY.out, rfl, by rw [HL.out]; exact HROW.out⟩, hB5⟩
end Go.Proofs.YtilgfcbjonalaaaDoor
