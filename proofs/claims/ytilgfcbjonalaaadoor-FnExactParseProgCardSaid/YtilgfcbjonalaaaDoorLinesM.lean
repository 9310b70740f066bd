/- ParseProg: the model's. -/
import Derived.Test.YtilgfcbjonalaaaDoorLinesI
import Derived.Test.YtilgfcbjonalaaaDoorActM
import Derived.Test.YtilgfcbjonalaaaDoorProT
import Derived.Deep.AppendLies
namespace Go.Proofs.YtilgfcbjonalaaaDoor
open Go.RowKit

theorem txt_len {a : Int × Int × Int} (h : actOk a.1 a.2.1 a.2.2 = true) : (txt a).length ≤ 20 := by
  have := actIs_len (s := ⟨(txt a).toArray⟩) (k := a.1) (y := a.2.1) (n := a.2.2) ⟨h, strOf_bl2 _⟩
  rwa [← bl_len, strOf_bl2] at this
theorem join_len (sep : List UInt8) (m : Nat) : ∀ T : List (List UInt8), (∀ t ∈ T, t.length ≤ m) → (Lib.join T sep).length ≤ T.length * (m + sep.length)
  | [], _ => by simp [Lib.join]
  | [t], h => by rw [join_one]; have := h t (by simp); simp; omega
  | t :: u :: r, h => by
    rw [join_two t (u :: r) _ (by simp)]
    have h1 := h t (by simp)
    have h2 := join_len sep m (u :: r) (fun z hz => h z (by simp [hz]))
    simp only [List.length_append, List.length_cons] at h2 ⊢
    rw [Nat.add_mul (r.length + 1) 1]
    omega
theorem progIs_len {s : ByteArray} {az : Acts3} (h : progIs s az) : s.size ≤ 150 := by
  obtain ⟨⟨⟨h1, h6⟩, h2⟩, h3⟩ := h
  have hj := join_len [59, 32] 20 (az.map txt) (fun t ht => by
    obtain ⟨a, ha, rfl⟩ := List.mem_map.1 ht
    exact txt_len (h2 a ha))
  rw [← h3, bl_len, List.length_map] at hj
  have : az.length * (20 + [59, 32].length) ≤ 6 * 22 := Nat.mul_le_mul h6 (Nat.le_refl 22)
  omega

/-- the program's text, by its list -/
theorem progText_list (az : Acts3) : progText az.length (fOf az) = Lib.join (az.map txt) [59, 32] := by
  unfold progText textsOf
  congr 1
  refine List.ext_getElem? fun i => ?_
  rw [List.getElem?_map, List.getElem?_map]
  by_cases hi : i < az.length
  · obtain ⟨e1, e2, e3⟩ := fOf_at (List.getElem?_eq_getElem hi)
    rw [List.getElem?_eq_getElem (by simpa using hi), List.getElem?_eq_getElem hi]
    simp only [List.getElem_range, Option.map_some]
    rw [e1, e2, e3]
    rfl
  · rw [List.getElem?_eq_none_iff.2 (by simp; omega), List.getElem?_eq_none_iff.2 (by omega)]
    rfl

/-- the part without the space ahead -/
def strip (j : Nat) (l : List UInt8) : List UInt8 := if j = 0 then l else match l with
  | 32 :: r => r
  | l => l
theorem strip_of_bare {j : Nat} {l t : List UInt8} (h : bare j l = some t) : strip j l = t := by
  unfold bare at h
  unfold strip
  split at h
  · rename_i h0; rw [if_pos h0]; exact Option.some.inj h
  · rename_i h0
    rw [if_neg h0]
    split at h
    · exact Option.some.inj h
    · cases h
theorem strip_zero (l : List UInt8) : strip 0 l = l := rfl
theorem strip_yes {j : Nat} (h0 : ¬ j = 0) {l r : List UInt8} (h : l = 32 :: r) : strip j l = r := by
  subst h; unfold strip; rw [if_neg h0]; rfl
theorem strip_no {j : Nat} (h0 : ¬ j = 0) {l : List UInt8} (h : ∀ r, l ≠ 32 :: r) : strip j l = l := by
  unfold strip
  rw [if_neg h0]
  split
  · rename_i r; exact absurd rfl (h r)
  · rfl

theorem head_tail (x : ByteArray) (h : 0 < x.size) : bl x = (x[0]'h) :: bl (x.extract 1 x.size) := by
  have e2 := get_at x 0 h
  rw [Nat.add_zero] at e2
  have e3 := bl_get x 0 h
  rw [e2] at e3
  have hl := bl_len x
  rw [bl_extract]
  cases hbx : bl x with
  | nil => rw [hbx] at e3; cases e3
  | cons c r =>
    rw [hbx] at e3 hl
    have : c = x[0]'h := Option.some.inj e3
    rw [this, List.drop_one, List.tail_cons, List.take_of_length_le (by simp at hl; omega)]

/-- the acts of the first i parts, as the model reads them -/
def LinesM (P : List ByteArray) (i : Nat) (az : Acts3) : Prop := az.length = i ∧ ∀ (j : Nat) (x : ByteArray), j < i → P[j]? = some x → ∃ a : Int × Int × Int, az[j]? = some a ∧ strip j (bl x) = txt a ∧ actOk a.1 a.2.1 a.2.2 = true
theorem LinesM.more {P : List ByteArray} {i : Nat} {az : Acts3} (h : LinesM P i az) {x : ByteArray} (hx : P[i]? = some x) {a : Int × Int × Int} (hb : strip i (bl x) = txt a) (ho : actOk a.1 a.2.1 a.2.2 = true) : LinesM P (i + 1) (az ++ [a]) := by
  refine ⟨by simp [h.1], fun j z hj hz => ?_⟩
  by_cases hji : j < i
  · obtain ⟨v, hv, hn⟩ := h.2 j z hji hz
    refine ⟨v, ?_, hn⟩
    rw [List.getElem?_append_left (by rw [h.1]; exact hji)]
    exact hv
  · obtain rfl : j = i := by omega
    rw [hx] at hz
    obtain rfl := Option.some.inj hz
    refine ⟨a, ?_, hb, ho⟩
    rw [List.getElem?_append_right (by rw [h.1]; exact Nat.le_refl _), h.1]
    simp
theorem LinesM.same {s : ByteArray} {az cz : Acts3} (h : LinesM (parts s 59) (parts s 59).length az) (hc : progIs s cz) : az = cz := by
  refine List.ext_getElem? fun j => ?_
  cases hx : (parts s 59)[j]? with
  | none =>
    have hj := List.getElem?_eq_none_iff.1 hx
    rw [List.getElem?_eq_none_iff.2 (by rw [h.1]; exact hj), List.getElem?_eq_none_iff.2 (by rw [prog_count hc]; exact hj)]
  | some x =>
    obtain ⟨a, ha, hb, ho⟩ := h.2 j x (List.getElem?_eq_some_iff.1 hx).1 hx
    obtain ⟨c, hcj, hcb, hco⟩ := prog_part hc hx
    rw [ha, hcj]
    have := strip_of_bare hcb
    rw [hb] at this
    rw [txt_inj ho hco this]

set_option maxHeartbeats 3200000 in
set_option maxRecDepth 100000 in
theorem specParseProg_big (s : ByteArray) (hs : 150 < s.size) (hs2 : s.size ≤ 1048576) (w : World) :
    Calls Tryd.prog 33 #[.string s] w (LinesOut s w) := by
  have HN := Lib.hid (show ∀ cz, ¬ progIs s cz from fun cz h => by have := progIs_len h; omega)
  go_enter Tryd.func33, Tryd.ntmps33
  go_wp2
  go_ret2
  exact ⟨.inr ⟨HN.out, rfl⟩, Below.refl _ _⟩

set_option maxHeartbeats 6400000 in
set_option maxRecDepth 100000 in
theorem specParseProg_small (s : ByteArray) (hs : s.size ≤ 150) (w : World) :
    Calls Tryd.prog 33 #[.string s] w (LinesOut s w) := by
  obtain ⟨ii, hi, hz0, hz1, hz2⟩ := info_parts infoAct
  have Hi := Lib.hid hi
  have Hz0 := Lib.hid hz0
  have Hz1 := Lib.hid hz1
  have Hz2 := Lib.hid hz2
  clear hi hz0 hz1 hz2
  have HR0 := Lib.hid (World.ownsRow_made (base := w.heap.size) (size := 3) (e := 40) w #[] 0 (Nat.le_refl _) (Nat.zero_le _) rfl)
  go_enter Tryd.func33, Tryd.ntmps33
  go_wp2_with fail
  have hB0 := (Below.refl w.heap.size w).alloc (Nat.le_refl _) (.cells #[] 40)
  have hw0 : w.heap.size < (w.alloc (.cells #[] 40)).heap.size := by simp
  generalize w.alloc (.cells #[] 40) = w0 at HR0 hB0 hw0 ⊢
  refine (show Calls Tryd.prog 77 #[.string s, .int .u8 59] w0 _ from l01Parts_any s 59 w0 (by omega)).mono ?_; rintro e w1 ⟨v, rfl, hrow, hb1⟩
  have hcount := parts_count s 59
  have hnn : (cutTo s 59 s.size).1.length + 1 = (parts s 59).length := by simp [parts]
  rw [hnn] at hrow
  clear hnn
  have hsz : ∀ x ∈ parts s 59, x.size ≤ 1048576 := fun x hx => Nat.le_trans (parts_sizes (c := 59) hx) (by omega)
  obtain ⟨g, cap, rfl, hgb, hg⟩ := hrow.form (by obtain ⟨p0, R, e⟩ := parts_cons s 59; rw [e]; simp)
  have hcellP : ∀ (j : Nat) (x : ByteArray), (parts s 59)[j]? = some x → w1.cell? ⟨g, j, none⟩ = some (.string x) := fun j x hx => by
    rw [hrow.cellAt j (by rw [Nat.mul_one]; exact (List.getElem?_eq_some_iff.1 hx).1), List.getElem?_map, hx]; rfl
  have HC := Lib.hid hcellP
  have HSZ := Lib.hid hsz
  have hPl : (parts s 59).length ≤ 151 := by omega
  have hb1' := hB0.trans (hb1.mono (Nat.le_of_lt hw0))
  have HR1 := Lib.hid (ownsRow_keep3 HR0.out hb1)
  have hqg : ¬ w.heap.size = g := by omega
  clear hrow hcellP hsz hcount HR0 hb1 hgb
  generalize hP : parts s 59 = P at HC HSZ hPl ⊢
  have HP := Lib.hid hP
  clear hP
  go_wp2
  go_loopw [4, 6] (fun u x wr => ∃ (i : Nat) (az : Acts3) (q cq : Nat), i ≤ P.length ∧ x = .int .i64 (i : Int) ∧ u = .slice (some ⟨q, 0, none⟩) i cq ∧ LinesM P i az ∧ wr.ownsRow w.heap.size 40 3 (.slice (some ⟨q, 0, none⟩) i cq) i ((vals az).map (.int .i64)) ∧ ¬ q = g ∧ wr.heap[g]? = w1.heap[g]? ∧ w1.heap.size ≤ wr.heap.size ∧ Below w.heap.size w wr) (fun _ x _ => (P.length - intOf x).toNat)
  case atStart => exact ⟨0, [], w.heap.size, 0, Nat.zero_le _, rfl, rfl, ⟨rfl, fun j x hj => by omega⟩, HR1.out, hqg, rfl, Nat.le_refl _, hb1'⟩
  case round =>
    obtain ⟨i, az, q, cq, hi, rfl, rfl, hto, hrow, hqg', hgk, hszr, hb⟩ := hrel
    have HTO := Lib.hid hto
    have HGK := Lib.hid hgk
    have hbs := hb.size
    clear hto hgk
    by_cases hlt : i < P.length
    · have hltz : (i : Int) < P.length := by omega
      obtain ⟨x, hx⟩ : ∃ x, P[i]? = some x := ⟨P[i], List.getElem?_eq_getElem hlt⟩
      have d0 : wr.cell? ⟨g, i, none⟩ = some (.string x) := (World.cell?_of_block (a := ⟨g, i, none⟩) HGK.out).trans (HC.out i x hx)
      have hxs := HSZ.out x (List.mem_of_getElem? hx)
      have HX := Lib.hid hx
      have HPART := Lib.hid (show ∀ cz, progIs s cz → ∃ a : Int × Int × Int, strip i (bl x) = txt a ∧ actOk a.1 a.2.1 a.2.2 = true from fun cz hc => by
        obtain ⟨a, _, h2, h3⟩ := prog_part hc (j := i) (x := x) (by rw [HP.out]; exact hx)
        exact ⟨a, strip_of_bare h2, h3⟩)
      clear hx
      by_cases h0 : i = 0
      · subst h0
        have HBA := Lib.hid (show strip 0 (bl x) = bl x from rfl)
        go_wp2_with fail
        refine (specParseAct_any x hxs _).mono ?_; rintro e w5 ⟨hout, hb5⟩
        have hox := ownsRow_keep3 hrow hb5
        have hB5 := hb.trans (hb5.mono hbs)
        have hsz5 := hb5.size
        have HG5 := Lib.hid ((hb5.block g (by omega)).trans HGK.out)
        clear hrow hb hb5 d0
        rcases hout with ⟨k, y, n, ha, rfl⟩ | ⟨hno, rfl⟩
        rotate_left
        · have HN := Lib.hid (show ∀ cz, ¬ progIs s cz from fun cz hc => by
            obtain ⟨a, h2, h3⟩ := HPART.out cz hc
            rw [HBA.out] at h2
            exact hno a.1 a.2.1 a.2.2 ⟨h3, h2⟩)
          have hbq := hB5.alloc (by omega) (.cells #[.int .i64 0, .int .i64 0, .int .i64 0] 40)
          clear hno
          go_wp2
          go_ret2
          exact ⟨.inr ⟨HN.out, rfl⟩, hbq⟩
        · have HTN := Lib.hid (HTO.out.more (a := (k, y, n)) HX.out (by rw [HBA.out, ha.2]; rfl) ha.1)
          clear ha
          go_wp2_with (at_builtin; refine wpList_append_lies _ rfl _ _ 25 rfl w.heap.size 40 ii _ 3 24 Tryd.underlying25 Hi.out Hz0.out Hz1.out Hz2.out rfl (by decide) _ _ _ rfl ((hox.alloc _).alloc _) ⟨w5.heap.size + 1, 0, none⟩ 1 1 [.int .i64 k, .int .i64 y, .int .i64 n] rfl rfl ?a1 ?a2 (by decide) ?a3 ?a4 ?a5 (w5.heap.size + 1 + 1) ?a6 ?_)
          case a1 =>
            intro j u hj
            match j, hj with
            | 0, hj => simp at hj; subst hj; simp [Addr.add]
            | 1, hj => simp at hj; subst hj; simp [Addr.add]
            | 2, hj => simp at hj; subst hj; simp [Addr.add]
          case a2 =>
            intro u hu
            simp at hu
            rcases hu with rfl | rfl | rfl <;> rfl
          case a3 => unfold maxLen; omega
          case a4 => omega
          case a5 => simp; omega
          case a6 => simp
          intro q9 c9 w9 hown' hgrow hq9 _
          have hb9 : Below w.heap.size w w9 := ((hB5.alloc (by omega) _).alloc (by simp; omega) _).grown hgrow (by simp; omega) (fun q hq => (hox.lt q hq).1)
          have hr9 : w9.ownsRow w.heap.size 40 3 (.slice (some ⟨q9, 0, none⟩) (0 + 1) c9) (0 + 1) ((vals (az ++ [(k, y, n)])).map (.int .i64)) := by rw [vals_more]; simpa using hown'
          have hqg9 : ¬ q9 = g := by
            rcases hq9 with h | h
            · have : q9 = q := (Option.some.inj h).symm
              rw [this]; exact hqg'
            · omega
          have hgk9 : w9.heap[g]? = w1.heap[g]? := (hgrow.block g (by simp; omega) (fun e => hqg' (Option.some.inj e).symm)).trans ((Below.heap_alloc _ _ _ (by simp; omega)).trans ((Below.heap_alloc _ _ _ (by omega)).trans HG5.out))
          have hsz9 : w1.heap.size ≤ w9.heap.size := by have := hgrow.size; simp at this; omega
          clear hown' hgrow hox hq9
          have HF := Lib.hid (show _ ∧ _ ∧ _ ∧ _ from ⟨hr9, hqg9, hgk9, hsz9⟩)
          clear hr9 hqg9 hgk9 hsz9
          go_wp2
          exact ⟨⟨0 + 1, az ++ [(k, y, n)], q9, c9, by omega, by go_num, by go_num, HTN.out, HF.out.1, HF.out.2.1, HF.out.2.2.1, HF.out.2.2.2, hb9⟩, by simp [intOf]; omega⟩
      · have hpos : (0 : Int) < i := by omega
        by_cases hxe : x.size = 0
        · have hxz : ¬ (0 : Int) < (x.size : Int) := by omega
          have HBA := Lib.hid (strip_no h0 (l := bl x) (fun r e => by have := congrArg List.length e; rw [bl_len] at this; simp at this; omega))
          go_wp2_with fail
          refine (specParseAct_any x hxs _).mono ?_; rintro e w5 ⟨hout, hb5⟩
          have hox := ownsRow_keep3 hrow hb5
          have hB5 := hb.trans (hb5.mono hbs)
          have hsz5 := hb5.size
          have HG5 := Lib.hid ((hb5.block g (by omega)).trans HGK.out)
          clear hrow hb hb5 d0
          rcases hout with ⟨k, y, n, ha, rfl⟩ | ⟨hno, rfl⟩
          rotate_left
          · have HN := Lib.hid (show ∀ cz, ¬ progIs s cz from fun cz hc => by
              obtain ⟨a, h2, h3⟩ := HPART.out cz hc
              rw [HBA.out] at h2
              exact hno a.1 a.2.1 a.2.2 ⟨h3, h2⟩)
            have hbq := hB5.alloc (by omega) (.cells #[.int .i64 0, .int .i64 0, .int .i64 0] 40)
            clear hno
            go_wp2
            go_ret2
            exact ⟨.inr ⟨HN.out, rfl⟩, hbq⟩
          · have HTN := Lib.hid (HTO.out.more (a := (k, y, n)) HX.out (by rw [HBA.out, ha.2]; rfl) ha.1)
            clear ha
            go_wp2_with (at_builtin; refine wpList_append_lies _ rfl _ _ 25 rfl w.heap.size 40 ii _ 3 24 Tryd.underlying25 Hi.out Hz0.out Hz1.out Hz2.out rfl (by decide) _ _ _ rfl ((hox.alloc _).alloc _) ⟨w5.heap.size + 1, 0, none⟩ 1 1 [.int .i64 k, .int .i64 y, .int .i64 n] rfl rfl ?b1 ?b2 (by decide) ?b3 ?b4 ?b5 (w5.heap.size + 1 + 1) ?b6 ?_)
            case b1 =>
              intro j u hj
              match j, hj with
              | 0, hj => simp at hj; subst hj; simp [Addr.add]
              | 1, hj => simp at hj; subst hj; simp [Addr.add]
              | 2, hj => simp at hj; subst hj; simp [Addr.add]
            case b2 =>
              intro u hu
              simp at hu
              rcases hu with rfl | rfl | rfl <;> rfl
            case b3 => unfold maxLen; omega
            case b4 => omega
            case b5 => simp; omega
            case b6 => simp
            intro q9 c9 w9 hown' hgrow hq9 _
            have hb9 : Below w.heap.size w w9 := ((hB5.alloc (by omega) _).alloc (by simp; omega) _).grown hgrow (by simp; omega) (fun q hq => (hox.lt q hq).1)
            have hr9 : w9.ownsRow w.heap.size 40 3 (.slice (some ⟨q9, 0, none⟩) (i + 1) c9) (i + 1) ((vals (az ++ [(k, y, n)])).map (.int .i64)) := by rw [vals_more]; simpa using hown'
            have hqg9 : ¬ q9 = g := by
              rcases hq9 with h | h
              · have : q9 = q := (Option.some.inj h).symm
                rw [this]; exact hqg'
              · omega
            have hgk9 : w9.heap[g]? = w1.heap[g]? := (hgrow.block g (by simp; omega) (fun e => hqg' (Option.some.inj e).symm)).trans ((Below.heap_alloc _ _ _ (by simp; omega)).trans ((Below.heap_alloc _ _ _ (by omega)).trans HG5.out))
            have hsz9 : w1.heap.size ≤ w9.heap.size := by have := hgrow.size; simp at this; omega
            clear hown' hgrow hox hq9
            have HF := Lib.hid (show _ ∧ _ ∧ _ ∧ _ from ⟨hr9, hqg9, hgk9, hsz9⟩)
            clear hr9 hqg9 hgk9 hsz9
            go_wp2
            exact ⟨⟨i + 1, az ++ [(k, y, n)], q9, c9, by omega, by go_num, by go_num, HTN.out, HF.out.1, HF.out.2.1, HF.out.2.2.1, HF.out.2.2.2, hb9⟩, by simp [intOf]; omega⟩
        · have hxz : (0 : Int) < (x.size : Int) := by omega
          have hfirst := head_tail x (by omega)
          by_cases h32 : (x[0]'(by omega)).toNat = 32
          · have h32z : ((x[0]'(by omega)).toNat : Int) = 32 := by omega
            have HBA := Lib.hid (strip_yes h0 (l := bl x) (r := bl (x.extract 1 x.size)) (by rw [← show x[0]'(by omega) = (32 : UInt8) from UInt8.toNat_inj.1 h32]; exact hfirst))
            have hds : (x.extract 1 x.size).size ≤ 1048576 := by simp; omega
            clear hfirst h32
            go_wp2_with fail
            refine (specParseAct_any (x.extract 1 x.size) hds _).mono ?_; rintro e w5 ⟨hout, hb5⟩
            have hox := ownsRow_keep3 hrow hb5
            have hB5 := hb.trans (hb5.mono hbs)
            have hsz5 := hb5.size
            have HG5 := Lib.hid ((hb5.block g (by omega)).trans HGK.out)
            clear hrow hb hb5 d0
            rcases hout with ⟨k, y, n, ha, rfl⟩ | ⟨hno, rfl⟩
            rotate_left
            · have HN := Lib.hid (show ∀ cz, ¬ progIs s cz from fun cz hc => by
                obtain ⟨a, h2, h3⟩ := HPART.out cz hc
                rw [HBA.out] at h2
                exact hno a.1 a.2.1 a.2.2 ⟨h3, h2⟩)
              have hbq := hB5.alloc (by omega) (.cells #[.int .i64 0, .int .i64 0, .int .i64 0] 40)
              clear hno
              go_wp2
              go_ret2
              exact ⟨.inr ⟨HN.out, rfl⟩, hbq⟩
            · have HTN := Lib.hid (HTO.out.more (a := (k, y, n)) HX.out (by rw [HBA.out, ha.2]; rfl) ha.1)
              clear ha
              go_wp2_with (at_builtin; refine wpList_append_lies _ rfl _ _ 25 rfl w.heap.size 40 ii _ 3 24 Tryd.underlying25 Hi.out Hz0.out Hz1.out Hz2.out rfl (by decide) _ _ _ rfl ((hox.alloc _).alloc _) ⟨w5.heap.size + 1, 0, none⟩ 1 1 [.int .i64 k, .int .i64 y, .int .i64 n] rfl rfl ?f1 ?f2 (by decide) ?f3 ?f4 ?f5 (w5.heap.size + 1 + 1) ?f6 ?_)
              case f1 =>
                intro j u hj
                match j, hj with
                | 0, hj => simp at hj; subst hj; simp [Addr.add]
                | 1, hj => simp at hj; subst hj; simp [Addr.add]
                | 2, hj => simp at hj; subst hj; simp [Addr.add]
              case f2 =>
                intro u hu
                simp at hu
                rcases hu with rfl | rfl | rfl <;> rfl
              case f3 => unfold maxLen; omega
              case f4 => omega
              case f5 => simp; omega
              case f6 => simp
              intro q9 c9 w9 hown' hgrow hq9 _
              have hb9 : Below w.heap.size w w9 := ((hB5.alloc (by omega) _).alloc (by simp; omega) _).grown hgrow (by simp; omega) (fun q hq => (hox.lt q hq).1)
              have hr9 : w9.ownsRow w.heap.size 40 3 (.slice (some ⟨q9, 0, none⟩) (i + 1) c9) (i + 1) ((vals (az ++ [(k, y, n)])).map (.int .i64)) := by rw [vals_more]; simpa using hown'
              have hqg9 : ¬ q9 = g := by
                rcases hq9 with h | h
                · have : q9 = q := (Option.some.inj h).symm
                  rw [this]; exact hqg'
                · omega
              have hgk9 : w9.heap[g]? = w1.heap[g]? := (hgrow.block g (by simp; omega) (fun e => hqg' (Option.some.inj e).symm)).trans ((Below.heap_alloc _ _ _ (by simp; omega)).trans ((Below.heap_alloc _ _ _ (by omega)).trans HG5.out))
              have hsz9 : w1.heap.size ≤ w9.heap.size := by have := hgrow.size; simp at this; omega
              clear hown' hgrow hox hq9
              have HF := Lib.hid (show _ ∧ _ ∧ _ ∧ _ from ⟨hr9, hqg9, hgk9, hsz9⟩)
              clear hr9 hqg9 hgk9 hsz9
              go_wp2
              exact ⟨⟨i + 1, az ++ [(k, y, n)], q9, c9, by omega, by go_num, by go_num, HTN.out, HF.out.1, HF.out.2.1, HF.out.2.2.1, HF.out.2.2.2, hb9⟩, by simp [intOf]; omega⟩
          · have h32z : ¬ ((x[0]'(by omega)).toNat : Int) = 32 := by omega
            have HBA := Lib.hid (strip_no h0 (l := bl x) (fun r e => by
              rw [hfirst] at e
              have := (List.cons.inj e).1
              rw [this] at h32
              exact h32 rfl))
            clear hfirst h32
            go_wp2_with fail
            refine (specParseAct_any x hxs _).mono ?_; rintro e w5 ⟨hout, hb5⟩
            have hox := ownsRow_keep3 hrow hb5
            have hB5 := hb.trans (hb5.mono hbs)
            have hsz5 := hb5.size
            have HG5 := Lib.hid ((hb5.block g (by omega)).trans HGK.out)
            clear hrow hb hb5 d0
            rcases hout with ⟨k, y, n, ha, rfl⟩ | ⟨hno, rfl⟩
            rotate_left
            · have HN := Lib.hid (show ∀ cz, ¬ progIs s cz from fun cz hc => by
                obtain ⟨a, h2, h3⟩ := HPART.out cz hc
                rw [HBA.out] at h2
                exact hno a.1 a.2.1 a.2.2 ⟨h3, h2⟩)
              have hbq := hB5.alloc (by omega) (.cells #[.int .i64 0, .int .i64 0, .int .i64 0] 40)
              clear hno
              go_wp2
              go_ret2
              exact ⟨.inr ⟨HN.out, rfl⟩, hbq⟩
            · have HTN := Lib.hid (HTO.out.more (a := (k, y, n)) HX.out (by rw [HBA.out, ha.2]; rfl) ha.1)
              clear ha
              go_wp2_with (at_builtin; refine wpList_append_lies _ rfl _ _ 25 rfl w.heap.size 40 ii _ 3 24 Tryd.underlying25 Hi.out Hz0.out Hz1.out Hz2.out rfl (by decide) _ _ _ rfl ((hox.alloc _).alloc _) ⟨w5.heap.size + 1, 0, none⟩ 1 1 [.int .i64 k, .int .i64 y, .int .i64 n] rfl rfl ?d1 ?d2 (by decide) ?d3 ?d4 ?d5 (w5.heap.size + 1 + 1) ?d6 ?_)
              case d1 =>
                intro j u hj
                match j, hj with
                | 0, hj => simp at hj; subst hj; simp [Addr.add]
                | 1, hj => simp at hj; subst hj; simp [Addr.add]
                | 2, hj => simp at hj; subst hj; simp [Addr.add]
              case d2 =>
                intro u hu
                simp at hu
                rcases hu with rfl | rfl | rfl <;> rfl
              case d3 => unfold maxLen; omega
              case d4 => omega
              case d5 => simp; omega
              case d6 => simp
              intro q9 c9 w9 hown' hgrow hq9 _
              have hb9 : Below w.heap.size w w9 := ((hB5.alloc (by omega) _).alloc (by simp; omega) _).grown hgrow (by simp; omega) (fun q hq => (hox.lt q hq).1)
              have hr9 : w9.ownsRow w.heap.size 40 3 (.slice (some ⟨q9, 0, none⟩) (i + 1) c9) (i + 1) ((vals (az ++ [(k, y, n)])).map (.int .i64)) := by rw [vals_more]; simpa using hown'
              have hqg9 : ¬ q9 = g := by
                rcases hq9 with h | h
                · have : q9 = q := (Option.some.inj h).symm
                  rw [this]; exact hqg'
                · omega
              have hgk9 : w9.heap[g]? = w1.heap[g]? := (hgrow.block g (by simp; omega) (fun e => hqg' (Option.some.inj e).symm)).trans ((Below.heap_alloc _ _ _ (by simp; omega)).trans ((Below.heap_alloc _ _ _ (by omega)).trans HG5.out))
              have hsz9 : w1.heap.size ≤ w9.heap.size := by have := hgrow.size; simp at this; omega
              clear hown' hgrow hox hq9
              have HF := Lib.hid (show _ ∧ _ ∧ _ ∧ _ from ⟨hr9, hqg9, hgk9, hsz9⟩)
              clear hr9 hqg9 hgk9 hsz9
              go_wp2
              exact ⟨⟨i + 1, az ++ [(k, y, n)], q9, c9, by omega, by go_num, by go_num, HTN.out, HF.out.1, HF.out.2.1, HF.out.2.2.1, HF.out.2.2.2, hb9⟩, by simp [intOf]; omega⟩
    · obtain rfl : i = P.length := by omega
      obtain ⟨A, cap2, hA, hints⟩ := row_ints HTO.out.1 hrow
      have hrow0 := Lib.hid hrow
      cases hA
      clear hrow
      go_wp2_with fail
      refine (specProgText_any _ _ _ (fOf az) _ hints).mono ?_; rintro e w5 ⟨rfl, hb5⟩
      have HROW := Lib.hid (ownsRow_keep3 hrow0.out hb5)
      have hB5 := hb.trans (hb5.mono hbs)
      clear hrow0 hb5 hints
      cases hok : progOk P.length (fOf az) with
      | false =>
        have HN := Lib.hid (show ∀ cz, ¬ progIs s cz from fun cz hc => by
          have e : az = cz := LinesM.same (s := s) (by rw [HP.out]; exact HTO.out) hc
          have : progOk az.length (fOf az) = true := (progOk_iff az).2 (by rw [e]; exact hc.1)
          rw [HTO.out.1, hok] at this
          cases this)
        generalize outText P.length (fOf az) = TX
        clear hok
        go_wp2
        go_ret2
        exact ⟨.inr ⟨HN.out, rfl⟩, hB5⟩
      | true =>
        have hTX : outText P.length (fOf az) = Lib.join (az.map txt) [59, 32] := by rw [outText_yes hok, ← HTO.out.1, progText_list]
        have hall : okAll az := (progOk_iff az).1 (by rw [HTO.out.1]; exact hok)
        have HL := Lib.hid HTO.out.1
        generalize outText P.length (fOf az) = TX at hTX ⊢
        clear hok
        by_cases he : TX = bl s
        · have hbe : (TX == s.toList) = true := by rw [ByteArray.toList_eq, beq_iff_eq]; exact he
          have HY := Lib.hid (show progIs s az from ⟨hall, by rw [← hTX, he]⟩)
          clear hTX hall he
          go_wp2
          go_ret2
          exact ⟨.inl ⟨az, _, HY.out, rfl, by rw [HL.out]; exact HROW.out⟩, hB5⟩
        · have hbe : (TX == s.toList) = false := by rw [ByteArray.toList_eq, beq_eq_false_iff_ne]; exact he
          have HN := Lib.hid (show ∀ cz, ¬ progIs s cz from fun cz hc => by
            have e : az = cz := LinesM.same (s := s) (by rw [HP.out]; exact HTO.out) hc
            exact he (by rw [hTX, e, ← hc.2]))
          clear hTX hall he
          go_wp2
          go_ret2
          exact ⟨.inr ⟨HN.out, rfl⟩, hB5⟩

theorem specParseProg_any (s : ByteArray) (hs : s.size ≤ 1048576) (w : World) : Calls Tryd.prog 33 #[.string s] w (LinesOut s w) := by
  by_cases h : 150 < s.size
  · exact specParseProg_big s h hs w
  · exact specParseProg_small s (by omega) w
end Go.Proofs.YtilgfcbjonalaaaDoor
