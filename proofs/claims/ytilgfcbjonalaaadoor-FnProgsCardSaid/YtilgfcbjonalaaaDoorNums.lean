/- parseNumbers: the numbers of a list of texts. -/
import Derived.Test.YtilgfcbjonalaaaDoorPNum
import Derived.Test.YtilgfcbjonalaaaDoorPiece
import Derived.Deep.DeepCutAuto
import Derived.Deep.LoopGhost
namespace Go.Proofs.YtilgfcbjonalaaaDoor
open Go.RowKit

theorem infoIntN : (Tryd.prog.info? 3).map (fun i => (i.zero, i.size, i.bytes)) = some (some (.int .i64 0), 1, 8) := by kernel_rfl
/-- the numbers of the first i texts -/
def NumsTo (L : List ByteArray) (i : Nat) (xs : List Int) : Prop := xs.length = i ∧ ∀ (j : Nat) (x : ByteArray), j < i → L[j]? = some x → ∃ y, xs[j]? = some y ∧ numIs x y
theorem NumsTo.more {L : List ByteArray} {i : Nat} {xs : List Int} (h : NumsTo L i xs) {x : ByteArray} (hx : L[i]? = some x) {y : Int} (hy : numIs x y) : NumsTo L (i + 1) (xs ++ [y]) := by
  refine ⟨by simp [h.1], fun j z hj hz => ?_⟩
  by_cases hji : j < i
  · obtain ⟨v, hv, hn⟩ := h.2 j z hji hz
    refine ⟨v, ?_, hn⟩
    rw [List.getElem?_append_left (by rw [h.1]; exact hji)]
    exact hv
  · obtain rfl : j = i := by omega
    rw [hx] at hz
    obtain rfl := Option.some.inj hz
    refine ⟨y, ?_, hy⟩
    rw [List.getElem?_append_right (by rw [h.1]; exact Nat.le_refl _), h.1]
    simp
/-- what parseNumbers answers -/
def NumsOut (L : List ByteArray) (w : World) (e : Ending) (w' : World) : Prop :=
  ((∃ xs v, NumsTo L L.length xs ∧ e = .returned (.tuple #[v, .bool true]) ∧ w'.ownsRow w.heap.size 3 1 v L.length (xs.map (.int .i64))) ∨
   ((∃ (j : Nat) (x : ByteArray), L[j]? = some x ∧ ∀ y, ¬ numIs x y) ∧ e = .returned (.tuple #[.slice none 0 0, .bool false]))) ∧ Below w.heap.size w w'

set_option maxHeartbeats 3200000 in
set_option maxRecDepth 100000 in
theorem parseNumbers_any (L : List ByteArray) (A : Option Addr) (cap g o : Nat) (w : World) (hl : L.length ≤ 1048577) (hA : 0 < L.length → A = some ⟨g, o, none⟩) (hg : g < w.heap.size)
    (hc : ∀ (j : Nat) (x : ByteArray), L[j]? = some x → w.cell? ⟨g, o + j, none⟩ = some (.string x)) (hs : ∀ (j : Nat) (x : ByteArray), L[j]? = some x → x.size ≤ 1048576) (ht : Tab w) :
    Calls Tryd.prog 81 #[.slice A L.length cap] w (NumsOut L w) := by
  obtain ⟨ii, hi, hz0, hz1, hz2⟩ := info_parts infoIntN
  have Hi := Lib.hid hi
  have Hz0 := Lib.hid hz0
  have Hz1 := Lib.hid hz1
  have Hz2 := Lib.hid hz2
  have HT := Lib.hid ht
  clear hi hz0 hz1 hz2 ht
  go_enter Tryd.func81, Tryd.ntmps81
  go_wp2
  go_loopw [4, 11] (fun u x wr => ∃ (i : Nat) (xs : List Int), i ≤ L.length ∧ x = .int .i64 (i : Int) ∧ NumsTo L i xs ∧ wr.ownsRow w.heap.size 3 1 u i (xs.map (.int .i64)) ∧ Below w.heap.size w wr) (fun _ x _ => (L.length - intOf x).toNat)
  case atStart => exact ⟨0, [], Nat.zero_le _, rfl, ⟨rfl, fun j x hj => by omega⟩, World.ownsRow_nil _ _ _ _, Below.refl _ _⟩
  case round =>
    obtain ⟨i, xs, hi, rfl, hto, hrow, hb⟩ := hrel
    have hsz := hb.size
    have HTO := Lib.hid hto
    clear hto
    by_cases hlt : i < L.length
    · have hltz : (i : Int) < L.length := by omega
      obtain ⟨x, hx⟩ : ∃ x, L[i]? = some x := ⟨L[i], List.getElem?_eq_getElem hlt⟩
      have hAA := hA (by omega)
      subst hAA
      have d0 : wr.cell? ⟨g, o + i, none⟩ = some (.string x) := ((bcell hb).1 _ _ (by omega)).trans (hc i x hx) |>.trans rfl
      go_wp2_with fail
      refine (parseNumber_any x (hs i x hx) _ (HT.out.below hb)).mono ?_; rintro e w8 ⟨y, b1, rfl, hn1, hn2, hb8⟩
      have hox := ownsRow_keep3 hrow hb8
      have hB8 := hb.trans (hb8.mono hsz)
      have hsz8 : w.heap.size ≤ w8.heap.size := by have := hb8.size; omega
      have HN1 := Lib.hid hn1
      have HN2 := Lib.hid hn2
      have HX := Lib.hid hx
      clear hn1 hn2 hb8 hrow hb d0 hx
      cases b1
      · have HBAD := Lib.hid (show ∃ (j : Nat) (x : ByteArray), L[j]? = some x ∧ ∀ y, ¬ numIs x y from ⟨i, x, HX.out, fun y' hy' => by
          have := (HN2.out y' hy').1
          cases this⟩)
        go_wp2
        go_ret2
        exact ⟨.inr ⟨HBAD.out, rfl⟩, hB8⟩
      · have HTN := Lib.hid (HTO.out.more HX.out (HN1.out rfl))
        have hil : i ≤ 1048577 := by omega
        go_wp2_with (at_builtin; refine wpList_append_own _ rfl _ _ 24 rfl w.heap.size 3 ii (.int .i64 0) 1 8 Tryd.underlying24 Hi.out Hz0.out Hz1.out Hz2.out rfl (by decide) _ _ _ rfl (hox.alloc _) ⟨w8.heap.size, 0, none⟩ 1 1 [.int .i64 y] rfl rfl ?c1 ?c2 ?c3 ?c4 ?c5 ?_)
        case c1 =>
          intro j u hj
          match j, hj with
          | 0, hj => simp at hj; subst hj; simp [Addr.add]
        case c2 => intro u hu; simp at hu; subst hu; rfl
        case c3 => unfold maxLen; omega
        case c4 => omega
        case c5 => simp; omega
        intro v' w9 hown' hgrow _
        have hb9 : Below w.heap.size w w9 := (hB8.alloc (by omega) _).grown hgrow (by simp; omega) (fun q hq => (hox.lt q hq).1)
        have hr9 : w9.ownsRow w.heap.size 3 1 v' (i + 1) ((xs ++ [y]).map (.int .i64)) := by simpa using hown'
        clear hown' hgrow hox
        go_wp2
        exact ⟨⟨i + 1, xs ++ [y], by omega, by go_num, HTN.out, hr9, hb9⟩, by simp [intOf]; omega⟩
    · obtain rfl : i = L.length := by omega
      go_wp2
      go_ret2
      exact ⟨.inl ⟨xs, _, HTO.out, rfl, hrow⟩, hb⟩
end Go.Proofs.YtilgfcbjonalaaaDoor
