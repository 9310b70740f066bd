/- NewTable and ValuesOf, the model's and the program's. -/
import Derived.Test.YtkpkjcmoldkmmaaTv
import Derived.Test.YtkpkjcmoldkmmaaTw
import Derived.Test.YtkpkjcmoldkmmaaTg
import Derived.Test.YtkpkjcmoldkmmaaLq
namespace Go.Proofs.Ytkpkjcmoldkmmaa
open Go.RowKit

/-- an answer that is a table of the call's own -/
def RetT (w : World) (T : TL) (f : Value → Value) (e : Ending) (w' : World) : Prop := ∃ A c, e = .returned (f (.agg #[.slice A T.length c])) ∧ TOwn w' w.heap.size w'.heap.size A T ∧ Below w.heap.size w w'
/-- an answer that is a table that can be read -/
def RetA (w : World) (T : TL) (f : Value → Value) (e : Ending) (w' : World) : Prop := ∃ A c, e = .returned (f (.agg #[.slice A T.length c])) ∧ TAt w' w'.heap.size A T ∧ Below w.heap.size w w'
theorem RetT.ret {w w' : World} {T : TL} {f : Value → Value} {e : Ending} (h : RetT w T f e w') : RetA w T f e w' := by
  obtain ⟨A, c, h1, h2, h3⟩ := h
  exact ⟨A, c, h1, h2.at_, h3⟩
def zeros (n : Nat) : TL := List.replicate n CD.zero
theorem zeros_at (n j : Nat) : cd (zeros n) j = CD.zero := by
  unfold cd zeros
  rw [List.getD_eq_getElem?_getD, List.getElem?_replicate]
  split <;> rfl
theorem zeros_len (n : Nat) : (zeros n).length = n := by simp [zeros]
def newT (n : Int) : TL := if inB n 1 8 then zeros n.toNat else []
theorem zeros_own {w : World} {g t n lo : Nat} (h : w.rowIs g t (n * 6) (tval (fun _ => CD.zero) (fun _ => Pl.zero))) (hlo : lo ≤ g) : TOwn w lo w.heap.size (some ⟨g, 0, none⟩) (zeros n) := fun _ =>
  ⟨g, 0, rfl, fun _ => Pl.zero, fun _ => w.heap.size, fun _ => w.heap.size, by
    rw [zeros_len]
    have hg := h.lt
    refine (TRow.of_row (lo := lo) (B := w.heap.size) h hlo hg (fun _ _ => by omega) (fun _ _ => Nat.le_refl _) (fun _ _ => .inl hg) (fun j _ => ?_) (fun _ _ _ _ _ => .inl (Nat.le_refl _))).congr (fun j _ => (zeros_at n j).symm)
    exact ⟨fun h => absurd h (by simp [CD.zero, CD.p]), fun h => absurd h (by simp [CD.zero, CD.p]), fun h => absurd h (by simp [CD.zero, CD.p])⟩⟩

theorem specNew_any (n : Int) (w : World) : Calls Try.prog 45 #[.int .i64 n] w (RetT w (newT n) fun v => .tuple #[v, .bool (inB n 1 8)]) := by
  have hmk := fun (m : Nat) (h : m ≤ 1048576) => run_make_cells m h
  go_enter Try.func45, Try.ntmps45
  go_wp2_with fail
  refine (l01In_any _ _ _ _).mono ?_; rintro e w1 ⟨rfl, rfl⟩
  cases hL : inB n 1 8 with
  | false =>
    have HE := Lib.hid (show newT n = [] by simp [newT, hL])
    have HL := Lib.hid hL
    clear hmk hL
    go_wp2
    exact bodyPost_ret (v := .tuple #[.agg #[.slice none 0 0], .bool false]) (by simp [results, Try.results45, go_sem]) rfl (by
      rw [HE.out]
      exact ⟨none, 0, by rw [HL.out]; rfl, fun h => absurd h (by simp), (Below.refl _ _).alloc (Nat.le_refl _) _⟩)
  | true =>
    have hn : 1 ≤ n ∧ n ≤ 8 := by simpa only [inB, Bool.and_eq_true, decide_eq_true_eq] using hL
    have HE := Lib.hid (show newT n = zeros n.toNat by simp [newT, hL])
    have HL := Lib.hid hL
    clear hL
    obtain ⟨m, rfl⟩ := Int.eq_ofNat_of_zero_le (show 0 ≤ n by omega)
    have hmk := hmk m (by omega)
    clear hn
    go_wp2
    have hr := made_cells (w.alloc (.cells #[.slice (some ⟨w.heap.size + 1, 0, none⟩) m m] 29)) m 155
    have hb := ((Below.refl w.heap.size w).alloc (Nat.le_refl _) (.cells #[.slice (some ⟨w.heap.size + 1, 0, none⟩) m m] 29)).alloc (by simp) (.cells (madeCells #[.int .i64 0, .int .i64 0, .int .i64 0, .bool false, .slice none 0 0, .slice none 0 0] (m * 6)) 155)
    exact bodyPost_ret (v := .tuple #[.agg #[.slice (some ⟨w.heap.size + 1, 0, none⟩) m m], .bool true]) (by simp [results, Try.results45, go_sem]) rfl (by
      rw [HE.out]
      refine ⟨some ⟨w.heap.size + 1, 0, none⟩, m, ?_, ?_, hb⟩
      · rw [HL.out]; simp [zeros_len]
      · have := zeros_own (lo := w.heap.size) hr (by simp)
        simpa using this)
theorem implNew_any (n : Int) (w : World) : Calls Try.prog 53 #[.int .i64 n] w (RetT w (newT n) fun v => .tuple #[v, .bool (inB n 1 8)]) := by
  have hmk := fun (m : Nat) (h : m ≤ 1048576) => run_make_cells m h
  go_enter Try.func53, Try.ntmps53
  go_wp2_with fail
  refine (countOk_any _ _).mono ?_; rintro e w1 ⟨rfl, rfl⟩
  cases hL : inB n 1 8 with
  | false =>
    have HE := Lib.hid (show newT n = [] by simp [newT, hL])
    have HL := Lib.hid hL
    clear hmk hL
    go_wp2
    exact bodyPost_ret (v := .tuple #[.agg #[.slice none 0 0], .bool false]) (by simp [results, Try.results53, go_sem]) rfl (by
      rw [HE.out]
      exact ⟨none, 0, by rw [HL.out]; rfl, fun h => absurd h (by simp), (Below.refl _ _).alloc (Nat.le_refl _) _⟩)
  | true =>
    have hn : 1 ≤ n ∧ n ≤ 8 := by simpa only [inB, Bool.and_eq_true, decide_eq_true_eq] using hL
    have HE := Lib.hid (show newT n = zeros n.toNat by simp [newT, hL])
    have HL := Lib.hid hL
    clear hL
    obtain ⟨m, rfl⟩ := Int.eq_ofNat_of_zero_le (show 0 ≤ n by omega)
    have hmk := hmk m (by omega)
    clear hn
    go_wp2
    have hr := made_cells (w.alloc (.cells #[.slice (some ⟨w.heap.size + 1, 0, none⟩) m m] 29)) m 155
    have hb := ((Below.refl w.heap.size w).alloc (Nat.le_refl _) (.cells #[.slice (some ⟨w.heap.size + 1, 0, none⟩) m m] 29)).alloc (by simp) (.cells (madeCells #[.int .i64 0, .int .i64 0, .int .i64 0, .bool false, .slice none 0 0, .slice none 0 0] (m * 6)) 155)
    exact bodyPost_ret (v := .tuple #[.agg #[.slice (some ⟨w.heap.size + 1, 0, none⟩) m m], .bool true]) (by simp [results, Try.results53, go_sem]) rfl (by
      rw [HE.out]
      refine ⟨some ⟨w.heap.size + 1, 0, none⟩, m, ?_, ?_, hb⟩
      · rw [HL.out]; simp [zeros_len]
      · have := zeros_own (lo := w.heap.size) hr (by simp)
        simpa using this)

theorem vals_len (T : TL) : (vals T).length ≤ 8 := by
  unfold vals
  split
  · rename_i h; have := tabOk_len h; simp; omega
  · simp
theorem take_vals {T : TL} {k : Nat} (h : k < T.length) : (T.take (k + 1)).map (·.v) = (T.take k).map (·.v) ++ [(cd T k).v] := by
  rw [List.take_succ_eq_append_getElem h, List.map_append, cd_get h]; rfl
end Go.Proofs.Ytkpkjcmoldkmmaa
