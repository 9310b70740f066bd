/- slices.Clone at the program's own element types. -/
import Derived.Test.YtkpkjcmoldkmmaaGr
import Derived.Test.YtkpkjcmoldkmmaaGe
import Derived.Laws.OwnMore
namespace Go.Proofs.Ytkpkjcmoldkmmaa
open Go.RowKit

theorem infoC_Act : (Try.prog.info? 118).map (fun i => (i.zero, i.size, i.bytes)) = some (some (.agg #[.int .i64 0, .int .i64 0, .int .i64 0]), 3, 24) := by kernel_rfl
theorem one_Act {w : World} {B : Nat} : ∀ a vs, fAct.At w B a vs → ∀ u ∈ vs, u.oneCell' = true := fun a vs h => by have := at_Act h; subst this; simp [Value.oneCell']
set_option maxHeartbeats 800000 in
set_option maxRecDepth 100000 in
theorem clone_Act (A : Option Addr) (c B : Nat) (l : List (DAct)) (w : World) (hn : l.length ≤ 1048576) (r : RAt fAct w B A l) (hB : B ≤ w.heap.size) :
    Calls Try.prog 92 #[.slice A l.length c] w fun e w' => ∃ A' c', e = .returned (.slice A' l.length c') ∧ Below w.heap.size w w' ∧ Shal fAct w B w' A' l := by
  cases A with
  | none =>
    have h0 : l.length = 0 := by
      rcases Nat.eq_zero_or_pos l.length with h | h
      · exact h
      · obtain ⟨b, off, e, _⟩ := r.2 h
        cases e
    have hnil := fun w => Lib.run_eql_slice_nil (P := Try.prog) w 63 118 none 0 c 0 0 Try.underlying63
    rw [h0]
    go_enter Try.func92, Try.ntmps92
    go_wp2
    go_ret
    exact ⟨none, 0, rfl, Below.refl _ _, fun h => absurd h (by omega)⟩
  | some ad =>
    obtain ⟨i0, hi, hzz⟩ := Option.map_eq_some_iff.1 infoC_Act
    injection hzz with hz0 hz12
    injection hz12 with hz1 hz2
    have hown := World.ownsRow_made (base := w.heap.size) (size := 3) (e := 118) w #[] 0 (Nat.le_refl _) (Nat.zero_le _) rfl
    have hb0 := (Below.refl w.heap.size w).alloc (Nat.le_refl _) (.cells #[] 118)
    obtain ⟨vs, hl, hc, ho, ha⟩ := src_cells (r.keep hb0 hB) one_Act
    have HC := Lib.hid hc
    have HL := Lib.hid hl
    have HO := Lib.hid ho
    have HA := Lib.hid (show ∀ j a, l[j]? = some a → (vs j).length = fAct.n ∧ fAct.At w B a (vs j) from fun j a hj => ⟨(ha j a hj).1, fAct.at_same (ha j a hj).2 (fun k hk => (hb0.block k (by omega)).symm)⟩)
    have Hi := Lib.hid hi
    have Hz0 := Lib.hid hz0
    have Hz1 := Lib.hid hz1
    have Hz2 := Lib.hid hz2
    have HW := Lib.hid hown
    have HR := Lib.hid r
    have hnil := fun w => Lib.run_eql_slice_nil (P := Try.prog) w 63 118 (some ad) l.length c 0 0 Try.underlying63
    clear hi hz0 hz1 hz2 hown hc hl ho ha r
    go_enter Try.func92, Try.ntmps92
    go_wp2_with (at_builtin; refine wpList_append_own _ rfl _ _ 63 rfl w.heap.size 118 i0 (.agg #[.int .i64 0, .int .i64 0, .int .i64 0]) 3 24 Try.underlying63 Hi.out Hz0.out Hz1.out Hz2.out rfl (by decide) _ _ _ rfl HW.out ad l.length c (catC vs l.length) rfl HL.out HC.out HO.out ?c3 ?c4 ?c5 ?_)
    case c3 => unfold maxLen; omega
    case c4 => omega
    case c5 => simp
    intro v' w3 hown' hgrow _
    have hb3 := hb0.grown hgrow (by simp) (fun p hp => (HW.out.lt p hp).1)
    have HOW := Lib.hid (show w3.ownsRow w.heap.size 118 fAct.n v' l.length (catC vs l.length) by rw [show fAct.n = 3 from rfl]; simpa using hown')
    clear hown' hgrow
    go_wp2
    go_ret
    obtain ⟨A', c', rfl, hS⟩ := Shal.of_row (F := fAct) (B := B) HOW.out HA.out
    exact ⟨A', c', rfl, hb3, hS⟩
theorem infoC_ActS : (Try.prog.info? 63).map (fun i => (i.zero, i.size, i.bytes)) = some (some (.slice none 0 0), 1, 24) := by kernel_rfl
theorem one_ActS {w : World} {B : Nat} : ∀ a vs, (rowF fAct).At w B a vs → ∀ u ∈ vs, u.oneCell' = true := fun a vs h => by obtain ⟨A, cap, rfl, _⟩ := h; simp [Value.oneCell']
set_option maxHeartbeats 800000 in
set_option maxRecDepth 100000 in
theorem clone_ActS (A : Option Addr) (c B : Nat) (l : List (List DAct)) (w : World) (hn : l.length ≤ 1048576) (r : RAt (rowF fAct) w B A l) (hB : B ≤ w.heap.size) :
    Calls Try.prog 91 #[.slice A l.length c] w fun e w' => ∃ A' c', e = .returned (.slice A' l.length c') ∧ Below w.heap.size w w' ∧ Shal (rowF fAct) w B w' A' l := by
  cases A with
  | none =>
    have h0 : l.length = 0 := by
      rcases Nat.eq_zero_or_pos l.length with h | h
      · exact h
      · obtain ⟨b, off, e, _⟩ := r.2 h
        cases e
    have hnil := fun w => Lib.run_eql_slice_nil (P := Try.prog) w 73 63 none 0 c 0 0 Try.underlying73
    rw [h0]
    go_enter Try.func91, Try.ntmps91
    go_wp2
    go_ret
    exact ⟨none, 0, rfl, Below.refl _ _, fun h => absurd h (by omega)⟩
  | some ad =>
    obtain ⟨i0, hi, hzz⟩ := Option.map_eq_some_iff.1 infoC_ActS
    injection hzz with hz0 hz12
    injection hz12 with hz1 hz2
    have hown := World.ownsRow_made (base := w.heap.size) (size := 1) (e := 63) w #[] 0 (Nat.le_refl _) (Nat.zero_le _) rfl
    have hb0 := (Below.refl w.heap.size w).alloc (Nat.le_refl _) (.cells #[] 63)
    obtain ⟨vs, hl, hc, ho, ha⟩ := src_cells (r.keep hb0 hB) one_ActS
    have HC := Lib.hid hc
    have HL := Lib.hid hl
    have HO := Lib.hid ho
    have HA := Lib.hid (show ∀ j a, l[j]? = some a → (vs j).length = (rowF fAct).n ∧ (rowF fAct).At w B a (vs j) from fun j a hj => ⟨(ha j a hj).1, (rowF fAct).at_same (ha j a hj).2 (fun k hk => (hb0.block k (by omega)).symm)⟩)
    have Hi := Lib.hid hi
    have Hz0 := Lib.hid hz0
    have Hz1 := Lib.hid hz1
    have Hz2 := Lib.hid hz2
    have HW := Lib.hid hown
    have HR := Lib.hid r
    have hnil := fun w => Lib.run_eql_slice_nil (P := Try.prog) w 73 63 (some ad) l.length c 0 0 Try.underlying73
    clear hi hz0 hz1 hz2 hown hc hl ho ha r
    go_enter Try.func91, Try.ntmps91
    go_wp2_with (at_builtin; refine wpList_append_own _ rfl _ _ 73 rfl w.heap.size 63 i0 (.slice none 0 0) 1 24 Try.underlying73 Hi.out Hz0.out Hz1.out Hz2.out rfl (by decide) _ _ _ rfl HW.out ad l.length c (catC vs l.length) rfl HL.out HC.out HO.out ?c3 ?c4 ?c5 ?_)
    case c3 => unfold maxLen; omega
    case c4 => omega
    case c5 => simp
    intro v' w3 hown' hgrow _
    have hb3 := hb0.grown hgrow (by simp) (fun p hp => (HW.out.lt p hp).1)
    have HOW := Lib.hid (show w3.ownsRow w.heap.size 63 (rowF fAct).n v' l.length (catC vs l.length) by rw [show (rowF fAct).n = 1 from rfl]; simpa using hown')
    clear hown' hgrow
    go_wp2
    go_ret
    obtain ⟨A', c', rfl, hS⟩ := Shal.of_row (F := (rowF fAct)) (B := B) HOW.out HA.out
    exact ⟨A', c', rfl, hb3, hS⟩
theorem infoC_Int : (Try.prog.info? 3).map (fun i => (i.zero, i.size, i.bytes)) = some (some (.int .i64 0), 1, 8) := by kernel_rfl
theorem one_Int {w : World} {B : Nat} : ∀ a vs, intF.At w B a vs → ∀ u ∈ vs, u.oneCell' = true := fun a vs h => by cases h; simp [Value.oneCell']
set_option maxHeartbeats 800000 in
set_option maxRecDepth 100000 in
theorem clone_Int (A : Option Addr) (c B : Nat) (l : List (Int)) (w : World) (hn : l.length ≤ 1048576) (r : RAt intF w B A l) (hB : B ≤ w.heap.size) :
    Calls Try.prog 114 #[.slice A l.length c] w fun e w' => ∃ A' c', e = .returned (.slice A' l.length c') ∧ Below w.heap.size w w' ∧ Shal intF w B w' A' l := by
  cases A with
  | none =>
    have h0 : l.length = 0 := by
      rcases Nat.eq_zero_or_pos l.length with h | h
      · exact h
      · obtain ⟨b, off, e, _⟩ := r.2 h
        cases e
    have hnil := fun w => Lib.run_eql_slice_nil (P := Try.prog) w 31 3 none 0 c 0 0 Try.underlying31
    rw [h0]
    go_enter Try.func114, Try.ntmps114
    go_wp2
    go_ret
    exact ⟨none, 0, rfl, Below.refl _ _, fun h => absurd h (by omega)⟩
  | some ad =>
    obtain ⟨i0, hi, hzz⟩ := Option.map_eq_some_iff.1 infoC_Int
    injection hzz with hz0 hz12
    injection hz12 with hz1 hz2
    have hown := World.ownsRow_made (base := w.heap.size) (size := 1) (e := 3) w #[] 0 (Nat.le_refl _) (Nat.zero_le _) rfl
    have hb0 := (Below.refl w.heap.size w).alloc (Nat.le_refl _) (.cells #[] 3)
    obtain ⟨vs, hl, hc, ho, ha⟩ := src_cells (r.keep hb0 hB) one_Int
    have HC := Lib.hid hc
    have HL := Lib.hid hl
    have HO := Lib.hid ho
    have HA := Lib.hid (show ∀ j a, l[j]? = some a → (vs j).length = intF.n ∧ intF.At w B a (vs j) from fun j a hj => ⟨(ha j a hj).1, intF.at_same (ha j a hj).2 (fun k hk => (hb0.block k (by omega)).symm)⟩)
    have Hi := Lib.hid hi
    have Hz0 := Lib.hid hz0
    have Hz1 := Lib.hid hz1
    have Hz2 := Lib.hid hz2
    have HW := Lib.hid hown
    have HR := Lib.hid r
    have hnil := fun w => Lib.run_eql_slice_nil (P := Try.prog) w 31 3 (some ad) l.length c 0 0 Try.underlying31
    clear hi hz0 hz1 hz2 hown hc hl ho ha r
    go_enter Try.func114, Try.ntmps114
    go_wp2_with (at_builtin; refine wpList_append_own _ rfl _ _ 31 rfl w.heap.size 3 i0 (.int .i64 0) 1 8 Try.underlying31 Hi.out Hz0.out Hz1.out Hz2.out rfl (by decide) _ _ _ rfl HW.out ad l.length c (catC vs l.length) rfl HL.out HC.out HO.out ?c3 ?c4 ?c5 ?_)
    case c3 => unfold maxLen; omega
    case c4 => omega
    case c5 => simp
    intro v' w3 hown' hgrow _
    have hb3 := hb0.grown hgrow (by simp) (fun p hp => (HW.out.lt p hp).1)
    have HOW := Lib.hid (show w3.ownsRow w.heap.size 3 intF.n v' l.length (catC vs l.length) by rw [show intF.n = 1 from rfl]; simpa using hown')
    clear hown' hgrow
    go_wp2
    go_ret
    obtain ⟨A', c', rfl, hS⟩ := Shal.of_row (F := intF) (B := B) HOW.out HA.out
    exact ⟨A', c', rfl, hb3, hS⟩
theorem infoC_Put : (Try.prog.info? 111).map (fun i => (i.zero, i.size, i.bytes)) = some (some (.agg #[.int .i64 0, .int .i64 0]), 2, 16) := by kernel_rfl
theorem one_Put {w : World} {B : Nat} : ∀ a vs, fPut.At w B a vs → ∀ u ∈ vs, u.oneCell' = true := fun a vs h => by have := at_Put h; subst this; simp [Value.oneCell']
set_option maxHeartbeats 800000 in
set_option maxRecDepth 100000 in
theorem clone_Put (A : Option Addr) (c B : Nat) (l : List (DPut)) (w : World) (hn : l.length ≤ 1048576) (r : RAt fPut w B A l) (hB : B ≤ w.heap.size) :
    Calls Try.prog 115 #[.slice A l.length c] w fun e w' => ∃ A' c', e = .returned (.slice A' l.length c') ∧ Below w.heap.size w w' ∧ Shal fPut w B w' A' l := by
  cases A with
  | none =>
    have h0 : l.length = 0 := by
      rcases Nat.eq_zero_or_pos l.length with h | h
      · exact h
      · obtain ⟨b, off, e, _⟩ := r.2 h
        cases e
    have hnil := fun w => Lib.run_eql_slice_nil (P := Try.prog) w 76 111 none 0 c 0 0 Try.underlying76
    rw [h0]
    go_enter Try.func115, Try.ntmps115
    go_wp2
    go_ret
    exact ⟨none, 0, rfl, Below.refl _ _, fun h => absurd h (by omega)⟩
  | some ad =>
    obtain ⟨i0, hi, hzz⟩ := Option.map_eq_some_iff.1 infoC_Put
    injection hzz with hz0 hz12
    injection hz12 with hz1 hz2
    have hown := World.ownsRow_made (base := w.heap.size) (size := 2) (e := 111) w #[] 0 (Nat.le_refl _) (Nat.zero_le _) rfl
    have hb0 := (Below.refl w.heap.size w).alloc (Nat.le_refl _) (.cells #[] 111)
    obtain ⟨vs, hl, hc, ho, ha⟩ := src_cells (r.keep hb0 hB) one_Put
    have HC := Lib.hid hc
    have HL := Lib.hid hl
    have HO := Lib.hid ho
    have HA := Lib.hid (show ∀ j a, l[j]? = some a → (vs j).length = fPut.n ∧ fPut.At w B a (vs j) from fun j a hj => ⟨(ha j a hj).1, fPut.at_same (ha j a hj).2 (fun k hk => (hb0.block k (by omega)).symm)⟩)
    have Hi := Lib.hid hi
    have Hz0 := Lib.hid hz0
    have Hz1 := Lib.hid hz1
    have Hz2 := Lib.hid hz2
    have HW := Lib.hid hown
    have HR := Lib.hid r
    have hnil := fun w => Lib.run_eql_slice_nil (P := Try.prog) w 76 111 (some ad) l.length c 0 0 Try.underlying76
    clear hi hz0 hz1 hz2 hown hc hl ho ha r
    go_enter Try.func115, Try.ntmps115
    go_wp2_with (at_builtin; refine wpList_append_own _ rfl _ _ 76 rfl w.heap.size 111 i0 (.agg #[.int .i64 0, .int .i64 0]) 2 16 Try.underlying76 Hi.out Hz0.out Hz1.out Hz2.out rfl (by decide) _ _ _ rfl HW.out ad l.length c (catC vs l.length) rfl HL.out HC.out HO.out ?c3 ?c4 ?c5 ?_)
    case c3 => unfold maxLen; omega
    case c4 => omega
    case c5 => simp
    intro v' w3 hown' hgrow _
    have hb3 := hb0.grown hgrow (by simp) (fun p hp => (HW.out.lt p hp).1)
    have HOW := Lib.hid (show w3.ownsRow w.heap.size 111 fPut.n v' l.length (catC vs l.length) by rw [show fPut.n = 2 from rfl]; simpa using hown')
    clear hown' hgrow
    go_wp2
    go_ret
    obtain ⟨A', c', rfl, hS⟩ := Shal.of_row (F := fPut) (B := B) HOW.out HA.out
    exact ⟨A', c', rfl, hb3, hS⟩
theorem infoC_Commit : (Try.prog.info? 97).map (fun i => (i.zero, i.size, i.bytes)) = some (some (.agg #[.int .i64 0, .int .i64 0, .int .i64 0, .int .i64 0, .slice none 0 0, .slice none 0 0]), 6, 80) := by kernel_rfl
theorem one_Commit {w : World} {B : Nat} : ∀ a vs, fCommit.At w B a vs → ∀ u ∈ vs, u.oneCell' = true := fun a vs h => by obtain ⟨A4, c4, A5, c5, rfl, _⟩ := at_Commit h; simp [Value.oneCell']
set_option maxHeartbeats 800000 in
set_option maxRecDepth 100000 in
theorem clone_Commit (A : Option Addr) (c B : Nat) (l : List (DCommit)) (w : World) (hn : l.length ≤ 1048576) (r : RAt fCommit w B A l) (hB : B ≤ w.heap.size) :
    Calls Try.prog 109 #[.slice A l.length c] w fun e w' => ∃ A' c', e = .returned (.slice A' l.length c') ∧ Below w.heap.size w w' ∧ Shal fCommit w B w' A' l := by
  cases A with
  | none =>
    have h0 : l.length = 0 := by
      rcases Nat.eq_zero_or_pos l.length with h | h
      · exact h
      · obtain ⟨b, off, e, _⟩ := r.2 h
        cases e
    have hnil := fun w => Lib.run_eql_slice_nil (P := Try.prog) w 32 97 none 0 c 0 0 Try.underlying32
    rw [h0]
    go_enter Try.func109, Try.ntmps109
    go_wp2
    go_ret
    exact ⟨none, 0, rfl, Below.refl _ _, fun h => absurd h (by omega)⟩
  | some ad =>
    obtain ⟨i0, hi, hzz⟩ := Option.map_eq_some_iff.1 infoC_Commit
    injection hzz with hz0 hz12
    injection hz12 with hz1 hz2
    have hown := World.ownsRow_made (base := w.heap.size) (size := 6) (e := 97) w #[] 0 (Nat.le_refl _) (Nat.zero_le _) rfl
    have hb0 := (Below.refl w.heap.size w).alloc (Nat.le_refl _) (.cells #[] 97)
    obtain ⟨vs, hl, hc, ho, ha⟩ := src_cells (r.keep hb0 hB) one_Commit
    have HC := Lib.hid hc
    have HL := Lib.hid hl
    have HO := Lib.hid ho
    have HA := Lib.hid (show ∀ j a, l[j]? = some a → (vs j).length = fCommit.n ∧ fCommit.At w B a (vs j) from fun j a hj => ⟨(ha j a hj).1, fCommit.at_same (ha j a hj).2 (fun k hk => (hb0.block k (by omega)).symm)⟩)
    have Hi := Lib.hid hi
    have Hz0 := Lib.hid hz0
    have Hz1 := Lib.hid hz1
    have Hz2 := Lib.hid hz2
    have HW := Lib.hid hown
    have HR := Lib.hid r
    have hnil := fun w => Lib.run_eql_slice_nil (P := Try.prog) w 32 97 (some ad) l.length c 0 0 Try.underlying32
    clear hi hz0 hz1 hz2 hown hc hl ho ha r
    go_enter Try.func109, Try.ntmps109
    go_wp2_with (at_builtin; refine wpList_append_own _ rfl _ _ 32 rfl w.heap.size 97 i0 (.agg #[.int .i64 0, .int .i64 0, .int .i64 0, .int .i64 0, .slice none 0 0, .slice none 0 0]) 6 80 Try.underlying32 Hi.out Hz0.out Hz1.out Hz2.out rfl (by decide) _ _ _ rfl HW.out ad l.length c (catC vs l.length) rfl HL.out HC.out HO.out ?c3 ?c4 ?c5 ?_)
    case c3 => unfold maxLen; omega
    case c4 => omega
    case c5 => simp
    intro v' w3 hown' hgrow _
    have hb3 := hb0.grown hgrow (by simp) (fun p hp => (HW.out.lt p hp).1)
    have HOW := Lib.hid (show w3.ownsRow w.heap.size 97 fCommit.n v' l.length (catC vs l.length) by rw [show fCommit.n = 6 from rfl]; simpa using hown')
    clear hown' hgrow
    go_wp2
    go_ret
    obtain ⟨A', c', rfl, hS⟩ := Shal.of_row (F := fCommit) (B := B) HOW.out HA.out
    exact ⟨A', c', rfl, hb3, hS⟩
end Go.Proofs.Ytkpkjcmoldkmmaa
