/- NewTable and ValuesOf, the model's and the program's. -/
import Derived.Test.YtomkfldimkpmdaaTv
import Derived.Test.YtomkfldimkpmdaaTw
import Derived.Test.YtomkfldimkpmdaaTg
import Derived.Test.YtomkfldimkpmdaaLq
namespace Go.Proofs.Ytomkfldimkpmdaa
open Go.RowKit

/-- an answer that is a table of the call's own -/
def RetT (w : World) (T : TL) (f : Value → Value) (e : Ending) (w' : World) : Prop := ∃ A c, e = .returned (f (.agg #[.slice A T.length c])) ∧ TOwn w' w.heap.size w'.heap.size A T ∧ Below w.heap.size w w'
/-- an answer that is a table that can be read -/
def RetA (w : World) (T : TL) (f : Value → Value) (e : Ending) (w' : World) : Prop := ∃ A c, e = .returned (f (.agg #[.slice A T.length c])) ∧ TAt w' w'.heap.size A T ∧ Below w.heap.size w w'
theorem RetT.ret {w w' : World} {T : TL} {f : Value → Value} {e : Ending} (h : RetT w T f e w') : RetA w T f e w' := by
  obtain ⟨A, c, h1, h2, h3⟩ := h
  exact ⟨A, c, h1, h2.at_, h3⟩
def zeros (n : Nat) : TL := List.replicate n CD.zero
theorem zeros_at (n j : Nat) : cd (zeros n) j = CD.zero := by
  unfold cd zeros
  rw [List.getD_eq_getElem?_getD, List.getElem?_replicate]
  split <;> rfl
theorem zeros_len (n : Nat) : (zeros n).length = n := by simp [zeros]
def newT (n : Int) : TL := if inB n 1 8 then zeros n.toNat else []
theorem zeros_own {w : World} {g t n lo : Nat} (h : w.rowIs g t (n * 6) (tval (fun _ => CD.zero) (fun _ => Pl.zero))) (hlo : lo ≤ g) : TOwn w lo w.heap.size (some ⟨g, 0, none⟩) (zeros n) := fun _ =>
  ⟨g, 0, rfl, fun _ => Pl.zero, fun _ => w.heap.size, fun _ => w.heap.size, by
    rw [zeros_len]
    have hg := h.lt
    refine (TRow.of_row (lo := lo) (B := w.heap.size) h hlo hg (fun _ _ => by omega) (fun _ _ => Nat.le_refl _) (fun _ _ => .inl hg) (fun j _ => ?_) (fun _ _ _ _ _ => .inl (Nat.le_refl _))).congr (fun j _ => (zeros_at n j).symm)
    exact ⟨fun h => absurd h (by simp [CD.zero, CD.p]), fun h => absurd h (by simp [CD.zero, CD.p]), fun h => absurd h (by simp [CD.zero, CD.p])⟩⟩

theorem specNew_any (n : Int) (w : World) : Calls Try.prog 53 #[.int .i64 n] w (RetT w (newT n) fun v => .tuple #[v, .bool (inB n 1 8)]) := by
  have hmk := fun (m : Nat) (h : m ≤ 1048576) => run_make_cells m h
  go_enter Try.func53, Try.ntmps53
  go_wp2_with fail
  refine (l01In_any _ _ _ _).mono ?_; rintro e w1 ⟨rfl, rfl⟩
  cases hL : inB n 1 8 with
  | false =>
    have HE := Lib.hid (show newT n = [] by simp [newT, hL])
    have HL := Lib.hid hL
    clear hmk hL
    go_wp2
    exact bodyPost_ret (v := .tuple #[.agg #[.slice none 0 0], .bool false]) (by simp [results, Try.results53, go_sem]) rfl (by
      rw [HE.out]
      exact ⟨none, 0, by rw [HL.out]; rfl, fun h => absurd h (by simp), (Below.refl _ _).alloc (Nat.le_refl _) _⟩)
  | true =>
    have hn : 1 ≤ n ∧ n ≤ 8 := by simpa only [inB, Bool.and_eq_true, decide_eq_true_eq] using hL
    have HE := Lib.hid (show newT n = zeros n.toNat by simp [newT, hL])
    have HL := Lib.hid hL
    clear hL
    obtain ⟨m, rfl⟩ := Int.eq_ofNat_of_zero_le (show 0 ≤ n by omega)
    have hmk := hmk m (by omega)
    clear hn
    go_wp2
    have hr := made_cells (w.alloc (.cells #[.slice (some ⟨w.heap.size + 1, 0, none⟩) m m] 30)) m 83
    have hb := ((Below.refl w.heap.size w).alloc (Nat.le_refl _) (.cells #[.slice (some ⟨w.heap.size + 1, 0, none⟩) m m] 30)).alloc (by simp) (.cells (madeCells #[.int .i64 0, .int .i64 0, .int .i64 0, .bool false, .slice none 0 0, .slice none 0 0] (m * 6)) 83)
    exact bodyPost_ret (v := .tuple #[.agg #[.slice (some ⟨w.heap.size + 1, 0, none⟩) m m], .bool true]) (by simp [results, Try.results53, go_sem]) rfl (by
      rw [HE.out]
      refine ⟨some ⟨w.heap.size + 1, 0, none⟩, m, ?_, ?_, hb⟩
      · rw [HL.out]; simp [zeros_len]
      · have := zeros_own (lo := w.heap.size) hr (by simp)
        simpa using this)
theorem implNew_any (n : Int) (w : World) : Calls Try.prog 61 #[.int .i64 n] w (RetT w (newT n) fun v => .tuple #[v, .bool (inB n 1 8)]) := by
  have hmk := fun (m : Nat) (h : m ≤ 1048576) => run_make_cells m h
  go_enter Try.func61, Try.ntmps61
  go_wp2_with fail
  refine (countOk_any _ _).mono ?_; rintro e w1 ⟨rfl, rfl⟩
  cases hL : inB n 1 8 with
  | false =>
    have HE := Lib.hid (show newT n = [] by simp [newT, hL])
    have HL := Lib.hid hL
    clear hmk hL
    go_wp2
    exact bodyPost_ret (v := .tuple #[.agg #[.slice none 0 0], .bool false]) (by simp [results, Try.results61, go_sem]) rfl (by
      rw [HE.out]
      exact ⟨none, 0, by rw [HL.out]; rfl, fun h => absurd h (by simp), (Below.refl _ _).alloc (Nat.le_refl _) _⟩)
  | true =>
    have hn : 1 ≤ n ∧ n ≤ 8 := by simpa only [inB, Bool.and_eq_true, decide_eq_true_eq] using hL
    have HE := Lib.hid (show newT n = zeros n.toNat by simp [newT, hL])
    have HL := Lib.hid hL
    clear hL
    obtain ⟨m, rfl⟩ := Int.eq_ofNat_of_zero_le (show 0 ≤ n by omega)
    have hmk := hmk m (by omega)
    clear hn
    go_wp2
    have hr := made_cells (w.alloc (.cells #[.slice (some ⟨w.heap.size + 1, 0, none⟩) m m] 30)) m 83
    have hb := ((Below.refl w.heap.size w).alloc (Nat.le_refl _) (.cells #[.slice (some ⟨w.heap.size + 1, 0, none⟩) m m] 30)).alloc (by simp) (.cells (madeCells #[.int .i64 0, .int .i64 0, .int .i64 0, .bool false, .slice none 0 0, .slice none 0 0] (m * 6)) 83)
    exact bodyPost_ret (v := .tuple #[.agg #[.slice (some ⟨w.heap.size + 1, 0, none⟩) m m], .bool true]) (by simp [results, Try.results61, go_sem]) rfl (by
      rw [HE.out]
      refine ⟨some ⟨w.heap.size + 1, 0, none⟩, m, ?_, ?_, hb⟩
      · rw [HL.out]; simp [zeros_len]
      · have := zeros_own (lo := w.heap.size) hr (by simp)
        simpa using this)

theorem vals_len (T : TL) : (vals T).length ≤ 8 := by
  unfold vals
  split
  · rename_i h; have := tabOk_len h; simp; omega
  · simp
theorem take_vals {T : TL} {k : Nat} (h : k < T.length) : (T.take (k + 1)).map (·.v) = (T.take k).map (·.v) ++ [(cd T k).v] := by
  rw [List.take_succ_eq_append_getElem h, List.map_append, cd_get h]; rfl
set_option maxHeartbeats 800000 in
set_option maxRecDepth 100000 in
theorem specVals_any (A : Option Addr) (c B : Nat) (T : TL) (w : World) (hs : TFit T) (hB : B ≤ w.heap.size) (h2 : TAt w B A T) :
    Calls Try.prog 10 #[.agg #[.slice A T.length c]] w (RetI w (vals T)) := by
  obtain ⟨i0, hi, hz0, hz1, hz2⟩ := info_parts infoInt
  have Hi := Lib.hid hi
  have Hz0 := Lib.hid hz0
  have Hz1 := Lib.hid hz1
  have Hz2 := Lib.hid hz2
  clear hi hz0 hz1 hz2
  go_enter Try.func10, Try.ntmps10
  go_wp2_with fail
  have b0 := ((Below.refl w.heap.size w).alloc (Nat.le_refl _) (.cells #[.slice A T.length c] 30)).alloc (by simp) (.cells #[] 3)
  have X := (Box.new (w := w) (c := #[.slice A T.length c]) (t := 30) rfl).alloc (.cells #[] 3)
  have hown0 := World.ownsRow_made (base := w.heap.size + 1) (size := 1) (e := 3) (w.alloc (.cells #[.slice A T.length c] 30)) #[] 0 (by simp) (Nat.zero_le _) rfl
  refine (specTabOk_any _ _ _ T _ hs (Nat.le_trans hB b0.size) (h2.keep b0 hB)).mono ?_; rintro e w1 ⟨rfl, hb1⟩
  have X := X.next hb1
  have b1 := b0.trans (hb1.mono b0.size)
  have hown := ownsRow_block' hown0 (fun k hk _ => hb1.block k hk)
  have Hown := Lib.hid (show w1.ownsRow (w.heap.size + 1) 3 1 (.slice (some ⟨w.heap.size + 1, 0, none⟩) 0 0) ((T.take 0).map (·.v)).length (((T.take 0).map (·.v)).map (.int .i64)) by simpa using hown)
  clear hb1 b0 hown0 hown
  cases hl : tabOk T with
  | false =>
    have HE := Lib.hid (show vals T = [] by simp [vals, hl])
    clear hl
    go_wp2
    go_ret
    rw [HE.out]
    exact RetI.nil b1
  | true =>
    have HE := Lib.hid (show vals T = T.map (·.v) by simp [vals, hl])
    have hlen := tabOk_len hl
    clear hl
    go_wp2
    go_loopw [3, 4] (fun v i wr => ∃ k : Nat, k ≤ T.length ∧ i = .int .i64 k ∧ wr.ownsRow (w.heap.size + 1) 3 1 v ((T.take k).map (·.v)).length (((T.take k).map (·.v)).map (.int .i64)) ∧ Below w.heap.size w wr ∧ Box wr w.heap.size [.slice A T.length c]) (fun _ i _ => T.length - (intOf i).toNat)
    case atStart => exact ⟨0, Nat.zero_le _, rfl, Hown.out, b1, X⟩
    case round =>
      clear X b1 Hown
      obtain ⟨k, hk, rfl, hown, hb, X⟩ := hrel
      obtain ⟨x0, xf⟩ := X.c1
      have hsz := hb.size
      have hlt := X.lt
      by_cases hkn : k < T.length
      · obtain ⟨b, off, rfl, hbB, q, hc⟩ := h2 (by omega)
        have hkz : (k : Int) < T.length := by omega
        obtain ⟨a0, a1, a2, a3, a4, a5⟩ := (hc k hkn).1.below hb (show b < w.heap.size by omega)
        have hl2 : ((T.take k).map (·.v)).length ≤ 8 := by rw [List.length_map, List.length_take]; omega
        have HN := Lib.hid (take_vals hkn)
        clear hc h2 xf
        generalize (T.take k).map (·.v) = L at hown hl2 HN
        go_wp2_with (at_builtin; refine wpList_append_own _ rfl _ _ 26 rfl (w.heap.size + 1) 3 i0 (.int .i64 0) 1 8 Try.underlying26 Hi.out Hz0.out Hz1.out Hz2.out rfl (by decide) _ _ _ rfl (hown.alloc _) ⟨wr.heap.size, 0, none⟩ 1 1 [.int .i64 (cd T k).v] rfl rfl ?c1 ?c2 ?c3 ?c4 ?c5 ?_)
        case c1 =>
          intro j u hj
          match j, hj with
          | 0, hj => simp at hj; subst hj; simp [Addr.add]
        case c2 => intro u hu; simp at hu; subst hu; rfl
        case c3 => unfold maxLen; omega
        case c4 => omega
        case c5 => simp; omega
        intro v' w3 hown' hgrow _
        have X3 := (X.alloc (.cells #[.int .i64 (cd T k).v] 3)).grown hgrow (fun q hq => by have := (hown.lt q hq).1; omega)
        have hb3 := (hb.alloc hsz (.cells #[.int .i64 (cd T k).v] 3)).grown hgrow (by simp; omega) (fun q hq => by have := (hown.lt q hq).1; omega)
        have hown3 : w3.ownsRow (w.heap.size + 1) 3 1 v' ((T.take (k + 1)).map (·.v)).length (((T.take (k + 1)).map (·.v)).map (.int .i64)) := by rw [HN.out]; simpa using hown'
        clear hown' hgrow hown hb X x0 a0 a1 a2 a3 a4 a5
        go_wp2
        exact ⟨⟨k + 1, by omega, by go_num, hown3, hb3, X3⟩, by simp [intOf]; omega⟩
      · obtain rfl : k = T.length := by omega
        rw [List.take_length] at hown
        have HO := Lib.hid hown
        clear hown
        go_wp2
        go_ret
        rw [HE.out]
        exact RetI.of HO.out (by omega) hb

set_option maxHeartbeats 800000 in
set_option maxRecDepth 100000 in
theorem cellValues_any (A : Option Addr) (c B : Nat) (T : TL) (w : World) (hT : T.length ≤ 1048576) (hB : B ≤ w.heap.size) (h2 : TAt w B A T) :
    Calls Try.prog 48 #[.slice A T.length c] w (RetI w (T.map (·.v))) := by
  obtain ⟨i0, hi, hz0, hz1, hz2⟩ := info_parts infoInt
  have Hi := Lib.hid hi
  have Hz0 := Lib.hid hz0
  have Hz1 := Lib.hid hz1
  have Hz2 := Lib.hid hz2
  clear hi hz0 hz1 hz2
  go_enter Try.func48, Try.ntmps48
  go_wp2
  go_loopw [3, 8] (fun v i wr => ∃ k : Nat, k ≤ T.length ∧ i = .int .i64 k ∧ wr.ownsRow w.heap.size 3 1 v ((T.take k).map (·.v)).length (((T.take k).map (·.v)).map (.int .i64)) ∧ Below w.heap.size w wr) (fun _ i _ => T.length - (intOf i).toNat)
  case atStart => exact ⟨0, Nat.zero_le _, rfl, World.ownsRow_nil _ _ _ _, Below.refl _ _⟩
  case round =>
    obtain ⟨k, hk, rfl, hown, hb⟩ := hrel
    have hsz := hb.size
    by_cases hkn : k < T.length
    · obtain ⟨b, off, rfl, hbB, q, hc⟩ := h2 (by omega)
      have hkz : (k : Int) < T.length := by omega
      obtain ⟨a0, a1, a2, a3, a4, a5⟩ := (hc k hkn).1.below hb (show b < w.heap.size by omega)
      have hl2 : ((T.take k).map (·.v)).length ≤ 1048576 := by rw [List.length_map, List.length_take]; omega
      have HN := Lib.hid (take_vals hkn)
      clear hc h2
      generalize (T.take k).map (·.v) = L at hown hl2 HN
      go_wp2_with (at_builtin; refine wpList_append_own _ rfl _ _ 26 rfl w.heap.size 3 i0 (.int .i64 0) 1 8 Try.underlying26 Hi.out Hz0.out Hz1.out Hz2.out rfl (by decide) _ _ _ rfl ((hown.alloc _).alloc _) ⟨wr.heap.size + 1, 0, none⟩ 1 1 [.int .i64 (cd T k).v] rfl rfl ?c1 ?c2 ?c3 ?c4 ?c5 ?_)
      case c1 =>
        intro j u hj
        match j, hj with
        | 0, hj => simp at hj; subst hj; simp [Addr.add]
      case c2 => intro u hu; simp at hu; subst hu; rfl
      case c3 => unfold maxLen; omega
      case c4 => omega
      case c5 => simp; omega
      intro v' w3 hown' hgrow _
      have hb3 := ((hb.alloc hsz (.cells #[.int .i64 (cd T k).v, .int .i64 (cd T k).e, .int .i64 (cd T k).s, .bool (cd T k).h, .slice (q k).G (cd T k).hs.length (q k).c, .slice (q k).G' (cd T k).ws.length (q k).c'] 83)).alloc (by simp; omega) (.cells #[.int .i64 (cd T k).v] 3)).grown hgrow (by simp; omega) (fun q hq => (hown.lt q hq).1)
      have hown3 : w3.ownsRow w.heap.size 3 1 v' ((T.take (k + 1)).map (·.v)).length (((T.take (k + 1)).map (·.v)).map (.int .i64)) := by rw [HN.out]; simpa using hown'
      clear hown' hgrow hown hb a0 a1 a2 a3 a4 a5
      go_wp2
      exact ⟨⟨k + 1, by omega, by go_num, hown3, hb3⟩, by simp [intOf]; omega⟩
    · obtain rfl : k = T.length := by omega
      rw [List.take_length] at hown
      have HO := Lib.hid hown
      clear hown
      go_wp2
      go_ret
      exact RetI.of HO.out (Nat.le_refl _) hb
set_option maxHeartbeats 800000 in
set_option maxRecDepth 100000 in
theorem implVals_any (A : Option Addr) (c B : Nat) (T : TL) (w : World) (hs : TFit T) (hB : B ≤ w.heap.size) (h2 : TAt w B A T) :
    Calls Try.prog 12 #[.agg #[.slice A T.length c]] w (RetI w (vals T)) := by
  obtain ⟨i0, hi, hz0, hz1, hz2⟩ := info_parts infoInt
  have Hi := Lib.hid hi
  have Hz0 := Lib.hid hz0
  have Hz1 := Lib.hid hz1
  have Hz2 := Lib.hid hz2
  clear hi hz0 hz1 hz2
  go_enter Try.func12, Try.ntmps12
  go_wp2_with fail
  have b0 := (Below.refl w.heap.size w).alloc (Nat.le_refl _) (.cells #[.slice A T.length c] 30)
  have X := Box.new (w := w) (c := #[.slice A T.length c]) (t := 30) rfl
  refine (implTabOk_any _ _ _ T _ hs (Nat.le_trans hB b0.size) (h2.keep b0 hB)).mono ?_; rintro e w1 ⟨rfl, hb1⟩
  have X := X.next hb1
  have b1 := b0.trans (hb1.mono b0.size)
  clear hb1 b0
  cases hl : tabOk T with
  | false =>
    have HE := Lib.hid (show vals T = [] by simp [vals, hl])
    clear hl
    go_wp2
    go_ret
    rw [HE.out]
    exact RetI.nil b1
  | true =>
    have HE := Lib.hid (show vals T = T.map (·.v) by simp [vals, hl])
    have hlen := tabOk_len hl
    clear hl
    obtain ⟨x0, xf⟩ := X.c1
    clear xf
    go_wp2_with fail
    (with_reducible refine (cellValues_any A c B T _ (by omega) (Nat.le_trans hB b1.size) (h2.keep b1 hB)).mono ?_); rintro o w2 ⟨A2, c2, rfl, OI, hb2⟩
    have OI := Lib.hid OI
    clear x0
    go_wp2
    go_ret
    rw [HE.out]
    exact ⟨A2, c2, by rw [List.length_map]; rfl, OI.out.more b1.size (Nat.le_refl _), b1.trans (hb2.mono b1.size)⟩
end Go.Proofs.Ytomkfldimkpmdaa
