/- WantsOf: the model's and the program's. -/
import Derived.Test.YtognfnfbmbfidaaWrites
import Derived.Test.YtognfnfbmbfidaaVu
namespace Go.Proofs.Ytognfnfbmbfidaa
open Go.RowKit

def hasL (W : List Int) (x : Int) : Bool := hasB W.length (fun j => W.getD j 0) x
def wofL (K W : List Int) (m : Nat) (g : Nat → Int) : HL := (K.filter (fun x => hasB m g x)).map (fun x => (x, hasL W x))
theorem wofL_len (K W : List Int) (m : Nat) (g : Nat → Int) : (wofL K W m g).length ≤ K.length := by
  simp only [wofL, List.length_map]; exact List.length_filter_le _ _
theorem wofL_step {K W : List Int} {m k : Nat} {g : Nat → Int} (h : k < K.length) : wofL (K.take (k + 1)) W m g = wofL (K.take k) W m g ++ (if hasB m g (K.getD k 0) = true then [(K.getD k 0, hasL W (K.getD k 0))] else []) := by
  have e : K.getD k 0 = K[k] := by simp [List.getD_eq_getElem?_getD, h]
  rw [e, List.take_succ_eq_append_getElem h]
  unfold wofL
  rw [List.filter_append, List.map_append]
  by_cases hh : hasB m g K[k] = true
  · simp [hh]
  · simp [hh]
theorem wofL_yes {K W : List Int} {m k : Nat} {g : Nat → Int} (h : k < K.length) (e : hasB m g (K.getD k 0) = true) : wofL (K.take (k + 1)) W m g = wofL (K.take k) W m g ++ [(K.getD k 0, hasL W (K.getD k 0))] := by rw [wofL_step h, if_pos e]
theorem wofL_no {K W : List Int} {m k : Nat} {g : Nat → Int} (h : k < K.length) (e : hasB m g (K.getD k 0) = false) : wofL (K.take (k + 1)) W m g = wofL (K.take k) W m g := by rw [wofL_step h, e]; simp
def wofO (n : Nat) (f : Nat → Int) (m : Nat) (g : Nat → Int) : HL := if m ≤ 300 then wofL (keysOut (fun _ => true) n f) (keysOut (wrt f) n f) m g else []
theorem wofO_len (n : Nat) (f : Nat → Int) (m : Nat) (g : Nat → Int) : (wofO n f m g).length ≤ 8 := by
  unfold wofO
  split
  · exact Nat.le_trans (wofL_len _ _ _ _) (keysOut_le _ _ _)
  · simp
theorem wofO_big {n : Nat} {f : Nat → Int} {m : Nat} {g : Nat → Int} (h : ¬ m ≤ 300) : wofO n f m g = [] := by simp [wofO, h]
theorem wofO_bad {n : Nat} {f : Nat → Int} {m : Nat} {g : Nat → Int} (h : progOk n f = false) : wofO n f m g = [] := by
  unfold wofO keysOut
  simp [h, wofL]
theorem wofO_yes {n : Nat} {f : Nat → Int} {m : Nat} {g : Nat → Int} (h : m ≤ 300) : wofO n f m g = wofL (keysOut (fun _ => true) n f) (keysOut (wrt f) n f) m g := by simp [wofO, h]
theorem RetH.nil {w w' : World} {l : HL} (h : l = []) (hb : Below w.heap.size w w') : RetH w l (fun v => v) (.returned (.slice none 0 0)) w' := by
  subst h
  exact ⟨none, 0, rfl, fun h => absurd h (by simp), hb⟩

set_option maxHeartbeats 1600000 in
set_option maxRecDepth 100000 in
theorem specWof_any (A A' : Option Addr) (n c m c' B : Nat) (f g : Nat → Int) (w : World) (hm : m ≤ 1048576) (hB : B ≤ w.heap.size) (hr : IntsAt w B A (n * 3) f) (hk : IntsAt w B A' m g) :
    Calls Try.prog 41 #[.slice A n c, .slice A' m c'] w (RetH w (wofO n f m g) (fun v => v)) := by
  obtain ⟨i0, hi, hz0, hz1, hz2⟩ := info_parts infoWant
  have Hi := Lib.hid hi
  have Hz0 := Lib.hid hz0
  have Hz1 := Lib.hid hz1
  have Hz2 := Lib.hid hz2
  clear hi hz0 hz1 hz2
  go_enter Try.func41, Try.ntmps41
  go_wp2_with fail
  have b0 := (Below.refl w.heap.size w).alloc (Nat.le_refl _) (.cells #[] 32)
  have ho0 := fun m => RowW.made w 32 m rfl
  have hs0 : (w.alloc (.cells #[] 32)).heap.size = w.heap.size + 1 := by simp
  generalize w.alloc (.cells #[] 32) = w0 at b0 ho0 hs0 ⊢
  refine (specProgOk_any A n c f _ (hr.below (b0.mono hB) (by omega))).mono ?_; rintro e w1 ⟨rfl, hb1⟩
  have b1 := b0.trans (hb1.mono b0.size)
  have ho1 := fun m => (ho0 m).next hb1
  have hs1 := hb1.size
  clear hb1 ho0 b0
  cases hp : progOk n f with
  | false =>
    have HO := Lib.hid (wofO_bad (m := m) (g := g) hp)
    clear ho1
    go_wp2
    go_ret
    exact RetH.nil HO.out b1
  | true =>
    by_cases hm3 : m ≤ 300
    · have hz : ¬ ((300 : Int) < (m : Int)) := by omega
      have HO := Lib.hid (wofO_yes (n := n) (f := f) (g := g) hm3)
      clear hp
      go_wp2_with fail
      refine (specKeysOf_any A n c f _ (hr.below (b1.mono hB) (by omega))).mono ?_; rintro e w2 h2
      obtain ⟨v2, he, oo2, hb2⟩ := h2
      obtain ⟨Ak, ck, rfl, hmk, O2⟩ := OwnI.of_owns oo2
      subst he
      have b2 := b1.trans (hb2.mono b1.size)
      have ho2 := fun m => (ho1 m).next hb2
      have hs2 := hb2.size
      clear hb2 oo2 ho1 b1
      go_wp2_with fail
      refine (specWritesOf_any A n c f _ (hr.below (b2.mono hB) (by omega))).mono ?_; rintro e w3 h3
      obtain ⟨v3, he, oo3, hb3⟩ := h3
      obtain ⟨Aw, cw, rfl, hmw, O3⟩ := OwnI.of_owns oo3
      subst he
      have b3 := b2.trans (hb3.mono b2.size)
      have hs3 := hb3.size
      have O2 := (O2.below hb3 (Nat.le_refl _)).more (lo' := w.heap.size + 1) (B' := w3.heap.size) (by omega) hs3
      have O3 := O3.more (lo' := w.heap.size + 1) (B' := w3.heap.size) (by omega) (Nat.le_refl _)
      have ho3 := (ho2 w3.heap.size).next hb3
      have hmid : w.heap.size + 1 ≤ w3.heap.size := by omega
      clear hb3 oo3 ho2 b2 hs0 hs1 hs2 hs3
      have hK8 : (keysOut (fun _ => true) n f).length ≤ 8 := keysOut_le _ _ _
      have hW8 : (keysOut (wrt f) n f).length ≤ 8 := keysOut_le _ _ _
      generalize keysOut (fun _ => true) n f = K at *
      generalize keysOut (wrt f) n f = W at *
      generalize hM : w3.heap.size = M at O2 O3 ho3 hmid
      have hM0 : M ≤ w3.heap.size := by omega
      clear hM hr
      go_wp2
      go_loopw [5, 8] (fun v i wr => ∃ k : Nat, k ≤ K.length ∧ i = .int .i64 k ∧ RowW wr w.heap.size M v (wofL (K.take k) W m g) ∧ OwnI wr (w.heap.size + 1) M Ak K.length (fun j => K.getD j 0) ∧ OwnI wr (w.heap.size + 1) M Aw W.length (fun j => W.getD j 0) ∧ Below w.heap.size w wr ∧ M ≤ wr.heap.size) (fun _ i _ => K.length - (intOf i).toNat)
      case atStart => exact ⟨0, Nat.zero_le _, rfl, by simpa [wofL] using ho3, O2, O3, b3, hM0⟩
      case round =>
        obtain ⟨k, hkk, rfl, hrow, P2, P3, hb, hMr⟩ := hrel
        clear O2 O3 ho3 b3 hM0
        have hsz := hb.size
        by_cases hkn : k < K.length
        · obtain ⟨bk, ko, rfl, hk1, hk2, hck⟩ := P2 (by omega)
          have hkz : (k : Int) < K.length := by omega
          have P2 : OwnI wr (w.heap.size + 1) M (some ⟨bk, ko, none⟩) K.length (fun j => K.getD j 0) := fun _ => ⟨bk, ko, rfl, hk1, hk2, hck⟩
          have d0 : wr.cell? ⟨bk, ko + k, none⟩ = some (.int .i64 (K.getD k 0)) := (hck k hkn).1
          have HL := Lib.hid (show (wofL (K.take k) W m g).length ≤ 8 by have := wofL_len (K.take k) W m g; rw [List.length_take] at this; omega)
          have HY := Lib.hid (fun e => wofL_yes (W := W) (m := m) (g := g) hkn e)
          have HN := Lib.hid (fun e => wofL_no (W := W) (m := m) (g := g) hkn e)
          have P2 := Lib.hid P2
          have P3 := Lib.hid P3
          clear hck
          generalize K.getD k 0 = x at d0 HY HN
          have hltk : bk < wr.heap.size := by omega
          go_wp2_with fail
          refine (hasS_any A' m c' _ g x _ hm (hk.below (hb.mono hB) (Nat.le_refl _))).mono ?_; rintro e w' ⟨rfl, rfl⟩
          cases hh : hasB m g x with
          | false =>
            have HN := Lib.hid (HN.out hh)
            clear HY HL hh
            go_wp2
            exact ⟨⟨k + 1, by omega, by go_num, by rw [HN.out]; exact hrow, P2.out, P3.out, hb, hMr⟩, by simp [intOf]; omega⟩
          | true =>
            have HY := Lib.hid (HY.out hh)
            clear HN hh
            generalize hyy : hasL W x = y at HY
            have HYY := Lib.hid (show hasB W.length (fun j => W.getD j 0) x = y from hyy)
            clear hyy
            generalize wofL (K.take k) W m g = P at hrow HY HL
            have hba := ((Below.refl wr.heap.size wr).drew).alloc (by show wr.heap.size ≤ wr.heap.size; exact Nat.le_refl _) (.cells #[.int .i64 x, .bool y] 32)
            have HOW := Lib.hid (hrow.next hba).1
            have NB := Box.new (w := wr.drew) (b := wr.heap.size) (c := #[.int .i64 x, .bool y]) (t := 32) rfl
            have NEWS := Lib.hid (cells_two NB)
            have ONE := Lib.hid (hcs_two x y)
            have SZ : Hid (w.heap.size ≤ (wr.drew.alloc (.cells #[.int .i64 x, .bool y] 32)).heap.size) := Lib.hid (by simp; omega)
            have HH : Hid ((wr.drew.alloc (.cells #[.int .i64 x, .bool y] 32)).heap.size = wr.heap.size + 1) := Lib.hid (by simp)
            have HWW := Lib.hid (P3.out.below ((Below.refl wr.heap.size wr).drew) hMr).at_
            have hPl := HL.out
            have HBA := Lib.hid hba
            have HR0 := Lib.hid hrow
            clear hba hrow NB
            go_wp2_with fail
            go_region_law (first | (refine step_append_lies _ rfl _ _ 24 rfl w.heap.size 32 i0 (.agg #[.int .i64 0, .bool false]) 2 16 Try.underlying24 Hi.out Hz0.out Hz1.out Hz2.out rfl (by decide) u5 P.length (hcs P) (by simp [Act.eval]) HOW.out ⟨wr.heap.size, 0, none⟩ 1 1 [.int .i64 x, .bool y] (by simp [Act.eval]) rfl NEWS.out ONE.out (by decide) (by unfold maxLen; omega) (by omega) SZ.out (wr.heap.size + 1) HH.out ?_; intro g5 cap5 w5 hown5 hgrow hat5 hlt5) | (go_simp; go_at_call 75; refine (hasS_any _ _ _ _ _ x _ (by omega) HWW.out).mono ?_; rintro o w7 ⟨rfl, rfl⟩; rw [HYY.out]))
            all_goals
              have hgr : (wr.drew.alloc (.cells #[.int .i64 x, .bool y] 32)).grownBy w5 u5.ownBlock := hgrow
              have hsa : wr.heap.size + 1 ≤ w5.heap.size := by have := hgr.size; rw [HH.out] at this; exact this
              have hR := HR0.out.2
              have R5 := RowW.grown (H := wr.heap.size + 1) HR0.out (by omega) hown5 hat5
              have P2 := (P2.out.below HBA.out hMr).grown hgr (by rw [HH.out]; omega) (fun q hq => by have := hR q hq; omega)
              have P3 := (P3.out.below HBA.out hMr).grown hgr (by rw [HH.out]; omega) (fun q hq => by have := hR q hq; omega)
              have b5 := (hb.trans (HBA.out.mono hsz)).grown hgr (by rw [HH.out]; omega) (fun q hq => (HR0.out.1.lt q hq).1)
              have HP := Lib.hid (show wofL (K.take (k + 1)) W m g = P ++ [(x, y)] from HY.out)
              have R5 := Lib.hid R5
              have hM5 : M ≤ w5.heap.size := by omega
              clear hown5 hgrow hgr hat5 hlt5 hsa hR HR0 HBA HOW NEWS ONE SZ HH HWW HY HL HYY d0 hPl
              go_wp2
              exact ⟨⟨k + 1, by omega, by go_num, by rw [HP.out]; exact R5.out, P2, P3, b5, hM5⟩, by simp [intOf]; omega⟩
        · obtain rfl : k = K.length := by omega
          rw [List.take_length] at hrow
          obtain ⟨A9, c9, rfl, hO⟩ := hrow.own
          go_wp2
          go_ret
          rw [HO.out]
          exact ⟨_, _, rfl, hO, hb⟩
    · have hz : (300 : Int) < (m : Int) := by omega
      have HO := Lib.hid (wofO_big (n := n) (f := f) (g := g) hm3)
      clear ho1
      go_wp2
      go_ret
      exact RetH.nil HO.out b1

set_option maxHeartbeats 1600000 in
set_option maxRecDepth 100000 in
theorem implWof_any (A A' : Option Addr) (n c m c' B : Nat) (f g : Nat → Int) (w : World) (hm : m ≤ 1048576) (hB : B ≤ w.heap.size) (hr : IntsAt w B A (n * 3) f) (hk : IntsAt w B A' m g) :
    Calls Try.prog 43 #[.slice A n c, .slice A' m c'] w (RetH w (wofO n f m g) (fun v => v)) := by
  obtain ⟨i0, hi, hz0, hz1, hz2⟩ := info_parts infoWant
  have Hi := Lib.hid hi
  have Hz0 := Lib.hid hz0
  have Hz1 := Lib.hid hz1
  have Hz2 := Lib.hid hz2
  clear hi hz0 hz1 hz2
  by_cases hm3 : m ≤ 300
  · have hz : ¬ ((300 : Int) < (m : Int)) := by omega
    have HO := Lib.hid (wofO_yes (n := n) (f := f) (g := g) hm3)
    go_enter Try.func43, Try.ntmps43
    go_wp2_with fail
    refine (implWritesOf_any A n c f _ (hr.below (Below.refl _ _) hB)).mono ?_; rintro e w3 h3
    obtain ⟨v3, he, oo3, b3⟩ := h3
    obtain ⟨Aw, cw, rfl, hmw, O3⟩ := OwnI.of_owns oo3
    subst he
    have hs3 := b3.size
    clear oo3
    go_wp2_with fail
    refine (implKeysOf_any A n c f _ (hr.below (b3.mono hB) (by omega))).mono ?_; rintro e w2 h2
    obtain ⟨v2, he, oo2, hb2⟩ := h2
    obtain ⟨Ak, ck, rfl, hmk, O2⟩ := OwnI.of_owns oo2
    subst he
    have b2 := b3.trans (hb2.mono b3.size)
    have hs2 := hb2.size
    have O3 := (O3.below hb2 (Nat.le_refl _)).more (lo' := w.heap.size) (B' := w2.heap.size) (by omega) hs2
    have O2 := O2.more (lo' := w.heap.size) (B' := w2.heap.size) (by omega) (Nat.le_refl _)
    clear hb2 oo2 b3
    have hK8 : (keysOut (fun _ => true) n f).length ≤ 8 := keysOut_le _ _ _
    have hW8 : (keysOut (wrt f) n f).length ≤ 8 := keysOut_le _ _ _
    generalize keysOut (fun _ => true) n f = K at *
    generalize keysOut (wrt f) n f = W at *
    generalize hM : w2.heap.size = M at O2 O3
    have hM0 : M ≤ w2.heap.size := by omega
    have hmid : w.heap.size ≤ M := by omega
    clear hM hr hs2 hs3
    go_wp2
    go_loopw [6, 17] (fun v i wr => ∃ k : Nat, k ≤ K.length ∧ i = .int .i64 k ∧ RowW wr M M v (wofL (K.take k) W m g) ∧ OwnI wr w.heap.size M Ak K.length (fun j => K.getD j 0) ∧ OwnI wr w.heap.size M Aw W.length (fun j => W.getD j 0) ∧ Below w.heap.size w wr ∧ M ≤ wr.heap.size) (fun _ i _ => K.length - (intOf i).toNat)
    case atStart => exact ⟨0, Nat.zero_le _, rfl, by simpa [wofL] using RowW.nil _ _ _, O2, O3, b2, hM0⟩
    case round =>
      obtain ⟨k, hkk, rfl, hrow, P2, P3, hb, hMr⟩ := hrel
      clear O2 O3 b2 hM0
      have hsz := hb.size
      by_cases hkn : k < K.length
      · obtain ⟨bk, ko, rfl, hk1, hk2, hck⟩ := P2 (by omega)
        have hkz : (k : Int) < K.length := by omega
        have P2 : OwnI wr w.heap.size M (some ⟨bk, ko, none⟩) K.length (fun j => K.getD j 0) := fun _ => ⟨bk, ko, rfl, hk1, hk2, hck⟩
        have d0 : wr.cell? ⟨bk, ko + k, none⟩ = some (.int .i64 (K.getD k 0)) := (hck k hkn).1
        have HL := Lib.hid (show (wofL (K.take k) W m g).length ≤ 8 by have := wofL_len (K.take k) W m g; rw [List.length_take] at this; omega)
        have HY := Lib.hid (fun e => wofL_yes (W := W) (m := m) (g := g) hkn e)
        have HN := Lib.hid (fun e => wofL_no (W := W) (m := m) (g := g) hkn e)
        have P2 := Lib.hid P2
        have P3 := Lib.hid P3
        clear hck
        generalize K.getD k 0 = x at d0 HY HN
        have hltk : bk < wr.heap.size := by omega
        go_wp2_with fail
        refine (contains_any A' m c' _ g x _ hm (hk.below (hb.mono hB) (Nat.le_refl _))).mono ?_; rintro e w' ⟨rfl, rfl⟩
        cases hh : hasB m g x with
        | false =>
          have HN := Lib.hid (HN.out hh)
          clear HY HL hh
          go_wp2
          exact ⟨⟨k + 1, by omega, by go_num, by rw [HN.out]; exact hrow, P2.out, P3.out, hb, hMr⟩, by simp [intOf]; omega⟩
        | true =>
          have HY := Lib.hid (HY.out hh)
          clear HN hh
          generalize hyy : hasL W x = y at HY
          have HYY := Lib.hid (show hasB W.length (fun j => W.getD j 0) x = y from hyy)
          clear hyy
          generalize wofL (K.take k) W m g = P at hrow HY HL
          go_wp2_with fail
          refine (contains_any _ _ _ _ _ x _ (by omega) P3.out.at_).mono ?_; rintro e w' ⟨rfl, rfl⟩
          rw [HYY.out]
          have hPl := HL.out
          have hba := (Below.refl wr.heap.size wr).alloc (Nat.le_refl _) (.cells #[.int .i64 x, .bool y] 32)
          have HR0 := Lib.hid hrow
          have HBA := Lib.hid hba
          have hro := (hrow.next hba).1
          have NB := cells_two (Box.new (w := wr) (b := wr.heap.size) (c := #[.int .i64 x, .bool y]) (t := 32) rfl)
          have hHH : (wr.alloc (.cells #[.int .i64 x, .bool y] 32)).heap.size = wr.heap.size + 1 := by simp
          have HHH := Lib.hid hHH
          clear hba hrow d0 HL
          go_wp2_with (at_builtin; refine wpList_append_lies _ rfl _ _ 24 rfl M 32 i0 (.agg #[.int .i64 0, .bool false]) 2 16 Try.underlying24 Hi.out Hz0.out Hz1.out Hz2.out rfl (by decide) _ _ _ rfl hro ⟨wr.heap.size, 0, none⟩ 1 1 [.int .i64 x, .bool y] rfl rfl NB (hcs_two x y) (by decide) (by unfold maxLen; omega) (by omega) (by omega) (wr.heap.size + 1) hHH ?_)
          intro g5 cap5 w5 hown5 hgr hat5 hlt5
          have hsa : wr.heap.size + 1 ≤ w5.heap.size := by have := hgr.size; rw [HHH.out] at this; exact this
          have hR := HR0.out.2
          have R5 := RowW.grown (H := wr.heap.size + 1) HR0.out (by omega) hown5 hat5
          have P2 := (P2.out.below HBA.out hMr).grown hgr (by rw [HHH.out]; omega) (fun q hq => by have := hR q hq; omega)
          have P3 := (P3.out.below HBA.out hMr).grown hgr (by rw [HHH.out]; omega) (fun q hq => by have := hR q hq; omega)
          have b5 := (hb.trans (HBA.out.mono hsz)).grown hgr (by rw [HHH.out]; omega) (fun q hq => by have := hR q hq; omega)
          have HP := Lib.hid (show wofL (K.take (k + 1)) W m g = P ++ [(x, y)] from HY.out)
          have R5 := Lib.hid R5
          have hM5 : M ≤ w5.heap.size := by omega
          clear hown5 hgr hat5 hlt5 hsa hR HR0 HBA NB hHH HHH HY HYY hPl hro
          go_wp2
          exact ⟨⟨k + 1, by omega, by go_num, by rw [HP.out]; exact R5.out, P2, P3, b5, hM5⟩, by simp [intOf]; omega⟩
      · obtain rfl : k = K.length := by omega
        rw [List.take_length] at hrow
        obtain ⟨A9, c9, rfl, hO⟩ := hrow.own
        go_wp2
        go_ret
        rw [HO.out]
        exact ⟨_, _, rfl, hO.more hmid (Nat.le_refl _), hb⟩
  · have hz : (300 : Int) < (m : Int) := by omega
    have HO := Lib.hid (wofO_big (n := n) (f := f) (g := g) hm3)
    go_enter Try.func43, Try.ntmps43
    go_wp2
    go_ret
    exact RetH.nil HO.out (Below.refl _ _)
end Go.Proofs.Ytognfnfbmbfidaa
