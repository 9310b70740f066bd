/- The program's PlayLock, its answer's room known. -/
import Derived.Test.YtmdonjkkpkcpnaaLp3
namespace Go.Proofs.Ytmdonjkkpkcpnaa
open Go.RowKit

/-- what a play answers, with the room of its lists -/
def RetPlayC (w : World) (ops : OL) (e : Ending) (w' : World) : Prop := ∃ A c A' c' G gc, e = .returned (.tuple #[.agg #[.slice A (playL ops).1.length c, .slice A' (playL ops).2.length c'], .slice G (playC ops).length gc]) ∧ ((playL ops).1.length ≤ c ∧ (playL ops).2.length ≤ c') ∧ LOwn w' w.heap.size w'.heap.size A A' (playL ops) ∧ OwnI w' w.heap.size w'.heap.size G (playC ops).length (fun j => (playC ops).getD j 0) ∧ (∀ a, G = some a → 0 < (playC ops).length → Off A A' (playL ops) a.block) ∧ Below w.heap.size w w'
/-- what the program's loop carries -/
structure PlVC (w wr : World) (v : Value) (ops : OL) (k : Nat) : Prop where
  bel : Below w.heap.size w wr
  res : Box wr w.heap.size [.slice none 0 0, .slice none 0 0]
  row : ∃ A c A' c', Box wr (w.heap.size + 1) [.slice A (stP ops k).1.length c, .slice A' (stP ops k).2.length c'] ∧ ((stP ops k).1.length ≤ c ∧ (stP ops k).2.length ≤ c') ∧ LOwn wr (w.heap.size + 2) wr.heap.size A A' (stP ops k) ∧ Told wr (w.heap.size + 2) v (cdP ops k) A A' (stP ops k)

set_option maxHeartbeats 3200000 in
set_option maxRecDepth 100000 in
theorem implPlayC_any (A : Option Addr) (c B : Nat) (ops : OL) (w : World) (hB : B ≤ w.heap.size) (h : OpsAt w B A ops) :
    Calls Try.prog 15 #[.slice A ops.length c] w (RetPlayC w ops) := by
  obtain ⟨i0, hi, hz0, hz1, hz2⟩ := info_parts infoInt
  have Hi := Lib.hid hi
  have Hz0 := Lib.hid hz0
  have Hz1 := Lib.hid hz1
  have Hz2 := Lib.hid hz2
  clear hi hz0 hz1 hz2
  by_cases h3 : ops.length ≤ 300
  · have hz : ¬ ((300 : Int) < (ops.length : Int)) := by omega
    have HL := Lib.hid (playL_yes h3)
    have HC := Lib.hid (playC_yes h3)
    have bb := (((Below.refl w.heap.size w).alloc (Nat.le_refl _) (.cells #[.slice none 0 0, .slice none 0 0] 28)).alloc (by simp) (.cells #[.slice none 0 0, .slice none 0 0] 28))
    have R := (Box.new (w := w) (c := #[.slice none 0 0, .slice none 0 0]) (t := 28) rfl).alloc (.cells #[.slice none 0 0, .slice none 0 0] 28)
    have X := Box.new (w := w.alloc (.cells #[.slice none 0 0, .slice none 0 0] 28)) (b := w.heap.size + 1) (c := #[.slice none 0 0, .slice none 0 0]) (t := 28) (by simp)
    go_enter Try.func15, Try.ntmps15
    go_wp2
    generalize (w.alloc (.cells #[.slice none 0 0, .slice none 0 0] 28)).alloc (.cells #[.slice none 0 0, .slice none 0 0] 28) = w0 at bb R X ⊢
    go_loopw [5, 16] (fun v i wr => ∃ k : Nat, k ≤ ops.length ∧ i = .int .i64 k ∧ PlVC w wr v ops k) (fun _ i _ => ops.length - (intOf i).toNat)
    case atStart => exact ⟨0, Nat.zero_le _, rfl, bb, R, none, 0, none, 0, X, ⟨Nat.zero_le _, Nat.zero_le _⟩, LOwn.nil _ _ _ _ _, World.ownsRow_nil _ _ _ _, fun q hq => by simp [Value.ownBlock] at hq⟩
    case round =>
      obtain ⟨k, hk, rfl, hb, R, A1, c1, A2, c2, X, ⟨hc1, hc2⟩, hl, ht⟩ := hrel
      clear bb
      have hsz := hb.size
      by_cases hkn : k < ops.length
      · obtain ⟨b, off, rfl, hbB, hcells⟩ := h (by omega)
        have hkz : (k : Int) < ops.length := by omega
        obtain ⟨O, co, d0, hO⟩ := hcells k hkn
        have d0 : wr.cell? ⟨b, off + k, none⟩ = some (.slice O (opAt ops k).length co) := (hb.cell (p := ⟨b, off + k, none⟩) (by show b < w.heap.size; omega)).trans d0
        have hOr := hO.below (hb.mono hB) (Nat.le_refl _)
        have hls := stP_len ops k
        have hO3 : (opAt ops k).length = 3 → ∃ b off, O = some ⟨b, off, none⟩ ∧ b < wr.heap.size ∧ ∀ j, j < 3 → wr.cell? ⟨b, off + j, none⟩ = some (.int .i64 (opF ops k j)) := fun e3 => by
          obtain ⟨b', off', e, hlt, hc⟩ := hOr (by omega)
          exact ⟨b', off', e, by omega, fun j hj => hc j (by omega)⟩
        obtain ⟨r, hr⟩ : ∃ r, playS (stP ops k) (opAt ops k).length (opF ops k) = r := ⟨_, rfl⟩
        have hC := playOp_any A1 A2 O c1 c2 co (opAt ops k).length (opF ops k) (stP ops k).1 (stP ops k).2 wr (by omega) (by omega) hc1 hc2 hl.at_ hO3
        rw [show ((stP ops k).1, (stP ops k).2) = stP ops k from rfl] at hC
        rw [hr] at hC
        have hrl : r.1.1.length + r.1.2.length ≤ k + 1 := by
          have := playS_len (stP ops k) (opAt ops k).length (opF ops k)
          rw [hr] at this
          omega
        have HS := Lib.hid (show stP ops (k + 1) = r.1 from by show (playS (stP ops k) (opAt ops k).length (opF ops k)).1 = r.1; rw [hr])
        have HK := Lib.hid (show cdP ops (k + 1) = cdP ops k ++ [r.2] from by show cdP ops k ++ [(playS (stP ops k) (opAt ops k).length (opF ops k)).2] = _; rw [hr])
        obtain ⟨x0, x1, xf⟩ := X.c2
        have hltX := X.lt
        have hcl := cdP_len ops k
        clear hr hO hOr hO3 hcells
        go_wp2_with fail
        refine hC.mono ?_
        rintro e w1 ⟨A5, c5, A6, c6, rfl, ⟨hc5, hc6⟩, hG, hb1⟩
        have s1 := hb1.size
        have hLO : LOwn w1 (w.heap.size + 2) w1.heap.size A5 A6 r.1 := by
          rcases hG with h | ⟨rfl, rfl, e⟩
          · exact h.more (by omega) (Nat.le_refl _)
          · rw [e]; exact (hl.below hb1 (Nat.le_refl _)).more (Nat.le_refl _) s1
        have hOff : ∀ q, u5.ownBlock = some q → Off A5 A6 r.1 q := fun q hq => by
          rcases hG with h | ⟨rfl, rfl, e⟩
          · exact Off.out h (.inl (ht.1.lt q hq).2)
          · rw [e]; exact ht.2 q hq
        have b3 := Lib.hid ((((hb.trans (hb1.mono hsz)).alloc (by omega) (.cells #[.slice A5 r.1.1.length c5, .slice A6 r.1.2.length c6] 28)).setCell (p := ⟨w.heap.size + 1, 0, none⟩) (by simp) (.slice A5 r.1.1.length c5)).setCell (p := ⟨w.heap.size + 1, 1, none⟩) (by simp) (.slice A6 r.1.2.length c6))
        have R3 := Lib.hid ((((R.next hb1).alloc (.cells #[.slice A5 r.1.1.length c5, .slice A6 r.1.2.length c6] 28)).far (a := ⟨w.heap.size + 1, 0, none⟩) (.slice A5 r.1.1.length c5) (by simp)).far (a := ⟨w.heap.size + 1, 1, none⟩) (.slice A6 r.1.2.length c6) (by simp))
        have X1 := (X.next hb1).alloc (.cells #[.slice A5 r.1.1.length c5, .slice A6 r.1.2.length c6] 28)
        have X3 := Lib.hid ((X1.set (j := 0) (.slice A5 r.1.1.length c5) (by simp)).set (j := 1) (.slice A6 r.1.2.length c6) (by simp))
        have ba := (Below.refl w1.heap.size w1).alloc (Nat.le_refl _) (.cells #[.slice A5 r.1.1.length c5, .slice A6 r.1.2.length c6] 28)
        have L3 := Lib.hid (((hLO.below ba (Nat.le_refl _)).far (a := ⟨w.heap.size + 1, 0, none⟩) (.slice A5 r.1.1.length c5) (.inl (by show w.heap.size + 1 < _; omega))).far (a := ⟨w.heap.size + 1, 1, none⟩) (.slice A6 r.1.2.length c6) (.inl (by show w.heap.size + 1 < _; omega)))
        have T1 : w1.ownsRow (w.heap.size + 2) 3 1 u5 k ((cdP ops k).map (.int .i64)) := by
          have := ht.1
          rw [hcl] at this
          exact ownsRow_block' this (fun q hq _ => hb1.block q hq)
        have T2 := T1.alloc (.cells #[.slice A5 r.1.1.length c5, .slice A6 r.1.2.length c6] 28)
        have T3 : (((w1.alloc (.cells #[.slice A5 r.1.1.length c5, .slice A6 r.1.2.length c6] 28)).setCell ⟨w.heap.size + 1, 0, none⟩ (.slice A5 r.1.1.length c5)).setCell ⟨w.heap.size + 1, 1, none⟩ (.slice A6 r.1.2.length c6)).ownsRow (w.heap.size + 2) 3 1 u5 k ((cdP ops k).map (.int .i64)) := ownsRow_block' (ownsRow_block' T2 (fun q _ hq => Below.heap_setCell _ _ _ _ (by show ¬ q = w.heap.size + 1; omega))) (fun q _ hq => Below.heap_setCell _ _ _ _ (by show ¬ q = w.heap.size + 1; omega))
        have T4 := T3.alloc (.cells #[.int .i64 r.2] 3)
        have hsz3 : (((w1.alloc (.cells #[.slice A5 r.1.1.length c5, .slice A6 r.1.2.length c6] 28)).setCell ⟨w.heap.size + 1, 0, none⟩ (.slice A5 r.1.1.length c5)).setCell ⟨w.heap.size + 1, 1, none⟩ (.slice A6 r.1.2.length c6)).heap.size = w1.heap.size + 1 := by simp [World.setCell]
        have hsz4 : ((((w1.alloc (.cells #[.slice A5 r.1.1.length c5, .slice A6 r.1.2.length c6] 28)).setCell ⟨w.heap.size + 1, 0, none⟩ (.slice A5 r.1.1.length c5)).setCell ⟨w.heap.size + 1, 1, none⟩ (.slice A6 r.1.2.length c6)).alloc (.cells #[.int .i64 r.2] 3)).heap.size = w1.heap.size + 1 + 1 := by simp [World.setCell]
        have NB : ∀ j u, [Value.int .i64 r.2][j]? = some u → ((((w1.alloc (.cells #[.slice A5 r.1.1.length c5, .slice A6 r.1.2.length c6] 28)).setCell ⟨w.heap.size + 1, 0, none⟩ (.slice A5 r.1.1.length c5)).setCell ⟨w.heap.size + 1, 1, none⟩ (.slice A6 r.1.2.length c6)).alloc (.cells #[.int .i64 r.2] 3)).cell? ((⟨w1.heap.size + 1, 0, none⟩ : Addr).add j) = some u := by
          have N := Box.new (w := ((w1.alloc (.cells #[.slice A5 r.1.1.length c5, .slice A6 r.1.2.length c6] 28)).setCell ⟨w.heap.size + 1, 0, none⟩ (.slice A5 r.1.1.length c5)).setCell ⟨w.heap.size + 1, 1, none⟩ (.slice A6 r.1.2.length c6)) (b := w1.heap.size + 1) (c := #[.int .i64 r.2]) (t := 3) hsz3.symm
          intro j u hj
          match j, hj with
          | 0, hj => simp at hj; subst hj; simp only [Addr.add]; exact N.cell 0 _ rfl
        have hlw : w.heap.size + 2 ≤ w1.heap.size := by omega
        obtain ⟨y0, y1, yf⟩ := X1.c2
        clear hC hG ht hl X R T1 T2 T3 hb hb1 X1 ba x0 x1 xf d0
        go_wp2_with (at_builtin; refine wpList_append_lies _ rfl _ _ 29 rfl (w.heap.size + 2) 3 i0 (.int .i64 0) 1 8 Try.underlying29 Hi.out Hz0.out Hz1.out Hz2.out rfl (by decide) _ _ _ rfl T4 ⟨w1.heap.size + 1, 0, none⟩ 1 1 [.int .i64 r.2] rfl rfl NB (by intro u hu; simp at hu; subst hu; rfl) (by decide) (by unfold maxLen; omega) (by omega) (by omega) (w1.heap.size + 1 + 1) hsz4 ?_)
        intro g5 cap5 w5 hown5 hgr hat5 hlt5
        have ba3 := (Below.refl (w1.heap.size + 1) (((w1.alloc (.cells #[.slice A5 r.1.1.length c5, .slice A6 r.1.2.length c6] 28)).setCell ⟨w.heap.size + 1, 0, none⟩ (.slice A5 r.1.1.length c5)).setCell ⟨w.heap.size + 1, 1, none⟩ (.slice A6 r.1.2.length c6))).alloc (by omega) (.cells #[.int .i64 r.2] 3)
        have b5 := (b3.out.alloc (by omega) (.cells #[.int .i64 r.2] 3)).grown hgr (by omega) (fun q hq => by have := (T4.lt q hq).1; omega)
        have R5 := (R3.out.alloc (.cells #[.int .i64 r.2] 3)).grown hgr (fun q hq => by have := (T4.lt q hq).1; omega)
        have X5 := (X3.out.alloc (.cells #[.int .i64 r.2] 3)).grown hgr (fun q hq => by have := (T4.lt q hq).1; omega)
        have hs5 : w1.heap.size + 1 + 1 ≤ w5.heap.size := by have := hgr.size; omega
        have L5 := ((L3.out.below ba3 (by omega)).grownOff hgr (by omega) hOff).more (Nat.le_refl _) (B' := w5.heap.size) (by omega)
        have T5 : Told w5 (w.heap.size + 2) (.slice (some ⟨g5, 0, none⟩) (k + 1) cap5) (cdP ops (k + 1)) A5 A6 (stP ops (k + 1)) := by
          refine ⟨?_, fun q hq => ?_⟩
          · rw [HK.out, List.map_append, List.length_append, hcl]; exact hown5
          · rw [HS.out]
            have hq : g5 = q := by simpa [Value.ownBlock] using hq
            subst hq
            rcases hat5 with hat5 | hat5
            · exact hOff _ hat5
            · exact Off.out hLO (.inr (by omega))
        have T5 := Lib.hid T5
        have X5 : Box w5 (w.heap.size + 1) [.slice A5 r.1.1.length c5, .slice A6 r.1.2.length c6] := X5
        have PV : PlVC w w5 (.slice (some ⟨g5, 0, none⟩) (k + 1) cap5) ops (k + 1) := ⟨b5, R5, A5, c5, A6, c6, by rw [HS.out]; exact X5, by rw [HS.out]; exact ⟨hc5, hc6⟩, by rw [HS.out]; exact L5, T5.out⟩
        have PV := Lib.hid PV
        clear b5 R5 X5 L5 T5 hown5 hgr hat5 hlt5 ba3 b3 R3 X3 L3 T4 hsz3 hsz4 NB HS HK hOff hLO hc5 hc6 y0 y1 yf
        go_wp2
        exact ⟨⟨k + 1, by omega, by go_num, PV.out⟩, by simp [intOf]; omega⟩
      · obtain rfl : k = ops.length := by omega
        obtain ⟨G, gc, rfl, hO, hoff⟩ := OwnI.of_told ht
        obtain ⟨x0, x1, xf⟩ := X.c2
        obtain ⟨r0, r1, rf⟩ := R.c2
        have hltR := R.lt
        have LF := Lib.hid (((hl.far (a := ⟨w.heap.size, 0, none⟩) (.slice A1 (stP ops ops.length).1.length c1) (.inl (by simp))).far (a := ⟨w.heap.size, 1, none⟩) (.slice A2 (stP ops ops.length).2.length c2) (.inl (by simp))).more (lo' := w.heap.size) (B' := wr.heap.size) (by omega) (Nat.le_refl _))
        have OF := Lib.hid (hO.set2 (q := w.heap.size) (by omega) (.slice A1 (stP ops ops.length).1.length c1) (.slice A2 (stP ops ops.length).2.length c2))
        have BF := Lib.hid ((hb.setCell (p := ⟨w.heap.size, 0, none⟩) (by simp) (.slice A1 (stP ops ops.length).1.length c1)).setCell (p := ⟨w.heap.size, 1, none⟩) (by simp) (.slice A2 (stP ops ops.length).2.length c2))
        have CC := Lib.hid (And.intro hc1 hc2)
        clear hl ht hO X R hb hc1 hc2
        go_wp2
        refine bodyPost_ret (v := .tuple #[.agg #[.slice A1 (stP ops ops.length).1.length c1, .slice A2 (stP ops ops.length).2.length c2], .slice G (cdP ops ops.length).length gc]) (by simp [results, Try.results15, go_sem, r0, r1]) rfl ?_
        refine ⟨A1, c1, A2, c2, G, gc, by rw [HL.out, HC.out], by rw [HL.out]; exact CC.out, ?_, ?_, ?_, BF.out⟩
        · rw [HL.out]; exact LF.out.more (Nat.le_refl _) (by simp [World.setCell])
        · rw [HC.out]; refine OwnI.more OF.out (show w.heap.size ≤ w.heap.size + 2 by omega) ?_; simp [World.setCell]
        · rw [HL.out, HC.out]; exact hoff
  · have hz : (300 : Int) < (ops.length : Int) := by omega
    have HL := Lib.hid (playL_no h3)
    have HC := Lib.hid (playC_no h3)
    go_enter Try.func15, Try.ntmps15
    go_wp2
    exact bodyPost_ret (v := .tuple #[.agg #[.slice none 0 0, .slice none 0 0], .slice none 0 0]) (by simp [results, Try.results15, go_sem]) rfl ⟨none, 0, none, 0, none, 0, by rw [HL.out, HC.out]; rfl, by rw [HL.out]; exact ⟨Nat.le_refl _, Nat.le_refl _⟩, by rw [HL.out]; exact LOwn.nil _ _ _ _ _, by rw [HC.out]; exact fun h => absurd h (by simp), (fun a ha => by cases ha), (by
      repeat' (refine Below.setCell ?_ (by simp) _)
      exact (Below.refl w.heap.size w).alloc (Nat.le_refl _) _)⟩
end Go.Proofs.Ytmdonjkkpkcpnaa
