/- The model's PlayLock. -/
import Derived.Test.YtmdonjkkpkcpnaaLp4
import Derived.Deep.RegionLaw
import Derived.Deep.CutRange
namespace Go.Proofs.Ytmdonjkkpkcpnaa
open Go.RowKit

/-- what the model's loop carries -/
structure PlS (w wr : World) (v : Value) (ops : OL) (k : Nat) : Prop where
  bel : Below w.heap.size w wr
  res : Box wr w.heap.size [.slice none 0 0, .slice none 0 0]
  row : ∃ A c A' c', Box wr (w.heap.size + 1) [.slice A (stP ops k).1.length c, .slice A' (stP ops k).2.length c'] ∧ LOwn wr (w.heap.size + 3) wr.heap.size A A' (stP ops k) ∧ Told wr (w.heap.size + 2) v (cdP ops k) A A' (stP ops k)
/-- what it carries behind the operation, ahead of the answer's append -/
structure PlM (w wx : World) (v : Value) (ops : OL) (k : Nat) (r : (HL × HL) × Int) (s8 : Value) : Prop where
  told : s8 = .int .i64 r.2
  bel : Below w.heap.size w wx
  res : Box wx w.heap.size [.slice none 0 0, .slice none 0 0]
  row : ∃ A c A' c', Box wx (w.heap.size + 1) [.slice A r.1.1.length c, .slice A' r.1.2.length c'] ∧ LOwn wx (w.heap.size + 3) wx.heap.size A A' r.1 ∧ Told wx (w.heap.size + 2) v (cdP ops k) A A' r.1

theorem specAskR_any (A A' : Option Addr) (c c' B : Nat) (hs ws : HL) (t : Int) (wr : Bool) (w : World) (hn : hs.length ≤ 1048576) (hn' : ws.length ≤ 1048576) (h : LAt w B A A' (hs, ws)) :
    Calls Try.prog 28 #[.agg #[.slice A hs.length c, .slice A' ws.length c'], .int .i64 t, .bool wr] w (RetLock w (askL hs ws t wr) fun v => .tuple #[v, .int .i64 (askC hs ws t wr)]) :=
  (specAsk_any A A' c c' B hs ws t wr w hn hn' h).mono fun _ _ h => h.lock
/-- a call that answers a lock of its own, then the lock's box rewritten -/
theorem PlM.call {w wr w1 : World} {v : Value} {ops : OL} {k : Nat} {r : (HL × HL) × Int} {A5 A6 : Option Addr} {c5 c6 : Nat} {L1 L2 : Value}
    (hb : Below w.heap.size w wr) (R : Box wr w.heap.size [.slice none 0 0, .slice none 0 0]) (X : Box wr (w.heap.size + 1) [L1, L2])
    (hv : wr.ownsRow (w.heap.size + 2) 3 1 v (cdP ops k).length ((cdP ops k).map (.int .i64))) (hb1 : Below wr.heap.size wr w1) (hG : LOwn w1 wr.heap.size w1.heap.size A5 A6 r.1) (h3 : w.heap.size + 3 ≤ wr.heap.size) :
    PlM w ((w1.setCell ⟨w.heap.size + 1, 0, none⟩ (.slice A5 r.1.1.length c5)).setCell ⟨w.heap.size + 1, 1, none⟩ (.slice A6 r.1.2.length c6)) v ops k r (.int .i64 r.2) := by
  have s1 := hb1.size
  refine ⟨rfl, ?_, ?_, A5, c5, A6, c6, ?_, ?_, ?_, ?_⟩
  · exact (((hb.trans (hb1.mono hb.size)).setCell (p := ⟨w.heap.size + 1, 0, none⟩) (by simp) _).setCell (p := ⟨w.heap.size + 1, 1, none⟩) (by simp) _)
  · exact (((R.next hb1).far (a := ⟨w.heap.size + 1, 0, none⟩) _ (by simp)).far (a := ⟨w.heap.size + 1, 1, none⟩) _ (by simp))
  · exact (((X.next hb1).set (j := 0) (.slice A5 r.1.1.length c5) (by simp)).set (j := 1) (.slice A6 r.1.2.length c6) (by simp))
  · have := ((hG.far (a := ⟨w.heap.size + 1, 0, none⟩) (.slice A5 r.1.1.length c5) (.inl (by show w.heap.size + 1 < _; omega))).far (a := ⟨w.heap.size + 1, 1, none⟩) (.slice A6 r.1.2.length c6) (.inl (by show w.heap.size + 1 < _; omega)))
    refine this.more (by omega) ?_
    simp [World.setCell]
  · exact ownsRow_block' (ownsRow_block' (ownsRow_block' hv (fun q hq _ => hb1.block q hq)) (fun q _ hq => Below.heap_setCell _ _ _ _ (by show ¬ q = w.heap.size + 1; omega))) (fun q _ hq => Below.heap_setCell _ _ _ _ (by show ¬ q = w.heap.size + 1; omega))
  · exact fun q hq => Off.out hG (.inl (hv.lt q hq).2)

set_option maxHeartbeats 6400000 in
set_option maxRecDepth 100000 in
theorem specPlay_any (A : Option Addr) (c B : Nat) (ops : OL) (w : World) (hB : B ≤ w.heap.size) (h : OpsAt w B A ops) :
    Calls Try.prog 14 #[.slice A ops.length c] w (RetPlay w ops) := by
  obtain ⟨i0, hi, hz0, hz1, hz2⟩ := info_parts infoInt
  have Hi := Lib.hid hi
  have Hz0 := Lib.hid hz0
  have Hz1 := Lib.hid hz1
  have Hz2 := Lib.hid hz2
  clear hi hz0 hz1 hz2
  by_cases h3 : ops.length ≤ 300
  · have hz : ¬ ((300 : Int) < (ops.length : Int)) := by omega
    have HL := Lib.hid (playL_yes h3)
    have HC := Lib.hid (playC_yes h3)
    have bb := ((((Below.refl w.heap.size w).alloc (Nat.le_refl _) (.cells #[.slice none 0 0, .slice none 0 0] 28)).alloc (by simp) (.cells #[.slice none 0 0, .slice none 0 0] 28)).alloc (by simp; omega) (.cells #[] 3))
    have R := ((Box.new (w := w) (c := #[.slice none 0 0, .slice none 0 0]) (t := 28) rfl).alloc (.cells #[.slice none 0 0, .slice none 0 0] 28)).alloc (.cells #[] 3)
    have X := (Box.new (w := w.alloc (.cells #[.slice none 0 0, .slice none 0 0] 28)) (b := w.heap.size + 1) (c := #[.slice none 0 0, .slice none 0 0]) (t := 28) (by simp)).alloc (.cells #[] 3)
    have T : (((w.alloc (.cells #[.slice none 0 0, .slice none 0 0] 28)).alloc (.cells #[.slice none 0 0, .slice none 0 0] 28)).alloc (.cells #[] 3)).ownsRow (w.heap.size + 2) 3 1 (.slice (some ⟨w.heap.size + 2, 0, none⟩) 0 0) 0 [] := by
      have := World.ownsRow_made (base := w.heap.size + 2) (size := 1) (e := 3) ((w.alloc (.cells #[.slice none 0 0, .slice none 0 0] 28)).alloc (.cells #[.slice none 0 0, .slice none 0 0] 28)) #[] 0 (by simp) (Nat.zero_le _) rfl
      simpa using this
    go_enter Try.func14, Try.ntmps14
    go_wp2
    have hw0 : w.heap.size + 3 ≤ (((w.alloc (.cells #[.slice none 0 0, .slice none 0 0] 28)).alloc (.cells #[.slice none 0 0, .slice none 0 0] 28)).alloc (.cells #[] 3)).heap.size := by simp
    generalize ((w.alloc (.cells #[.slice none 0 0, .slice none 0 0] 28)).alloc (.cells #[.slice none 0 0, .slice none 0 0] 28)).alloc (.cells #[] 3) = w0 at bb R X T hw0 ⊢
    go_loopw [5, 6] (fun v i wr => ∃ k : Nat, k ≤ ops.length ∧ i = .int .i64 k ∧ PlS w wr v ops k ∧ w.heap.size + 3 ≤ wr.heap.size) (fun _ i _ => ops.length - (intOf i).toNat)
    case atStart => exact ⟨0, Nat.zero_le _, rfl, ⟨bb, R, none, 0, none, 0, X, LOwn.nil _ _ _ _ _, T, fun q _ => Off.nil _ _ q⟩, hw0⟩
    case round =>
      obtain ⟨k, hk, rfl, ⟨hb, R, A1, c1, A2, c2, X, hl, ht⟩, hw3⟩ := hrel
      clear bb T
      have hsz := hb.size
      by_cases hkn : k < ops.length
      · obtain ⟨b, off, rfl, hbB, hcells⟩ := h (by omega)
        have hkz : (k : Int) < ops.length := by omega
        obtain ⟨O, co, d0, hO⟩ := hcells k hkn
        have d0 : wr.cell? ⟨b, off + k, none⟩ = some (.slice O (opAt ops k).length co) := (hb.cell (p := ⟨b, off + k, none⟩) (by show b < w.heap.size; omega)).trans d0
        have hOr := hO.below (hb.mono hB) (Nat.le_refl B)
        have hls := stP_len ops k
        obtain ⟨r, hr⟩ : ∃ r, playS (stP ops k) (opAt ops k).length (opF ops k) = r := ⟨_, rfl⟩
        have hrl : r.1.1.length + r.1.2.length ≤ k + 1 := by
          have := playS_len (stP ops k) (opAt ops k).length (opF ops k)
          rw [hr] at this
          omega
        have HS := Lib.hid (show stP ops (k + 1) = r.1 from by show (playS (stP ops k) (opAt ops k).length (opF ops k)).1 = r.1; rw [hr])
        have HK := Lib.hid (show cdP ops (k + 1) = cdP ops k ++ [r.2] from by show cdP ops k ++ [(playS (stP ops k) (opAt ops k).length (opF ops k)).2] = _; rw [hr])
        obtain ⟨L, hLL⟩ : ∃ L, (opAt ops k).length = L := ⟨_, rfl⟩
        rw [hLL] at hr d0 hOr
        have HR := Lib.hid hr
        clear hLL
        obtain ⟨x0, x1, xf⟩ := X.c2
        have hltX := X.lt
        have hcl := Lib.hid (cdP_len ops k)
        clear hr hO hcells
        go_upto_if 28 with (fail)
        go_cut [8, 9] from 16 to 84 (fun s8 s9 wx => PlM w wx u5 ops k r s8 ∧ w.heap.size + 3 ≤ wx.heap.size)
        case first =>
          by_cases e3 : L = 3
          · subst e3
            obtain ⟨b', off', rfl, hb'B, hc'⟩ := hOr (by omega)
            have o0 : wr.cell? ⟨b', off', none⟩ = some (.int .i64 (opF ops k 0)) := hc' 0 (by omega)
            have o1 : wr.cell? ⟨b', off' + 1, none⟩ = some (.int .i64 (opF ops k 1)) := hc' 1 (by omega)
            have o2 : wr.cell? ⟨b', off' + 2, none⟩ = some (.int .i64 (opF ops k 2)) := hc' 2 (by omega)
            have hb'w : b' < wr.heap.size := by omega
            have hne : ¬ b' = w.heap.size + 1 := by omega
            have hne' : ¬ w.heap.size + 1 = b' := by omega
            have hdr := (Below.refl wr.heap.size wr).drew
            have HD := Lib.hid (hl.at_.below hdr (Nat.le_refl _))
            have Xd := Lib.hid X.drew
            clear hc' hOr
            by_cases f0 : opF ops k 0 = 0
            · rw [f0] at o0
              have HQ := Lib.hid (show r = (askL (stP ops k).1 (stP ops k).2 (opF ops k 1) (opF ops k 2 == 1), askC (stP ops k).1 (stP ops k).2 (opF ops k 1) (opF ops k 2 == 1)) from by rw [← HR.out]; exact playS_ask (p := stP ops k) f0)
              clear f0
              go_wp2_with fail
              go_region_law (go_simp; go_at_call 28; refine (specAskR_any _ _ _ _ _ (stP ops k).1 (stP ops k).2 (opF ops k 1) (opF ops k 2 == 1) _ (by omega) (by omega) HD.out).mono ?_; rintro o w7 ⟨A5, c5, A6, c6, rfl, hG, hb7⟩; obtain ⟨y0, y1, yf⟩ := (Xd.out.next hb7).c2)
              all_goals
                have q0 := ((hdr.trans (hb7.mono (Nat.le_refl _))).cell (p := ⟨b', off', none⟩) hb'w).trans o0
                have P := Lib.hid (PlM.call (r := (askL (stP ops k).1 (stP ops k).2 (opF ops k 1) (opF ops k 2 == 1), askC (stP ops k).1 (stP ops k).2 (opF ops k 1) (opF ops k 2 == 1))) (A5 := A5) (A6 := A6) (c5 := c5) (c6 := c6) hb R X ht.1 (hdr.trans hb7) hG hw3)
                have hs7 := Lib.hid (show w.heap.size + 3 ≤ w7.heap.size by have := hb7.size; have := hdr.size; omega)
                clear hG hb7
                go_wp2
                go_meet
                exact ⟨by rw [HQ.out]; exact P.out, by have := hs7.out; simpa [World.setCell] using this⟩
            · by_cases f1 : opF ops k 0 = 1
              · cases hbb : tryB (stP ops k).1 (stP ops k).2 (opF ops k 1) (opF ops k 2 == 1) with
                | true =>
                  have HB := Lib.hid hbb
                  rw [f1] at o0
                  have HQ := Lib.hid (show r = (tryL (stP ops k).1 (stP ops k).2 (opF ops k 1) (opF ops k 2 == 1), 1) from by rw [← HR.out]; exact (playS_try (p := stP ops k) f1).trans (by rw [hbb]; rfl))
                  clear f1 hbb
                  go_wp2_with fail
                  go_region_law (go_simp; go_at_call 31; refine (specTry_any _ _ _ _ _ (stP ops k).1 (stP ops k).2 (opF ops k 1) (opF ops k 2 == 1) _ (by omega) (by omega) HD.out).mono ?_; rintro o w7 ⟨A5, c5, A6, c6, rfl, hG, hb7⟩; rw [HB.out]; obtain ⟨y0, y1, yf⟩ := (Xd.out.next hb7).c2)
                  all_goals
                    have q0 := ((hdr.trans (hb7.mono (Nat.le_refl _))).cell (p := ⟨b', off', none⟩) hb'w).trans o0
                    have P := Lib.hid (PlM.call (r := (tryL (stP ops k).1 (stP ops k).2 (opF ops k 1) (opF ops k 2 == 1), 1)) (A5 := A5) (A6 := A6) (c5 := c5) (c6 := c6) hb R X ht.1 (hdr.trans hb7) hG hw3)
                    have hs7 := Lib.hid (show w.heap.size + 3 ≤ w7.heap.size by have := hb7.size; have := hdr.size; omega)
                    clear hG hb7
                    go_wp2
                    go_meet
                    exact ⟨by rw [HQ.out]; exact P.out, by have := hs7.out; simpa [World.setCell] using this⟩
                | false =>
                  have HB := Lib.hid hbb
                  rw [f1] at o0
                  have HQ := Lib.hid (show r = (tryL (stP ops k).1 (stP ops k).2 (opF ops k 1) (opF ops k 2 == 1), 0) from by rw [← HR.out]; exact (playS_try (p := stP ops k) f1).trans (by rw [hbb]; rfl))
                  clear f1 hbb
                  go_wp2_with fail
                  go_region_law (go_simp; go_at_call 31; refine (specTry_any _ _ _ _ _ (stP ops k).1 (stP ops k).2 (opF ops k 1) (opF ops k 2 == 1) _ (by omega) (by omega) HD.out).mono ?_; rintro o w7 ⟨A5, c5, A6, c6, rfl, hG, hb7⟩; rw [HB.out]; obtain ⟨y0, y1, yf⟩ := (Xd.out.next hb7).c2)
                  all_goals
                    have q0 := ((hdr.trans (hb7.mono (Nat.le_refl _))).cell (p := ⟨b', off', none⟩) hb'w).trans o0
                    have P := Lib.hid (PlM.call (r := (tryL (stP ops k).1 (stP ops k).2 (opF ops k 1) (opF ops k 2 == 1), 0)) (A5 := A5) (A6 := A6) (c5 := c5) (c6 := c6) hb R X ht.1 (hdr.trans hb7) hG hw3)
                    have hs7 := Lib.hid (show w.heap.size + 3 ≤ w7.heap.size by have := hb7.size; have := hdr.size; omega)
                    clear hG hb7
                    go_wp2
                    go_meet
                    exact ⟨by rw [HQ.out]; exact P.out, by have := hs7.out; simpa [World.setCell] using this⟩
              · by_cases f2 : opF ops k 0 = 2
                · cases hbb : leaveB (stP ops k).1 (stP ops k).2 (opF ops k 1) with
                  | true =>
                    have HB := Lib.hid hbb
                    rw [f2] at o0
                    have HQ := Lib.hid (show r = (leaveL (stP ops k).1 (stP ops k).2 (opF ops k 1), 1) from by rw [← HR.out]; exact (playS_leave (p := stP ops k) f2).trans (by rw [hbb]; rfl))
                    clear f2 hbb
                    go_wp2_with fail
                    go_region_law (go_simp; go_at_call 33; refine (specLeave_any _ _ _ _ _ (stP ops k).1 (stP ops k).2 (opF ops k 1) _ (by omega) (by omega) HD.out).mono ?_; rintro o w7 ⟨A5, c5, A6, c6, rfl, hG, hb7⟩; rw [HB.out]; obtain ⟨y0, y1, yf⟩ := (Xd.out.next hb7).c2)
                    all_goals
                      have q0 := ((hdr.trans (hb7.mono (Nat.le_refl _))).cell (p := ⟨b', off', none⟩) hb'w).trans o0
                      have P := Lib.hid (PlM.call (r := (leaveL (stP ops k).1 (stP ops k).2 (opF ops k 1), 1)) (A5 := A5) (A6 := A6) (c5 := c5) (c6 := c6) hb R X ht.1 (hdr.trans hb7) hG hw3)
                      have hs7 := Lib.hid (show w.heap.size + 3 ≤ w7.heap.size by have := hb7.size; have := hdr.size; omega)
                      clear hG hb7
                      go_wp2
                      go_meet
                      exact ⟨by rw [HQ.out]; exact P.out, by have := hs7.out; simpa [World.setCell] using this⟩
                  | false =>
                    have HB := Lib.hid hbb
                    rw [f2] at o0
                    have HQ := Lib.hid (show r = (leaveL (stP ops k).1 (stP ops k).2 (opF ops k 1), 0) from by rw [← HR.out]; exact (playS_leave (p := stP ops k) f2).trans (by rw [hbb]; rfl))
                    clear f2 hbb
                    go_wp2_with fail
                    go_region_law (go_simp; go_at_call 33; refine (specLeave_any _ _ _ _ _ (stP ops k).1 (stP ops k).2 (opF ops k 1) _ (by omega) (by omega) HD.out).mono ?_; rintro o w7 ⟨A5, c5, A6, c6, rfl, hG, hb7⟩; rw [HB.out]; obtain ⟨y0, y1, yf⟩ := (Xd.out.next hb7).c2)
                    all_goals
                      have q0 := ((hdr.trans (hb7.mono (Nat.le_refl _))).cell (p := ⟨b', off', none⟩) hb'w).trans o0
                      have P := Lib.hid (PlM.call (r := (leaveL (stP ops k).1 (stP ops k).2 (opF ops k 1), 0)) (A5 := A5) (A6 := A6) (c5 := c5) (c6 := c6) hb R X ht.1 (hdr.trans hb7) hG hw3)
                      have hs7 := Lib.hid (show w.heap.size + 3 ≤ w7.heap.size by have := hb7.size; have := hdr.size; omega)
                      clear hG hb7
                      go_wp2
                      go_meet
                      exact ⟨by rw [HQ.out]; exact P.out, by have := hs7.out; simpa [World.setCell] using this⟩
                · have HQ := Lib.hid (show r = (stP ops k, -1) by rw [← HR.out]; exact playS_none (p := stP ops k) f0 f1 f2)
                  have g0 : (opF ops k 0 == 0) = false := by simpa using f0
                  have g1 : (opF ops k 0 == 1) = false := by simpa using f1
                  have g2 : (opF ops k 0 == 2) = false := by simpa using f2
                  clear HD Xd
                  generalize opF ops k 0 = z at o0 f0 f1 f2 g0 g1 g2
                  go_wp2
                  go_meet
                  refine ⟨⟨by rw [HQ.out], hb, R, A1, c1, A2, c2, ?_, ?_, ?_⟩, hw3⟩
                  · rw [HQ.out]; exact X
                  · rw [HQ.out]; exact hl
                  · rw [HQ.out]; exact ht
          · have e3b : ((L : Int) == 3) = false := by simpa using (show ¬ (L : Int) = 3 by omega)
            have HQ := Lib.hid (show r = (stP ops k, -1) by rw [← HR.out]; unfold playS; rw [if_neg e3])
            go_wp2
            go_meet
            refine ⟨⟨by rw [HQ.out], hb, R, A1, c1, A2, c2, ?_, ?_, ?_⟩, hw3⟩
            · rw [HQ.out]; exact X
            · rw [HQ.out]; exact hl
            · rw [HQ.out]; exact ht
        case rest =>
          obtain ⟨⟨rfl, hbm, Rm, A5, c5, A6, c6, Xm, hlm, htm⟩, hwm⟩ := hcut
          have T4 : (wc.alloc (.cells #[.int .i64 r.2] 3)).ownsRow (w.heap.size + 2) 3 1 u5 k ((cdP ops k).map (.int .i64)) := by
            have := htm.1
            rw [hcl.out] at this
            exact this.alloc _
          have hsz4 : (wc.alloc (.cells #[.int .i64 r.2] 3)).heap.size = wc.heap.size + 1 := by simp
          have NB : ∀ j u, [Value.int .i64 r.2][j]? = some u → (wc.alloc (.cells #[.int .i64 r.2] 3)).cell? ((⟨wc.heap.size, 0, none⟩ : Addr).add j) = some u := by
            have N := Box.new (w := wc) (b := wc.heap.size) (c := #[.int .i64 r.2]) (t := 3) rfl
            intro j u hj
            match j, hj with
            | 0, hj => simp at hj; subst hj; simp only [Addr.add]; exact N.cell 0 _ rfl
          have hOff := Lib.hid htm.2
          have hbm := Lib.hid hbm
          have Rm := Lib.hid Rm
          have Xm := Lib.hid Xm
          have hlm := Lib.hid hlm
          have hszm := hbm.out.size
          clear hb R X hl ht htm x0 x1 xf d0 hOr
          go_wp2_with (at_builtin; refine wpList_append_lies _ rfl _ _ 29 rfl (w.heap.size + 2) 3 i0 (.int .i64 0) 1 8 Try.underlying29 Hi.out Hz0.out Hz1.out Hz2.out rfl (by decide) _ _ _ rfl T4 ⟨wc.heap.size, 0, none⟩ 1 1 [.int .i64 r.2] rfl rfl NB (by intro u hu; simp at hu; subst hu; rfl) (by decide) (by unfold maxLen; omega) (by omega) (by omega) (wc.heap.size + 1) hsz4 ?_)
          intro g5 cap5 w5 hown5 hgr hat5 hlt5
          have ba3 := (Below.refl wc.heap.size wc).alloc (Nat.le_refl _) (.cells #[.int .i64 r.2] 3)
          have b5 := (hbm.out.alloc (by omega) (.cells #[.int .i64 r.2] 3)).grown hgr (by omega) (fun q hq => by have := (T4.lt q hq).1; omega)
          have R5 := (Rm.out.alloc (.cells #[.int .i64 r.2] 3)).grown hgr (fun q hq => by have := (T4.lt q hq).1; omega)
          have X5 := (Xm.out.alloc (.cells #[.int .i64 r.2] 3)).grown hgr (fun q hq => by have := (T4.lt q hq).1; omega)
          have hs5 : wc.heap.size + 1 ≤ w5.heap.size := by have := hgr.size; omega
          have L5 := ((hlm.out.below ba3 (Nat.le_refl _)).grownOff hgr (by omega) hOff.out).more (Nat.le_refl _) (B' := w5.heap.size) (by omega)
          have T5 : Told w5 (w.heap.size + 2) (.slice (some ⟨g5, 0, none⟩) (k + 1) cap5) (cdP ops (k + 1)) A5 A6 (stP ops (k + 1)) := by
            refine ⟨?_, fun q hq => ?_⟩
            · rw [HK.out, List.map_append, List.length_append, hcl.out]; exact hown5
            · rw [HS.out]
              have hq : g5 = q := by simpa [Value.ownBlock] using hq
              subst hq
              rcases hat5 with hat5 | hat5
              · exact hOff.out _ hat5
              · exact Off.out hlm.out (.inr (by omega))
          have T5 := Lib.hid T5
          have PV : PlS w w5 (.slice (some ⟨g5, 0, none⟩) (k + 1) cap5) ops (k + 1) := ⟨b5, R5, A5, c5, A6, c6, by rw [HS.out]; exact X5, by rw [HS.out]; exact L5, T5.out⟩
          have PV := Lib.hid PV
          have hw5 : w.heap.size + 3 ≤ w5.heap.size := by omega
          clear b5 R5 X5 L5 T5 hown5 hgr hat5 hlt5 ba3 T4 hsz4 NB HS HK hOff hbm Rm Xm hlm HR
          go_wp2
          go_roundw
          case rel =>
            exact ⟨k + 1, by omega, by go_num, PV.out, hw5⟩
          case measure => simp [intOf]; omega
      · obtain rfl : k = ops.length := by omega
        obtain ⟨G, gc, rfl, hO, hoff⟩ := OwnI.of_told ht
        obtain ⟨x0, x1, xf⟩ := X.c2
        obtain ⟨r0, r1, rf⟩ := R.c2
        have hltR := R.lt
        have LF := Lib.hid (((hl.far (a := ⟨w.heap.size, 0, none⟩) (.slice A1 (stP ops ops.length).1.length c1) (.inl (by simp))).far (a := ⟨w.heap.size, 1, none⟩) (.slice A2 (stP ops ops.length).2.length c2) (.inl (by simp))).more (lo' := w.heap.size) (B' := wr.heap.size) (by omega) (Nat.le_refl _))
        have OF := Lib.hid (hO.set2 (q := w.heap.size) (by omega) (.slice A1 (stP ops ops.length).1.length c1) (.slice A2 (stP ops ops.length).2.length c2))
        have BF := Lib.hid ((hb.setCell (p := ⟨w.heap.size, 0, none⟩) (by simp) (.slice A1 (stP ops ops.length).1.length c1)).setCell (p := ⟨w.heap.size, 1, none⟩) (by simp) (.slice A2 (stP ops ops.length).2.length c2))
        clear hl ht hO X R hb
        go_wp2
        refine bodyPost_ret (v := .tuple #[.agg #[.slice A1 (stP ops ops.length).1.length c1, .slice A2 (stP ops ops.length).2.length c2], .slice G (cdP ops ops.length).length gc]) (by simp [results, Try.results14, go_sem, r0, r1]) rfl ?_
        refine ⟨A1, c1, A2, c2, G, gc, by rw [HL.out, HC.out], ?_, ?_, ?_, BF.out⟩
        · rw [HL.out]; exact LF.out.more (Nat.le_refl _) (by simp [World.setCell])
        · rw [HC.out]; refine OwnI.more OF.out (show w.heap.size ≤ w.heap.size + 2 by omega) ?_; simp [World.setCell]
        · rw [HL.out, HC.out]; exact hoff
  · have hz : (300 : Int) < (ops.length : Int) := by omega
    have HL := Lib.hid (playL_no h3)
    have HC := Lib.hid (playC_no h3)
    go_enter Try.func14, Try.ntmps14
    go_wp2
    exact bodyPost_ret (v := .tuple #[.agg #[.slice none 0 0, .slice none 0 0], .slice none 0 0]) (by simp [results, Try.results14, go_sem]) rfl ⟨none, 0, none, 0, none, 0, by rw [HL.out, HC.out]; rfl, by rw [HL.out]; exact LOwn.nil _ _ _ _ _, by rw [HC.out]; exact fun h => absurd h (by simp), (fun a ha => by cases ha), (by
      repeat' (refine Below.setCell ?_ (by simp) _)
      exact (Below.refl w.heap.size w).alloc (Nat.le_refl _) _)⟩
end Go.Proofs.Ytmdonjkkpkcpnaa
