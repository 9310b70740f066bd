/- The program's playOp. -/
import Derived.Test.YtmdonjkkpkcpnaaLp1
namespace Go.Proofs.Ytmdonjkkpkcpnaa
open Go.RowKit

theorem oneIf_any (b : Bool) (w : World) : Calls Try.prog 73 #[.bool b] w fun e w' => e = .returned (.int .i64 (oneI b)) ∧ Below w.heap.size w w' := by
  cases b with
  | true =>
    go_enter Try.func73, Try.ntmps73
    go_wp2
    go_ret
    exact ⟨rfl, Below.refl _ _⟩
  | false =>
    go_enter Try.func73, Try.ntmps73
    go_wp2
    go_ret
    exact ⟨rfl, Below.refl _ _⟩

theorem oneIf_w (b : Bool) (w : World) : Calls Try.prog 73 #[.bool b] w fun e w' => e = .returned (.int .i64 (oneI b)) ∧ w = w' := by
  cases b with
  | true =>
    go_enter Try.func73, Try.ntmps73
    go_wp2
    go_ret
    exact ⟨rfl, rfl⟩
  | false =>
    go_enter Try.func73, Try.ntmps73
    go_wp2
    go_ret
    exact ⟨rfl, rfl⟩
/-- what one operation answers: a lock of the call's own memory, or the lock as it was -/
def PlayRet (A0 A0' : Option Addr) (p : HL × HL) (w : World) (r : (HL × HL) × Int) (e : Ending) (w' : World) : Prop := ∃ A c A' c', e = .returned (.tuple #[.agg #[.slice A r.1.1.length c, .slice A' r.1.2.length c'], .int .i64 r.2]) ∧ (r.1.1.length ≤ c ∧ r.1.2.length ≤ c') ∧ (LOwn w' w.heap.size w'.heap.size A A' r.1 ∨ (A = A0 ∧ A' = A0' ∧ r.1 = p)) ∧ Below w.heap.size w w'

set_option maxHeartbeats 3200000 in
set_option maxRecDepth 100000 in
theorem playOp_any (A A' O : Option Addr) (c c' co n : Nat) (f : Nat → Int) (hs ws : HL) (w : World) (hn : hs.length ≤ 1048576) (hn' : ws.length ≤ 1048576) (hc : hs.length ≤ c) (hc' : ws.length ≤ c') (h : LAt w w.heap.size A A' (hs, ws)) (hO : n = 3 → ∃ b off, O = some ⟨b, off, none⟩ ∧ b < w.heap.size ∧ ∀ j, j < 3 → w.cell? ⟨b, off + j, none⟩ = some (.int .i64 (f j))) :
    Calls Try.prog 48 #[.agg #[.slice A hs.length c, .slice A' ws.length c'], .slice O n co] w (PlayRet A A' (hs, ws) w (playS (hs, ws) n f)) := by
  by_cases h3 : n = 3
  · subst h3
    obtain ⟨b, off, rfl, hB, hcell⟩ := hO rfl
    have o0 := hcell 0 (by omega)
    have o1 := hcell 1 (by omega)
    have o2 := hcell 2 (by omega)
    rw [Nat.add_zero] at o0
    clear hcell hO
    have bb := (((Below.refl w.heap.size w).alloc (Nat.le_refl _) (.cells #[.slice A hs.length c, .slice A' ws.length c'] 28)).alloc (by simp) (.cells #[.slice none 0 0, .slice none 0 0] 28))
    have bd := bb.drew
    have HD := Lib.hid (h.below bd bd.size)
    have R0 := (Box.new (w := w.alloc (.cells #[.slice A hs.length c, .slice A' ws.length c'] 28)) (b := w.heap.size + 1) (c := #[.slice none 0 0, .slice none 0 0]) (t := 28) (by simp)).drew
    by_cases f0 : f 0 = 0
    · rw [playS_ask f0]
      rw [f0] at o0
      clear f0
      go_enter Try.func48, Try.ntmps48
      go_wp2_with fail
      go_region_law (fail)
      all_goals
        go_wp2_with fail
        refine (implAskC_any _ _ _ _ _ hs ws (f 1) (f 2 == 1) _ hn hn' HD.out).mono ?_; rintro e w1 ⟨A5, c5, A6, c6, rfl, hcap, hG, hb1⟩
        have R1 := R0.next hb1
        have b1 := bd.trans (hb1.mono bd.size)
        have s1 := hb1.size
        generalize hp : askL hs ws (f 1) (f 2 == 1) = p at hG hcap ⊢
        have HP := Lib.hid hp
        clear hp
        have HG := Lib.hid (((hG.far (a := ⟨w.heap.size + 1, 0, none⟩) (.slice A5 p.1.length c5) (.inl (by simp))).far (a := ⟨w.heap.size + 1, 1, none⟩) (.slice A6 p.2.length c6) (.inl (by simp))).more (lo' := w.heap.size) (B' := w1.heap.size) bd.size (Nat.le_refl _))
        have HC := Lib.hid hcap
        have hltR := R1.lt
        obtain ⟨r0, r1, rf⟩ := R1.c2
        clear hG hcap hb1 bb bd R0 R1 o0 o1 o2
        go_wp2
        have hp := HP.out
        exact bodyPost_ret (v := .tuple #[.agg #[.slice A5 p.1.length c5, .slice A6 p.2.length c6], .int .i64 (askC hs ws (f 1) (f 2 == 1))]) (by simp [results, Try.results48, go_sem, r0, r1]) rfl (by
          subst hp
          exact ⟨A5, c5, A6, c6, rfl, HC.out, .inl (HG.out.more (Nat.le_refl _) (by simp)), (b1.setCell (p := ⟨w.heap.size + 1, 0, none⟩) (by simp) _).setCell (p := ⟨w.heap.size + 1, 1, none⟩) (by simp) _⟩)
    · by_cases g1 : f 0 = 1
      · rw [playS_try g1]
        rw [g1] at o0
        clear g1 f0
        go_enter Try.func48, Try.ntmps48
        go_wp2_with fail
        go_region_law (fail)
        all_goals
          go_wp2_with fail
          refine (implTryC_any _ _ _ _ _ hs ws (f 1) (f 2 == 1) _ hn hn' HD.out).mono ?_; rintro e w1 ⟨A5, c5, A6, c6, rfl, hcap, hG, hb1⟩
          have R1 := R0.next hb1
          have b1 := bd.trans (hb1.mono bd.size)
          have s1 := hb1.size
          have s0 := bd.size
          obtain ⟨p, hp⟩ : ∃ p, tryL hs ws (f 1) (f 2 == 1) = p := ⟨_, rfl⟩
          rw [hp] at hG hcap ⊢
          obtain ⟨bb2, hb2⟩ : ∃ b, tryB hs ws (f 1) (f 2 == 1) = b := ⟨_, rfl⟩
          rw [hb2]
          have HP := Lib.hid hp
          have HB := Lib.hid hb2
          clear hp hb2
          have ba := hb1.alloc s1 (.cells #[.slice A5 p.1.length c5, .slice A6 p.2.length c6] 28)
          have NB := Box.new (w := w1) (b := w1.heap.size) (c := #[.slice A5 p.1.length c5, .slice A6 p.2.length c6]) (t := 28) rfl
          have R2 := R1.alloc (.cells #[.slice A5 p.1.length c5, .slice A6 p.2.length c6] 28)
          have bd2 := ((b1.alloc b1.size (.cells #[.slice A5 p.1.length c5, .slice A6 p.2.length c6] 28)).drew)
          have hG2 := (hG.below ((Below.refl w1.heap.size w1).alloc (Nat.le_refl _) (.cells #[.slice A5 p.1.length c5, .slice A6 p.2.length c6] 28)).drew (Nat.le_refl _))
          have hsz2 : (w1.alloc (.cells #[.slice A5 p.1.length c5, .slice A6 p.2.length c6] 28)).drew.heap.size = w1.heap.size + 1 := by simp
          have hs3 : w.heap.size + 1 < (((w.alloc (.cells #[.slice A hs.length c, .slice A' ws.length c'] 28)).alloc (.cells #[.slice none 0 0, .slice none 0 0] 28))).drew.heap.size := R0.lt
          have HG := Lib.hid (((hG2.far (a := ⟨w.heap.size + 1, 0, none⟩) (.slice A5 p.1.length c5) (.inl hs3)).far (a := ⟨w.heap.size + 1, 1, none⟩) (.slice A6 p.2.length c6) (.inl hs3)).more (lo' := w.heap.size) (B' := w1.heap.size) s0 (Nat.le_refl _))
          have HC := Lib.hid hcap
          have hltR := R2.lt
          obtain ⟨n0, n1, nf⟩ := NB.c2
          obtain ⟨r0, r1, rf⟩ := R2.c2
          have hlt0 := hG2
          clear hlt0 hG hG2 hcap hb1 bb bd R0 R1 o0 o1 o2 ba nf hs3
          go_wp2_with fail
          go_region_law (go_simp; go_at_call 73; refine (oneIf_w _ _).mono ?_; rintro o w7 ⟨rfl, rfl⟩)
          all_goals
            go_wp2
            have hp := HP.out
            have hb2 := HB.out
            exact bodyPost_ret (v := .tuple #[.agg #[.slice A5 p.1.length c5, .slice A6 p.2.length c6], .int .i64 (oneI bb2)]) (by simp [results, Try.results48, go_sem, r0, r1]) rfl (by
              subst hp hb2
              exact ⟨A5, c5, A6, c6, rfl, HC.out, .inl (HG.out.more (Nat.le_refl _) (by simp [World.setCell])), (bd2.setCell (p := ⟨w.heap.size + 1, 0, none⟩) (by simp) _).setCell (p := ⟨w.heap.size + 1, 1, none⟩) (by simp) _⟩)
      · by_cases g2 : f 0 = 2
        · rw [playS_leave g2]
          rw [g2] at o0
          clear g2 g1 f0
          go_enter Try.func48, Try.ntmps48
          go_wp2_with fail
          go_region_law (fail)
          all_goals
            go_wp2_with fail
            refine (implLeaveR_any _ _ _ _ _ hs ws (f 1) _ hn hn' hc hc' HD.out).mono ?_; rintro e w1 ⟨A5, c5, A6, c6, rfl, hcap, hG, hb1⟩
            have R1 := R0.next hb1
            have b1 := bd.trans (hb1.mono bd.size)
            have s1 := hb1.size
            have s0 := bd.size
            obtain ⟨p, hp⟩ : ∃ p, leaveL hs ws (f 1) = p := ⟨_, rfl⟩
            rw [hp] at hG hcap ⊢
            obtain ⟨bb2, hb2⟩ : ∃ b, leaveB hs ws (f 1) = b := ⟨_, rfl⟩
            rw [hb2]
            have HP := Lib.hid hp
            have HB := Lib.hid hb2
            clear hp hb2
            have ba := hb1.alloc s1 (.cells #[.slice A5 p.1.length c5, .slice A6 p.2.length c6] 28)
            have NB := Box.new (w := w1) (b := w1.heap.size) (c := #[.slice A5 p.1.length c5, .slice A6 p.2.length c6]) (t := 28) rfl
            have R2 := R1.alloc (.cells #[.slice A5 p.1.length c5, .slice A6 p.2.length c6] 28)
            have bd2 := ((b1.alloc b1.size (.cells #[.slice A5 p.1.length c5, .slice A6 p.2.length c6] 28)).drew)
            have hG2 := (hG.below ((Below.refl w1.heap.size w1).alloc (Nat.le_refl _) (.cells #[.slice A5 p.1.length c5, .slice A6 p.2.length c6] 28)).drew (Nat.le_refl _))
            have hsz2 : (w1.alloc (.cells #[.slice A5 p.1.length c5, .slice A6 p.2.length c6] 28)).drew.heap.size = w1.heap.size + 1 := by simp
            have hs3 : w.heap.size + 1 < (((w.alloc (.cells #[.slice A hs.length c, .slice A' ws.length c'] 28)).alloc (.cells #[.slice none 0 0, .slice none 0 0] 28))).drew.heap.size := R0.lt
            have HG := Lib.hid (((hG2.far (a := ⟨w.heap.size + 1, 0, none⟩) (.slice A5 p.1.length c5) (.inl hs3)).far (a := ⟨w.heap.size + 1, 1, none⟩) (.slice A6 p.2.length c6) (.inl hs3)).more (lo' := w.heap.size) (B' := w1.heap.size) s0 (Nat.le_refl _))
            have HC := Lib.hid hcap
            have hltR := R2.lt
            obtain ⟨n0, n1, nf⟩ := NB.c2
            obtain ⟨r0, r1, rf⟩ := R2.c2
            have hlt0 := hG2
            clear hlt0 hG hG2 hcap hb1 bb bd R0 R1 o0 o1 o2 ba nf hs3
            go_wp2_with fail
            go_region_law (go_simp; go_at_call 73; refine (oneIf_w _ _).mono ?_; rintro o w7 ⟨rfl, rfl⟩)
            all_goals
              go_wp2
              have hp := HP.out
              have hb2 := HB.out
              exact bodyPost_ret (v := .tuple #[.agg #[.slice A5 p.1.length c5, .slice A6 p.2.length c6], .int .i64 (oneI bb2)]) (by simp [results, Try.results48, go_sem, r0, r1]) rfl (by
                subst hp hb2
                exact ⟨A5, c5, A6, c6, rfl, HC.out, .inl (HG.out.more (Nat.le_refl _) (by simp [World.setCell])), (bd2.setCell (p := ⟨w.heap.size + 1, 0, none⟩) (by simp) _).setCell (p := ⟨w.heap.size + 1, 1, none⟩) (by simp) _⟩)
        · rw [playS_none f0 g1 g2]
          have e0 : (f 0 == 0) = false := by simpa using f0
          have e1 : (f 0 == 1) = false := by simpa using g1
          have e2 : (f 0 == 2) = false := by simpa using g2
          clear HD
          have X0 := ((Box.new (w := w) (c := #[.slice A hs.length c, .slice A' ws.length c']) (t := 28) rfl).alloc (.cells #[.slice none 0 0, .slice none 0 0] 28)).drew
          have hsd := bd.size
          generalize f 0 = z at o0 f0 g1 g2 e0 e1 e2
          have q0 := (bd.cell (p := ⟨b, off, none⟩) hB).trans o0
          go_enter Try.func48, Try.ntmps48
          go_wp2_with fail
          go_region_law (fail)
          all_goals
            generalize (((w.alloc (.cells #[.slice A hs.length c, .slice A' ws.length c'] 28)).alloc (.cells #[.slice none 0 0, .slice none 0 0] 28))).drew = w3 at R0 X0 bd hsd q0 ⊢
            obtain ⟨r0, r1, rf⟩ := R0.c2
            obtain ⟨x0, x1, xf⟩ := X0.c2
            have hltR := R0.lt
            clear R0 X0
            go_wp2
            exact bodyPost_ret (v := .tuple #[.agg #[.slice A hs.length c, .slice A' ws.length c'], .int .i64 (-1)]) (by simp [results, Try.results48, go_sem, r0, r1]) rfl ⟨A, c, A', c', rfl, ⟨hc, hc'⟩, .inr ⟨rfl, rfl, rfl⟩, (bd.setCell (p := ⟨w.heap.size + 1, 0, none⟩) (by simp) _).setCell (p := ⟨w.heap.size + 1, 1, none⟩) (by simp) _⟩
  · have hS : playS (hs, ws) n f = ((hs, ws), -1) := by unfold playS; rw [if_neg h3]
    have hz : ((n : Int) == 3) = false := by simpa using (show ¬ (n : Int) = 3 by omega)
    rw [hS]
    have bb := (((Below.refl w.heap.size w).alloc (Nat.le_refl _) (.cells #[.slice A hs.length c, .slice A' ws.length c'] 28)).alloc (by simp) (.cells #[.slice A hs.length c, .slice A' ws.length c'] 28))
    go_enter Try.func48, Try.ntmps48
    go_wp2
    exact bodyPost_ret (v := .tuple #[.agg #[.slice A hs.length c, .slice A' ws.length c'], .int .i64 (-1)]) (by simp [results, Try.results48, go_sem]) rfl ⟨A, c, A', c', rfl, ⟨hc, hc'⟩, .inr ⟨rfl, rfl, rfl⟩, bb⟩
end Go.Proofs.Ytmdonjkkpkcpnaa
