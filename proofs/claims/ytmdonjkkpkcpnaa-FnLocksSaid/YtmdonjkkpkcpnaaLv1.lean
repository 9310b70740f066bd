/- TryLock and FreeFor, on both sides. -/
import Derived.Test.YtmdonjkkpkcpnaaLi8
namespace Go.Proofs.Ytmdonjkkpkcpnaa
open Go.RowKit

theorem try_hit {hs ws : HL} {t : Int} {wr : Bool} (h : askC hs ws t wr = 0) : tryL hs ws t wr = askL hs ws t wr ∧ tryB hs ws t wr = true := by
  simp [tryL, tryB, h]
theorem try_miss {hs ws : HL} {t : Int} {wr : Bool} (h : ¬ askC hs ws t wr = 0) : tryL hs ws t wr = (hs, ws) ∧ tryB hs ws t wr = false := by
  simp [tryL, tryB, h]
theorem tryL_len (hs ws : HL) (t : Int) (wr : Bool) : (tryL hs ws t wr).1.length + (tryL hs ws t wr).2.length ≤ hs.length + ws.length + 1 := by
  unfold tryL
  split
  · exact askL_len hs ws t wr
  · simp

set_option maxHeartbeats 3200000 in
set_option maxRecDepth 100000 in
theorem specTry_any (A A' : Option Addr) (c c' B : Nat) (hs ws : HL) (t : Int) (wr : Bool) (w : World) (hn : hs.length ≤ 1048576) (hn' : ws.length ≤ 1048576) (h : LAt w B A A' (hs, ws)) :
    Calls Try.prog 31 #[.agg #[.slice A hs.length c, .slice A' ws.length c'], .int .i64 t, .bool wr] w (RetLock w (tryL hs ws t wr) fun v => .tuple #[v, .bool (tryB hs ws t wr)]) := by
  have hh : LAt w w.heap.size A A' (hs, ws) := ⟨h.1.lt, h.2.lt⟩
  clear h
  have H1 := Lib.hid (fun h => try_hit (hs := hs) (ws := ws) (t := t) (wr := wr) h)
  have H2 := Lib.hid (fun h => try_miss (hs := hs) (ws := ws) (t := t) (wr := wr) h)
  go_enter Try.func31, Try.ntmps31
  go_wp2_with fail
  have b := (((Below.refl w.heap.size w).alloc (Nat.le_refl _) (.cells #[.slice A hs.length c, .slice A' ws.length c'] 28)).alloc (by simp) (.cells #[.slice none 0 0, .slice none 0 0] 28))
  have X := ((Box.new (w := w) (c := #[.slice A hs.length c, .slice A' ws.length c']) (t := 28) rfl).alloc (.cells #[.slice none 0 0, .slice none 0 0] 28))
  have R := (Box.new (w := w.alloc (.cells #[.slice A hs.length c, .slice A' ws.length c'] 28)) (b := w.heap.size + 1) (c := #[.slice none 0 0, .slice none 0 0]) (t := 28) (by simp))
  refine (specAskL _ _ _ _ _ hs ws t wr _ hn hn' (hh.below b b.size)).mono ?_; rintro e w1 ⟨A5, c5, A6, c6, rfl, hG, hb1⟩
  have hlo := R.lt
  have hb0 := b.size
  have X := X.next hb1
  have R := R.next hb1
  have b := b.trans (hb1.mono b.size)
  have s1 := hb1.size
  clear hb1
  have hG := hG.more (lo' := w.heap.size + 2) (by simp) (B' := w1.heap.size) (Nat.le_refl _)
  generalize askL hs ws t wr = p at hG H1 ⊢
  generalize askC hs ws t wr = q at H1 H2 ⊢
  by_cases h0 : q = 0
  · obtain ⟨e1, e2⟩ := H1.out h0
    have E1 := Lib.hid e1
    have E2 := Lib.hid e2
    subst h0
    have hltR := R.lt
    obtain ⟨r0, r1, rf⟩ := R.c2
    have R2 := Lib.hid (((R.set (j := 0) (.slice A5 p.1.length c5) (by simp)).set (j := 1) (.slice A6 p.2.length c6) (by simp)).alloc (.cells #[.slice A5 p.1.length c5, .slice A6 p.2.length c6] 28))
    clear H1 H2 e1 e2 X R hh s1 hb0
    have O1 := Lib.hid ((hG.far (a := ⟨w.heap.size + 1, 0, none⟩) (.slice A5 p.1.length c5) (.inl (by simp))).far (a := ⟨w.heap.size + 1, 1, none⟩) (.slice A6 p.2.length c6) (.inl (by simp)))
    have B1 := Lib.hid ((b.setCell (p := ⟨w.heap.size + 1, 0, none⟩) (by simp) (.slice A5 p.1.length c5)).setCell (p := ⟨w.heap.size + 1, 1, none⟩) (by simp) (.slice A6 p.2.length c6))
    clear hG b
    go_wp2
    obtain ⟨q0, q1, qf⟩ := R2.out.c2
    exact bodyPost_ret (v := .tuple #[.agg #[.slice A5 p.1.length c5, .slice A6 p.2.length c6], .bool true]) (by simp [results, Try.results31, go_sem, q0, q1]) rfl ⟨A5, c5, A6, c6, by rw [E2.out, E1.out], by rw [E1.out]; exact (O1.out.below ((Below.refl _ _).alloc (Nat.le_refl _) _) (by simp [World.setCell])).more (by omega) (by simp [World.setCell]), B1.out.alloc B1.out.size _⟩
  · obtain ⟨e1, e2⟩ := H2.out h0
    have E1 := Lib.hid e1
    have E2 := Lib.hid e2
    have h0' : (q == 0) = false := by simpa using h0
    have hltX := X.lt
    have hltR := R.lt
    obtain ⟨x0, x1, xf⟩ := X.c2
    clear H1 H2 e1 e2 xf hG hlo s1 hb0
    go_wp2_with fail
    have hA := (Below.refl w1.heap.size w1).alloc (Nat.le_refl _) (.cells #[.slice A5 p.1.length c5, .slice A6 p.2.length c6] 28)
    have R := R.next hA
    have b := b.trans (hA.mono b.size)
    have hltR : w.heap.size + 1 < (w1.alloc (.cells #[.slice A5 p.1.length c5, .slice A6 p.2.length c6] 28)).heap.size := R.lt
    generalize w1.alloc (.cells #[.slice A5 p.1.length c5, .slice A6 p.2.length c6] 28) = w2 at R b hltR ⊢
    clear hA x0 x1 X
    refine (specCopy_any _ _ _ _ _ hs ws _ hn hn' (hh.below b b.size)).mono ?_; rintro e w9 ⟨v1, v2, rfl, ho, hb9⟩
    obtain ⟨A3, c3, A4, c4, rfl, rfl, _⟩ := ho.lock
    have R := R.next hb9
    have b9 := b.trans (hb9.mono b.size)
    have s9 := hb9.size
    obtain ⟨r0, r1, rf⟩ := R.c2
    have hOB := Lib.hid (ho.far (a := ⟨w.heap.size + 1, 0, none⟩) (.slice A3 hs.length c3) (by simpa using hltR))
    have hOB := Lib.hid (hOB.out.far (a := ⟨w.heap.size + 1, 1, none⟩) (.slice A4 ws.length c4) (by simpa using hltR))
    have hltR : w.heap.size + 1 < w9.heap.size := R.lt
    clear hb9 R ho hh
    go_wp2
    exact bodyPost_ret (v := .tuple #[.agg #[.slice A3 hs.length c3, .slice A4 ws.length c4], .bool false]) (by simp [results, Try.results31, go_sem, r0, r1]) rfl (RetOwn.lock ⟨_, _, by rw [E2.out], by rw [E1.out]; exact hOB.out.less b.size, (b9.setCell (p := ⟨w.heap.size + 1, 0, none⟩) (by simp) _).setCell (p := ⟨w.heap.size + 1, 1, none⟩) (by simp) _⟩)

set_option maxHeartbeats 800000 in
theorem specFree_any (A A' : Option Addr) (c c' B : Nat) (hs ws : HL) (t : Int) (wr : Bool) (w : World) (hn : hs.length ≤ 1048576) (hn' : ws.length ≤ 1048576) (h : LAt w B A A' (hs, ws)) :
    Calls Try.prog 34 #[.agg #[.slice A hs.length c, .slice A' ws.length c'], .int .i64 t, .bool wr] w fun e w' => e = .returned (.bool (tryB hs ws t wr)) ∧ Below w.heap.size w w' := by
  have hh : LAt w w.heap.size A A' (hs, ws) := ⟨h.1.lt, h.2.lt⟩
  clear h
  go_enter Try.func34, Try.ntmps34
  go_wp2_with fail
  have b0 := (Below.refl w.heap.size w).alloc (Nat.le_refl _) (.cells #[.slice A hs.length c, .slice A' ws.length c'] 28)
  refine (specTry_any _ _ _ _ _ hs ws t wr _ hn hn' (hh.below b0 b0.size)).mono ?_; rintro e w1 ⟨A5, c5, A6, c6, rfl, hG, hb1⟩
  have b1 := b0.trans (hb1.mono b0.size)
  generalize tryL hs ws t wr = p
  clear hG hb1 b0 hh
  go_wp2
  go_ret
  first | exact ⟨rfl, b1⟩ | exact ⟨rfl, b1.alloc b1.size _⟩

set_option maxHeartbeats 3200000 in
set_option maxRecDepth 100000 in
theorem implTry_any (A A' : Option Addr) (c c' B : Nat) (hs ws : HL) (t : Int) (wr : Bool) (w : World) (hn : hs.length ≤ 1048576) (hn' : ws.length ≤ 1048576) (h : LAt w B A A' (hs, ws)) :
    Calls Try.prog 32 #[.agg #[.slice A hs.length c, .slice A' ws.length c'], .int .i64 t, .bool wr] w (RetLock w (tryL hs ws t wr) fun v => .tuple #[v, .bool (tryB hs ws t wr)]) := by
  have hh : LAt w w.heap.size A A' (hs, ws) := ⟨h.1.lt, h.2.lt⟩
  clear h
  have H1 := Lib.hid (fun h => try_hit (hs := hs) (ws := ws) (t := t) (wr := wr) h)
  have H2 := Lib.hid (fun h => try_miss (hs := hs) (ws := ws) (t := t) (wr := wr) h)
  go_enter Try.func32, Try.ntmps32
  go_wp2_with fail
  have b := (((Below.refl w.heap.size w).alloc (Nat.le_refl _) (.cells #[.slice A hs.length c, .slice A' ws.length c'] 28)).alloc (by simp) (.cells #[.slice none 0 0, .slice none 0 0] 28))
  have X := ((Box.new (w := w) (c := #[.slice A hs.length c, .slice A' ws.length c']) (t := 28) rfl).alloc (.cells #[.slice none 0 0, .slice none 0 0] 28))
  have R := (Box.new (w := w.alloc (.cells #[.slice A hs.length c, .slice A' ws.length c'] 28)) (b := w.heap.size + 1) (c := #[.slice none 0 0, .slice none 0 0]) (t := 28) (by simp))
  refine (implAsk_any _ _ _ _ _ hs ws t wr _ hn hn' (hh.below b b.size)).mono ?_; rintro e w1 ⟨A5, c5, A6, c6, rfl, hG, hb1⟩
  have hlo := R.lt
  have hb0 := b.size
  have X := X.next hb1
  have R := R.next hb1
  have b := b.trans (hb1.mono b.size)
  have s1 := hb1.size
  clear hb1
  have hG := hG.more (lo' := w.heap.size + 2) (by simp) (B' := w1.heap.size) (Nat.le_refl _)
  generalize askL hs ws t wr = p at hG H1 ⊢
  generalize askC hs ws t wr = q at H1 H2 ⊢
  by_cases h0 : q = 0
  · obtain ⟨e1, e2⟩ := H1.out h0
    have E1 := Lib.hid e1
    have E2 := Lib.hid e2
    subst h0
    have hltR := R.lt
    obtain ⟨r0, r1, rf⟩ := R.c2
    have R2 := Lib.hid (((R.set (j := 0) (.slice A5 p.1.length c5) (by simp)).set (j := 1) (.slice A6 p.2.length c6) (by simp)).alloc (.cells #[.slice A5 p.1.length c5, .slice A6 p.2.length c6] 28))
    clear H1 H2 e1 e2 X R hh s1 hb0
    have O1 := Lib.hid ((hG.far (a := ⟨w.heap.size + 1, 0, none⟩) (.slice A5 p.1.length c5) (.inl (by simp))).far (a := ⟨w.heap.size + 1, 1, none⟩) (.slice A6 p.2.length c6) (.inl (by simp)))
    have B1 := Lib.hid ((b.setCell (p := ⟨w.heap.size + 1, 0, none⟩) (by simp) (.slice A5 p.1.length c5)).setCell (p := ⟨w.heap.size + 1, 1, none⟩) (by simp) (.slice A6 p.2.length c6))
    clear hG b
    go_wp2
    obtain ⟨q0, q1, qf⟩ := R2.out.c2
    exact bodyPost_ret (v := .tuple #[.agg #[.slice A5 p.1.length c5, .slice A6 p.2.length c6], .bool true]) (by simp [results, Try.results32, go_sem, q0, q1]) rfl ⟨A5, c5, A6, c6, by rw [E2.out, E1.out], by rw [E1.out]; exact (O1.out.below ((Below.refl _ _).alloc (Nat.le_refl _) _) (by simp [World.setCell])).more (by omega) (by simp [World.setCell]), B1.out.alloc B1.out.size _⟩
  · obtain ⟨e1, e2⟩ := H2.out h0
    have E1 := Lib.hid e1
    have E2 := Lib.hid e2
    have h0' : (q == 0) = false := by simpa using h0
    have hltX := X.lt
    have hltR := R.lt
    obtain ⟨x0, x1, xf⟩ := X.c2
    clear H1 H2 e1 e2 xf hG hlo s1 hb0
    go_wp2_with fail
    have hA := (Below.refl w1.heap.size w1).alloc (Nat.le_refl _) (.cells #[.slice A5 p.1.length c5, .slice A6 p.2.length c6] 28)
    have R := R.next hA
    have b := b.trans (hA.mono b.size)
    have hltR : w.heap.size + 1 < (w1.alloc (.cells #[.slice A5 p.1.length c5, .slice A6 p.2.length c6] 28)).heap.size := R.lt
    generalize w1.alloc (.cells #[.slice A5 p.1.length c5, .slice A6 p.2.length c6] 28) = w2 at R b hltR ⊢
    clear hA x0 x1 X
    refine (implCopy_any _ _ _ _ _ hs ws _ hn hn' (hh.below b b.size)).mono ?_; rintro e w9 ⟨v1, v2, rfl, ho, hb9⟩
    obtain ⟨A3, c3, A4, c4, rfl, rfl, _⟩ := ho.lock
    have R := R.next hb9
    have b9 := b.trans (hb9.mono b.size)
    have s9 := hb9.size
    obtain ⟨r0, r1, rf⟩ := R.c2
    have hOB := Lib.hid (ho.far (a := ⟨w.heap.size + 1, 0, none⟩) (.slice A3 hs.length c3) (by simpa using hltR))
    have hOB := Lib.hid (hOB.out.far (a := ⟨w.heap.size + 1, 1, none⟩) (.slice A4 ws.length c4) (by simpa using hltR))
    have hltR : w.heap.size + 1 < w9.heap.size := R.lt
    clear hb9 R ho hh
    go_wp2
    exact bodyPost_ret (v := .tuple #[.agg #[.slice A3 hs.length c3, .slice A4 ws.length c4], .bool false]) (by simp [results, Try.results32, go_sem, r0, r1]) rfl (RetOwn.lock ⟨_, _, by rw [E2.out], by rw [E1.out]; exact hOB.out.less b.size, (b9.setCell (p := ⟨w.heap.size + 1, 0, none⟩) (by simp) _).setCell (p := ⟨w.heap.size + 1, 1, none⟩) (by simp) _⟩)

set_option maxHeartbeats 800000 in
theorem implFree_any (A A' : Option Addr) (c c' B : Nat) (hs ws : HL) (t : Int) (wr : Bool) (w : World) (hn : hs.length ≤ 1048576) (hn' : ws.length ≤ 1048576) (h : LAt w B A A' (hs, ws)) :
    Calls Try.prog 24 #[.agg #[.slice A hs.length c, .slice A' ws.length c'], .int .i64 t, .bool wr] w fun e w' => e = .returned (.bool (tryB hs ws t wr)) ∧ Below w.heap.size w w' := by
  have hh : LAt w w.heap.size A A' (hs, ws) := ⟨h.1.lt, h.2.lt⟩
  clear h
  go_enter Try.func24, Try.ntmps24
  go_wp2_with fail
  have b0 := (Below.refl w.heap.size w).alloc (Nat.le_refl _) (.cells #[.slice A hs.length c, .slice A' ws.length c'] 28)
  refine (implTry_any _ _ _ _ _ hs ws t wr _ hn hn' (hh.below b0 b0.size)).mono ?_; rintro e w1 ⟨A5, c5, A6, c6, rfl, hG, hb1⟩
  have b1 := b0.trans (hb1.mono b0.size)
  generalize tryL hs ws t wr = p
  clear hG hb1 b0 hh
  go_wp2
  go_ret
  first | exact ⟨rfl, b1⟩ | exact ⟨rfl, b1.alloc b1.size _⟩
end Go.Proofs.Ytmdonjkkpkcpnaa
