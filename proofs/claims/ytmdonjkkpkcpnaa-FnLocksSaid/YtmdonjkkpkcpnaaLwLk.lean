/- FnLocks: through drawn operations a lock stays valid, a writer holds it alone, nobody who arrived after a waiting writer holds it before that writer, and who has left occurs nowhere; whatever the bytes that the case is drawn from. No condition. -/
import Derived.Test.YtmdonjkkpkcpnaaLdE
import Derived.Test.YtmdonjkkpkcpnaaLn
import Derived.Test.YtmdonjkkpkcpnaaLq
import Derived.Test.YtmdonjkkpkcpnaaLp5
import Derived.Test.YtmdonjkkpkcpnaaLp9
namespace Go.Proofs.Ytmdonjkkpkcpnaa
open Go.RowKit

theorem stP_ok (ops : OL) (k : Nat) : lockOk (stP ops k).1 (stP ops k).2 = true := by
  induction k with
  | zero => rfl
  | succ k ih => exact playS_ok _ _ ih
theorem playL_ok (ops : OL) : lockOk (playL ops).1 (playL ops).2 = true := by
  unfold playL
  split
  · exact stP_ok _ _
  · rfl
/-- the queue of a valid lock -/
theorem implQueue_ok (A A' : Option Addr) (c c' B : Nat) (hs ws : HL) (w : World) (hk : lockOk hs ws = true) (h : LAt w B A A' (hs, ws)) :
    Calls Try.prog 19 #[.agg #[.slice A hs.length c, .slice A' ws.length c']] w fun e w' => ∃ G gc, e = .returned (.slice G ws.length gc) ∧ IntsAt w' w'.heap.size G ws.length (hT ws) ∧ Below w.heap.size w w' := by
  have hl := ws_len hk
  refine (implQueue_any A A' c c' B hs ws w (by omega) (by omega) h).mono ?_
  rintro e w' ⟨G, gc, rfl, hI, hb⟩
  have hq : queueL hs ws = ids ws := by simp [queueL, hk]
  have hn : (queueL hs ws).length = ws.length := by rw [hq, ids_len']
  refine ⟨G, gc, by rw [hn], ?_, hb⟩
  rw [hn] at hI
  refine hI.at_.congr fun j hj => ?_
  rw [hq]
  simp [ids, hT, List.getD_eq_getElem?_getD, hj]

/-- a writer among the first k who wait -/
def anyW (ws : HL) (k : Nat) : Bool := (ws.take k).any (·.2)
theorem anyW_step {ws : HL} {k : Nat} (h : k < ws.length) : (anyW ws k || hW ws k) = anyW ws (k + 1) := by
  have e : hW ws k = (ws[k]).2 := by rw [← hT_get h]
  rw [e]
  exact any_take h
theorem anyW_some {ws : HL} {k : Nat} (h : anyW ws k = true) : ¬ ws = [] := fun e => by subst e; simp [anyW] at h
theorem below_drewL {B : Nat} {w w' : World} (h : Below B w w') (n : Nat) : Below B w (w'.drewN n) := ⟨h.os, h.tape, h.output, h.size, h.block⟩

set_option maxHeartbeats 6400000 in
set_option maxRecDepth 100000 in
theorem fnLocks_walk (A : Option Addr) (n cp : Nat) (g : Nat → Int) (w : World) (hbs : BytesAt w w.heap.size A n g) :
    Calls Try.prog 3 #[.slice A n cp] w fun e w' => e = .returned (.bool true) ∧ Below w.heap.size w w' := by
  by_cases hn : n ≤ 1048576
  · have hbig : decide ((1048576 : Int) < (n : Int)) = false := decide_eq_false (by omega)
    go_enter Try.func3, Try.ntmps3
    go_wp2_with fail
    refine (big_any _ _ _ _).mono ?_; rintro e w' ⟨rfl, rfl⟩
    rw [hbig]
    go_wp2_with fail
    refine (DrawPlay_any n cp A g _ hn hbs).mono ?_; rintro e w1 ⟨A1, c1, ops, rfl, hl, _, hO, b⟩
    have hs1 := b.size
    clear hbs
    have hC := playC_len ops
    have hL := playL_len ops
    have hm300 : (playC ops).length ≤ maxLen := by unfold maxLen; omega
    go_wp2_with fail
    refine (specPlay_any _ _ _ ops _ (Nat.le_refl _) hO).mono ?_; rintro e w2 ⟨A3, c3, B3, d3, G3, e3, rfl, _, i3, _, hb⟩
    have hO := hO.below hb hb.size
    have b := b.trans (hb.mono hs1)
    have hs2 := hb.size
    clear hb
    go_wp2_with fail
    have hA := (Below.refl w2.heap.size w2).alloc (Nat.le_refl _) (.cells #[.slice A3 (playL ops).1.length c3, .slice B3 (playL ops).2.length d3] 28)
    generalize w2.alloc (.cells #[.slice A3 (playL ops).1.length c3, .slice B3 (playL ops).2.length d3] 28) = w3 at hA ⊢
    have hO := hO.below hA hA.size
    have i3 := i3.below hA (Nat.le_refl _)
    have b := b.trans (hA.mono b.size)
    have hs3 := hA.size
    clear hA
    refine (implPlayC_any _ _ _ ops _ (Nat.le_refl _) hO).mono ?_; rintro e w4 ⟨A5, c5, B5, d5, G5, e5, rfl, ⟨hc5, hd5⟩, l5, i5, _, hb⟩
    have i3 := i3.below hb (by omega)
    have b := b.trans (hb.mono b.size)
    have hs4 := hb.size
    clear hb hO
    go_wp2_with fail
    have hA := (Below.refl w4.heap.size w4).alloc (Nat.le_refl _) (.cells #[.slice A5 (playL ops).1.length c5, .slice B5 (playL ops).2.length d5] 28)
    have T := Box.new (w := w4) (c := #[.slice A5 (playL ops).1.length c5, .slice B5 (playL ops).2.length d5]) (t := 28) rfl
    generalize w4.alloc (.cells #[.slice A5 (playL ops).1.length c5, .slice B5 (playL ops).2.length d5] 28) = w5 at hA T ⊢
    have i3 := i3.below hA (by omega)
    have i5 := i5.below hA (by omega)
    have l5 := l5.below hA (by omega)
    have b := b.trans (hA.mono b.size)
    have hs5 := hA.size
    clear hA
    refine (same_eq _ _ _ _ _ _ _ _ _ hm300 i5.at_ i3.at_).mono ?_; rintro e w6 ⟨rfl, hb⟩
    have T := T.next hb
    have l5 := (l5.below hb (by omega)).at_
    have b := b.trans (hb.mono b.size)
    have hs6 := hb.size
    have hlk := playL_ok ops
    clear hb i3 i5 hm300 hC
    by_cases h3 : ops.length ≤ 300
    · have hz : ¬ ((300 : Int) < (ops.length : Int)) := by omega
      have hlT := T.lt
      generalize playL ops = p at hc5 hd5 hL T l5 hlk ⊢
      obtain ⟨hs, ws⟩ := p
      have hlk : lockOk hs ws = true := hlk
      have hlen : hs.length + ws.length ≤ 8 := ws_len hlk
      have hn1 : hs.length ≤ 1048576 := by omega
      have hn2 : ws.length ≤ 1048576 := by omega
      have hc5 : hs.length ≤ c5 := hc5
      have hd5 : ws.length ≤ d5 := hd5
      clear hL hl
      simp only at T ⊢
      obtain ⟨t0, t1, tf⟩ := T.c2
      go_wp2_with fail
      refine (implLockOk_any _ _ _ _ _ hs ws _ hn1 hn2 l5).mono ?_; rintro e w7 ⟨rfl, hb⟩
      rw [hlk]
      have T := T.next hb
      have l5 := l5.keep hb (by omega)
      have b := b.trans (hb.mono b.size)
      have hs7 := hb.size
      clear hb t0 t1 tf
      obtain ⟨t0, t1, tf⟩ := T.c2
      go_wp2_with fail
      refine (specLockOk_any _ _ _ _ _ hs ws _ hn1 hn2 l5).mono ?_; rintro e w8 ⟨rfl, hb⟩
      rw [hlk]
      have T := T.next hb
      have l5 := l5.keep hb (by omega)
      have b := b.trans (hb.mono b.size)
      have hs8 := hb.size
      clear hb t0 t1 tf
      obtain ⟨t0, t1, tf⟩ := T.c2
      go_wp2_with fail
      refine (implQueue_ok _ _ _ _ _ hs ws _ hlk l5).mono ?_; rintro e w9 ⟨Q, qc, rfl, q9, hb⟩
      have T := T.next hb
      have l5 := l5.keep hb (by omega)
      have b := b.trans (hb.mono b.size)
      have hs9 := hb.size
      clear t0 t1 tf
      obtain ⟨t0, t1, tf⟩ := T.c2
      have HQ := Lib.hid q9
      have HL5 := Lib.hid l5
      have HB := Lib.hid b
      have h49 : w4.heap.size ≤ w9.heap.size := by omega
      clear q9 l5 b hb
      go_wp2
      go_loopw [9, 10] (fun v i wr => ∃ k : Nat, k ≤ ws.length ∧ i = .int .i64 k ∧ v = .bool (anyW ws k) ∧ Below w9.heap.size w9 wr) (fun _ i _ => ws.length - (intOf i).toNat)
      case atStart => exact ⟨0, Nat.zero_le _, rfl, rfl, Below.refl _ _⟩
      case round =>
        obtain ⟨k, hk, rfl, rfl, hbr⟩ := hrel
        clear t0 t1 tf
        have Tr := T.next hbr
        obtain ⟨t0, t1, tf⟩ := Tr.c2
        have hlTr := Tr.lt
        by_cases hkn : k < ws.length
        · have hkz : (k : Int) < ws.length := by omega
          obtain ⟨bq, oq, rfl, hBq, hcq⟩ := HQ.out (by omega)
          obtain ⟨b5, o5, rfl, hB5, hc5'⟩ := HL5.out.2 (show 0 < ws.length by omega)
          have d0 : wr.cell? ⟨bq, oq + k, none⟩ = some (.int .i64 (hT ws k)) := (hbr.cell (p := ⟨bq, oq + k, none⟩) hBq).trans (hcq k hkn)
          have d1 : wr.cell? ⟨b5, o5 + k * 2, none⟩ = some (.int .i64 (hT ws k)) := (hbr.cell (p := ⟨b5, o5 + k * 2, none⟩) (by show b5 < _; omega)).trans (hc5' k hkn).1
          have d2 : wr.cell? ⟨b5, o5 + k * 2 + 1, none⟩ = some (.bool (hW ws k)) := (hbr.cell (p := ⟨b5, o5 + k * 2 + 1, none⟩) (by show b5 < _; omega)).trans (hc5' k hkn).2
          have HN := Lib.hid (anyW_step hkn)
          have AF := Lib.hid (fun n => below_drewL hbr n)
          have D2 := Lib.hid (fun n => (show (wr.drewN n).cell? ⟨b5, o5 + k * 2 + 1, none⟩ = some (.bool (hW ws k)) from d2))
          have T1 := Lib.hid (fun n => (show (wr.drewN n).cell? ⟨w4.heap.size, 1, none⟩ = some (.slice (some ⟨b5, o5, none⟩) ws.length d5) from t1))
          generalize hT ws k = x at d0 d1
          generalize hW ws k = y at d2 HN D2
          clear hcq hc5' hbr Tr
          obtain ⟨z, hz⟩ : ∃ z, anyW ws k = z := ⟨_, rfl⟩
          rw [hz] at HN ⊢
          cases z with
          | false =>
            go_wp2_with fail
            go_quiet (fail)
            have hb2 := AF.out nq
            have d2 := D2.out nq
            have t1 := T1.out nq
            have hl2 : w4.heap.size < (World.drewN wr nq).heap.size := hlTr
            clear AF D2 T1 d0 d1
            generalize World.drewN wr nq = w2' at hb2 d2 t1 hl2 ⊢
            go_wp2
            exact ⟨⟨k + 1, by omega, by go_num, by rw [← HN.out]; rfl, hb2⟩, by simp [intOf]; omega⟩
          | true =>
            go_wp2_with fail
            go_quiet (fail)
            have hb2 := AF.out nq
            have t1 := T1.out nq
            have hl2 : w4.heap.size < (World.drewN wr nq).heap.size := hlTr
            clear AF D2 T1 d0 d1 d2
            generalize World.drewN wr nq = w2' at hb2 t1 hl2 ⊢
            go_wp2
            exact ⟨⟨k + 1, by omega, by go_num, by rw [← HN.out]; rfl, hb2⟩, by simp [intOf]; omega⟩
        · obtain rfl : k = ws.length := by omega
          have HW := Lib.hid (fun h => anyW_some (ws := ws) (k := ws.length) h)
          have B1 := Lib.hid hbr
          generalize anyW ws ws.length = wb at HW ⊢
          clear hbr Tr tf HQ
          go_wp2
          go_loopw [11] (fun i wr => ∃ t : Nat, 1 ≤ t ∧ t ≤ 9 ∧ i = .int .i64 t ∧ Below w9.heap.size w9 wr) (fun i _ => 9 - (intOf i).toNat)
          case atStart => exact ⟨1, Nat.le_refl _, by omega, rfl, B1.out⟩
          case round =>
            obtain ⟨t, ht1, ht9, rfl, b⟩ := hrel
            clear B1 t0 t1 hlTr
            have hsr := b.size
            by_cases ht : t ≤ 8
            · have htz : (t : Int) ≤ 8 := by omega
              have T := T.next b
              have L := HL5.out.keep b (by omega)
              obtain ⟨t0, t1, tf⟩ := T.c2
              have hlT' := T.lt
              have htb : tidB (t : Int) = true := by simp [tidB, inB]; omega
              obtain ⟨h, hh⟩ : ∃ h, holdsL hs ws (t : Int) = h := ⟨_, rfl⟩
              go_wp2_with fail
              refine (implHolds_any _ _ _ _ _ hs ws t _ hn1 hn2 L).mono ?_; rintro e v1 ⟨rfl, hb⟩
              rw [hh]
              have T := T.next hb
              have L := L.keep hb (by omega)
              have b := b.trans (hb.mono b.size)
              have s1 := hb.size
              clear hb t0 t1 tf
              obtain ⟨t0, t1, tf⟩ := T.c2
              go_wp2_with fail
              refine (specHolds_any _ _ _ _ _ hs ws t _ hn1 hn2 L).mono ?_; rintro e v2 ⟨rfl, hb⟩
              rw [hh]
              have T := T.next hb
              have L := L.keep hb (by omega)
              have b := b.trans (hb.mono b.size)
              have s2 := hb.size
              clear hb t0 t1 tf
              obtain ⟨t0, t1, tf⟩ := T.c2
              by_cases hp : 0 < h
              · have hlv : leaveB hs ws t = true := leave_pos (by rw [hh]; exact hp)
                have hgone := leave_gone hlv
                have hgk := leave_ok t hlk
                go_wp2_with fail
                refine (implLeaveC_any _ _ _ _ _ hs ws t _ hn1 hn2 hc5 hd5 L).mono ?_; rintro e v3 ⟨A9, c9, B9, d9, rfl, l9, hb⟩
                rw [hlv]
                have b := b.trans (hb.mono b.size)
                have s3 := hb.size
                clear hb t0 t1 tf T L
                generalize leaveL hs ws t = r at hgone hgk l9 ⊢
                obtain ⟨hs', ws'⟩ := r
                have hlen' : hs'.length + ws'.length ≤ 8 := ws_len hgk
                have kn1 : hs'.length ≤ 1048576 := by omega
                have kn2 : ws'.length ≤ 1048576 := by omega
                simp only at hgone hgk ⊢
                have hA := (Below.refl v3.heap.size v3).alloc (Nat.le_refl _) (.cells #[.slice A9 hs'.length c9, .slice B9 ws'.length d9] 28)
                have U := Box.new (w := v3) (c := #[.slice A9 hs'.length c9, .slice B9 ws'.length d9]) (t := 28) rfl
                have l9 := l9.below hA (Nat.le_refl _)
                have b := b.trans (hA.mono b.size)
                have s4 := hA.size
                have hlU := U.lt
                obtain ⟨u0, u1, uf⟩ := U.c2
                clear hA
                go_wp2_with fail
                refine (implHolds_any _ _ _ _ _ hs' ws' t _ kn1 kn2 l9.at_).mono ?_; rintro e v5 ⟨rfl, hb⟩
                rw [hgone]
                have U := U.next hb
                have l9 := l9.below hb (by omega)
                have b := b.trans (hb.mono b.size)
                have s5 := hb.size
                clear hb u0 u1 uf
                obtain ⟨u0, u1, uf⟩ := U.c2
                go_wp2_with fail
                refine (specLockOk_any _ _ _ _ _ hs' ws' _ kn1 kn2 l9.at_).mono ?_; rintro e v6 ⟨rfl, hb⟩
                rw [hgk]
                have B6 := Lib.hid (b.trans (hb.mono b.size))
                clear hb b l9 U u0 u1 uf
                go_wp2
                exact ⟨⟨t + 1, by omega, by omega, by go_num, B6.out⟩, by simp [intOf]; omega⟩
              · have hab : askBad hs ws t = false := ask_fine hlk htb (by rw [hh]; exact hp)
                have h2 := ask_two (wr := false) hab
                have h1 := fun hw => ask_waits (wr := false) hlk hab (HW.out hw)
                have hgk := ask_ok (tid := t) false hlk
                have hfr : tryB hs ws t false = (askC hs ws t false == 0) := rfl
                go_wp2_with fail
                refine (implAskC_any _ _ _ _ _ hs ws t false _ hn1 hn2 L).mono ?_; rintro e v3 ⟨A9, c9, B9, d9, rfl, _, l9, hb⟩
                generalize askC hs ws t false = z at h1 h2 hfr ⊢
                have T := T.next hb
                have L := L.keep hb (by omega)
                have b := b.trans (hb.mono b.size)
                have s3 := hb.size
                clear hb t0 t1 tf
                obtain ⟨t0, t1, tf⟩ := T.c2
                generalize askL hs ws t false = r at hgk l9 ⊢
                obtain ⟨hs', ws'⟩ := r
                have hlen' : hs'.length + ws'.length ≤ 8 := ws_len hgk
                have kn1 : hs'.length ≤ 1048576 := by omega
                have kn2 : ws'.length ≤ 1048576 := by omega
                simp only at hgk ⊢
                have hA := (Below.refl v3.heap.size v3).alloc (Nat.le_refl _) (.cells #[.slice A9 hs'.length c9, .slice B9 ws'.length d9] 28)
                have U := Box.new (w := v3) (c := #[.slice A9 hs'.length c9, .slice B9 ws'.length d9]) (t := 28) rfl
                have l9 := l9.below hA (Nat.le_refl _)
                have T := T.next hA
                have L := L.keep hA (by omega)
                have b := b.trans (hA.mono b.size)
                have s4 := hA.size
                have hlU := U.lt
                clear hA t0 t1 tf
                obtain ⟨t0, t1, tf⟩ := T.c2
                cases wb with
                | true =>
                  obtain rfl := h1 rfl
                  have hfr : tryB hs ws t false = false := hfr
                  go_wp2_with fail
                  refine (implFree_any _ _ _ _ _ hs ws t false _ hn1 hn2 L).mono ?_; rintro e v5 ⟨rfl, hb⟩
                  rw [hfr]
                  have U := U.next hb
                  have l9 := l9.below hb (by omega)
                  have b := b.trans (hb.mono b.size)
                  have s5 := hb.size
                  clear hb t0 t1 tf T L
                  obtain ⟨u0, u1, uf⟩ := U.c2
                  go_wp2_with fail
                  refine (specLockOk_any _ _ _ _ _ hs' ws' _ kn1 kn2 l9.at_).mono ?_; rintro e v6 ⟨rfl, hb⟩
                  rw [hgk]
                  have B6 := Lib.hid (b.trans (hb.mono b.size))
                  clear hb b l9 U u0 u1 uf
                  go_wp2
                  exact ⟨⟨t + 1, by omega, by omega, by go_num, B6.out⟩, by simp [intOf]; omega⟩
                | false =>
                  rcases h2 with rfl | rfl
                  · have hfr : tryB hs ws t false = true := hfr
                    go_wp2_with fail
                    refine (implFree_any _ _ _ _ _ hs ws t false _ hn1 hn2 L).mono ?_; rintro e v5 ⟨rfl, hb⟩
                    rw [hfr]
                    have U := U.next hb
                    have l9 := l9.below hb (by omega)
                    have b := b.trans (hb.mono b.size)
                    have s5 := hb.size
                    clear hb t0 t1 tf T L
                    obtain ⟨u0, u1, uf⟩ := U.c2
                    go_wp2_with fail
                    refine (specLockOk_any _ _ _ _ _ hs' ws' _ kn1 kn2 l9.at_).mono ?_; rintro e v6 ⟨rfl, hb⟩
                    rw [hgk]
                    have B6 := Lib.hid (b.trans (hb.mono b.size))
                    clear hb b l9 U u0 u1 uf
                    go_wp2
                    exact ⟨⟨t + 1, by omega, by omega, by go_num, B6.out⟩, by simp [intOf]; omega⟩
                  · have hfr : tryB hs ws t false = false := hfr
                    go_wp2_with fail
                    refine (implFree_any _ _ _ _ _ hs ws t false _ hn1 hn2 L).mono ?_; rintro e v5 ⟨rfl, hb⟩
                    rw [hfr]
                    have U := U.next hb
                    have l9 := l9.below hb (by omega)
                    have b := b.trans (hb.mono b.size)
                    have s5 := hb.size
                    clear hb t0 t1 tf T L
                    obtain ⟨u0, u1, uf⟩ := U.c2
                    go_wp2_with fail
                    refine (specLockOk_any _ _ _ _ _ hs' ws' _ kn1 kn2 l9.at_).mono ?_; rintro e v6 ⟨rfl, hb⟩
                    rw [hgk]
                    have B6 := Lib.hid (b.trans (hb.mono b.size))
                    clear hb b l9 U u0 u1 uf
                    go_wp2
                    exact ⟨⟨t + 1, by omega, by omega, by go_num, B6.out⟩, by simp [intOf]; omega⟩
            · have htz : ¬ (t : Int) ≤ 8 := by omega
              have BF := Lib.hid (HB.out.trans (b.mono HB.out.size))
              clear b
              go_wp2
              go_ret
              exact ⟨rfl, BF.out⟩
    · have hz : (300 : Int) < (ops.length : Int) := by omega
      have B := Lib.hid b
      clear b T l5 hlk hL hc5 hd5
      go_wp2
      go_ret
      exact ⟨rfl, B.out⟩
  · have hbig : decide ((1048576 : Int) < (n : Int)) = true := decide_eq_true (by omega)
    go_enter Try.func3, Try.ntmps3
    go_wp2_with fail
    refine (big_any _ _ _ _).mono ?_; rintro e w' ⟨rfl, rfl⟩
    rw [hbig]
    go_wp2
    go_ret
    exact ⟨rfl, Below.refl _ _⟩
end Go.Proofs.Ytmdonjkkpkcpnaa
