/- FnExactPlayLock: for every argument the program's function answers as the model's, its answer owns its memory, and the argument reads as before. No condition. -/
import Derived.Test.YtmdonjkkpkcpnaaLp5
import Derived.Test.YtmdonjkkpkcpnaaLp8
namespace Go.Proofs.Ytmdonjkkpkcpnaa
open Go.ChangeShapes Go.WideShapes Go.ChangeAt Go.RowKit Go.Joins

theorem OpsAt.up6 {w : World} {B B' : Nat} {A : Option Addr} {ops : OL} (h : OpsAt w B A ops) (hB : B ≤ B') : OpsAt w B' A ops := h.below (Below.refl _ _) hB
theorem OpsOwn.mark {w w' : World} {lo B lo' B' : Nat} {A : Option Addr} {ops : OL} (k : OpsOwn w lo' B' A ops) (h : MarkS lo B w w') (hs : B' ≤ w.heap.size) (hd : B' ≤ lo ∨ B ≤ lo') : OpsOwn w' lo' B' A ops := fun hn => by
  obtain ⟨b, e, h1, h2, g, hg, hi⟩ := k hn
  obtain ⟨v, q1, q2⟩ := h.mid
  refine ⟨b, e, h1, h2, g, fun j hj => ?_, hi⟩
  obtain ⟨hc, h3, h4, ho⟩ := hg j hj
  exact ⟨(World.cell?_of_block (a := ⟨b, j, none⟩) (q2.block b (by omega))).trans ((q1.cell (p := ⟨b, j, none⟩) (show b < w.heap.size by omega)).trans hc), h3, h4, (ho.below q1 (by omega)).onlys q2 (by omega)⟩
theorem off_marks {A A' G : Option Addr} {p : HL × HL} {n : Nat} {k k' : Int} (h : ∀ a, G = some a → 0 < n → Off A A' p a.block) : ∀ a, G = some a → 0 < n → Off A A' (marks k p.1.length, marks k' p.2.length) a.block := fun a ha hn => by
  obtain ⟨h1, h2⟩ := h a ha hn
  exact ⟨fun hl => h1 (by rw [marks_len] at hl; exact hl), fun hl => h2 (by rw [marks_len] at hl; exact hl)⟩

set_option maxHeartbeats 6400000 in
set_option maxRecDepth 100000 in
theorem fnExactPlayLock_walk (A : Option Addr) (c : Nat) (ops : OL) (w : World) (hm : LenOk ops) (h : OpsAt w w.heap.size A ops) :
    Calls Try.prog 10 #[.slice A ops.length c] w fun e w' => e = .returned (.bool true) ∧ Below w.heap.size w w' := by
  by_cases hs : ops.length + totP ops ops.length ≤ 1048576
  · have hL := playL_len ops
    have hC := playC_len ops
    have hl1 : (playL ops).1.length ≤ 300 := by omega
    have hl2 : (playL ops).2.length ≤ 300 := by omega
    have hk0 : ¬ ((1 : Int) + (totP ops ops.length : Int) < 0) := by omega
    have hq1 : ¬ ((1 : Int) + (playL ops).1.length * 2 + (playL ops).2.length * 2 < 0) := by omega
    have hq2 : ¬ ((1 : Int) + (playL ops).1.length * 2 + (playL ops).2.length * 2 + (playC ops).length < 0) := by omega
    have b := Below.refl w.heap.size w
    go_enter Try.func10, Try.ntmps10
    go_wp2_with fail
    refine (szSS_yes A c _ ops _ hm hs h).mono ?_; rintro e w' ⟨⟨z, rfl, hz0⟩, rfl⟩
    have hzz : ¬ (z < 0) := by omega
    go_wp2_with fail
    (with_reducible refine (toSS_any A c _ ops _ hs (Nat.le_refl _) (h.below b b.size)).mono ?_); rintro e w1 ⟨Gs, rfl, s, hb⟩
    have s_w1 : w.heap.size ≤ w1.heap.size := hb.size
    have b := b.trans (hb.mono b.size)
    clear hb
    go_wp2_with fail
    (with_reducible refine (specPlay_any _ _ _ ops _ (Nat.le_refl _) (s.at_.up6 (by omega))).mono ?_); rintro e w2 ⟨A3, c3, B3, d3, G3, e3, rfl, l3, i3, off3, hb⟩
    have s_w2 : w1.heap.size ≤ w2.heap.size := hb.size
    have s := s.below hb (by omega)
    have b := b.trans (hb.mono b.size)
    clear hb
    clear s
    go_wp2_with fail
    have hA := (Below.refl w2.heap.size w2).alloc (Nat.le_refl _) (.cells #[.slice A3 (playL ops).1.length c3, .slice B3 (playL ops).2.length d3] 28)
    have S := Box.new (w := w2) (c := #[.slice A3 (playL ops).1.length c3, .slice B3 (playL ops).2.length d3]) (t := 28) rfl
    have sz_w3 : w2.heap.size < (w2.alloc (.cells #[.slice A3 (playL ops).1.length c3, .slice B3 (playL ops).2.length d3] 28)).heap.size := by simp
    generalize w2.alloc (.cells #[.slice A3 (playL ops).1.length c3, .slice B3 (playL ops).2.length d3] 28) = w3 at hA S sz_w3 ⊢
    have s_w3 : w2.heap.size ≤ w3.heap.size := hA.size
    have l3 := l3.below hA (by omega)
    have i3 := i3.below hA (by omega)
    have b := b.trans (hA.mono b.size)
    clear hA
    (with_reducible refine (toSS_any A c _ ops _ hs (Nat.le_refl _) (h.below b b.size)).mono ?_); rintro e w4 ⟨Gx, rfl, x, hb⟩
    have s_w4 : w3.heap.size ≤ w4.heap.size := hb.size
    have S := S.next hb
    have l3 := l3.below hb (by omega)
    have i3 := i3.below hb (by omega)
    have b := b.trans (hb.mono b.size)
    clear hb
    go_wp2_with fail
    (with_reducible refine (implPlay_any _ _ _ ops _ (Nat.le_refl _) (x.at_.up6 (by omega))).mono ?_); rintro e w5 ⟨A5, c5, B5, d5, G5, e5, rfl, l5, i5, off5, hb⟩
    have s_w5 : w4.heap.size ≤ w5.heap.size := hb.size
    have S := S.next hb
    have l3 := l3.below hb (by omega)
    have x := x.below hb (by omega)
    have i3 := i3.below hb (by omega)
    have b := b.trans (hb.mono b.size)
    clear hb
    obtain ⟨S0, S1, Sf⟩ := S.c2
    have Sl := S.lt
    clear Sf
    go_wp2_with fail
    clear S0 S1 Sl
    have hA := (Below.refl w5.heap.size w5).alloc (Nat.le_refl _) (.cells #[.slice A5 (playL ops).1.length c5, .slice B5 (playL ops).2.length d5] 28)
    have T := Box.new (w := w5) (c := #[.slice A5 (playL ops).1.length c5, .slice B5 (playL ops).2.length d5]) (t := 28) rfl
    have sz_w6 : w5.heap.size < (w5.alloc (.cells #[.slice A5 (playL ops).1.length c5, .slice B5 (playL ops).2.length d5] 28)).heap.size := by simp
    generalize w5.alloc (.cells #[.slice A5 (playL ops).1.length c5, .slice B5 (playL ops).2.length d5] 28) = w6 at hA T sz_w6 ⊢
    have s_w6 : w5.heap.size ≤ w6.heap.size := hA.size
    have S := S.next hA
    have l3 := l3.below hA (by omega)
    have x := x.below hA (by omega)
    have l5 := l5.below hA (by omega)
    have i3 := i3.below hA (by omega)
    have i5 := i5.below hA (by omega)
    have b := b.trans (hA.mono b.size)
    clear hA
    (with_reducible refine (eqLock_same _ _ _ _ _ _ _ _ _ _ (playL ops) _ (by unfold maxLen; omega) (by unfold maxLen; omega) l5.at_ l3.at_).mono ?_); rintro e w7 ⟨rfl, hb⟩
    have s_w7 : w6.heap.size ≤ w7.heap.size := hb.size
    have S := S.next hb
    have T := T.next hb
    have l3 := l3.below hb (by omega)
    have x := x.below hb (by omega)
    have l5 := l5.below hb (by omega)
    have i3 := i3.below hb (by omega)
    have i5 := i5.below hb (by omega)
    have b := b.trans (hb.mono b.size)
    clear hb
    go_wp2_with fail
    (with_reducible refine (eqIntS_same _ _ _ _ _ _ _ _ _ (by unfold maxLen; omega) i5.at_ i3.at_).mono ?_); rintro e w8 ⟨rfl, hb⟩
    have s_w8 : w7.heap.size ≤ w8.heap.size := hb.size
    have S := S.next hb
    have T := T.next hb
    have l3 := l3.below hb (by omega)
    have x := x.below hb (by omega)
    have l5 := l5.below hb (by omega)
    have i3 := i3.below hb (by omega)
    have i5 := i5.below hb (by omega)
    have b := b.trans (hb.mono b.size)
    clear hb
    go_wp2_with fail
    (with_reducible refine (toSS_any A c _ ops _ hs (Nat.le_refl _) (h.below b b.size)).mono ?_); rintro e w9 ⟨Gy, rfl, y, hb⟩
    have s_w9 : w8.heap.size ≤ w9.heap.size := hb.size
    have S := S.next hb
    have T := T.next hb
    have l3 := l3.below hb (by omega)
    have x := x.below hb (by omega)
    have l5 := l5.below hb (by omega)
    have i3 := i3.below hb (by omega)
    have i5 := i5.below hb (by omega)
    have b := b.trans (hb.mono b.size)
    clear hb
    go_wp2_with fail
    (with_reducible refine (eqSS_same _ _ _ _ _ _ ops _ hm x.at_ y.at_ (by omega) (by omega)).mono ?_); rintro e w10 ⟨rfl, hb⟩
    have s_w10 : w9.heap.size ≤ w10.heap.size := hb.size
    have S := S.next hb
    have T := T.next hb
    have l3 := l3.below hb (by omega)
    have x := x.below hb (by omega)
    have l5 := l5.below hb (by omega)
    have y := y.below hb (by omega)
    have i3 := i3.below hb (by omega)
    have i5 := i5.below hb (by omega)
    have b := b.trans (hb.mono b.size)
    clear hb
    clear y
    go_wp2_with fail
    (with_reducible refine (markSS_any _ _ _ _ ops 1 _ hs (by omega) (by omega) x).mono ?_); rintro e w11 ⟨rfl, hm⟩
    have hm := MarkS.one hm
    have s_w11 : w10.heap.size ≤ w11.heap.size := hm.size
    have S := S.mark hm (by omega)
    have T := T.mark hm (by omega)
    have l3 := l3.mark hm (by omega) (by omega)
    have l5 := l5.mark hm (by omega) (by omega)
    have i3 := i3.mark hm (by omega) (by omega)
    have i5 := i5.mark hm (by omega) (by omega)
    have b := b.trans (hm.bel (by omega) (by omega))
    clear hm
    clear x
    obtain ⟨S0, S1, Sf⟩ := S.c2
    have Sl := S.lt
    clear Sf
    obtain ⟨T0, T1, Tf⟩ := T.c2
    have Tl := T.lt
    clear Tf
    go_wp2_with fail
    (with_reducible refine (eqLock_same _ _ _ _ _ _ _ _ _ _ (playL ops) _ (by unfold maxLen; omega) (by unfold maxLen; omega) l5.at_ l3.at_).mono ?_); rintro e w12 ⟨rfl, hb⟩
    have s_w12 : w11.heap.size ≤ w12.heap.size := hb.size
    have S := S.next hb
    have T := T.next hb
    have l3 := l3.below hb (by omega)
    have l5 := l5.below hb (by omega)
    have i3 := i3.below hb (by omega)
    have i5 := i5.below hb (by omega)
    have b := b.trans (hb.mono b.size)
    clear hb
    clear S0 S1 Sl T0 T1 Tl
    go_wp2_with fail
    (with_reducible refine (eqIntS_same _ _ _ _ _ _ _ _ _ (by unfold maxLen; omega) i5.at_ i3.at_).mono ?_); rintro e w13 ⟨rfl, hb⟩
    have s_w13 : w12.heap.size ≤ w13.heap.size := hb.size
    have S := S.next hb
    have T := T.next hb
    have l3 := l3.below hb (by omega)
    have l5 := l5.below hb (by omega)
    have i3 := i3.below hb (by omega)
    have i5 := i5.below hb (by omega)
    have b := b.trans (hb.mono b.size)
    clear hb
    obtain ⟨T0, T1, Tf⟩ := T.c2
    have Tl := T.lt
    clear Tf
    go_wp2_with fail
    (with_reducible refine (markLock_fine _ _ _ _ _ _ (playL ops) 1 _ (show (playL ops).1.length ≤ _ by omega) (show (playL ops).2.length ≤ _ by omega) (by omega) (by omega) (by omega) l5).mono ?_); rintro e w14 ⟨rfl, hm, m5, hfine⟩
    have hm := MarkS.two hm
    have s_w14 : w13.heap.size ≤ w14.heap.size := hm.size
    have S := S.mark hm (by omega)
    have T := T.mark hm (by omega)
    have l3 := l3.mark hm (by omega) (by omega)
    have i3 := i3.mark hm (by omega) (by omega)
    have b := b.trans (hm.bel (by omega) (by omega))
    clear hm
    clear T0 T1 Tl
    have i5 := hfine _ _ _ _ _ i5 (by omega) off5
    clear l5 hfine
    go_wp2_with fail
    (with_reducible refine (markIntS_fine _ _ _ _ _ _ (1 + (playL ops).1.length * 2 + (playL ops).2.length * 2) _ (by omega) (by omega) (by omega) i5).mono ?_); rintro e w15 ⟨rfl, hm, n5, hfine⟩
    have hm := MarkS.one hm
    have s_w15 : w14.heap.size ≤ w15.heap.size := hm.size
    have S := S.mark hm (by omega)
    have T := T.mark hm (by omega)
    have l3 := l3.mark hm (by omega) (by omega)
    have i3 := i3.mark hm (by omega) (by omega)
    have b := b.trans (hm.bel (by omega) (by omega))
    clear hm
    have m5 := hfine _ _ _ _ _ m5 (off_marks off5)
    clear i5 hfine
    obtain ⟨T0, T1, Tf⟩ := T.c2
    have Tl := T.lt
    clear Tf
    go_wp2_with fail
    (with_reducible refine (heldLock_any _ _ _ _ _ _ _ 1 _ (by omega) (by omega) (by omega) (by omega) (by omega) m5.at_).mono ?_); rintro e w16 ⟨rfl, hb⟩
    have s_w16 : w15.heap.size ≤ w16.heap.size := hb.size
    have S := S.next hb
    have T := T.next hb
    have l3 := l3.below hb (by omega)
    have m5 := m5.below hb (by omega)
    have i3 := i3.below hb (by omega)
    have n5 := n5.below hb (by omega)
    have b := b.trans (hb.mono b.size)
    clear hb
    clear T0 T1 Tl
    go_wp2_with fail
    (with_reducible refine (heldIntS_int _ _ _ _ (1 + (playL ops).1.length * 2 + (playL ops).2.length * 2) _ (by omega) (by omega) (by omega) n5.at_).mono ?_); rintro e w' ⟨rfl, rfl⟩
    go_wp2_with fail
    (with_reducible refine (toSS_any A c _ ops _ hs (Nat.le_refl _) (h.below b b.size)).mono ?_); rintro e w17 ⟨Gt, rfl, t, hb⟩
    have s_w17 : w16.heap.size ≤ w17.heap.size := hb.size
    have S := S.next hb
    have T := T.next hb
    have l3 := l3.below hb (by omega)
    have m5 := m5.below hb (by omega)
    have i3 := i3.below hb (by omega)
    have n5 := n5.below hb (by omega)
    have b := b.trans (hb.mono b.size)
    clear hb
    go_wp2_with fail
    (with_reducible refine (implPlay_any _ _ _ ops _ (Nat.le_refl _) (t.at_.up6 (by omega))).mono ?_); rintro e w18 ⟨A7, c7, B7, d7, G7, e7, rfl, l7, i7, off7, hb⟩
    have s_w18 : w17.heap.size ≤ w18.heap.size := hb.size
    have S := S.next hb
    have T := T.next hb
    have l3 := l3.below hb (by omega)
    have m5 := m5.below hb (by omega)
    have t := t.below hb (by omega)
    have i3 := i3.below hb (by omega)
    have n5 := n5.below hb (by omega)
    have b := b.trans (hb.mono b.size)
    clear hb
    clear t
    obtain ⟨S0, S1, Sf⟩ := S.c2
    have Sl := S.lt
    clear Sf
    go_wp2_with fail
    clear S0 S1 Sl
    have hA := (Below.refl w18.heap.size w18).alloc (Nat.le_refl _) (.cells #[.slice A7 (playL ops).1.length c7, .slice B7 (playL ops).2.length d7] 28)
    have U := Box.new (w := w18) (c := #[.slice A7 (playL ops).1.length c7, .slice B7 (playL ops).2.length d7]) (t := 28) rfl
    have sz_w19 : w18.heap.size < (w18.alloc (.cells #[.slice A7 (playL ops).1.length c7, .slice B7 (playL ops).2.length d7] 28)).heap.size := by simp
    generalize w18.alloc (.cells #[.slice A7 (playL ops).1.length c7, .slice B7 (playL ops).2.length d7] 28) = w19 at hA U sz_w19 ⊢
    have s_w19 : w18.heap.size ≤ w19.heap.size := hA.size
    have S := S.next hA
    have T := T.next hA
    have l3 := l3.below hA (by omega)
    have m5 := m5.below hA (by omega)
    have l7 := l7.below hA (by omega)
    have i3 := i3.below hA (by omega)
    have n5 := n5.below hA (by omega)
    have i7 := i7.below hA (by omega)
    have b := b.trans (hA.mono b.size)
    clear hA
    (with_reducible refine (eqLock_same _ _ _ _ _ _ _ _ _ _ (playL ops) _ (by unfold maxLen; omega) (by unfold maxLen; omega) l7.at_ l3.at_).mono ?_); rintro e w20 ⟨rfl, hb⟩
    have s_w20 : w19.heap.size ≤ w20.heap.size := hb.size
    have S := S.next hb
    have T := T.next hb
    have U := U.next hb
    have l3 := l3.below hb (by omega)
    have m5 := m5.below hb (by omega)
    have l7 := l7.below hb (by omega)
    have i3 := i3.below hb (by omega)
    have n5 := n5.below hb (by omega)
    have i7 := i7.below hb (by omega)
    have b := b.trans (hb.mono b.size)
    clear hb
    go_wp2_with fail
    (with_reducible refine (eqIntS_same _ _ _ _ _ _ _ _ _ (by unfold maxLen; omega) i7.at_ i3.at_).mono ?_); rintro e w21 ⟨rfl, hb⟩
    have s_w21 : w20.heap.size ≤ w21.heap.size := hb.size
    have S := S.next hb
    have T := T.next hb
    have U := U.next hb
    have l3 := l3.below hb (by omega)
    have m5 := m5.below hb (by omega)
    have l7 := l7.below hb (by omega)
    have i3 := i3.below hb (by omega)
    have n5 := n5.below hb (by omega)
    have i7 := i7.below hb (by omega)
    have b := b.trans (hb.mono b.size)
    clear hb
    obtain ⟨T0, T1, Tf⟩ := T.c2
    have Tl := T.lt
    clear Tf
    go_wp2_with fail
    (with_reducible refine (heldLock_any _ _ _ _ _ _ _ 1 _ (by omega) (by omega) (by omega) (by omega) (by omega) m5.at_).mono ?_); rintro e w22 ⟨rfl, hb⟩
    have s_w22 : w21.heap.size ≤ w22.heap.size := hb.size
    have S := S.next hb
    have T := T.next hb
    have U := U.next hb
    have l3 := l3.below hb (by omega)
    have m5 := m5.below hb (by omega)
    have l7 := l7.below hb (by omega)
    have i3 := i3.below hb (by omega)
    have n5 := n5.below hb (by omega)
    have i7 := i7.below hb (by omega)
    have b := b.trans (hb.mono b.size)
    clear hb
    clear T0 T1 Tl
    go_wp2_with fail
    (with_reducible refine (heldIntS_int _ _ _ _ (1 + (playL ops).1.length * 2 + (playL ops).2.length * 2) _ (by omega) (by omega) (by omega) n5.at_).mono ?_); rintro e w' ⟨rfl, rfl⟩
    go_wp2
    go_ret
    exact ⟨rfl, b⟩
  · go_enter Try.func10, Try.ntmps10
    go_wp2_with fail
    refine (szSS_no A c _ ops _ hm (by omega) h).mono ?_; rintro e w' ⟨rfl, rfl⟩
    go_wp2
    go_ret
    exact ⟨rfl, Below.refl _ _⟩

set_option maxRecDepth 100000 in
theorem fnExactPlayLock_lifted (os : Os) (started : os.Started) (H : Type) (enc : TypeId × Value → H) :
    ReturnsInHanded {} Try.checked os 10 .any (Rows.fnExactPlayLockSpec.pre6 enc Try.prog Try.f10 Rows.fnExactPlayLockRow.domain false) (Rows.fnExactPlayLockSpec.post enc Try.prog Try.f10 false true false false) := by
  refine returnsInHanded_of_change (C := Try.checked) own started (by kernel_rfl) Try.func10
    (ChangeSpec.witness6 (enc := enc) (C := Try.checked) false ⟨#[], #[.slice none 0 0], []⟩ 8 (by kernel_rfl) (by kernel_rfl) (by kernel_rfl) (by kernel_rfl)) ?_
  intro W base args ds gs before hval0 hW _ _
  have hval : ∀ (j : Nat) t v, Try.f10.params[j]? = some t → args[j]? = some v → Value.okWide Try.prog W .any base t v := hval0
  have hW' := hW
  obtain ⟨p, q, hA0, hV, rfl, _, _⟩ := hW
  have hA : DataW.TrodAll enc Try.prog W 0 (fun _ => true) true Try.f10.params.toList args.toList ds p := hA0
  rw [Try.params10] at hA hval
  obtain ⟨v0, vs0, d0, ds0, p0, q0, hargs, rfl, rfl, h0, rr0⟩ := trodAll_cons hA
  obtain ⟨rfl, rfl, rfl⟩ := trodAll_nil rr0
  obtain rfl : args = #[v0] := by cases args; simp_all
  obtain ⟨rfl, rfl⟩ := trodVars_none hV
  have k0 := h0
  have lt0 : ∀ x ∈ p0, x.block < W.heap.size := by obtain ⟨m, hm⟩ := k0; exact DataW.trod_lt m _ _ _ hm
  obtain ⟨B0, m0, e0, rfl⟩ := okWide_slice Try.underlying24 (hval 0 24 v0 rfl rfl)
  obtain ⟨fuel0, hf0⟩ := h0
  obtain ⟨A0, c0, l0, eq0, hm0, r0⟩ := open_ops hf0
  injection eq0 with qa0 qb0 qc0
  have qa0 := qa0.symm
  have qb0 := qb0.symm
  have qc0 := qc0.symm
  subst qa0 qb0 qc0
  clear hA0 hval0
  refine (fnExactPlayLock_walk A0 c0 l0 W hm0 r0).mono fun e W' ⟨he, bel⟩ => ?_
  subst he
  exact ⟨_, rfl, _, _, _, [], _, [], hW', trodAll_mk1 (shut_bool Try.underlying4 _), (trodAll_cons_mk (Below.trod laidOut (by kernel_rfl) (of_decide_eq_true (by kernel_rfl)) k0 bel lt0) (trodAll_mk0)), rfl, bel.frame _, fun h => by cases h⟩

/-- FnExactPlayLock -/
theorem fnExactPlayLock_holds : Rows.FnExactPlayLockSaid :=
  OpenClaim.holds_of_wide 10 Try.f10 rfl rfl rfl rfl rfl rfl rfl ⟨rfl, rfl, rfl, rfl, rfl⟩ rfl rfl rfl rfl rfl (by kernel_rfl) Try.func10 (by kernel_rfl)
    (of_decide_eq_true (by kernel_rfl)) (by unfold Func.isWrapper; first | (rw [if_pos (by decide +kernel)]; kernel_rfl) | (rw [if_neg (by decide +kernel)]; exact ⟨rfl, rfl⟩))
    (fun os started H enc _ => fnExactPlayLock_lifted os started H enc)
#print axioms fnExactPlayLock_holds
end Go.Proofs.Ytmdonjkkpkcpnaa
