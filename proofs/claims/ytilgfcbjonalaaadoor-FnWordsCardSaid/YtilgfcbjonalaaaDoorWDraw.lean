/- The drawn words. -/
import Derived.Test.YtilgfcbjonalaaaDoorNew
import Derived.Test.YtilgfcbjonalaaaDoorWBase
namespace Go.Proofs.YtilgfcbjonalaaaDoor
open Go.RowKit

/-- a word lies in block B -/
def WC (w : World) (B : Nat) (e s : Int) (h : Bool) : Prop := (w.cell? ⟨B, 0, none⟩ = some (.int .i64 e) ∧ w.cell? ⟨B, 1, none⟩ = some (.int .i64 s) ∧ w.cell? ⟨B, 2, none⟩ = some (.bool h)) ∧
  (w.frozen? ⟨B, 0, none⟩ = false ∧ w.frozen? ⟨B, 1, none⟩ = false ∧ w.frozen? ⟨B, 2, none⟩ = false) ∧ B < w.heap.size
theorem WC.made (w : World) (t : TypeId) (e s : Int) (h : Bool) : WC (w.alloc (.cells #[.int .i64 e, .int .i64 s, .bool h] t)) w.heap.size e s h := by
  refine ⟨⟨?_, ?_, ?_⟩, ⟨?_, ?_, ?_⟩, ?_⟩ <;> first | go_simp | skip
  all_goals simp
theorem WC.block {w w' : World} {B : Nat} {e s : Int} {h : Bool} (k : WC w B e s h) (hb : w'.heap[B]? = w.heap[B]?) (hz : w.heap.size ≤ w'.heap.size) : WC w' B e s h := by
  obtain ⟨⟨k1, k2, k3⟩, ⟨k4, k5, k6⟩, k7⟩ := k
  exact ⟨⟨(World.cell?_of_block (a := ⟨B, 0, none⟩) hb).trans k1, (World.cell?_of_block (a := ⟨B, 1, none⟩) hb).trans k2, (World.cell?_of_block (a := ⟨B, 2, none⟩) hb).trans k3⟩,
    ⟨(World.frozen?_of_block (a := ⟨B, 0, none⟩) hb).trans k4, (World.frozen?_of_block (a := ⟨B, 1, none⟩) hb).trans k5, (World.frozen?_of_block (a := ⟨B, 2, none⟩) hb).trans k6⟩, Nat.lt_of_lt_of_le k7 hz⟩
theorem WC.below {w w' : World} {B : Nat} {e s : Int} {h : Bool} (k : WC w B e s h) (hb : Below w.heap.size w w') : WC w' B e s h := k.block (hb.block B k.2.2) hb.size
theorem WC.drawn {w w' : World} {B c n cp : Nat} {A : Option Addr} {e s : Int} {h : Bool} (k : WC w B e s h) (hd : Drawn c A n cp w w') (hc : ¬ B = c) : WC w' B e s h := k.block (hd.but.block B k.2.2 hc) hd.but.size
theorem WC.alloc {w : World} {B : Nat} {e s : Int} {h : Bool} (k : WC w B e s h) (o : Obj) : WC (w.alloc o) B e s h := k.below ((Below.refl _ _).alloc (Nat.le_refl _) _)

section
variable {w w' w'' : World} {c n cp : Nat} {A : Option Addr} {g : Nat → Int}
theorem St.self (h : St w c n cp A g) : Drawn c A n cp w w := ⟨h.cur, But.refl⟩
theorem St.alloc (h : St w c n cp A g) (o : Obj) : St (w.alloc o) c n cp A g := h.below ((Below.refl _ _).alloc (Nat.le_refl _) _) h.lt
theorem Drawn.below2 (h : Drawn c A n cp w w') (hb : Below w.heap.size w' w'') (hc : c < w.heap.size) : Drawn c A n cp w w'' := by
  obtain ⟨i, h', h0, h1, k⟩ := h.cur
  exact ⟨⟨i, h', h0, h1, k.keep (hb.block c hc)⟩, h.but.trans (But.of_below hb (Nat.le_refl _))⟩
theorem Drawn.alloc2 (h : Drawn c A n cp w w') (hc : c < w.heap.size) (o : Obj) : Drawn c A n cp w (w'.alloc o) := h.below2 ((Below.refl _ _).alloc h.but.size _) hc
end

set_option maxHeartbeats 3200000 in
set_option maxRecDepth 100000 in
theorem l02DrawWord_any (c n cp : Nat) (A : Option Addr) (g : Nat → Int) (w : World) (hn : n ≤ 1048576) (hs : St w c n cp A g) :
    Calls Tryd.prog 62 #[.pointer (some ⟨c, 0, none⟩)] w fun e w' => ∃ (a b : Int) (h : Bool), e = .returned (.agg #[.int .i64 a, .int .i64 b, .bool h]) ∧ Drawn c A n cp w w' := by
  have hcl := hs.lt
  go_enter Tryd.func62, Tryd.ntmps62
  go_wp2_with fail
  have hs0 := hs.alloc (.cells #[.int .i64 0, .int .i64 0, .bool false] 42)
  have D0 := hs.self.alloc2 hcl (.cells #[.int .i64 0, .int .i64 0, .bool false] 42)
  have HZ0 := Lib.hid (WC.made w 42 0 0 false)
  have nz : ¬ w.heap.size = c := by omega
  generalize w.alloc (.cells #[.int .i64 0, .int .i64 0, .bool false] 42) = w0 at hs0 D0 HZ0 ⊢
  refine (l01Below_any c n cp A g 9 (by decide) (by decide) _ hn hs0).mono ?_; rintro e w1 ⟨x, _, rfl, hd1⟩
  have hs1 := hs0.drawn hd1
  have HZ1 := Lib.hid (HZ0.out.drawn hd1 nz)
  have D1 := D0.trans hd1
  clear hs0 HZ0 D0 hd1
  go_wp2_with fail
  have h1s := hs1.alloc (.cells #[.int .i64 0, .int .i64 1, .int .i64 x, .int .i64 1023] 3)
  have h1D := D1.alloc2 hcl (.cells #[.int .i64 0, .int .i64 1, .int .i64 x, .int .i64 1023] 3)
  have h1Z := Lib.hid (HZ1.out.alloc (.cells #[.int .i64 0, .int .i64 1, .int .i64 x, .int .i64 1023] 3))
  refine (l01PickInt_any c n cp A g w1.heap.size 0 4 4 (fun j => if j = 0 then 0 else if j = 1 then 1 else if j = 2 then x else 1023) _ hn h1s (by decide) (by decide) (by have := hs1.lt; omega) (by simp) (fun j hj => ?_)).mono ?_
  · rcases (show j = 0 ∨ j = 1 ∨ j = 2 ∨ j = 3 by omega) with rfl | rfl | rfl | rfl <;> simp
  rintro e w2 ⟨a, _, rfl, hd2⟩
  have hs2 := h1s.drawn hd2
  have HZ2 := Lib.hid (h1Z.out.drawn hd2 nz)
  have D2 := h1D.trans hd2
  clear hs1 HZ1 D1 hd2 h1s h1D h1Z
  go_wp2_with fail
  refine (l01Below_any c n cp A g 50 (by decide) (by decide) _ hn hs2).mono ?_; rintro e w3 ⟨y, _, rfl, hd3⟩
  have hs3 := hs2.drawn hd3
  have HZ3 := Lib.hid (HZ2.out.drawn hd3 nz)
  have D3 := D2.trans hd3
  clear hs2 HZ2 D2 hd3
  go_wp2_with fail
  have h1s := hs3.alloc (.cells #[.int .i64 0, .int .i64 1, .int .i64 y, .int .i64 65535] 3)
  have h1D := D3.alloc2 hcl (.cells #[.int .i64 0, .int .i64 1, .int .i64 y, .int .i64 65535] 3)
  have h1Z := Lib.hid (HZ3.out.alloc (.cells #[.int .i64 0, .int .i64 1, .int .i64 y, .int .i64 65535] 3))
  refine (l01PickInt_any c n cp A g w3.heap.size 0 4 4 (fun j => if j = 0 then 0 else if j = 1 then 1 else if j = 2 then y else 65535) _ hn h1s (by decide) (by decide) (by have := hs3.lt; omega) (by simp) (fun j hj => ?_)).mono ?_
  · rcases (show j = 0 ∨ j = 1 ∨ j = 2 ∨ j = 3 by omega) with rfl | rfl | rfl | rfl <;> simp
  rintro e w4 ⟨b, _, rfl, hd4⟩
  have hs4 := h1s.drawn hd4
  have HZ4 := Lib.hid (h1Z.out.drawn hd4 nz)
  have D4 := h1D.trans hd4
  clear hs3 HZ3 D3 hd4 h1s h1D h1Z
  go_wp2_with fail
  refine (l01Once_any c n cp A g 3 (by decide) (by decide) _ hn hs4).mono ?_; rintro e w5 ⟨h, rfl, hd5⟩
  have hs5 := hs4.drawn hd5
  have HZ5 := Lib.hid (HZ4.out.drawn hd5 nz)
  have D5 := D4.trans hd5
  clear hs4 HZ4 D4 hd5
  go_wp2_with fail
  have hs6 := hs5.alloc (.cells #[.int .i64 a, .int .i64 b, .bool h] 42)
  have D6 := D5.alloc2 hcl (.cells #[.int .i64 a, .int .i64 b, .bool h] 42)
  have HZ6 := Lib.hid (HZ5.out.alloc (.cells #[.int .i64 a, .int .i64 b, .bool h] 42))
  have HW6 := Lib.hid (WC.made w5 42 a b h)
  have nw : ¬ w5.heap.size = c := by have := hs5.lt; omega
  have hlow : w.heap.size < w5.heap.size := HZ5.out.2.2
  clear hs5 D5 HZ5
  generalize hB : w5.heap.size = B at HW6 nw hlow ⊢
  generalize w5.alloc (.cells #[.int .i64 a, .int .i64 b, .bool h] 42) = w6 at hs6 D6 HZ6 HW6 ⊢
  clear hB
  refine (l01Once_any c n cp A g 12 (by decide) (by decide) _ hn hs6).mono ?_; rintro e w7 ⟨r, rfl, hd7⟩
  have hs7 := hs6.drawn hd7
  have HZ7 := Lib.hid (HZ6.out.drawn hd7 nz)
  have HW7 := Lib.hid (HW6.out.drawn hd7 nw)
  have D7 := D6.trans hd7
  clear hs6 HZ6 HW6 D6 hd7
  cases r
  · obtain ⟨⟨z0, z1, z2⟩, ⟨f0, f1, f2⟩, zl⟩ := HZ7.out
    obtain ⟨⟨u0, u1, u2⟩, _, ul⟩ := HW7.out
    clear HZ7 HW7
    go_wp2
    exact bodyPost_ret (v := .agg #[.int .i64 a, .int .i64 b, .bool h]) (by simp [results, Tryd.results62, go_sem, z0, z1, z2]) rfl ⟨a, b, h, rfl, D7.below2 ((((Below.refl w.heap.size w7).setCell (by simp) _).setCell (by simp) _).setCell (by simp) _) hcl⟩
  · go_wp2_with fail
    refine (l01Once_any c n cp A g 2 (by decide) (by decide) _ hn hs7).mono ?_; rintro e w8 ⟨r, rfl, hd8⟩
    have hs8 := hs7.drawn hd8
    have HZ8 := Lib.hid (HZ7.out.drawn hd8 nz)
    have HW8 := Lib.hid (HW7.out.drawn hd8 nw)
    have D8 := D7.trans hd8
    clear hs7 HZ7 HW7 D7 hd8
    cases r
    · go_wp2_with fail
      have h1s := hs8.alloc (.cells #[.int .i64 (-1), .int .i64 65536] 3)
      have h1D := D8.alloc2 hcl (.cells #[.int .i64 (-1), .int .i64 65536] 3)
      have h1Z := Lib.hid (HZ8.out.alloc (.cells #[.int .i64 (-1), .int .i64 65536] 3))
      have h1W := Lib.hid (HW8.out.alloc (.cells #[.int .i64 (-1), .int .i64 65536] 3))
      refine (l01PickInt_any c n cp A g w8.heap.size 0 2 2 (fun j => if j = 0 then -1 else 65536) _ hn h1s (by decide) (by decide) (by have := hs8.lt; omega) (by simp) (fun j hj => ?_)).mono ?_
      · rcases (show j = 0 ∨ j = 1 by omega) with rfl | rfl <;> simp
      rintro e w9 ⟨z, _, rfl, hd9⟩
      have HZ9 := Lib.hid (h1Z.out.drawn hd9 nz)
      have HW9 := Lib.hid (h1W.out.drawn hd9 nw)
      have D9 := h1D.trans hd9
      clear hs8 HZ8 HW8 D8 hd9 h1s h1D h1Z h1W
      obtain ⟨⟨z0, z1, z2⟩, ⟨f0, f1, f2⟩, zl⟩ := HZ9.out
      obtain ⟨⟨u0, u1, u2⟩, ⟨g0, g1, g2⟩, ul⟩ := HW9.out
      have nb : ¬ B = w.heap.size := by omega
      have nb' : ¬ w.heap.size = B := by omega
      clear HZ9 HW9
      go_wp2
      exact bodyPost_ret (v := .agg #[.int .i64 a, .int .i64 z, .bool h]) (by simp [results, Tryd.results62, go_sem, z0, z1, z2]) rfl ⟨a, z, h, rfl, D9.below2 (((((Below.refl w.heap.size w9).setCell (p := ⟨B, 1, none⟩) (by show w.heap.size ≤ B; omega) _).setCell (by simp) _).setCell (by simp) _).setCell (by simp) _) hcl⟩
    · go_wp2_with fail
      have h1s := hs8.alloc (.cells #[.int .i64 (-1), .int .i64 1024] 3)
      have h1D := D8.alloc2 hcl (.cells #[.int .i64 (-1), .int .i64 1024] 3)
      have h1Z := Lib.hid (HZ8.out.alloc (.cells #[.int .i64 (-1), .int .i64 1024] 3))
      have h1W := Lib.hid (HW8.out.alloc (.cells #[.int .i64 (-1), .int .i64 1024] 3))
      refine (l01PickInt_any c n cp A g w8.heap.size 0 2 2 (fun j => if j = 0 then -1 else 1024) _ hn h1s (by decide) (by decide) (by have := hs8.lt; omega) (by simp) (fun j hj => ?_)).mono ?_
      · rcases (show j = 0 ∨ j = 1 by omega) with rfl | rfl <;> simp
      rintro e w9 ⟨z, _, rfl, hd9⟩
      have HZ9 := Lib.hid (h1Z.out.drawn hd9 nz)
      have HW9 := Lib.hid (h1W.out.drawn hd9 nw)
      have D9 := h1D.trans hd9
      clear hs8 HZ8 HW8 D8 hd9 h1s h1D h1Z h1W
      obtain ⟨⟨z0, z1, z2⟩, ⟨f0, f1, f2⟩, zl⟩ := HZ9.out
      obtain ⟨⟨u0, u1, u2⟩, ⟨g0, g1, g2⟩, ul⟩ := HW9.out
      have nb : ¬ B = w.heap.size := by omega
      have nb' : ¬ w.heap.size = B := by omega
      clear HZ9 HW9
      go_wp2
      exact bodyPost_ret (v := .agg #[.int .i64 z, .int .i64 b, .bool h]) (by simp [results, Tryd.results62, go_sem, z0, z1, z2]) rfl ⟨z, b, h, rfl, D9.below2 (((((Below.refl w.heap.size w9).setCell (p := ⟨B, 0, none⟩) (by show w.heap.size ≤ B; omega) _).setCell (by simp) _).setCell (by simp) _).setCell (by simp) _) hcl⟩
end Go.Proofs.YtilgfcbjonalaaaDoor
