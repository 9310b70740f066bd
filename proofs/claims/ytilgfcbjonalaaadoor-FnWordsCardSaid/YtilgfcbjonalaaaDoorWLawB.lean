/- FnWords: the walk of the law. -/
import Derived.Test.YtilgfcbjonalaaaDoorWLaw
namespace Go.Proofs.YtilgfcbjonalaaaDoor
open Go.RowKit

theorem laterW_flip (a b c d : Int) : laterW a b c d = -2 ∧ laterW c d a b = -2 ∨ (wordOk a b = true ∧ wordOk c d = true ∧ (laterW a b c d = 1 ∨ laterW a b c d = 0 ∨ laterW a b c d = -1) ∧ laterW c d a b = -laterW a b c d ∧ sameW a b c d = (laterW a b c d == 0)) := by
  cases h1 : wordOk a b
  · exact .inl ⟨by simp [laterW, h1], by simp [laterW, h1]⟩
  cases h2 : wordOk c d
  · exact .inl ⟨by simp [laterW, h2], by simp [laterW, h2]⟩
  refine .inr ⟨rfl, rfl, ?_⟩
  by_cases e1 : c < a ∨ c = a ∧ d < b
  · have n1 : ¬ (a < c ∨ a = c ∧ b < d) := by omega
    have n2 : ¬ (c = a ∧ d = b) := by omega
    have n3 : ¬ (a = c ∧ b = d) := by omega
    have v1 : laterW a b c d = 1 := by simp [laterW, h1, h2, e1]
    have v2 : laterW c d a b = -1 := by simp [laterW, h1, h2, n1, n2]
    rw [v1, v2]
    exact ⟨.inl rfl, rfl, by simp [sameW, h1, h2, n3]⟩
  · by_cases e2 : a = c ∧ b = d
    · have n1 : ¬ (a < c ∨ a = c ∧ b < d) := by omega
      have n2 : (c = a ∧ d = b) := by omega
      have v1 : laterW a b c d = 0 := by simp only [laterW, h1, h2, Bool.and_self, if_true, if_neg e1, if_pos e2]
      have v2 : laterW c d a b = 0 := by simp only [laterW, h1, h2, Bool.and_self, if_true, if_neg n1, if_pos n2]
      rw [v1, v2]
      exact ⟨.inr (.inl rfl), rfl, by simp [sameW, h2, e2]⟩
    · have n1 : (a < c ∨ a = c ∧ b < d) := by omega
      have v1 : laterW a b c d = -1 := by simp only [laterW, h1, h2, Bool.and_self, if_true, if_neg e1, if_neg e2]
      have v2 : laterW c d a b = 1 := by simp only [laterW, h1, h2, Bool.and_self, if_true, if_pos n1]
      rw [v1, v2]
      exact ⟨.inr (.inr rfl), rfl, by simp [sameW, h1, h2, e2]⟩

/-- what stays through the walk: two words, the tables, the error -/
structure G (w : World) (BA BB : Nat) (a b c d : Int) (p q : Bool) (ad : Addr) : Prop where
  x : WC w BA a b p
  y : WC w BB c d q
  t : Tab w
  m : MaxL w
  f : Full w ad
theorem G.below {w w' : World} {BA BB : Nat} {a b c d : Int} {p q : Bool} {ad : Addr} (k : G w BA BB a b c d p q ad) (hb : Below w.heap.size w w') : G w' BA BB a b c d p q ad :=
  ⟨k.x.below hb, k.y.below hb, k.t.below hb, k.m.below hb, k.f.below hb⟩
theorem G.alloc {w : World} {BA BB : Nat} {a b c d : Int} {p q : Bool} {ad : Addr} (k : G w BA BB a b c d p q ad) (o : Obj) : G (w.alloc o) BA BB a b c d p q ad := k.below ((Below.refl _ _).alloc (Nat.le_refl _) _)

theorem wordText_size {a b : Int} {p : Bool} (ho : wordOk a b = true) : (⟨(wordText a b p).toArray⟩ : ByteArray).size ≤ 1048576 := by
  have := wordIs_len (s := ⟨(wordText a b p).toArray⟩) ⟨ho, strOf_bl _⟩
  omega

theorem later_up {a b c : Int} (ho : wordOk a b = true) (hc : wordOk c 0 = true) (h : a < c) : laterW c 0 a b = 1 := by
  have : (a < c ∨ a = c ∧ b < 0) := .inl h
  simp only [laterW, ho, hc, Bool.and_self, if_true, if_pos this]
theorem later_on {a b : Int} (ho : wordOk a b = true) (hc : wordOk a (b + 1) = true) : laterW a (b + 1) a b = 1 := by
  simp [laterW, ho, hc]
  omega

set_option maxHeartbeats 6400000 in
set_option maxRecDepth 100000 in
theorem fnWords_walk (n cp : Nat) (A : Option Addr) (g : Nat → Int) (w : World) (hbs : BytesAt w w.heap.size A n g) (ht : Tab w) (hM : MaxL w) (ad : Addr) (hF : Full w ad) :
    Calls Tryd.prog 4 #[.slice A n cp] w fun e w' => e = .returned (.bool true) ∧ Below w.heap.size w w' := by
  have HBS := Lib.hid hbs
  have HT := Lib.hid ht
  have HM := Lib.hid hM
  have HF := Lib.hid hF
  clear hbs ht hM hF
  go_enter Tryd.func4, Tryd.ntmps4
  go_wp2_with fail
  refine (bigW_any _ _ _ _).mono ?_; rintro e w' ⟨rfl, rfl⟩
  by_cases hn : (1048576 : Int) < n
  · have hd : decide ((1048576 : Int) < n) = true := by simp [hn]
    rw [hd]
    go_wp2
    go_ret
    exact ⟨rfl, Below.refl _ _⟩
  have hd : decide ((1048576 : Int) < n) = false := by simp [hn]
  rw [hd]
  clear hd
  go_wp2_with fail
  refine (DrawLaterWord_any n cp A g _ (by omega) HBS.out).mono ?_; rintro e w1 ⟨a, b, c, d, p, q, rfl, hb1⟩
  have hz1 := hb1.size
  have HG2 := Lib.hid (show G ((w1.alloc (.cells #[.int .i64 a, .int .i64 b, .bool p] 42)).alloc (.cells #[.int .i64 c, .int .i64 d, .bool q] 42)) w1.heap.size (w1.heap.size + 1) a b c d p q ad from by
    have h1 := (WC.made w1 42 a b p).alloc (.cells #[.int .i64 c, .int .i64 d, .bool q] 42)
    have h2 := WC.made (w1.alloc (.cells #[.int .i64 a, .int .i64 b, .bool p] 42)) 42 c d q
    rw [show (w1.alloc (.cells #[.int .i64 a, .int .i64 b, .bool p] 42)).heap.size = w1.heap.size + 1 by simp] at h2
    have hb := ((Below.refl w1.heap.size w1).alloc (Nat.le_refl _) (.cells #[.int .i64 a, .int .i64 b, .bool p] 42)).alloc (by simp) (.cells #[.int .i64 c, .int .i64 d, .bool q] 42)
    exact ⟨h1, h2, (HT.out.below hb1).below hb, (HM.out.below hb1).below hb, (HF.out.below hb1).below hb⟩)
  have hB2 := (hb1.alloc hz1 (.cells #[.int .i64 a, .int .i64 b, .bool p] 42)).alloc (by simp; omega) (.cells #[.int .i64 c, .int .i64 d, .bool q] 42)
  clear HT HM HF HBS hn hb1
  go_wp2_with fail
  generalize (w1.alloc (.cells #[.int .i64 a, .int .i64 b, .bool p] 42)).alloc (.cells #[.int .i64 c, .int .i64 d, .bool q] 42) = w2 at HG2 hB2 ⊢
  generalize hBA : w1.heap.size = BA at HG2 hz1 ⊢
  generalize hBB : BA + 1 = BB at HG2 ⊢
  have hlow : w.heap.size ≤ BA := hz1
  have hlow2 : w.heap.size ≤ BB := by omega
  have nab : ¬ BA = BB := by omega
  clear hBA hBB hz1
  rcases laterW_flip a b c d with ⟨v1, v2⟩ | ⟨o1, o2, hx, hflip, hsame⟩
  · refine (implLater_any a b c d p q _).mono ?_; rintro e w3 ⟨rfl, hb3⟩
    have HG3 := Lib.hid (HG2.out.below hb3)
    have hB3 := hB2.trans (hb3.mono (Nat.le_of_lt (Nat.lt_of_le_of_lt hlow HG2.out.x.2.2)))
    clear hb3 HG2 hB2
    rw [v1]
    obtain ⟨⟨x0, x1, x2⟩, ⟨fx0, fx1, fx2⟩, xl⟩ := HG3.out.x
    obtain ⟨⟨y0, y1, y2⟩, ⟨fy0, fy1, fy2⟩, yl⟩ := HG3.out.y
    go_wp2_with fail
    clear x0 x1 x2 fx0 fx1 fx2 xl y0 y1 y2 fy0 fy1 fy2 yl
    refine (specLater_any a b c d p q _).mono ?_; rintro e w4 ⟨rfl, hb4⟩
    have HG4 := Lib.hid (HG3.out.below hb4)
    have hB4 := hB3.trans (hb4.mono (Nat.le_of_lt (Nat.lt_of_le_of_lt hlow HG3.out.x.2.2)))
    clear hb4 HG3 hB3
    rw [v1]
    obtain ⟨⟨x0, x1, x2⟩, ⟨fx0, fx1, fx2⟩, xl⟩ := HG4.out.x
    obtain ⟨⟨y0, y1, y2⟩, ⟨fy0, fy1, fy2⟩, yl⟩ := HG4.out.y
    go_wp2_with fail
    clear x0 x1 x2 fx0 fx1 fx2 xl y0 y1 y2 fy0 fy1 fy2 yl
    refine (implLater_any c d a b q p _).mono ?_; rintro e w5 ⟨rfl, hb5⟩
    have HG5 := Lib.hid (HG4.out.below hb5)
    have hB5 := hB4.trans (hb5.mono (Nat.le_of_lt (Nat.lt_of_le_of_lt hlow HG4.out.x.2.2)))
    clear hb5 HG4 hB4
    rw [v2]
    go_wp2
    go_ret
    exact ⟨rfl, hB5⟩
  all_goals skip
  have R := pk_range p o1
  have e1 : pk a b p / 2 / 65536 = a := by
    obtain ⟨⟨u1, u2⟩, u3, u4⟩ := wordOk_iff.1 o1
    rw [pk_half]; omega
  have e2 : pk a b p / 2 % 65536 = b := by
    obtain ⟨⟨u1, u2⟩, u3, u4⟩ := wordOk_iff.1 o1
    rw [pk_half]; omega
  have e3 : (pk a b p % 2 == 1) = p := by cases p <;> simp [pk]
  have HE1 := Lib.hid e1
  have HE2 := Lib.hid e2
  have HE3 := Lib.hid e3
  have HO1 := Lib.hid o1
  have HO2 := Lib.hid o2
  clear e1 e2 e3 o1 o2
  rcases hx with hx | hx | hx
  · have HX := Lib.hid hx
    have HFL := Lib.hid (show laterW c d a b = -1 by rw [hflip, hx]; try rfl)
    have HS := Lib.hid (show sameW a b c d = false by rw [hsame, hx]; try rfl)
    clear hx hflip hsame
    refine (implLater_any a b c d p q _).mono ?_; rintro e w3 ⟨rfl, hb3⟩
    have HG3 := Lib.hid (HG2.out.below hb3)
    have hB3 := hB2.trans (hb3.mono (Nat.le_of_lt (Nat.lt_of_le_of_lt hlow HG2.out.x.2.2)))
    clear hb3 HG2 hB2
    rw [HX.out]
    obtain ⟨⟨x0, x1, x2⟩, ⟨fx0, fx1, fx2⟩, xl⟩ := HG3.out.x
    obtain ⟨⟨y0, y1, y2⟩, ⟨fy0, fy1, fy2⟩, yl⟩ := HG3.out.y
    go_wp2_with fail
    clear x0 x1 x2 fx0 fx1 fx2 xl y0 y1 y2 fy0 fy1 fy2 yl
    refine (specLater_any a b c d p q _).mono ?_; rintro e w4 ⟨rfl, hb4⟩
    have HG4 := Lib.hid (HG3.out.below hb4)
    have hB4 := hB3.trans (hb4.mono (Nat.le_of_lt (Nat.lt_of_le_of_lt hlow HG3.out.x.2.2)))
    clear hb4 HG3 hB3
    rw [HX.out]
    obtain ⟨⟨x0, x1, x2⟩, ⟨fx0, fx1, fx2⟩, xl⟩ := HG4.out.x
    go_wp2_with fail
    clear x0 x1 x2 fx0 fx1 fx2 xl
    refine (implPack_ok a b p HO1.out _).mono ?_; rintro e w5 ⟨rfl, hb5⟩
    have HG5 := Lib.hid (HG4.out.below hb5)
    have hB5 := hB4.trans (hb5.mono (Nat.le_of_lt (Nat.lt_of_le_of_lt hlow HG4.out.x.2.2)))
    clear hb5 HG4 hB4
    go_wp2_with fail
    refine (implUnpack_ok (pk a b p) R.1 R.2 _).mono ?_; rintro e w6 ⟨rfl, hb6⟩
    have HG6 := Lib.hid (HG5.out.below hb6)
    have hB6 := hB5.trans (hb6.mono (Nat.le_of_lt (Nat.lt_of_le_of_lt hlow HG5.out.x.2.2)))
    clear hb6 HG5 hB5
    rw [HE1.out, HE2.out, HE3.out]
    have HG7 := Lib.hid (HG6.out.alloc (.cells #[.int .i64 a, .int .i64 b, .bool p] 42))
    have HU7 := Lib.hid (WC.made w6 42 a b p)
    have hlu : BB < w6.heap.size := HG6.out.y.2.2
    have hB7 := hB6.alloc (by omega) (.cells #[.int .i64 a, .int .i64 b, .bool p] 42)
    have hx6 := HG6.out.x.2.2
    obtain ⟨⟨x0, x1, x2⟩, ⟨fx0, fx1, fx2⟩, xl⟩ := HG6.out.x
    go_wp2_with fail
    clear x0 x1 x2 fx0 fx1 fx2 xl
    clear HG6 hB6
    generalize hBU : w6.heap.size = BU at HU7 hlu hx6 ⊢
    generalize w6.alloc (.cells #[.int .i64 a, .int .i64 b, .bool p] 42) = w7 at HG7 HU7 hB7 ⊢
    clear hBU
    refine (implWordText_ok a b p HO1.out _ HG7.out.t).mono ?_; rintro e w8 ⟨rfl, hb8⟩
    have HG8 := Lib.hid (HG7.out.below hb8)
    have HU8 := Lib.hid (HU7.out.below hb8)
    have hB8 := hB7.trans (hb8.mono (by have := HU7.out.2.2; omega))
    clear hb8 HG7 HU7 hB7
    have HI := Lib.hid (show wordIs ⟨(wordText a b p).toArray⟩ a b p from ⟨HO1.out, strOf_bl _⟩)
    have hsz := wordText_size (p := p) HO1.out
    generalize (⟨(wordText a b p).toArray⟩ : ByteArray) = S at HI hsz ⊢
    go_wp2_with fail
    refine (implParseWord_any S hsz _ HG8.out.t HG8.out.m).mono ?_; rintro e w9 ⟨hout, hb9⟩
    rcases hout with ⟨a', b', p', hw, rfl⟩ | ⟨hno, rfl⟩
    rotate_left
    · exact absurd HI.out (hno _ _ _)
    obtain ⟨rfl, rfl, rfl⟩ := wordIs_one HI.out hw
    clear hw HI hsz
    have HG9 := Lib.hid (HG8.out.below hb9)
    have HU9 := Lib.hid (HU8.out.below hb9)
    have HG10 := Lib.hid (HG9.out.alloc (.cells #[.int .i64 a, .int .i64 b, .bool p] 42))
    have HU10 := Lib.hid (HU9.out.alloc (.cells #[.int .i64 a, .int .i64 b, .bool p] 42))
    have HV10 := Lib.hid (WC.made w9 42 a b p)
    have hlv : BU < w9.heap.size := HU9.out.2.2
    have hB10 := (hB8.trans (hb9.mono (by have := HU8.out.2.2; omega))).alloc (by omega) (.cells #[.int .i64 a, .int .i64 b, .bool p] 42)
    clear HG8 HU8 hB8 hb9
    obtain ⟨⟨x0, x1, x2⟩, ⟨fx0, fx1, fx2⟩, xl⟩ := HG9.out.x
    obtain ⟨⟨y0, y1, y2⟩, ⟨fy0, fy1, fy2⟩, yl⟩ := HG9.out.y
    obtain ⟨⟨u0, u1, u2⟩, ⟨fu0, fu1, fu2⟩, ul⟩ := HU9.out
    go_wp2_with fail
    clear x0 x1 x2 fx0 fx1 fx2 xl y0 y1 y2 fy0 fy1 fy2 yl u0 u1 u2 fu0 fu1 fu2 ul
    clear HG9 HU9
    generalize hBV : w9.heap.size = BV at HV10 hlv ⊢
    generalize w9.alloc (.cells #[.int .i64 a, .int .i64 b, .bool p] 42) = w10 at HG10 HU10 HV10 hB10 ⊢
    clear hBV
    refine (implLater_any c d a b q p _).mono ?_; rintro e w11 ⟨rfl, hb11⟩
    have HG11 := Lib.hid (HG10.out.below hb11)
    have hB11 := hB10.trans (hb11.mono (Nat.le_of_lt (Nat.lt_of_le_of_lt hlow HG10.out.x.2.2)))
    clear hb11 HG10 hB10
    rw [HFL.out]
    obtain ⟨⟨x0, x1, x2⟩, ⟨fx0, fx1, fx2⟩, xl⟩ := HG11.out.x
    obtain ⟨⟨y0, y1, y2⟩, ⟨fy0, fy1, fy2⟩, yl⟩ := HG11.out.y
    go_wp2_with fail
    clear x0 x1 x2 fx0 fx1 fx2 xl y0 y1 y2 fy0 fy1 fy2 yl
    refine (implSame_any a b c d p q _).mono ?_; rintro e w12 ⟨rfl, hb12⟩
    have HG12 := Lib.hid (HG11.out.below hb12)
    have hB12 := hB11.trans (hb12.mono (Nat.le_of_lt (Nat.lt_of_le_of_lt hlow HG11.out.x.2.2)))
    clear hb12 HG11 hB11
    rw [HS.out]
    obtain ⟨⟨x0, x1, x2⟩, ⟨fx0, fx1, fx2⟩, xl⟩ := HG12.out.x
    obtain ⟨⟨y0, y1, y2⟩, ⟨fy0, fy1, fy2⟩, yl⟩ := HG12.out.y
    have hEc := (wordOk_iff.1 HO2.out).1
    have hx12 := HG12.out.x.2.2
    by_cases hlt : a < c
    · have HN := Lib.hid (later_up HO1.out (wordOk_iff.2 ⟨hEc, by decide, by decide⟩) hlt)
      have HE := Lib.hid (inW_iff.2 hEc)
      go_wp2_with fail
      clear x0 x1 x2 fx0 fx1 fx2 xl y0 y1 y2 fy0 fy1 fy2 yl
      refine (implNext_up a b p c HO1.out HE.out ad hlt _ HG12.out.f).mono ?_; rintro e w13 ⟨rfl, hb13⟩
      have HG13 := Lib.hid (HG12.out.below hb13)
      have hB13 := hB12.trans (hb13.mono (Nat.le_of_lt (Nat.lt_of_le_of_lt hlow HG12.out.x.2.2)))
      have hx13 := HG13.out.x.2.2
      clear hb13 HG12 hB12
      obtain ⟨⟨x0, x1, x2⟩, ⟨fx0, fx1, fx2⟩, xl⟩ := HG13.out.x
      obtain ⟨⟨y0, y1, y2⟩, ⟨fy0, fy1, fy2⟩, yl⟩ := HG13.out.y
      go_wp2_with fail
      refine (implLater_any c 0 a b false p _).mono ?_; rintro e w15 ⟨rfl, hb15⟩
      rw [HN.out]
      have hz15 : w13.heap.size < w15.heap.size := by have := hb15.size; simp at this; omega
      have k2 : w15.cell? ⟨w13.heap.size, 2, none⟩ = some (.bool false) := by rw [(wcell hb15).1 _ _ (by simp)]; go_simp
      have hB15 := (hB13.alloc (by omega) _).trans (hb15.mono (by simp; omega))
      clear hb15
      clear x0 x1 x2 fx0 fx1 fx2 xl y0 y1 y2 fy0 fy1 fy2 yl
      go_wp2
      go_ret
      exact ⟨rfl, hB15⟩
    have hle : c ≤ a := by omega
    clear hlt
    by_cases hb : b = 65535
    · have HB := Lib.hid hb
      have HE := Lib.hid (inW_iff.2 hEc)
      clear hb
      go_wp2_with fail
      clear x0 x1 x2 fx0 fx1 fx2 xl y0 y1 y2 fy0 fy1 fy2 yl
      refine (implNext_full a b p c HO1.out HE.out ad hle HB.out _ HG12.out.f).mono ?_; rintro e w13 ⟨rfl, hb13⟩
      have HG13 := Lib.hid (HG12.out.below hb13)
      have hB13 := hB12.trans (hb13.mono (Nat.le_of_lt (Nat.lt_of_le_of_lt hlow HG12.out.x.2.2)))
      have hx13 := HG13.out.x.2.2
      clear hb13 HG12 hB12
      obtain ⟨⟨x0, x1, x2⟩, ⟨fx0, fx1, fx2⟩, xl⟩ := HG13.out.x
      obtain ⟨⟨y0, y1, y2⟩, ⟨fy0, fy1, fy2⟩, yl⟩ := HG13.out.y
      have hble : decide (c ≤ a) = true := by simp; omega
      have hbeq : (b == 65535) = true := by rw [HB.out]; rfl
      go_wp2
      go_ret
      exact ⟨rfl, hB13.alloc (by omega) _⟩
    · have hb5 := (wordOk_iff.1 HO1.out)
      have HN := Lib.hid (later_on HO1.out (wordOk_iff.2 ⟨hb5.1, by omega, by omega⟩))
      have HE := Lib.hid (inW_iff.2 hEc)
      clear hb5
      go_wp2_with fail
      clear x0 x1 x2 fx0 fx1 fx2 xl y0 y1 y2 fy0 fy1 fy2 yl
      refine (implNext_on a b p c HO1.out HE.out ad hle hb _ HG12.out.f).mono ?_; rintro e w13 ⟨rfl, hb13⟩
      have HG13 := Lib.hid (HG12.out.below hb13)
      have hB13 := hB12.trans (hb13.mono (Nat.le_of_lt (Nat.lt_of_le_of_lt hlow HG12.out.x.2.2)))
      have hx13 := HG13.out.x.2.2
      clear hb13 HG12 hB12
      obtain ⟨⟨x0, x1, x2⟩, ⟨fx0, fx1, fx2⟩, xl⟩ := HG13.out.x
      obtain ⟨⟨y0, y1, y2⟩, ⟨fy0, fy1, fy2⟩, yl⟩ := HG13.out.y
      go_wp2_with fail
      refine (implLater_any a (b + 1) a b false p _).mono ?_; rintro e w15 ⟨rfl, hb15⟩
      rw [HN.out]
      have hz15 : w13.heap.size < w15.heap.size := by have := hb15.size; simp at this; omega
      have k2 : w15.cell? ⟨w13.heap.size, 2, none⟩ = some (.bool false) := by rw [(wcell hb15).1 _ _ (by simp)]; go_simp
      have hB15 := (hB13.alloc (by omega) _).trans (hb15.mono (by simp; omega))
      clear hb15
      clear x0 x1 x2 fx0 fx1 fx2 xl y0 y1 y2 fy0 fy1 fy2 yl
      go_wp2
      go_ret
      exact ⟨rfl, hB15⟩
  · have HX := Lib.hid hx
    have HFL := Lib.hid (show laterW c d a b = 0 by rw [hflip, hx]; try rfl)
    have HS := Lib.hid (show sameW a b c d = true by rw [hsame, hx]; try rfl)
    clear hx hflip hsame
    refine (implLater_any a b c d p q _).mono ?_; rintro e w3 ⟨rfl, hb3⟩
    have HG3 := Lib.hid (HG2.out.below hb3)
    have hB3 := hB2.trans (hb3.mono (Nat.le_of_lt (Nat.lt_of_le_of_lt hlow HG2.out.x.2.2)))
    clear hb3 HG2 hB2
    rw [HX.out]
    obtain ⟨⟨x0, x1, x2⟩, ⟨fx0, fx1, fx2⟩, xl⟩ := HG3.out.x
    obtain ⟨⟨y0, y1, y2⟩, ⟨fy0, fy1, fy2⟩, yl⟩ := HG3.out.y
    go_wp2_with fail
    clear x0 x1 x2 fx0 fx1 fx2 xl y0 y1 y2 fy0 fy1 fy2 yl
    refine (specLater_any a b c d p q _).mono ?_; rintro e w4 ⟨rfl, hb4⟩
    have HG4 := Lib.hid (HG3.out.below hb4)
    have hB4 := hB3.trans (hb4.mono (Nat.le_of_lt (Nat.lt_of_le_of_lt hlow HG3.out.x.2.2)))
    clear hb4 HG3 hB3
    rw [HX.out]
    obtain ⟨⟨x0, x1, x2⟩, ⟨fx0, fx1, fx2⟩, xl⟩ := HG4.out.x
    go_wp2_with fail
    clear x0 x1 x2 fx0 fx1 fx2 xl
    refine (implPack_ok a b p HO1.out _).mono ?_; rintro e w5 ⟨rfl, hb5⟩
    have HG5 := Lib.hid (HG4.out.below hb5)
    have hB5 := hB4.trans (hb5.mono (Nat.le_of_lt (Nat.lt_of_le_of_lt hlow HG4.out.x.2.2)))
    clear hb5 HG4 hB4
    go_wp2_with fail
    refine (implUnpack_ok (pk a b p) R.1 R.2 _).mono ?_; rintro e w6 ⟨rfl, hb6⟩
    have HG6 := Lib.hid (HG5.out.below hb6)
    have hB6 := hB5.trans (hb6.mono (Nat.le_of_lt (Nat.lt_of_le_of_lt hlow HG5.out.x.2.2)))
    clear hb6 HG5 hB5
    rw [HE1.out, HE2.out, HE3.out]
    have HG7 := Lib.hid (HG6.out.alloc (.cells #[.int .i64 a, .int .i64 b, .bool p] 42))
    have HU7 := Lib.hid (WC.made w6 42 a b p)
    have hlu : BB < w6.heap.size := HG6.out.y.2.2
    have hB7 := hB6.alloc (by omega) (.cells #[.int .i64 a, .int .i64 b, .bool p] 42)
    have hx6 := HG6.out.x.2.2
    obtain ⟨⟨x0, x1, x2⟩, ⟨fx0, fx1, fx2⟩, xl⟩ := HG6.out.x
    go_wp2_with fail
    clear x0 x1 x2 fx0 fx1 fx2 xl
    clear HG6 hB6
    generalize hBU : w6.heap.size = BU at HU7 hlu hx6 ⊢
    generalize w6.alloc (.cells #[.int .i64 a, .int .i64 b, .bool p] 42) = w7 at HG7 HU7 hB7 ⊢
    clear hBU
    refine (implWordText_ok a b p HO1.out _ HG7.out.t).mono ?_; rintro e w8 ⟨rfl, hb8⟩
    have HG8 := Lib.hid (HG7.out.below hb8)
    have HU8 := Lib.hid (HU7.out.below hb8)
    have hB8 := hB7.trans (hb8.mono (by have := HU7.out.2.2; omega))
    clear hb8 HG7 HU7 hB7
    have HI := Lib.hid (show wordIs ⟨(wordText a b p).toArray⟩ a b p from ⟨HO1.out, strOf_bl _⟩)
    have hsz := wordText_size (p := p) HO1.out
    generalize (⟨(wordText a b p).toArray⟩ : ByteArray) = S at HI hsz ⊢
    go_wp2_with fail
    refine (implParseWord_any S hsz _ HG8.out.t HG8.out.m).mono ?_; rintro e w9 ⟨hout, hb9⟩
    rcases hout with ⟨a', b', p', hw, rfl⟩ | ⟨hno, rfl⟩
    rotate_left
    · exact absurd HI.out (hno _ _ _)
    obtain ⟨rfl, rfl, rfl⟩ := wordIs_one HI.out hw
    clear hw HI hsz
    have HG9 := Lib.hid (HG8.out.below hb9)
    have HU9 := Lib.hid (HU8.out.below hb9)
    have HG10 := Lib.hid (HG9.out.alloc (.cells #[.int .i64 a, .int .i64 b, .bool p] 42))
    have HU10 := Lib.hid (HU9.out.alloc (.cells #[.int .i64 a, .int .i64 b, .bool p] 42))
    have HV10 := Lib.hid (WC.made w9 42 a b p)
    have hlv : BU < w9.heap.size := HU9.out.2.2
    have hB10 := (hB8.trans (hb9.mono (by have := HU8.out.2.2; omega))).alloc (by omega) (.cells #[.int .i64 a, .int .i64 b, .bool p] 42)
    clear HG8 HU8 hB8 hb9
    obtain ⟨⟨x0, x1, x2⟩, ⟨fx0, fx1, fx2⟩, xl⟩ := HG9.out.x
    obtain ⟨⟨y0, y1, y2⟩, ⟨fy0, fy1, fy2⟩, yl⟩ := HG9.out.y
    obtain ⟨⟨u0, u1, u2⟩, ⟨fu0, fu1, fu2⟩, ul⟩ := HU9.out
    go_wp2_with fail
    clear x0 x1 x2 fx0 fx1 fx2 xl y0 y1 y2 fy0 fy1 fy2 yl u0 u1 u2 fu0 fu1 fu2 ul
    clear HG9 HU9
    generalize hBV : w9.heap.size = BV at HV10 hlv ⊢
    generalize w9.alloc (.cells #[.int .i64 a, .int .i64 b, .bool p] 42) = w10 at HG10 HU10 HV10 hB10 ⊢
    clear hBV
    refine (implLater_any c d a b q p _).mono ?_; rintro e w11 ⟨rfl, hb11⟩
    have HG11 := Lib.hid (HG10.out.below hb11)
    have hB11 := hB10.trans (hb11.mono (Nat.le_of_lt (Nat.lt_of_le_of_lt hlow HG10.out.x.2.2)))
    clear hb11 HG10 hB10
    rw [HFL.out]
    obtain ⟨⟨x0, x1, x2⟩, ⟨fx0, fx1, fx2⟩, xl⟩ := HG11.out.x
    obtain ⟨⟨y0, y1, y2⟩, ⟨fy0, fy1, fy2⟩, yl⟩ := HG11.out.y
    go_wp2_with fail
    clear x0 x1 x2 fx0 fx1 fx2 xl y0 y1 y2 fy0 fy1 fy2 yl
    refine (implSame_any a b c d p q _).mono ?_; rintro e w12 ⟨rfl, hb12⟩
    have HG12 := Lib.hid (HG11.out.below hb12)
    have hB12 := hB11.trans (hb12.mono (Nat.le_of_lt (Nat.lt_of_le_of_lt hlow HG11.out.x.2.2)))
    clear hb12 HG11 hB11
    rw [HS.out]
    obtain ⟨⟨x0, x1, x2⟩, ⟨fx0, fx1, fx2⟩, xl⟩ := HG12.out.x
    obtain ⟨⟨y0, y1, y2⟩, ⟨fy0, fy1, fy2⟩, yl⟩ := HG12.out.y
    have hEc := (wordOk_iff.1 HO2.out).1
    have hx12 := HG12.out.x.2.2
    by_cases hlt : a < c
    · have HN := Lib.hid (later_up HO1.out (wordOk_iff.2 ⟨hEc, by decide, by decide⟩) hlt)
      have HE := Lib.hid (inW_iff.2 hEc)
      go_wp2_with fail
      clear x0 x1 x2 fx0 fx1 fx2 xl y0 y1 y2 fy0 fy1 fy2 yl
      refine (implNext_up a b p c HO1.out HE.out ad hlt _ HG12.out.f).mono ?_; rintro e w13 ⟨rfl, hb13⟩
      have HG13 := Lib.hid (HG12.out.below hb13)
      have hB13 := hB12.trans (hb13.mono (Nat.le_of_lt (Nat.lt_of_le_of_lt hlow HG12.out.x.2.2)))
      have hx13 := HG13.out.x.2.2
      clear hb13 HG12 hB12
      obtain ⟨⟨x0, x1, x2⟩, ⟨fx0, fx1, fx2⟩, xl⟩ := HG13.out.x
      obtain ⟨⟨y0, y1, y2⟩, ⟨fy0, fy1, fy2⟩, yl⟩ := HG13.out.y
      go_wp2_with fail
      refine (implLater_any c 0 a b false p _).mono ?_; rintro e w15 ⟨rfl, hb15⟩
      rw [HN.out]
      have hz15 : w13.heap.size < w15.heap.size := by have := hb15.size; simp at this; omega
      have k2 : w15.cell? ⟨w13.heap.size, 2, none⟩ = some (.bool false) := by rw [(wcell hb15).1 _ _ (by simp)]; go_simp
      have hB15 := (hB13.alloc (by omega) _).trans (hb15.mono (by simp; omega))
      clear hb15
      clear x0 x1 x2 fx0 fx1 fx2 xl y0 y1 y2 fy0 fy1 fy2 yl
      go_wp2
      go_ret
      exact ⟨rfl, hB15⟩
    have hle : c ≤ a := by omega
    clear hlt
    by_cases hb : b = 65535
    · have HB := Lib.hid hb
      have HE := Lib.hid (inW_iff.2 hEc)
      clear hb
      go_wp2_with fail
      clear x0 x1 x2 fx0 fx1 fx2 xl y0 y1 y2 fy0 fy1 fy2 yl
      refine (implNext_full a b p c HO1.out HE.out ad hle HB.out _ HG12.out.f).mono ?_; rintro e w13 ⟨rfl, hb13⟩
      have HG13 := Lib.hid (HG12.out.below hb13)
      have hB13 := hB12.trans (hb13.mono (Nat.le_of_lt (Nat.lt_of_le_of_lt hlow HG12.out.x.2.2)))
      have hx13 := HG13.out.x.2.2
      clear hb13 HG12 hB12
      obtain ⟨⟨x0, x1, x2⟩, ⟨fx0, fx1, fx2⟩, xl⟩ := HG13.out.x
      obtain ⟨⟨y0, y1, y2⟩, ⟨fy0, fy1, fy2⟩, yl⟩ := HG13.out.y
      have hble : decide (c ≤ a) = true := by simp; omega
      have hbeq : (b == 65535) = true := by rw [HB.out]; rfl
      go_wp2
      go_ret
      exact ⟨rfl, hB13.alloc (by omega) _⟩
    · have hb5 := (wordOk_iff.1 HO1.out)
      have HN := Lib.hid (later_on HO1.out (wordOk_iff.2 ⟨hb5.1, by omega, by omega⟩))
      have HE := Lib.hid (inW_iff.2 hEc)
      clear hb5
      go_wp2_with fail
      clear x0 x1 x2 fx0 fx1 fx2 xl y0 y1 y2 fy0 fy1 fy2 yl
      refine (implNext_on a b p c HO1.out HE.out ad hle hb _ HG12.out.f).mono ?_; rintro e w13 ⟨rfl, hb13⟩
      have HG13 := Lib.hid (HG12.out.below hb13)
      have hB13 := hB12.trans (hb13.mono (Nat.le_of_lt (Nat.lt_of_le_of_lt hlow HG12.out.x.2.2)))
      have hx13 := HG13.out.x.2.2
      clear hb13 HG12 hB12
      obtain ⟨⟨x0, x1, x2⟩, ⟨fx0, fx1, fx2⟩, xl⟩ := HG13.out.x
      obtain ⟨⟨y0, y1, y2⟩, ⟨fy0, fy1, fy2⟩, yl⟩ := HG13.out.y
      go_wp2_with fail
      refine (implLater_any a (b + 1) a b false p _).mono ?_; rintro e w15 ⟨rfl, hb15⟩
      rw [HN.out]
      have hz15 : w13.heap.size < w15.heap.size := by have := hb15.size; simp at this; omega
      have k2 : w15.cell? ⟨w13.heap.size, 2, none⟩ = some (.bool false) := by rw [(wcell hb15).1 _ _ (by simp)]; go_simp
      have hB15 := (hB13.alloc (by omega) _).trans (hb15.mono (by simp; omega))
      clear hb15
      clear x0 x1 x2 fx0 fx1 fx2 xl y0 y1 y2 fy0 fy1 fy2 yl
      go_wp2
      go_ret
      exact ⟨rfl, hB15⟩
  · have HX := Lib.hid hx
    have HFL := Lib.hid (show laterW c d a b = 1 by rw [hflip, hx]; try rfl)
    have HS := Lib.hid (show sameW a b c d = false by rw [hsame, hx]; try rfl)
    clear hx hflip hsame
    refine (implLater_any a b c d p q _).mono ?_; rintro e w3 ⟨rfl, hb3⟩
    have HG3 := Lib.hid (HG2.out.below hb3)
    have hB3 := hB2.trans (hb3.mono (Nat.le_of_lt (Nat.lt_of_le_of_lt hlow HG2.out.x.2.2)))
    clear hb3 HG2 hB2
    rw [HX.out]
    obtain ⟨⟨x0, x1, x2⟩, ⟨fx0, fx1, fx2⟩, xl⟩ := HG3.out.x
    obtain ⟨⟨y0, y1, y2⟩, ⟨fy0, fy1, fy2⟩, yl⟩ := HG3.out.y
    go_wp2_with fail
    clear x0 x1 x2 fx0 fx1 fx2 xl y0 y1 y2 fy0 fy1 fy2 yl
    refine (specLater_any a b c d p q _).mono ?_; rintro e w4 ⟨rfl, hb4⟩
    have HG4 := Lib.hid (HG3.out.below hb4)
    have hB4 := hB3.trans (hb4.mono (Nat.le_of_lt (Nat.lt_of_le_of_lt hlow HG3.out.x.2.2)))
    clear hb4 HG3 hB3
    rw [HX.out]
    obtain ⟨⟨x0, x1, x2⟩, ⟨fx0, fx1, fx2⟩, xl⟩ := HG4.out.x
    go_wp2_with fail
    clear x0 x1 x2 fx0 fx1 fx2 xl
    refine (implPack_ok a b p HO1.out _).mono ?_; rintro e w5 ⟨rfl, hb5⟩
    have HG5 := Lib.hid (HG4.out.below hb5)
    have hB5 := hB4.trans (hb5.mono (Nat.le_of_lt (Nat.lt_of_le_of_lt hlow HG4.out.x.2.2)))
    clear hb5 HG4 hB4
    go_wp2_with fail
    refine (implUnpack_ok (pk a b p) R.1 R.2 _).mono ?_; rintro e w6 ⟨rfl, hb6⟩
    have HG6 := Lib.hid (HG5.out.below hb6)
    have hB6 := hB5.trans (hb6.mono (Nat.le_of_lt (Nat.lt_of_le_of_lt hlow HG5.out.x.2.2)))
    clear hb6 HG5 hB5
    rw [HE1.out, HE2.out, HE3.out]
    have HG7 := Lib.hid (HG6.out.alloc (.cells #[.int .i64 a, .int .i64 b, .bool p] 42))
    have HU7 := Lib.hid (WC.made w6 42 a b p)
    have hlu : BB < w6.heap.size := HG6.out.y.2.2
    have hB7 := hB6.alloc (by omega) (.cells #[.int .i64 a, .int .i64 b, .bool p] 42)
    have hx6 := HG6.out.x.2.2
    obtain ⟨⟨x0, x1, x2⟩, ⟨fx0, fx1, fx2⟩, xl⟩ := HG6.out.x
    go_wp2_with fail
    clear x0 x1 x2 fx0 fx1 fx2 xl
    clear HG6 hB6
    generalize hBU : w6.heap.size = BU at HU7 hlu hx6 ⊢
    generalize w6.alloc (.cells #[.int .i64 a, .int .i64 b, .bool p] 42) = w7 at HG7 HU7 hB7 ⊢
    clear hBU
    refine (implWordText_ok a b p HO1.out _ HG7.out.t).mono ?_; rintro e w8 ⟨rfl, hb8⟩
    have HG8 := Lib.hid (HG7.out.below hb8)
    have HU8 := Lib.hid (HU7.out.below hb8)
    have hB8 := hB7.trans (hb8.mono (by have := HU7.out.2.2; omega))
    clear hb8 HG7 HU7 hB7
    have HI := Lib.hid (show wordIs ⟨(wordText a b p).toArray⟩ a b p from ⟨HO1.out, strOf_bl _⟩)
    have hsz := wordText_size (p := p) HO1.out
    generalize (⟨(wordText a b p).toArray⟩ : ByteArray) = S at HI hsz ⊢
    go_wp2_with fail
    refine (implParseWord_any S hsz _ HG8.out.t HG8.out.m).mono ?_; rintro e w9 ⟨hout, hb9⟩
    rcases hout with ⟨a', b', p', hw, rfl⟩ | ⟨hno, rfl⟩
    rotate_left
    · exact absurd HI.out (hno _ _ _)
    obtain ⟨rfl, rfl, rfl⟩ := wordIs_one HI.out hw
    clear hw HI hsz
    have HG9 := Lib.hid (HG8.out.below hb9)
    have HU9 := Lib.hid (HU8.out.below hb9)
    have HG10 := Lib.hid (HG9.out.alloc (.cells #[.int .i64 a, .int .i64 b, .bool p] 42))
    have HU10 := Lib.hid (HU9.out.alloc (.cells #[.int .i64 a, .int .i64 b, .bool p] 42))
    have HV10 := Lib.hid (WC.made w9 42 a b p)
    have hlv : BU < w9.heap.size := HU9.out.2.2
    have hB10 := (hB8.trans (hb9.mono (by have := HU8.out.2.2; omega))).alloc (by omega) (.cells #[.int .i64 a, .int .i64 b, .bool p] 42)
    clear HG8 HU8 hB8 hb9
    obtain ⟨⟨x0, x1, x2⟩, ⟨fx0, fx1, fx2⟩, xl⟩ := HG9.out.x
    obtain ⟨⟨y0, y1, y2⟩, ⟨fy0, fy1, fy2⟩, yl⟩ := HG9.out.y
    obtain ⟨⟨u0, u1, u2⟩, ⟨fu0, fu1, fu2⟩, ul⟩ := HU9.out
    go_wp2_with fail
    clear x0 x1 x2 fx0 fx1 fx2 xl y0 y1 y2 fy0 fy1 fy2 yl u0 u1 u2 fu0 fu1 fu2 ul
    clear HG9 HU9
    generalize hBV : w9.heap.size = BV at HV10 hlv ⊢
    generalize w9.alloc (.cells #[.int .i64 a, .int .i64 b, .bool p] 42) = w10 at HG10 HU10 HV10 hB10 ⊢
    clear hBV
    refine (implLater_any c d a b q p _).mono ?_; rintro e w11 ⟨rfl, hb11⟩
    have HG11 := Lib.hid (HG10.out.below hb11)
    have hB11 := hB10.trans (hb11.mono (Nat.le_of_lt (Nat.lt_of_le_of_lt hlow HG10.out.x.2.2)))
    clear hb11 HG10 hB10
    rw [HFL.out]
    obtain ⟨⟨x0, x1, x2⟩, ⟨fx0, fx1, fx2⟩, xl⟩ := HG11.out.x
    obtain ⟨⟨y0, y1, y2⟩, ⟨fy0, fy1, fy2⟩, yl⟩ := HG11.out.y
    go_wp2_with fail
    clear x0 x1 x2 fx0 fx1 fx2 xl y0 y1 y2 fy0 fy1 fy2 yl
    refine (implSame_any a b c d p q _).mono ?_; rintro e w12 ⟨rfl, hb12⟩
    have HG12 := Lib.hid (HG11.out.below hb12)
    have hB12 := hB11.trans (hb12.mono (Nat.le_of_lt (Nat.lt_of_le_of_lt hlow HG11.out.x.2.2)))
    clear hb12 HG11 hB11
    rw [HS.out]
    obtain ⟨⟨x0, x1, x2⟩, ⟨fx0, fx1, fx2⟩, xl⟩ := HG12.out.x
    obtain ⟨⟨y0, y1, y2⟩, ⟨fy0, fy1, fy2⟩, yl⟩ := HG12.out.y
    have hEc := (wordOk_iff.1 HO2.out).1
    have hx12 := HG12.out.x.2.2
    by_cases hlt : a < c
    · have HN := Lib.hid (later_up HO1.out (wordOk_iff.2 ⟨hEc, by decide, by decide⟩) hlt)
      have HE := Lib.hid (inW_iff.2 hEc)
      go_wp2_with fail
      clear x0 x1 x2 fx0 fx1 fx2 xl y0 y1 y2 fy0 fy1 fy2 yl
      refine (implNext_up a b p c HO1.out HE.out ad hlt _ HG12.out.f).mono ?_; rintro e w13 ⟨rfl, hb13⟩
      have HG13 := Lib.hid (HG12.out.below hb13)
      have hB13 := hB12.trans (hb13.mono (Nat.le_of_lt (Nat.lt_of_le_of_lt hlow HG12.out.x.2.2)))
      have hx13 := HG13.out.x.2.2
      clear hb13 HG12 hB12
      obtain ⟨⟨x0, x1, x2⟩, ⟨fx0, fx1, fx2⟩, xl⟩ := HG13.out.x
      obtain ⟨⟨y0, y1, y2⟩, ⟨fy0, fy1, fy2⟩, yl⟩ := HG13.out.y
      go_wp2_with fail
      refine (implLater_any c 0 a b false p _).mono ?_; rintro e w15 ⟨rfl, hb15⟩
      rw [HN.out]
      have hz15 : w13.heap.size < w15.heap.size := by have := hb15.size; simp at this; omega
      have k2 : w15.cell? ⟨w13.heap.size, 2, none⟩ = some (.bool false) := by rw [(wcell hb15).1 _ _ (by simp)]; go_simp
      have hB15 := (hB13.alloc (by omega) _).trans (hb15.mono (by simp; omega))
      clear hb15
      clear x0 x1 x2 fx0 fx1 fx2 xl y0 y1 y2 fy0 fy1 fy2 yl
      go_wp2
      go_ret
      exact ⟨rfl, hB15⟩
    have hle : c ≤ a := by omega
    clear hlt
    by_cases hb : b = 65535
    · have HB := Lib.hid hb
      have HE := Lib.hid (inW_iff.2 hEc)
      clear hb
      go_wp2_with fail
      clear x0 x1 x2 fx0 fx1 fx2 xl y0 y1 y2 fy0 fy1 fy2 yl
      refine (implNext_full a b p c HO1.out HE.out ad hle HB.out _ HG12.out.f).mono ?_; rintro e w13 ⟨rfl, hb13⟩
      have HG13 := Lib.hid (HG12.out.below hb13)
      have hB13 := hB12.trans (hb13.mono (Nat.le_of_lt (Nat.lt_of_le_of_lt hlow HG12.out.x.2.2)))
      have hx13 := HG13.out.x.2.2
      clear hb13 HG12 hB12
      obtain ⟨⟨x0, x1, x2⟩, ⟨fx0, fx1, fx2⟩, xl⟩ := HG13.out.x
      obtain ⟨⟨y0, y1, y2⟩, ⟨fy0, fy1, fy2⟩, yl⟩ := HG13.out.y
      have hble : decide (c ≤ a) = true := by simp; omega
      have hbeq : (b == 65535) = true := by rw [HB.out]; rfl
      go_wp2
      go_ret
      exact ⟨rfl, hB13.alloc (by omega) _⟩
    · have hb5 := (wordOk_iff.1 HO1.out)
      have HN := Lib.hid (later_on HO1.out (wordOk_iff.2 ⟨hb5.1, by omega, by omega⟩))
      have HE := Lib.hid (inW_iff.2 hEc)
      clear hb5
      go_wp2_with fail
      clear x0 x1 x2 fx0 fx1 fx2 xl y0 y1 y2 fy0 fy1 fy2 yl
      refine (implNext_on a b p c HO1.out HE.out ad hle hb _ HG12.out.f).mono ?_; rintro e w13 ⟨rfl, hb13⟩
      have HG13 := Lib.hid (HG12.out.below hb13)
      have hB13 := hB12.trans (hb13.mono (Nat.le_of_lt (Nat.lt_of_le_of_lt hlow HG12.out.x.2.2)))
      have hx13 := HG13.out.x.2.2
      clear hb13 HG12 hB12
      obtain ⟨⟨x0, x1, x2⟩, ⟨fx0, fx1, fx2⟩, xl⟩ := HG13.out.x
      obtain ⟨⟨y0, y1, y2⟩, ⟨fy0, fy1, fy2⟩, yl⟩ := HG13.out.y
      go_wp2_with fail
      refine (implLater_any a (b + 1) a b false p _).mono ?_; rintro e w15 ⟨rfl, hb15⟩
      rw [HN.out]
      have hz15 : w13.heap.size < w15.heap.size := by have := hb15.size; simp at this; omega
      have k2 : w15.cell? ⟨w13.heap.size, 2, none⟩ = some (.bool false) := by rw [(wcell hb15).1 _ _ (by simp)]; go_simp
      have hB15 := (hB13.alloc (by omega) _).trans (hb15.mono (by simp; omega))
      clear hb15
      clear x0 x1 x2 fx0 fx1 fx2 xl y0 y1 y2 fy0 fy1 fy2 yl
      go_wp2
      go_ret
      exact ⟨rfl, hB15⟩
end Go.Proofs.YtilgfcbjonalaaaDoor
