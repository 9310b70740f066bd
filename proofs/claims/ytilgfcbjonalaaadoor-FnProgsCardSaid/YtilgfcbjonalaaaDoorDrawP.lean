/- Contracts of the drawn acts and programs. -/
import Derived.Test.YtilgfcbjonalaaaDoorDraw
namespace Go.Proofs.YtilgfcbjonalaaaDoor
open Go.RowKit

theorem dcell {c : Nat} {W w1 : World} (hb : But c W.heap.size W w1) : (∀ b o, b < W.heap.size → ¬ b = c → w1.cell? ⟨b, o, none⟩ = W.cell? ⟨b, o, none⟩) ∧ (∀ b o, b < W.heap.size → ¬ b = c → w1.frozen? ⟨b, o, none⟩ = W.frozen? ⟨b, o, none⟩) :=
  ⟨fun b o h hc => World.cell?_of_block (a := ⟨b, o, none⟩) (hb.block b h hc), fun b o h hc => World.frozen?_of_block (a := ⟨b, o, none⟩) (hb.block b h hc)⟩

theorem Drawn.alloc_first {c n cp : Nat} {A : Option Addr} {w w' : World} {o : Obj} (h : Drawn c A n cp (w.alloc o) w') (_hc : c < w.heap.size) : Drawn c A n cp w w' :=
  ⟨h.cur, (But.of_below ((Below.refl w.heap.size w).alloc (Nat.le_refl _) o) (Nat.le_refl _)).trans (h.but.mono (by simp))⟩
theorem Drawn.below {c n cp B : Nat} {A : Option Addr} {w w' w'' : World} (h : Drawn c A n cp w w') (hb : Below B w' w'') (hB : w.heap.size ≤ B) (hc : c < B) : Drawn c A n cp w w'' := by
  obtain ⟨i, h', h0, h1, k⟩ := h.cur
  exact ⟨⟨i, h', h0, h1, k.keep (hb.block c hc)⟩, h.but.trans (But.of_below hb hB)⟩

theorem drawn_ret {c n cp r : Nat} {A : Option Addr} {w w2 : World} {o : Obj} {a b d : Value} (h : Drawn c A n cp w w2) (hc : c < w.heap.size) (hr : w.heap.size ≤ r) :
    Drawn c A n cp w ((((w2.setCell ⟨r, 0, none⟩ a).setCell ⟨r, 1, none⟩ b).setCell ⟨r, 2, none⟩ d).alloc o) :=
  h.below ((((Below.refl w.heap.size w2).setCell (p := ⟨r, 0, none⟩) hr a).setCell (p := ⟨r, 1, none⟩) hr b).setCell (p := ⟨r, 2, none⟩) hr d |>.alloc (by have := h.but.size; simpa [World.setCell] using this) o) (Nat.le_refl _) hc

theorem drawn_ret2 {c n cp : Nat} {A : Option Addr} {w w2 w3 : World} {o : Obj} {a b d x : Value} (h : Drawn c A n cp w w2) (h3 : Drawn c A n cp (w2.alloc o) w3) (hc : c < w.heap.size) (hr : w.heap.size < w2.heap.size) :
    Drawn c A n cp w ((((w3.setCell ⟨w2.heap.size, 2, none⟩ x).setCell ⟨w.heap.size, 0, none⟩ a).setCell ⟨w.heap.size, 1, none⟩ b).setCell ⟨w.heap.size, 2, none⟩ d) :=
  (h.trans (h3.alloc_first (by omega))).below (((((Below.refl w.heap.size w3).setCell (p := ⟨w2.heap.size, 2, none⟩) (by show w.heap.size ≤ w2.heap.size; omega) x).setCell (p := ⟨w.heap.size, 0, none⟩) (Nat.le_refl _) a).setCell (p := ⟨w.heap.size, 1, none⟩) (Nat.le_refl _) b).setCell (p := ⟨w.heap.size, 2, none⟩) (Nat.le_refl _) d) (Nat.le_refl _) hc

set_option maxHeartbeats 1600000 in
set_option maxRecDepth 100000 in
theorem l01DrawAct_any (c n cp : Nat) (A : Option Addr) (g : Nat → Int) (keys : Int) (hk : keys ≤ 256) (hk0 : -1000 ≤ keys) (w : World) (hn : n ≤ 1048576) (hs : St w c n cp A g) :
    Calls Tryd.prog 105 #[.pointer (some ⟨c, 0, none⟩), .int .i64 keys] w fun e w' => ∃ k y x : Int, e = .returned (.agg #[.int .i64 k, .int .i64 y, .int .i64 x]) ∧ Drawn c A n cp w w' := by
  have hcl := hs.lt
  go_enter Tryd.func105, Tryd.ntmps105
  go_wp2_with fail
  have hs1 := (hs.below ((Below.refl _ _).alloc (Nat.le_refl _) (.cells #[.int .i64 0, .int .i64 0, .int .i64 0] 40)) hcl)
  have hs2 := hs1.below ((Below.refl _ _).alloc (Nat.le_refl _) (.cells #[.int .i64 0, .int .i64 0, .int .i64 1, .int .i64 2, .int .i64 2] 3)) (by simp; omega)
  refine (l01PickInt_any c n cp A g _ 0 5 5 (fun j => if j = 2 then 1 else if j < 2 then 0 else 2) _ hn hs2 (by omega) (by omega) (by omega) (by simp) (fun j hj => ?_)).mono ?_
  · have h5 : j = 0 ∨ j = 1 ∨ j = 2 ∨ j = 3 ∨ j = 4 := by omega
    rcases h5 with rfl | rfl | rfl | rfl | rfl <;> simp
  rintro e w1 ⟨k, ⟨j, _, hkj⟩, rfl, hd1⟩
  have hk3 : k = 0 ∨ k = 1 ∨ k = 2 := by
    rw [hkj]
    split
    · omega
    · split <;> omega
  clear hkj
  have hs3 := hs2.drawn hd1
  obtain ⟨hc1, hf1⟩ := dcell hd1.but
  have hz1 : w.heap.size + 1 < w1.heap.size := by have := hd1.but.size; simp at this; omega
  have hz1' : w.heap.size < w1.heap.size := by omega
  have n0 : ¬ w.heap.size = c := by omega
  have n1 : ¬ w1.heap.size = c := by omega
  have HK := Lib.hid hk3
  clear hk3
  go_wp2_with fail
  refine (l01Below_any c n cp A g keys hk hk0 _ hn hs3).mono ?_; rintro e w2 ⟨y, _, rfl, hd2⟩
  have hs4 := hs3.drawn hd2
  obtain ⟨hc2, hf2⟩ := dcell hd2.but
  have hz2 : w.heap.size + 1 < w2.heap.size := by have := hd2.but.size; omega
  have hz2' : w.heap.size < w2.heap.size := by omega
  have n2 : ¬ w2.heap.size = c := by have := hd2.but.size; omega
  have HD := Lib.hid (((hd1.alloc_first (by simp; omega)).alloc_first hcl).trans hd2)
  have hs5 := hs4.below ((Below.refl _ _).alloc (Nat.le_refl _) (.cells #[.int .i64 k, .int .i64 y, .int .i64 0] 40)) hs4.lt
  clear hs1 hs2 hs3
  have q0 : w2.cell? ⟨w.heap.size, 0, none⟩ = some (.int .i64 0) := by rw [hc2 _ _ hz1' n0, hc1 _ _ (by simp; omega) n0]; simp
  have q1 : w2.cell? ⟨w.heap.size, 1, none⟩ = some (.int .i64 0) := by rw [hc2 _ _ hz1' n0, hc1 _ _ (by simp; omega) n0]; simp
  have q2 : w2.cell? ⟨w.heap.size, 2, none⟩ = some (.int .i64 0) := by rw [hc2 _ _ hz1' n0, hc1 _ _ (by simp; omega) n0]; simp
  have r0 : ∀ o, w2.frozen? ⟨w.heap.size, o, none⟩ = false := fun o => by rw [hf2 _ _ hz1' n0, hf1 _ _ (by simp; omega) n0]; simp
  clear hc1 hf1 hc2 hf2
  by_cases hk0 : k = 0
  · subst hk0
    go_wp2
    exact bodyPost_ret (v := .agg #[.int .i64 0, .int .i64 y, .int .i64 0]) (by simp [results, Tryd.results105, go_sem, q0, q1, q2, hz2']) rfl ⟨0, y, 0, rfl, drawn_ret HD.out hcl (by omega)⟩
  · have hpos : 0 < k := by have := HK.out; omega
    go_wp2_with fail
    refine (l01Below_any c n cp A g 30 (by omega) (by omega) _ hn hs5).mono ?_; rintro e w3 ⟨z, ⟨z0, _, z1⟩, rfl, hd3⟩
    have z1 := z1 (by omega)
    obtain ⟨hc3, hf3⟩ := dcell hd3.but
    have hz3 : w2.heap.size < w3.heap.size := by have := hd3.but.size; simp at this; omega
    have hz4 : w.heap.size < w3.heap.size := by omega
    have p0 : w3.cell? ⟨w.heap.size, 0, none⟩ = some (.int .i64 0) := by rw [hc3 _ _ (by simp; omega) n0, World.cell?_alloc_lt _ _ _ hz2', q0]
    have p1 : w3.cell? ⟨w.heap.size, 1, none⟩ = some (.int .i64 0) := by rw [hc3 _ _ (by simp; omega) n0, World.cell?_alloc_lt _ _ _ hz2', q1]
    have p2 : w3.cell? ⟨w.heap.size, 2, none⟩ = some (.int .i64 0) := by rw [hc3 _ _ (by simp; omega) n0, World.cell?_alloc_lt _ _ _ hz2', q2]
    have p3 : ∀ o, w3.frozen? ⟨w.heap.size, o, none⟩ = false := fun o => by rw [hf3 _ _ (by simp; omega) n0]; exact (((Below.refl w2.heap.size w2).alloc (Nat.le_refl _) _).frozen (p := ⟨w.heap.size, o, none⟩) hz2').trans (r0 o)
    have s0 : w3.cell? ⟨w2.heap.size, 0, none⟩ = some (.int .i64 k) := by rw [hc3 _ _ (by simp) n2]; simp
    have s1 : w3.cell? ⟨w2.heap.size, 1, none⟩ = some (.int .i64 y) := by rw [hc3 _ _ (by simp) n2]; simp
    have s2 : w3.cell? ⟨w2.heap.size, 2, none⟩ = some (.int .i64 0) := by rw [hc3 _ _ (by simp) n2]; simp
    have s3 : ∀ o, w3.frozen? ⟨w2.heap.size, o, none⟩ = false := fun o => by rw [hf3 _ _ (by simp) n2]; simp
    have m0 : ¬ w2.heap.size = w.heap.size := by omega
    have m1 : ¬ w.heap.size = w2.heap.size := by omega
    clear hc3 hf3 q0 q1 q2 r0
    go_wp2
    exact bodyPost_ret (v := .agg #[.int .i64 k, .int .i64 y, .int .i64 (z - 9)]) (by simp [results, Tryd.results105, go_sem, p0, p1, p2]) rfl ⟨k, y, z - 9, rfl, drawn_ret2 HD.out hd3 hcl hz2'⟩

/-- m acts in memory of the call's own -/
def OwnA (w : World) (lo : Nat) (v : Value) (m : Nat) : Prop := ∃ xs : List Int, xs.length = m * 3 ∧ w.ownsRow lo 40 3 v m (xs.map (.int .i64))
theorem ownsRow_base3 {w : World} {base base' size n : Nat} {e : TypeId} {v : Value} {xs : List Value} (h : w.ownsRow base' e size v n xs) (hb : base ≤ base') : w.ownsRow base e size v n xs := by
  refine ⟨h.1, ?_⟩
  rcases h.2 with h' | ⟨g, cap, cur, h1, h2, h3⟩
  · exact .inl h'
  · exact .inr ⟨g, cap, cur, h1, by omega, h3⟩
theorem ownsRow_block {w w' : World} {base size n : Nat} {e : TypeId} {v : Value} {xs : List Value} (h : w.ownsRow base e size v n xs) (hb : ∀ k, k < w.heap.size → base ≤ k → w'.heap[k]? = w.heap[k]?) : w'.ownsRow base e size v n xs := by
  refine ⟨h.1, ?_⟩
  rcases h.2 with h' | ⟨g, cap, cur, h1, h2, h3, h4⟩
  · exact .inl h'
  · refine .inr ⟨g, cap, cur, h1, h2, ?_, h4⟩
    rw [hb g (Array.getElem?_eq_some_iff.1 h3).1 h2]
    exact h3

set_option maxHeartbeats 1600000 in
set_option maxRecDepth 100000 in
theorem l01DrawProg_any (c n cp : Nat) (A : Option Addr) (g : Nat → Int) (keys : Int) (hk : keys ≤ 256) (hk0 : -1000 ≤ keys) (w : World) (hn : n ≤ 1048576) (hs : St w c n cp A g) :
    Calls Tryd.prog 84 #[.pointer (some ⟨c, 0, none⟩), .int .i64 keys] w fun e w' => ∃ v m, 1 ≤ m ∧ m ≤ 4 ∧ e = .returned v ∧ OwnA w' w.heap.size v m ∧ Drawn c A n cp w w' := by
  obtain ⟨i0, hi, hz0, hz1, hz2⟩ := info_parts infoAct
  have Hi := Lib.hid hi
  have Hz0 := Lib.hid hz0
  have Hz1 := Lib.hid hz1
  have Hz2 := Lib.hid hz2
  clear hi hz0 hz1 hz2
  have hcl := hs.lt
  go_enter Tryd.func84, Tryd.ntmps84
  go_wp2_with fail
  have hs1 := hs.below ((Below.refl _ _).alloc (Nat.le_refl _) (.cells #[] 40)) hcl
  have hown := World.ownsRow_made (base := w.heap.size) (size := 3) (e := 40) w #[] 0 (Nat.le_refl _) (Nat.zero_le _) rfl
  refine (l01Below_any c n cp A g 4 (by omega) (by omega) _ hn hs1).mono ?_; rintro e w1 ⟨q, ⟨q0, _, q1⟩, rfl, hd1⟩
  have q1 := q1 (by omega)
  have hs2 := hs1.drawn hd1
  have hd0 := hd1.alloc_first hcl
  have hown1 := ownsRow_block hown (fun k hk hb => hd1.but.block k hk (by omega))
  obtain ⟨t, rfl⟩ := Int.eq_ofNat_of_zero_le q0
  have Hown := Lib.hid hown1
  have HS := Lib.hid hs2
  have HD := Lib.hid hd0
  clear hown hown1 hs1 hs2 hd0 hd1
  go_wp2
  go_loopw [5, 6] (fun v x wr => ∃ (m r : Nat), m + r = 1 + t ∧ x = .int .i64 (r : Int) ∧ OwnA wr w.heap.size v m ∧ Drawn c A n cp w wr) (fun _ x _ => (intOf x).toNat)
  case atStart => exact ⟨0, 1 + t, by omega, by go_num, ⟨[], rfl, Hown.out⟩, HD.out⟩
  case round =>
    obtain ⟨m, r, hmr, rfl, ho, hd⟩ := hrel
    have HO := Lib.hid ho
    have hsr := hs.drawn hd
    clear ho
    by_cases hr : r = 0
    · subst hr
      obtain rfl : m = 1 + t := by omega
      go_wp2
      go_ret
      exact ⟨_, 1 + t, by omega, by omega, rfl, HO.out, hd⟩
    · have hpos : (0 : Int) < r := by omega
      go_wp2_with fail
      refine (l01DrawAct_any c n cp A g keys hk hk0 _ hn hsr).mono ?_; rintro e w2 ⟨a, b, d, rfl, hd2⟩
      obtain ⟨xs, hxl, hox⟩ := HO.out
      have hcr := hsr.lt
      have hox2 := ownsRow_block hox (fun k hk hb => hd2.but.block k hk (by omega))
      have hsz := hd.but.size
      have hsz2 := hd2.but.size
      have HD2 := Lib.hid (hd.trans hd2)
      have HM := Lib.hid hmr
      have hm4 : m ≤ 4 := by omega
      have hr5 : r ≤ 5 := by omega
      clear hmr
      go_wp2_with (at_builtin; refine wpList_append_own _ rfl _ _ 25 rfl w.heap.size 40 i0 _ 3 24 Tryd.underlying25 Hi.out Hz0.out Hz1.out Hz2.out rfl (by decide) _ _ _ rfl (hox2.alloc _) ⟨w2.heap.size, 0, none⟩ 1 1 [.int .i64 a, .int .i64 b, .int .i64 d] rfl rfl ?c1 ?c2 ?c3 ?c4 ?c5 ?_)
      case c1 =>
        intro j u hj
        match j, hj with
        | 0, hj => simp at hj; subst hj; simp [Addr.add]
        | 1, hj => simp at hj; subst hj; simp [Addr.add]
        | 2, hj => simp at hj; subst hj; simp [Addr.add]
      case c2 =>
        intro u hu
        simp at hu
        rcases hu with rfl | rfl | rfl <;> rfl
      case c3 => unfold maxLen; omega
      case c4 => omega
      case c5 => simp; omega
      intro v' w4 hown' hgrow _
      have hb4 : Below w.heap.size w2 w4 := ((Below.refl w.heap.size w2).alloc (by omega) _).grown hgrow (by simp; omega) (fun q hq => (hox.lt q hq).1)
      have hd4 : Drawn c A n cp w w4 := HD2.out.below hb4 (Nat.le_refl _) hcl
      have ho4 : OwnA w4 w.heap.size v' (m + 1) := ⟨xs ++ [a, b, d], by simp [hxl]; omega, by simpa using hown'⟩
      clear hown' hgrow hox hox2 hd hd2 hsr hb4 hxl
      go_wp2
      exact ⟨⟨m + 1, r - 1, by have := HM.out; omega, by go_num, ho4, hd4⟩, by simp [intOf]; omega⟩
end Go.Proofs.YtilgfcbjonalaaaDoor
