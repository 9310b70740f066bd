/- ParseAct: the program's. -/
import Derived.Test.YtilgfcbjonalaaaDoorActP
import Derived.Test.YtilgfcbjonalaaaDoorNums
import Derived.Test.YtilgfcbjonalaaaDoorSplit
import Derived.Deep.RegionLaw
import Derived.Deep.AppendLies
namespace Go.Proofs.YtilgfcbjonalaaaDoor
open Go.RowKit

/-- a zero act lies in block B -/
def ZA (w : World) (B : Nat) : Prop := (w.cell? ⟨B, 0, none⟩ = some (.int .i64 0) ∧ w.cell? ⟨B, 1, none⟩ = some (.int .i64 0) ∧ w.cell? ⟨B, 2, none⟩ = some (.int .i64 0)) ∧
  (w.frozen? ⟨B, 0, none⟩ = false ∧ w.frozen? ⟨B, 1, none⟩ = false ∧ w.frozen? ⟨B, 2, none⟩ = false) ∧ B < w.heap.size
theorem ZA.made (w : World) (t : TypeId) : ZA (w.alloc (.cells #[.int .i64 0, .int .i64 0, .int .i64 0] t)) w.heap.size := by
  refine ⟨⟨?_, ?_, ?_⟩, ⟨?_, ?_, ?_⟩, ?_⟩ <;> first | go_simp | skip
  all_goals simp
theorem ZA.below {w w' : World} {B : Nat} (k : ZA w B) (hb : Below w.heap.size w w') : ZA w' B := by
  obtain ⟨⟨k1, k2, k3⟩, ⟨k4, k5, k6⟩, k7⟩ := k
  obtain ⟨hc, hf⟩ := bcell hb
  exact ⟨⟨(hc _ _ k7).trans k1, (hc _ _ k7).trans k2, (hc _ _ k7).trans k3⟩, ⟨(hf _ _ k7).trans k4, (hf _ _ k7).trans k5, (hf _ _ k7).trans k6⟩, Nat.lt_of_lt_of_le k7 hb.size⟩
theorem ZA.alloc {w : World} {B : Nat} (k : ZA w B) (o : Obj) : ZA (w.alloc o) B := k.below ((Below.refl _ _).alloc (Nat.le_refl _) _)
theorem ZA.drew {w : World} {B : Nat} (k : ZA w B) : ZA w.drew B := k

theorem parts_cons (s : ByteArray) (c : Nat) : ∃ p0 R, parts s c = p0 :: R := by
  cases h : parts s c with
  | nil => exact absurd h (by simp [parts])
  | cons p R => exact ⟨p, R, rfl⟩
theorem parts_sizes {s : ByteArray} {c : UInt8} {x : ByteArray} (h : x ∈ parts s c.toNat) : x.size ≤ s.size := by
  have hj := parts_join s c
  have hm : bl x ∈ (parts s c.toNat).map bl := List.mem_map_of_mem h
  have : (bl x).length ≤ (bl s).length := by
    rw [← hj]
    generalize (parts s c.toNat).map bl = L at hm
    induction L with
    | nil => cases hm
    | cons a r ih =>
      rcases List.mem_cons.1 hm with e | hm
      · rw [e]
        cases r with
        | nil => rw [join_one]; exact Nat.le_refl _
        | cons b r' => rw [join_two _ _ _ (by simp)]; simp
      · cases r with
        | nil => cases hm
        | cons b r' =>
          rw [join_two _ _ _ (by simp)]
          have := ih hm
          simp at this ⊢
          omega
  rwa [bl_len, bl_len] at this
theorem parts_count (s : ByteArray) (c : Nat) : (parts s c).length ≤ s.size + 1 := by
  have := cutTo_len s c s.size
  simp [parts]
  exact this

theorem two_of_length {R : List ByteArray} (h : R.length = 2) : ∃ x z, R = [x, z] := by
  match R, h with
  | [x, z], _ => exact ⟨x, z, rfl⟩

/-- the act where the pieces fit -/
theorem act_fit1 {s p0 x : ByteArray} (hp : parts s 32 = [p0, x]) (h0 : bl p0 = verb 0) {y : Int} (hy : numIs x y) (ho : actOk 0 y 0 = true) : actIs s 0 y 0 :=
  (actIs_iff s 0 y 0).2 ⟨ho, by rw [hp]; simp [actPieces, h0]; exact hy.1⟩
theorem act_fit2 {s p0 x z : ByteArray} {k : Int} (hk : ¬ k = 0) (hp : parts s 32 = [p0, x, z]) (h0 : bl p0 = verb k) {y n : Int} (hy : numIs x y) (hn : numIs z n) (ho : actOk k y n = true) : actIs s k y n :=
  (actIs_iff s k y n).2 ⟨ho, by rw [hp]; simp [actPieces, h0, hk]; exact ⟨hy.1, hn.1⟩⟩
/-- no act: by the verb, by the number of pieces, by the numbers -/
theorem act_verb {s p0 : ByteArray} {R : List ByteArray} (hp : parts s 32 = p0 :: R) (h0 : ¬ bl p0 = verb 0) (h1 : ¬ bl p0 = verb 1) (h2 : ¬ bl p0 = verb 2) : ∀ k y n, ¬ actIs s k y n := by
  intro k y n h
  obtain ⟨_, hk, hv, _⟩ := actIs_parts hp h
  rcases hk with rfl | rfl | rfl
  · exact h0 hv
  · exact h1 hv
  · exact h2 hv
theorem act_count {s p0 : ByteArray} {R : List ByteArray} (hp : parts s 32 = p0 :: R) {k : Int} (hk : k = 0 ∨ k = 1 ∨ k = 2) (h0 : bl p0 = verb k) (hl : ¬ R.length = (if k = 0 then 1 else 2)) : ∀ k y n, ¬ actIs s k y n := by
  intro k' y n h
  obtain ⟨_, hk', hv, hr⟩ := actIs_parts hp h
  obtain rfl := verb_inj hk hk' (h0.symm.trans hv)
  have := congrArg List.length hr
  rw [List.length_map] at this
  apply hl
  rw [this]
  split <;> rfl
theorem act_bad1 {s p0 x : ByteArray} (hp : parts s 32 = [p0, x]) (h0 : bl p0 = verb 0) {y : Int} (hy : numIs x y) (ho : actOk 0 y 0 = false) : ∀ k y n, ¬ actIs s k y n := by
  intro k' y' n h
  obtain ⟨ho', hk', hv, hr⟩ := actIs_parts hp h
  obtain rfl := verb_inj (.inl rfl) hk' (h0.symm.trans hv)
  simp at hr
  obtain rfl := itoa_inj (hy.1.symm.trans hr)
  have hn : n = 0 := by
    have := ho'
    rw [actOk_get y n (act_parts ho').2.1.1 (act_parts ho').2.1.2] at this
    simpa using this
  rw [hn, ho] at ho'
  cases ho'
theorem act_bad2 {s p0 x z : ByteArray} {k : Int} (hk : k = 1 ∨ k = 2) (hp : parts s 32 = [p0, x, z]) (h0 : bl p0 = verb k) {y n : Int} (hy : numIs x y) (hn : numIs z n) (ho : actOk k y n = false) : ∀ k y n, ¬ actIs s k y n := by
  intro k' y' n' h
  obtain ⟨ho', hk', hv, hr⟩ := actIs_parts hp h
  obtain rfl := verb_inj (.inr hk) hk' (h0.symm.trans hv)
  rw [if_neg (by omega)] at hr
  simp at hr
  obtain rfl := itoa_inj (hy.1.symm.trans hr.1)
  obtain rfl := itoa_inj (hn.1.symm.trans hr.2)
  rw [ho] at ho'
  cases ho'

set_option maxHeartbeats 6400000 in
set_option maxRecDepth 100000 in
theorem implParseAct_any (s : ByteArray) (hs : s.size ≤ 1048576) (w : World) (ht : Tab w) :
    Calls Tryd.prog 31 #[.string s] w (ActOut s w) := by
  have HT0 := Lib.hid (ht.below ((Below.refl w.heap.size w).alloc (Nat.le_refl _) (.cells #[.int .i64 0, .int .i64 0, .int .i64 0] 40)))
  clear ht
  go_enter Tryd.func31, Tryd.ntmps31
  go_wp2_with fail
  have HZ0 := Lib.hid (ZA.made w 40)
  have hB0 := (Below.refl w.heap.size w).alloc (Nat.le_refl _) (.cells #[.int .i64 0, .int .i64 0, .int .i64 0] 40)
  generalize w.alloc (.cells #[.int .i64 0, .int .i64 0, .int .i64 0] 40) = w0 at HT0 HZ0 hB0 ⊢
  refine (show Calls Tryd.prog 57 #[.string s, .int .i32 32] w0 _ from splitAt_any s 32 (by decide) w0 hs).mono ?_; rintro e w1 ⟨v, rfl, hrow, hb1⟩
  have hcount := parts_count s 32
  have hnn : (cutTo s 32 s.size).1.length + 1 = (parts s 32).length := by simp [parts]
  rw [hnn] at hrow
  clear hnn
  obtain ⟨p0, R, hp⟩ := parts_cons s 32
  have hsz : ∀ x ∈ parts s 32, x.size ≤ 1048576 := fun x hx => Nat.le_trans (parts_sizes (c := 32) hx) hs
  rw [hp] at hrow hcount hsz
  have HP := Lib.hid hp
  clear hp
  obtain ⟨g, cap, rfl, hgb, hg⟩ := hrow.form (by simp)
  have hcellP : ∀ (j : Nat) (x : ByteArray), (p0 :: R)[j]? = some x → w1.cell? ⟨g, j, none⟩ = some (.string x) := fun j x hx => by
    rw [hrow.cellAt j (by rw [Nat.mul_one]; exact (List.getElem?_eq_some_iff.1 hx).1), List.getElem?_map, hx]; rfl
  have hcap : R.length + 1 ≤ cap := by
    rcases hrow.2 with ⟨e, _⟩ | ⟨g', cap', cur, e, _, _, hn, _⟩
    · cases e
    · cases e; simpa using hn
  have hB1 := hB0.trans (hb1.mono (Nat.le_of_lt HZ0.out.2.2))
  have HZ1 := Lib.hid (HZ0.out.below hb1)
  have HT1 := Lib.hid (HT0.out.below hb1)
  have HC := Lib.hid hcellP
  have HSZ := Lib.hid hsz
  have hlen1 : ((p0 :: R).length : Int) = (R.length : Int) + 1 := by simp
  have hlr : R.length ≤ 1048577 := by simp at hcount; omega
  clear hrow hb1 HZ0 HT0 hB0 hcellP hsz hgb hcount
  rw [List.length_cons]
  clear hlen1
  have hkey : ∀ (A : Option Addr) (cap' : Nat), (0 < R.length → A = some ⟨g, 1, none⟩) → Calls Tryd.prog 81 #[.slice A R.length cap'] w1 (NumsOut R w1) := fun A cap' hA =>
    parseNumbers_any R A cap' g 1 w1 hlr hA hg (fun j x hx => by
      have := HC.out (j + 1) x (by simpa using hx)
      rwa [Nat.add_comm] at this) (fun j x hx => HSZ.out x (List.mem_cons_of_mem _ (List.mem_of_getElem? hx))) HT1.out
  have HKEY := Lib.hid hkey
  have d0 : w1.cell? ⟨g, 0, none⟩ = some (.string p0) := HC.out 0 p0 rfl
  clear hkey
  go_wp2_with fail
  all_goals
    first | refine (HKEY.out _ _ (fun h => by omega)).mono ?_ | refine (HKEY.out _ _ (fun _ => rfl)).mono ?_
    rintro e w2 ⟨hout, hb2⟩
    have hz2 := HZ1.out.2.2
    have hB2 := hB1.trans (hb2.mono (Nat.le_of_lt hz2))
    have HZ2 := Lib.hid (HZ1.out.below hb2)
    have e0 : w2.cell? ⟨g, 0, none⟩ = some (.string p0) := ((bcell hb2).1 _ _ hg).trans d0
    have hgs : g < w2.heap.size := Nat.lt_of_lt_of_le hg hb2.size
    have hsz12 := hb2.size
    clear HZ1 hB1 d0 HKEY hb2
    rcases hout with ⟨xs, v2, hto, rfl, hox⟩ | ⟨⟨j, x, hx, hno⟩, rfl⟩
    rotate_left
    · have HN := Lib.hid (show ∀ k y n, ¬ actIs s k y n from fun k y n h => by
        obtain ⟨v, hv⟩ := actIs_nums HP.out h hx
        exact hno v hv)
      clear hx hno
      obtain ⟨⟨z0, z1, z2⟩, ⟨f0, f1, f2⟩, zl⟩ := HZ2.out
      clear HZ2
      go_wp2
      exact bodyPost_ret (v := .tuple #[.agg #[.int .i64 0, .int .i64 0, .int .i64 0], .bool false]) (by simp [results, Tryd.results31, go_sem, z0, z1, z2]) rfl ⟨.inr ⟨HN.out, rfl⟩, ((hB2.setCell (by simp) _).setCell (by simp) _).setCell (by simp) _⟩
    have hb012 : (p0.toList == [103, 101, 116]) = decide (bl p0 = verb 0) ∧ (p0.toList == [112, 117, 116]) = decide (bl p0 = verb 1) ∧ (p0.toList == [97, 100, 100]) = decide (bl p0 = verb 2) := by
      rw [ByteArray.toList_eq]
      exact ⟨by rw [Bool.eq_iff_iff]; simp [bl, verb], by rw [Bool.eq_iff_iff]; simp [bl, verb], by rw [Bool.eq_iff_iff]; simp [bl, verb]⟩
    obtain ⟨b0, b1, b2⟩ := hb012
    by_cases hv : bl p0 = verb 0
    · have c0 : decide (bl p0 = verb 0) = true := by simp [hv, verb]
      rw [c0] at b0
      have c1 : decide (bl p0 = verb 1) = false := by simp [hv, verb]
      rw [c1] at b1
      have c2 : decide (bl p0 = verb 2) = false := by simp [hv, verb]
      rw [c2] at b2
      have V := Lib.hid hv
      clear hv c0 c1 c2
      by_cases hl : R.length = 1
      · obtain ⟨x, rfl⟩ := List.length_eq_one_iff.1 hl
        obtain ⟨y, hxs, hy⟩ := hto.2 0 x (by simp) rfl
        obtain ⟨g2, cap2, rfl, _, hg2⟩ := hox.form (by simp)
        have q0 : w2.cell? ⟨g2, 0, none⟩ = some (.int .i64 y) := by rw [hox.cellAt 0 (by simp), List.getElem?_map, hxs]; rfl
        have HY := Lib.hid hy
        clear hox hto hxs hy hl
        obtain ⟨⟨z0, z1, z2⟩, ⟨f0, f1, f2⟩, zl⟩ := HZ2.out
        go_wp2_with fail
        refine (implActOk_any 0 y 0 _).mono ?_; rintro e w3 ⟨rfl, hb3⟩
        have hz3 : w2.heap.size < w3.heap.size := by have := hb3.size; simp at this; omega
        have hz4 : w.heap.size < w3.heap.size := by omega
        have u0 : w3.cell? ⟨w.heap.size, 0, none⟩ = some (.int .i64 0) := by rw [(bcell hb3).1 _ _ (by simp; omega)]; go_simp
        have g0 : w3.frozen? ⟨w.heap.size, 0, none⟩ = false := by rw [(bcell hb3).2 _ _ (by simp; omega)]; go_simp
        have u1 : w3.cell? ⟨w.heap.size, 1, none⟩ = some (.int .i64 0) := by rw [(bcell hb3).1 _ _ (by simp; omega)]; go_simp
        have g1 : w3.frozen? ⟨w.heap.size, 1, none⟩ = false := by rw [(bcell hb3).2 _ _ (by simp; omega)]; go_simp
        have u2 : w3.cell? ⟨w.heap.size, 2, none⟩ = some (.int .i64 0) := by rw [(bcell hb3).1 _ _ (by simp; omega)]; go_simp
        have g2 : w3.frozen? ⟨w.heap.size, 2, none⟩ = false := by rw [(bcell hb3).2 _ _ (by simp; omega)]; go_simp
        have x0 : w3.cell? ⟨w2.heap.size, 0, none⟩ = some (.int .i64 0) := by rw [(bcell hb3).1 _ _ (by simp)]; go_simp
        have x1 : w3.cell? ⟨w2.heap.size, 1, none⟩ = some (.int .i64 y) := by rw [(bcell hb3).1 _ _ (by simp)]; go_simp
        have x2 : w3.cell? ⟨w2.heap.size, 2, none⟩ = some (.int .i64 0) := by rw [(bcell hb3).1 _ _ (by simp)]; go_simp
        have hB3 : Below w.heap.size w w3 := (hB2.alloc (Nat.le_of_lt zl) _).trans (hb3.mono (by simp; omega))
        clear hb3
        cases ho : actOk 0 y 0
        · have HN := Lib.hid (act_bad1 HP.out V.out HY.out ho)
          clear ho
          go_wp2
          exact bodyPost_ret (v := .tuple #[.agg #[.int .i64 0, .int .i64 0, .int .i64 0], .bool false]) (by simp [results, Tryd.results31, go_sem, u0, u1, u2]) rfl ⟨.inr ⟨HN.out, rfl⟩, ((hB3.setCell (by simp) _).setCell (by simp) _).setCell (by simp) _⟩
        · have HN := Lib.hid (act_fit1 HP.out V.out HY.out ho)
          clear ho
          go_wp2
          exact bodyPost_ret (v := .tuple #[.agg #[.int .i64 0, .int .i64 y, .int .i64 0], .bool true]) (by simp [results, Tryd.results31, go_sem, u0, u1, u2]) rfl ⟨.inl ⟨0, y, 0, HN.out, rfl⟩, ((hB3.setCell (by simp) _).setCell (by simp) _).setCell (by simp) _⟩
      · have HN := Lib.hid (act_count HP.out (k := 0) (by decide) V.out (by simpa using hl))
        obtain ⟨A2, cap2, rfl⟩ : ∃ a c, v2 = .slice a R.length c := by
          rcases hox.2 with ⟨e, h⟩ | ⟨g', cap', cur, e, _⟩
          · exact ⟨none, 0, by rw [e, h]⟩
          · exact ⟨_, _, e⟩
        have hl1 : ((R.length : Int) == 1) = false := by simp; omega
        clear hox hto hl
        generalize R.length = N at *
        obtain ⟨⟨z0, z1, z2⟩, ⟨f0, f1, f2⟩, zl⟩ := HZ2.out
        clear HZ2
        go_wp2
        exact bodyPost_ret (v := .tuple #[.agg #[.int .i64 0, .int .i64 0, .int .i64 0], .bool false]) (by simp [results, Tryd.results31, go_sem, z0, z1, z2, zl]) rfl ⟨.inr ⟨HN.out, rfl⟩, by
          refine Below.alloc ?_ (by simp [World.setCell]; exact Nat.le_of_lt zl) _
          exact ((hB2.setCell (by simp) _).setCell (by simp) _).setCell (by simp) _⟩
    have n0 := hv
    clear hv
    by_cases hv : bl p0 = verb 1
    · have c0 : decide (bl p0 = verb 0) = false := by simp [hv, verb]
      rw [c0] at b0
      have c1 : decide (bl p0 = verb 1) = true := by simp [hv, verb]
      rw [c1] at b1
      have c2 : decide (bl p0 = verb 2) = false := by simp [hv, verb]
      rw [c2] at b2
      have V := Lib.hid hv
      clear hv c0 c1 c2
      by_cases hl : R.length = 2
      · obtain ⟨x, z, rfl⟩ := two_of_length hl
        obtain ⟨y, hxs, hy⟩ := hto.2 0 x (by simp) rfl
        obtain ⟨n, hxs2, hn⟩ := hto.2 1 z (by simp) rfl
        obtain ⟨g2, cap2, rfl, _, hg2⟩ := hox.form (by simp)
        have q0 : w2.cell? ⟨g2, 0, none⟩ = some (.int .i64 y) := by rw [hox.cellAt 0 (by simp), List.getElem?_map, hxs]; rfl
        have q1 : w2.cell? ⟨g2, 1, none⟩ = some (.int .i64 n) := by rw [hox.cellAt 1 (by simp), List.getElem?_map, hxs2]; rfl
        have HY := Lib.hid hy
        have HNN := Lib.hid hn
        clear hox hto hxs hxs2 hy hn hl
        obtain ⟨⟨z0, z1, z2⟩, ⟨f0, f1, f2⟩, zl⟩ := HZ2.out
        go_wp2_with fail
        go_region_law (fail)
        all_goals
          go_wp2_with fail
          refine (implActOk_any 1 y n _).mono ?_; rintro e w3 ⟨rfl, hb3⟩
          have hz3 : w2.heap.size < w3.heap.size := by have := hb3.size; simp at this; omega
          have hz4 : w.heap.size < w3.heap.size := by omega
          have u0 : w3.cell? ⟨w.heap.size, 0, none⟩ = some (.int .i64 0) := by rw [(bcell hb3).1 _ _ (by simp; omega)]; go_simp
          have g0 : w3.frozen? ⟨w.heap.size, 0, none⟩ = false := by rw [(bcell hb3).2 _ _ (by simp; omega)]; go_simp
          have u1 : w3.cell? ⟨w.heap.size, 1, none⟩ = some (.int .i64 0) := by rw [(bcell hb3).1 _ _ (by simp; omega)]; go_simp
          have g1 : w3.frozen? ⟨w.heap.size, 1, none⟩ = false := by rw [(bcell hb3).2 _ _ (by simp; omega)]; go_simp
          have u2 : w3.cell? ⟨w.heap.size, 2, none⟩ = some (.int .i64 0) := by rw [(bcell hb3).1 _ _ (by simp; omega)]; go_simp
          have g2 : w3.frozen? ⟨w.heap.size, 2, none⟩ = false := by rw [(bcell hb3).2 _ _ (by simp; omega)]; go_simp
          have x0 : w3.cell? ⟨w2.heap.size, 0, none⟩ = some (.int .i64 1) := by rw [(bcell hb3).1 _ _ (by simp)]; go_simp
          have x1 : w3.cell? ⟨w2.heap.size, 1, none⟩ = some (.int .i64 y) := by rw [(bcell hb3).1 _ _ (by simp)]; go_simp
          have x2 : w3.cell? ⟨w2.heap.size, 2, none⟩ = some (.int .i64 n) := by rw [(bcell hb3).1 _ _ (by simp)]; go_simp
          have hB3 : Below w.heap.size w w3 := by
            refine Below.trans ?_ (hb3.mono (by simp; omega))
            (repeat' first | (refine Below.drew ?_) | (refine Below.setCell ?_ (by first | (simp; done) | (simp; omega)) _) | (refine Below.alloc ?_ (by first | omega | (simp; omega)) _))
            exact hB2
          clear hb3
          cases ho : actOk 1 y n
          · have HN := Lib.hid (act_bad2 (k := 1) (by decide) HP.out V.out HY.out HNN.out ho)
            clear ho
            go_wp2
            exact bodyPost_ret (v := .tuple #[.agg #[.int .i64 0, .int .i64 0, .int .i64 0], .bool false]) (by simp [results, Tryd.results31, go_sem, u0, u1, u2]) rfl ⟨.inr ⟨HN.out, rfl⟩, ((hB3.setCell (by simp) _).setCell (by simp) _).setCell (by simp) _⟩
          · have HN := Lib.hid (act_fit2 (k := 1) (by decide) HP.out V.out HY.out HNN.out ho)
            clear ho
            go_wp2
            exact bodyPost_ret (v := .tuple #[.agg #[.int .i64 1, .int .i64 y, .int .i64 n], .bool true]) (by simp [results, Tryd.results31, go_sem, u0, u1, u2]) rfl ⟨.inl ⟨1, y, n, HN.out, rfl⟩, ((hB3.setCell (by simp) _).setCell (by simp) _).setCell (by simp) _⟩
      · have HN := Lib.hid (act_count HP.out (k := 1) (by decide) V.out (by simpa using hl))
        obtain ⟨A2, cap2, rfl⟩ : ∃ a c, v2 = .slice a R.length c := by
          rcases hox.2 with ⟨e, h⟩ | ⟨g', cap', cur, e, _⟩
          · exact ⟨none, 0, by rw [e, h]⟩
          · exact ⟨_, _, e⟩
        have hl1 : ((R.length : Int) == 2) = false := by simp; omega
        clear hox hto hl
        generalize R.length = N at *
        obtain ⟨⟨z0, z1, z2⟩, ⟨f0, f1, f2⟩, zl⟩ := HZ2.out
        clear HZ2
        go_wp2
        exact bodyPost_ret (v := .tuple #[.agg #[.int .i64 0, .int .i64 0, .int .i64 0], .bool false]) (by simp [results, Tryd.results31, go_sem, z0, z1, z2, zl]) rfl ⟨.inr ⟨HN.out, rfl⟩, by
          refine Below.alloc ?_ (by simp [World.setCell]; exact Nat.le_of_lt zl) _
          exact ((hB2.setCell (by simp) _).setCell (by simp) _).setCell (by simp) _⟩
    have n1 := hv
    clear hv
    by_cases hv : bl p0 = verb 2
    · have c0 : decide (bl p0 = verb 0) = false := by simp [hv, verb]
      rw [c0] at b0
      have c1 : decide (bl p0 = verb 1) = false := by simp [hv, verb]
      rw [c1] at b1
      have c2 : decide (bl p0 = verb 2) = true := by simp [hv, verb]
      rw [c2] at b2
      have V := Lib.hid hv
      clear hv c0 c1 c2
      by_cases hl : R.length = 2
      · obtain ⟨x, z, rfl⟩ := two_of_length hl
        obtain ⟨y, hxs, hy⟩ := hto.2 0 x (by simp) rfl
        obtain ⟨n, hxs2, hn⟩ := hto.2 1 z (by simp) rfl
        obtain ⟨g2, cap2, rfl, _, hg2⟩ := hox.form (by simp)
        have q0 : w2.cell? ⟨g2, 0, none⟩ = some (.int .i64 y) := by rw [hox.cellAt 0 (by simp), List.getElem?_map, hxs]; rfl
        have q1 : w2.cell? ⟨g2, 1, none⟩ = some (.int .i64 n) := by rw [hox.cellAt 1 (by simp), List.getElem?_map, hxs2]; rfl
        have HY := Lib.hid hy
        have HNN := Lib.hid hn
        clear hox hto hxs hxs2 hy hn hl
        obtain ⟨⟨z0, z1, z2⟩, ⟨f0, f1, f2⟩, zl⟩ := HZ2.out
        go_wp2_with fail
        go_region_law (fail)
        all_goals
          go_wp2_with fail
          refine (implActOk_any 2 y n _).mono ?_; rintro e w3 ⟨rfl, hb3⟩
          have hz3 : w2.heap.size < w3.heap.size := by have := hb3.size; simp at this; omega
          have hz4 : w.heap.size < w3.heap.size := by omega
          have u0 : w3.cell? ⟨w.heap.size, 0, none⟩ = some (.int .i64 0) := by rw [(bcell hb3).1 _ _ (by simp; omega)]; go_simp
          have g0 : w3.frozen? ⟨w.heap.size, 0, none⟩ = false := by rw [(bcell hb3).2 _ _ (by simp; omega)]; go_simp
          have u1 : w3.cell? ⟨w.heap.size, 1, none⟩ = some (.int .i64 0) := by rw [(bcell hb3).1 _ _ (by simp; omega)]; go_simp
          have g1 : w3.frozen? ⟨w.heap.size, 1, none⟩ = false := by rw [(bcell hb3).2 _ _ (by simp; omega)]; go_simp
          have u2 : w3.cell? ⟨w.heap.size, 2, none⟩ = some (.int .i64 0) := by rw [(bcell hb3).1 _ _ (by simp; omega)]; go_simp
          have g2 : w3.frozen? ⟨w.heap.size, 2, none⟩ = false := by rw [(bcell hb3).2 _ _ (by simp; omega)]; go_simp
          have x0 : w3.cell? ⟨w2.heap.size, 0, none⟩ = some (.int .i64 2) := by rw [(bcell hb3).1 _ _ (by simp)]; go_simp
          have x1 : w3.cell? ⟨w2.heap.size, 1, none⟩ = some (.int .i64 y) := by rw [(bcell hb3).1 _ _ (by simp)]; go_simp
          have x2 : w3.cell? ⟨w2.heap.size, 2, none⟩ = some (.int .i64 n) := by rw [(bcell hb3).1 _ _ (by simp)]; go_simp
          have hB3 : Below w.heap.size w w3 := by
            refine Below.trans ?_ (hb3.mono (by simp; omega))
            (repeat' first | (refine Below.drew ?_) | (refine Below.setCell ?_ (by first | (simp; done) | (simp; omega)) _) | (refine Below.alloc ?_ (by first | omega | (simp; omega)) _))
            exact hB2
          clear hb3
          cases ho : actOk 2 y n
          · have HN := Lib.hid (act_bad2 (k := 2) (by decide) HP.out V.out HY.out HNN.out ho)
            clear ho
            go_wp2
            exact bodyPost_ret (v := .tuple #[.agg #[.int .i64 0, .int .i64 0, .int .i64 0], .bool false]) (by simp [results, Tryd.results31, go_sem, u0, u1, u2]) rfl ⟨.inr ⟨HN.out, rfl⟩, ((hB3.setCell (by simp) _).setCell (by simp) _).setCell (by simp) _⟩
          · have HN := Lib.hid (act_fit2 (k := 2) (by decide) HP.out V.out HY.out HNN.out ho)
            clear ho
            go_wp2
            exact bodyPost_ret (v := .tuple #[.agg #[.int .i64 2, .int .i64 y, .int .i64 n], .bool true]) (by simp [results, Tryd.results31, go_sem, u0, u1, u2]) rfl ⟨.inl ⟨2, y, n, HN.out, rfl⟩, ((hB3.setCell (by simp) _).setCell (by simp) _).setCell (by simp) _⟩
      · have HN := Lib.hid (act_count HP.out (k := 2) (by decide) V.out (by simpa using hl))
        obtain ⟨A2, cap2, rfl⟩ : ∃ a c, v2 = .slice a R.length c := by
          rcases hox.2 with ⟨e, h⟩ | ⟨g', cap', cur, e, _⟩
          · exact ⟨none, 0, by rw [e, h]⟩
          · exact ⟨_, _, e⟩
        have hl1 : ((R.length : Int) == 2) = false := by simp; omega
        clear hox hto hl
        generalize R.length = N at *
        obtain ⟨⟨z0, z1, z2⟩, ⟨f0, f1, f2⟩, zl⟩ := HZ2.out
        clear HZ2
        go_wp2
        exact bodyPost_ret (v := .tuple #[.agg #[.int .i64 0, .int .i64 0, .int .i64 0], .bool false]) (by simp [results, Tryd.results31, go_sem, z0, z1, z2, zl]) rfl ⟨.inr ⟨HN.out, rfl⟩, by
          refine Below.alloc ?_ (by simp [World.setCell]; exact Nat.le_of_lt zl) _
          exact ((hB2.setCell (by simp) _).setCell (by simp) _).setCell (by simp) _⟩
    have n2 := hv
    clear hv
    have HN := Lib.hid (act_verb HP.out n0 n1 n2)
    have c0 : decide (bl p0 = verb 0) = false := by simp [n0]
    rw [c0] at b0
    have c1 : decide (bl p0 = verb 1) = false := by simp [n1]
    rw [c1] at b1
    have c2 : decide (bl p0 = verb 2) = false := by simp [n2]
    rw [c2] at b2
    clear c0 c1 c2 n0 n1 n2
    obtain ⟨A2, cap2, rfl⟩ : ∃ a c, v2 = .slice a R.length c := by
      rcases hox.2 with ⟨e, h⟩ | ⟨g', cap', cur, e, _⟩
      · exact ⟨none, 0, by rw [e, h]⟩
      · exact ⟨_, _, e⟩
    clear hox hto
    generalize R.length = N at *
    obtain ⟨⟨z0, z1, z2⟩, ⟨f0, f1, f2⟩, zl⟩ := HZ2.out
    clear HZ2
    go_wp2
    exact bodyPost_ret (v := .tuple #[.agg #[.int .i64 0, .int .i64 0, .int .i64 0], .bool false]) (by simp [results, Tryd.results31, go_sem, z0, z1, z2, zl]) rfl ⟨.inr ⟨HN.out, rfl⟩, by
      refine Below.alloc ?_ (by simp [World.setCell]; exact Nat.le_of_lt zl) _
      exact ((hB2.setCell (by simp) _).setCell (by simp) _).setCell (by simp) _⟩
end Go.Proofs.YtilgfcbjonalaaaDoor
