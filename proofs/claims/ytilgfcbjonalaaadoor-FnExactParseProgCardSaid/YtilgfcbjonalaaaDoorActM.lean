/- ParseAct: the model's. -/
import Derived.Test.YtilgfcbjonalaaaDoorActI
import Derived.Test.YtilgfcbjonalaaaDoorParts
import Derived.Deep.RegionHeld3
import Derived.Deep.CutRange
import Derived.Deep.DeepCutAuto
namespace Go.Proofs.YtilgfcbjonalaaaDoor
open Go.RowKit

theorem itoa_short (n : Int) (h0 : -1000000 ≤ n) (h1 : n ≤ 1000000) : (Lib.itoa n).length ≤ 8 := by
  by_cases h : 0 ≤ n
  · obtain ⟨m, rfl⟩ := Int.eq_ofNat_of_zero_le h
    rw [Lib.itoa_nonneg]
    have := (dec_len 7 m (by decide) (by omega)).2
    omega
  · obtain ⟨m, rfl⟩ : ∃ m : Nat, n = -(m : Int) := ⟨n.natAbs, by omega⟩
    rw [Lib.itoa_neg m (by omega)]
    have := (dec_len 7 m (by decide) (by omega)).2
    simp
    omega
theorem actIs_len {s : ByteArray} {k y n : Int} (h : actIs s k y n) : s.size ≤ 20 := by
  obtain ⟨h0, h1⟩ := h
  obtain ⟨hk, ⟨y0, y1⟩, n0, n1⟩ := act_parts h0
  have l1 := itoa_short n n0 n1
  have l2 : (Lib.itoa y).length ≤ 1 := by
    obtain ⟨m, rfl⟩ := Int.eq_ofNat_of_zero_le y0
    rw [Lib.itoa_nonneg]
    exact (dec_len 1 m (by decide) (by omega)).2
  rw [← bl_len, h1]
  rcases hk with rfl | rfl | rfl
  · rw [actText_get h0]; simp; omega
  · rw [actText_put h0]; simp; omega
  · rw [actText_add h0]; simp; omega

/-- no act of a kind below k -/
def NoAct (s : ByteArray) (k : Nat) : Prop := ∀ j : Nat, j < k → ∀ y n, ¬ actIs s (j : Int) y n
theorem NoAct.more {s : ByteArray} {k : Nat} (h : NoAct s k) (h' : ∀ y n, ¬ actIs s (k : Int) y n) : NoAct s (k + 1) := fun j hj => by
  by_cases e : j < k
  · exact h j e
  · obtain rfl : j = k := by omega
    exact h'
theorem NoAct.all {s : ByteArray} (h : NoAct s 3) : ∀ k y n, ¬ actIs s k y n := by
  intro k y n hh
  obtain ⟨hk, _, _⟩ := act_parts hh.1
  rcases hk with rfl | rfl | rfl
  · exact h 0 (by decide) y n hh
  · exact h 1 (by decide) y n hh
  · exact h 2 (by decide) y n hh
theorem no_verb {s p0 : ByteArray} {R : List ByteArray} (hp : parts s 32 = p0 :: R) {k : Int} (h0 : ¬ bl p0 = verb k) : ∀ y n, ¬ actIs s k y n := fun _ _ h => h0 (actIs_parts hp h).2.2.1

set_option maxHeartbeats 3200000 in
set_option maxRecDepth 100000 in
theorem specParseAct_big (s : ByteArray) (hs : 20 < s.size) (hs2 : s.size ≤ 1048576) (w : World) :
    Calls Tryd.prog 30 #[.string s] w (ActOut s w) := by
  have HN := Lib.hid (show ∀ k y n, ¬ actIs s k y n from fun k y n h => by have := actIs_len h; omega)
  go_enter Tryd.func30, Tryd.ntmps30
  go_wp2
  exact bodyPost_ret (v := .tuple #[.agg #[.int .i64 0, .int .i64 0, .int .i64 0], .bool false]) (by simp [results, Tryd.results30, go_sem]) rfl ⟨.inr ⟨HN.out, rfl⟩, (Below.refl _ _).alloc (Nat.le_refl _) _⟩

/-- two numbers lie in block B -/
def Nums2 (w : World) (B : Nat) (n0 n1 : Int) : Prop := (w.cell? ⟨B, 0, none⟩ = some (.int .i64 n0) ∧ w.cell? ⟨B, 1, none⟩ = some (.int .i64 n1)) ∧ (w.frozen? ⟨B, 0, none⟩ = false ∧ w.frozen? ⟨B, 1, none⟩ = false) ∧ B < w.heap.size
theorem Nums2.made (w : World) (t : TypeId) : Nums2 (w.alloc (.cells #[.int .i64 0, .int .i64 0] t)) w.heap.size 0 0 := by
  refine ⟨⟨?_, ?_⟩, ⟨?_, ?_⟩, ?_⟩ <;> first | go_simp | skip
  all_goals simp
theorem Nums2.below {w w' : World} {B : Nat} {n0 n1 : Int} (k : Nums2 w B n0 n1) (hb : Below w.heap.size w w') : Nums2 w' B n0 n1 := by
  obtain ⟨⟨k1, k2⟩, ⟨k4, k5⟩, k7⟩ := k
  obtain ⟨hc, hf⟩ := bcell hb
  exact ⟨⟨(hc _ _ k7).trans k1, (hc _ _ k7).trans k2⟩, ⟨(hf _ _ k7).trans k4, (hf _ _ k7).trans k5⟩, Nat.lt_of_lt_of_le k7 hb.size⟩
theorem Nums2.set0 {w : World} {B : Nat} {n0 n1 : Int} (k : Nums2 w B n0 n1) (x : Int) : Nums2 (w.setCell ⟨B, 0, none⟩ (.int .i64 x)) B x n1 := by
  obtain ⟨⟨k1, k2⟩, ⟨k4, k5⟩, k7⟩ := k
  refine ⟨⟨?_, ?_⟩, ⟨?_, ?_⟩, by simpa [World.setCell] using k7⟩ <;> go_simp
theorem Nums2.set1 {w : World} {B : Nat} {n0 n1 : Int} (k : Nums2 w B n0 n1) (x : Int) : Nums2 (w.setCell ⟨B, 1, none⟩ (.int .i64 x)) B n0 x := by
  obtain ⟨⟨k1, k2⟩, ⟨k4, k5⟩, k7⟩ := k
  refine ⟨⟨?_, ?_⟩, ⟨?_, ?_⟩, by simpa [World.setCell] using k7⟩ <;> go_simp
/-- what is read of the first two texts before round i -/
def Read2 (R : List ByteArray) (i : Nat) (n0 n1 : Int) : Prop := (2 ≤ i → ∃ x, R[0]? = some x ∧ numIs x n0) ∧ (3 ≤ i → ∃ x, R[1]? = some x ∧ numIs x n1) ∧ (i < 2 → n0 = 0) ∧ (i < 3 → n1 = 0)
theorem Read2.one {R : List ByteArray} {n0 n1 y : Int} {x : ByteArray} (h : Read2 R 1 n0 n1) (hx : R[1 - 1]? = some x) (hy : numIs x y) : Read2 R 2 y n1 :=
  ⟨fun _ => ⟨x, hx, hy⟩, fun h => by omega, fun h => by omega, fun _ => h.2.2.2 (by decide)⟩
theorem Read2.two {R : List ByteArray} {n0 n1 y : Int} {x : ByteArray} (h : Read2 R 2 n0 n1) (hx : R[2 - 1]? = some x) (hy : numIs x y) : Read2 R 3 n0 y :=
  ⟨fun _ => h.1 (by decide), fun _ => ⟨x, hx, hy⟩, fun h => by omega, fun h => by omega⟩
/-- where the text is an act's, its numbers are the ones that were read -/
theorem read_act {s p0 : ByteArray} {R : List ByteArray} (hp : parts s 32 = p0 :: R) {i : Nat} {n0 n1 : Int} (h : Read2 R i n0 n1) (hi1 : 1 ≤ i) (hi3 : i ≤ 3) (hf : R.length + 1 ≤ i ∨ i = 3) (hiR : i ≤ R.length + 1) {k y n : Int} (ha : actIs s k y n) : y = n0 ∧ n = n1 := by
  obtain ⟨ho, hk, hv, hr⟩ := actIs_parts hp ha
  have hlen := congrArg List.length hr
  rw [List.length_map] at hlen
  by_cases h0 : k = 0
  · subst h0
    rw [if_pos rfl] at hr hlen
    simp at hlen
    obtain rfl : i = 2 := by omega
    obtain ⟨x, hx, hn⟩ := h.1 (by decide)
    have hm : (R.map bl)[0]? = some (bl x) := by rw [List.getElem?_map, hx]; rfl
    rw [hr] at hm
    have e : Lib.itoa y = bl x := Option.some.inj hm
    have hz : n = 0 := by
      have := ho
      rw [actOk_get y n (act_parts ho).2.1.1 (act_parts ho).2.1.2] at this
      simpa using this
    exact ⟨itoa_inj (e.trans hn.1), hz.trans (h.2.2.2 (by decide)).symm⟩
  · rw [if_neg h0] at hr hlen
    simp at hlen
    obtain rfl : i = 3 := by omega
    obtain ⟨x, hx, hn⟩ := h.1 (by decide)
    obtain ⟨z, hz, hn2⟩ := h.2.1 (by decide)
    have hm : (R.map bl)[0]? = some (bl x) := by rw [List.getElem?_map, hx]; rfl
    have hm2 : (R.map bl)[1]? = some (bl z) := by rw [List.getElem?_map, hz]; rfl
    rw [hr] at hm hm2
    exact ⟨itoa_inj ((Option.some.inj hm).trans hn.1), itoa_inj ((Option.some.inj hm2).trans hn2.1)⟩

theorem act_text {s p0 : ByteArray} {R : List ByteArray} (hp : parts s 32 = p0 :: R) {k y n : Int} (hv : bl p0 = verb k) (hk : k = 0 ∨ k = 1 ∨ k = 2) (he : actText k y n = bl s) : actIs s k y n := by
  cases ho : actOk k y n with
  | true => exact ⟨ho, he.symm⟩
  | false =>
    exfalso
    rw [actText_no ho] at he
    have hj := parts_join s 32
    rw [show (parts s (32 : UInt8).toNat) = p0 :: R from hp, ← he, List.map_cons, hv] at hj
    have hl := congrArg List.length hj
    cases R with
    | nil => rw [List.map_nil, join_one] at hl; rcases hk with rfl | rfl | rfl <;> simp [verb] at hl
    | cons a r => rw [join_two _ _ _ (by simp)] at hl; rcases hk with rfl | rfl | rfl <;> simp [verb] at hl

set_option maxHeartbeats 6400000 in
set_option maxRecDepth 100000 in
theorem specParseAct_small (s : ByteArray) (hs : s.size ≤ 20) (w : World) :
    Calls Tryd.prog 30 #[.string s] w (ActOut s w) := by
  go_enter Tryd.func30, Tryd.ntmps30
  go_wp2_with fail
  have HZ0 := Lib.hid (ZA.made w 40)
  have hB0 := (Below.refl w.heap.size w).alloc (Nat.le_refl _) (.cells #[.int .i64 0, .int .i64 0, .int .i64 0] 40)
  generalize w.alloc (.cells #[.int .i64 0, .int .i64 0, .int .i64 0] 40) = w0 at HZ0 hB0 ⊢
  refine (show Calls Tryd.prog 77 #[.string s, .int .u8 32] w0 _ from l01Parts_any s 32 w0 (by omega)).mono ?_; rintro e w1 ⟨v, rfl, hrow, hb1⟩
  have hnn : (cutTo s 32 s.size).1.length + 1 = (parts s 32).length := by simp [parts]
  rw [hnn] at hrow
  clear hnn
  have hcount := parts_count s 32
  obtain ⟨p0, R, hp⟩ := parts_cons s 32
  have hsz : ∀ x ∈ parts s 32, x.size ≤ 1048576 := fun x hx => Nat.le_trans (parts_sizes (c := 32) hx) (by omega)
  rw [hp] at hrow hcount hsz
  have HP := Lib.hid hp
  clear hp
  obtain ⟨g, cap, rfl, hgb, hg⟩ := hrow.form (by simp)
  have hcellP : ∀ (j : Nat) (x : ByteArray), (p0 :: R)[j]? = some x → w1.cell? ⟨g, j, none⟩ = some (.string x) := fun j x hx => by
    rw [hrow.cellAt j (by rw [Nat.mul_one]; exact (List.getElem?_eq_some_iff.1 hx).1), List.getElem?_map, hx]; rfl
  have hB1 := hB0.trans (hb1.mono (Nat.le_of_lt HZ0.out.2.2))
  have HZ1 := Lib.hid (HZ0.out.below hb1)
  have HC := Lib.hid hcellP
  have HSZ := Lib.hid hsz
  have hlr : R.length ≤ 20 := by simp at hcount; omega
  have hz1 := HZ1.out.2.2
  clear hrow hb1 HZ0 hB0 hcellP hsz hgb hcount
  rw [List.length_cons]
  go_wp2
  go_loopw [5] (fun x wr => ∃ k : Nat, k ≤ 3 ∧ x = .int .i64 (k : Int) ∧ NoAct s k ∧ Below w1.heap.size w1 wr) (fun x _ => (3 - intOf x).toNat)
  case atStart => exact ⟨0, by omega, rfl, fun j hj => by omega, Below.refl _ _⟩
  case round =>
    obtain ⟨k, hk, rfl, hno, hb⟩ := hrel
    have hsz := hb.size
    have HNO := Lib.hid hno
    clear hno
    by_cases h3 : k = 3
    · subst h3
      have HN := Lib.hid HNO.out.all
      obtain ⟨⟨z0, z1, z2⟩, ⟨f0, f1, f2⟩, zl⟩ := HZ1.out.below hb
      have hB2 := hB1.trans (hb.mono (Nat.le_of_lt hz1))
      clear HZ1 hB1 hb HNO
      go_wp2
      exact bodyPost_ret (v := .tuple #[.agg #[.int .i64 0, .int .i64 0, .int .i64 0], .bool false]) (by simp [results, Tryd.results30, go_sem, z0, z1, z2]) rfl ⟨.inr ⟨HN.out, rfl⟩, ((hB2.setCell (by simp) _).setCell (by simp) _).setCell (by simp) _⟩
    · have hk3 : k = 0 ∨ k = 1 ∨ k = 2 := by omega
      clear h3 hk
      have d0 : wr.cell? ⟨g, 0, none⟩ = some (.string p0) := ((bcell hb).1 _ _ hg).trans (HC.out 0 p0 rfl)
      have hgr : g < wr.heap.size := by omega
      rcases hk3 with rfl | rfl | rfl
      · by_cases hv : bl p0 = verb 0
        · have hb0 : (p0.toList == [103, 101, 116]) = true := by
            rw [ByteArray.toList_eq]
            have : p0.data.toList = [103, 101, 116] := hv
            rw [this]
            rfl
          have V := Lib.hid hv
          clear hv
          go_upto_region 7 with (fail)
          go_cut [28] from 17 to 68 (fun s28 wx => s28 = .bool false ∧ wx = (wr.alloc (.cells #[.string ⟨#[103, 101, 116]⟩, .string ⟨#[112, 117, 116]⟩, .string ⟨#[97, 100, 100]⟩] 9)).drew)
          case first =>
            go_region_law (first | (go_simp; go_at_call 78; refine (l01Verbs_any _).mono ?_; rintro e w' ⟨rfl, rfl⟩))
            all_goals
              go_wp2_with fail
              go_meet
              exact ⟨rfl, rfl⟩
          case rest =>
            obtain ⟨rfl, rfl⟩ := hcut
            have hbB : Below w1.heap.size w1 (wr.alloc (.cells #[.string ⟨#[103, 101, 116]⟩, .string ⟨#[112, 117, 116]⟩, .string ⟨#[97, 100, 100]⟩] 9)).drew := (hb.alloc hsz _).drew
            have hszB : w1.heap.size ≤ (wr.alloc (.cells #[.string ⟨#[103, 101, 116]⟩, .string ⟨#[112, 117, 116]⟩, .string ⟨#[97, 100, 100]⟩] 9)).drew.heap.size := hbB.size
            clear hb hsz d0 hgr
            generalize (wr.alloc (.cells #[.string ⟨#[103, 101, 116]⟩, .string ⟨#[112, 117, 116]⟩, .string ⟨#[97, 100, 100]⟩] 9)).drew = wB at hbB hszB ⊢
            go_wp2
            have hN0 : Nums2 (wB.alloc (.cells #[.int .i64 0, .int .i64 0] 3)) wB.heap.size 0 0 := Nums2.made _ _
            have hbN := hbB.alloc hszB (.cells #[.int .i64 0, .int .i64 0] 3)
            generalize wB.heap.size = NB at hN0 hszB ⊢
            generalize wB.alloc (.cells #[.int .i64 0, .int .i64 0] 3) = wN at hN0 hbN ⊢
            have HN0 := Lib.hid hN0
            clear hN0 hbB
            go_loopw [7] (fun x wq => ∃ (i : Nat) (n0 n1 : Int), 1 ≤ i ∧ i ≤ 3 ∧ i ≤ R.length + 1 ∧ x = .int .i64 (i : Int) ∧ Nums2 wq NB n0 n1 ∧ Below w1.heap.size w1 wq ∧ Read2 R i n0 n1) (fun x _ => (3 - intOf x).toNat)
            case atStart => exact ⟨1, 0, 0, by omega, by omega, by omega, rfl, HN0.out, hbN, ⟨fun h => by omega, fun h => by omega, fun _ => rfl, fun _ => rfl⟩⟩
            case round =>
              obtain ⟨i, n0, n1, hi1, hi3, hiR, rfl, hnums, hbq, hread⟩ := hrel
              have HNU := Lib.hid hnums
              have HRE := Lib.hid hread
              have hszq := hbq.size
              clear hnums hread HN0 hbN
              by_cases hA : i < R.length + 1
              · by_cases hB : i < 3
                · have hA' : (i : Int) < (R.length : Int) + 1 := by omega
                  have hB' : (i : Int) < 3 := by omega
                  obtain ⟨x, hx⟩ : ∃ x, R[i - 1]? = some x := ⟨R[i - 1], List.getElem?_eq_getElem (by omega)⟩
                  have hx' : (p0 :: R)[i]? = some x := by
                    obtain ⟨m, rfl⟩ : ∃ m, i = m + 1 := ⟨i - 1, by omega⟩
                    simpa using hx
                  have d1 : wr.cell? ⟨g, i, none⟩ = some (.string x) := ((bcell hbq).1 _ _ hg).trans (HC.out i x hx')
                  have HX := Lib.hid hx
                  have hxs := HSZ.out x (List.mem_of_getElem? hx')
                  clear hx hx'
                  go_wp2_with fail
                  refine (l01Read_any x hxs _).mono ?_; rintro e w5 ⟨y, b1, rfl, hy1, hy2, hb5⟩
                  have HNU5 := Lib.hid (HNU.out.below hb5)
                  have hb5' := hbq.trans (hb5.mono hszq)
                  have HY1 := Lib.hid hy1
                  have HY2 := Lib.hid hy2
                  clear hy1 hy2 HNU hbq hszq d1
                  cases b1
                  · have HN := Lib.hid (show ∀ k y n, ¬ actIs s k y n from fun k y' n' h => by
                      obtain ⟨v, hv⟩ := actIs_nums HP.out h HX.out
                      have := (HY2.out v hv).1
                      cases this)
                    obtain ⟨⟨z0, z1, z2⟩, ⟨f0, f1, f2⟩, zl⟩ := HZ1.out.below hb5'
                    have hB2 := hB1.trans (hb5'.mono (Nat.le_of_lt hz1))
                    clear hb5 hb5' HZ1
                    go_wp2
                    exact bodyPost_ret (v := .tuple #[.agg #[.int .i64 0, .int .i64 0, .int .i64 0], .bool false]) (by simp [results, Tryd.results30, go_sem, z0, z1, z2]) rfl ⟨.inr ⟨HN.out, rfl⟩, ((hB2.setCell (by simp) _).setCell (by simp) _).setCell (by simp) _⟩
                  · obtain ⟨⟨m0, m1⟩, ⟨mf0, mf1⟩, ml⟩ := HNU5.out
                    have hi12 : i = 1 ∨ i = 2 := by omega
                    rcases hi12 with rfl | rfl
                    · have HR2 := Lib.hid (HRE.out.one HX.out (HY1.out rfl))
                      have HN2 := Lib.hid (HNU5.out.set0 y)
                      clear hb5 HNU5
                      go_wp2
                      exact ⟨⟨_, _, _, _, _, _, _, _, _, _, _, _, _, _, _, _, _, _, _, _, _, _, _, _, _, _, _, _, _, _, ⟨2, y, n1, by omega, by omega, by omega, by go_num, HN2.out, hb5'.setCell hszB _, HR2.out⟩, rfl⟩, by simp [intOf]⟩
                    · have HR2 := Lib.hid (HRE.out.two HX.out (HY1.out rfl))
                      have HN2 := Lib.hid (HNU5.out.set1 y)
                      clear hb5 HNU5
                      go_wp2
                      exact ⟨⟨_, _, _, _, _, _, _, _, _, _, _, _, _, _, _, _, _, _, _, _, _, _, _, _, _, _, _, _, _, _, ⟨3, n0, y, by omega, by omega, by omega, by go_num, HN2.out, hb5'.setCell hszB _, HR2.out⟩, rfl⟩, by simp [intOf]⟩
                · have hA' : (i : Int) < (R.length : Int) + 1 := by omega
                  have hB' : ¬ (i : Int) < 3 := by omega
                  have hfull : R.length + 1 ≤ i ∨ i = 3 := by omega
                  obtain ⟨⟨m0, m1⟩, ⟨mf0, mf1⟩, ml⟩ := HNU.out
                  go_upto_region 16 with (fail)
                  go_cut [10] from 17 to 68 (fun s10 wx => s10 = .pointer (some ⟨wr.heap.size, 0, none⟩) ∧ wx = (wr.alloc (.cells #[.int .i64 0, .int .i64 n0, .int .i64 n1] 40)).drew)
                  case first =>
                    go_region_law (fail)
                    all_goals
                      go_wp2_with fail
                      go_meet
                      exact ⟨rfl, rfl⟩
                  case rest =>
                    obtain ⟨rfl, rfl⟩ := hcut
                    clear m0 m1 mf0 mf1 ml HNU
                    have hbA := (hbq.alloc hszq (.cells #[.int .i64 0, .int .i64 n0, .int .i64 n1] 40)).drew
                    go_wp2_with fail
                    refine (specActText_any 0 n0 n1 _).mono ?_; rintro e w7 ⟨rfl, hb7⟩
                    have hz7 : wr.heap.size < w7.heap.size := by have := hb7.size; simp at this; omega
                    have hb7' := hbA.trans (hb7.mono (by simp; omega))
                    have y0 : w7.cell? ⟨wr.heap.size, 0, none⟩ = some (.int .i64 0) := by rw [(bcell hb7).1 _ _ (by simp)]; go_simp
                    have y1 : w7.cell? ⟨wr.heap.size, 1, none⟩ = some (.int .i64 n0) := by rw [(bcell hb7).1 _ _ (by simp)]; go_simp
                    have y2 : w7.cell? ⟨wr.heap.size, 2, none⟩ = some (.int .i64 n1) := by rw [(bcell hb7).1 _ _ (by simp)]; go_simp
                    clear hb7 hbA hbq hszq
                    by_cases he : actText 0 n0 n1 = bl s
                    · have hbe : (actText 0 n0 n1 == s.toList) = true := by rw [ByteArray.toList_eq, beq_iff_eq]; exact he
                      have HN := Lib.hid (act_text HP.out V.out (by decide) he)
                      obtain ⟨⟨z0, z1, z2⟩, ⟨f0, f1, f2⟩, zl⟩ := HZ1.out.below hb7'
                      have hB2 := hB1.trans (hb7'.mono (Nat.le_of_lt hz1))
                      clear hb7' HZ1 he
                      go_wp2
                      exact bodyPost_ret (v := .tuple #[.agg #[.int .i64 0, .int .i64 n0, .int .i64 n1], .bool true]) (by simp [results, Tryd.results30, go_sem, z0, z1, z2]) rfl ⟨.inl ⟨0, n0, n1, HN.out, rfl⟩, ((hB2.setCell (by simp) _).setCell (by simp) _).setCell (by simp) _⟩
                    · have hbe : (actText 0 n0 n1 == s.toList) = false := by rw [ByteArray.toList_eq, beq_eq_false_iff_ne]; exact he
                      have HNM := Lib.hid (HNO.out.more (k := 0) (fun y n h => by
                        obtain ⟨e1, e2⟩ := read_act HP.out HRE.out hi1 hi3 hfull hiR h
                        rw [e1, e2] at h
                        exact he h.2.symm))
                      clear he
                      go_wp2
                      exact ⟨⟨1, by omega, by go_num, HNM.out, hb7'⟩, by simp [intOf]⟩
              · have hA' : ¬ (i : Int) < (R.length : Int) + 1 := by omega
                have hfull : R.length + 1 ≤ i ∨ i = 3 := by omega
                obtain ⟨⟨m0, m1⟩, ⟨mf0, mf1⟩, ml⟩ := HNU.out
                go_upto_region 16 with (fail)
                go_cut [10] from 17 to 68 (fun s10 wx => s10 = .pointer (some ⟨wr.heap.size, 0, none⟩) ∧ wx = (wr.alloc (.cells #[.int .i64 0, .int .i64 n0, .int .i64 n1] 40)).drew)
                case first =>
                  go_region_law (fail)
                  all_goals
                    go_wp2_with fail
                    go_meet
                    exact ⟨rfl, rfl⟩
                case rest =>
                  obtain ⟨rfl, rfl⟩ := hcut
                  clear m0 m1 mf0 mf1 ml HNU
                  have hbA := (hbq.alloc hszq (.cells #[.int .i64 0, .int .i64 n0, .int .i64 n1] 40)).drew
                  go_wp2_with fail
                  refine (specActText_any 0 n0 n1 _).mono ?_; rintro e w7 ⟨rfl, hb7⟩
                  have hz7 : wr.heap.size < w7.heap.size := by have := hb7.size; simp at this; omega
                  have hb7' := hbA.trans (hb7.mono (by simp; omega))
                  have y0 : w7.cell? ⟨wr.heap.size, 0, none⟩ = some (.int .i64 0) := by rw [(bcell hb7).1 _ _ (by simp)]; go_simp
                  have y1 : w7.cell? ⟨wr.heap.size, 1, none⟩ = some (.int .i64 n0) := by rw [(bcell hb7).1 _ _ (by simp)]; go_simp
                  have y2 : w7.cell? ⟨wr.heap.size, 2, none⟩ = some (.int .i64 n1) := by rw [(bcell hb7).1 _ _ (by simp)]; go_simp
                  clear hb7 hbA hbq hszq
                  by_cases he : actText 0 n0 n1 = bl s
                  · have hbe : (actText 0 n0 n1 == s.toList) = true := by rw [ByteArray.toList_eq, beq_iff_eq]; exact he
                    have HN := Lib.hid (act_text HP.out V.out (by decide) he)
                    obtain ⟨⟨z0, z1, z2⟩, ⟨f0, f1, f2⟩, zl⟩ := HZ1.out.below hb7'
                    have hB2 := hB1.trans (hb7'.mono (Nat.le_of_lt hz1))
                    clear hb7' HZ1 he
                    go_wp2
                    exact bodyPost_ret (v := .tuple #[.agg #[.int .i64 0, .int .i64 n0, .int .i64 n1], .bool true]) (by simp [results, Tryd.results30, go_sem, z0, z1, z2]) rfl ⟨.inl ⟨0, n0, n1, HN.out, rfl⟩, ((hB2.setCell (by simp) _).setCell (by simp) _).setCell (by simp) _⟩
                  · have hbe : (actText 0 n0 n1 == s.toList) = false := by rw [ByteArray.toList_eq, beq_eq_false_iff_ne]; exact he
                    have HNM := Lib.hid (HNO.out.more (k := 0) (fun y n h => by
                      obtain ⟨e1, e2⟩ := read_act HP.out HRE.out hi1 hi3 hfull hiR h
                      rw [e1, e2] at h
                      exact he h.2.symm))
                    clear he
                    go_wp2
                    exact ⟨⟨1, by omega, by go_num, HNM.out, hb7'⟩, by simp [intOf]⟩
        · have hb0 : (p0.toList == [103, 101, 116]) = false := by
            rw [ByteArray.toList_eq, beq_eq_false_iff_ne]
            exact hv
          have hno := no_verb HP.out (k := 0) hv
          clear hv
          go_upto_region 7 with (fail)
          go_cut [28] from 17 to 68 (fun s28 wx => s28 = .bool true ∧ wx = (wr.alloc (.cells #[.string ⟨#[103, 101, 116]⟩, .string ⟨#[112, 117, 116]⟩, .string ⟨#[97, 100, 100]⟩] 9)).drew)
          case first =>
            go_region_law (first | (go_simp; go_at_call 78; refine (l01Verbs_any _).mono ?_; rintro e w' ⟨rfl, rfl⟩))
            all_goals
              go_wp2_with fail
              go_meet
              exact ⟨rfl, rfl⟩
          case rest =>
            obtain ⟨rfl, rfl⟩ := hcut
            have HNM := Lib.hid (HNO.out.more hno)
            go_wp2
            exact ⟨⟨1, by omega, by go_num, HNM.out, (hb.alloc hsz _).drew⟩, by simp [intOf]⟩
      · by_cases hv : bl p0 = verb 1
        · have hb0 : (p0.toList == [112, 117, 116]) = true := by
            rw [ByteArray.toList_eq]
            have : p0.data.toList = [112, 117, 116] := hv
            rw [this]
            rfl
          have V := Lib.hid hv
          clear hv
          go_upto_region 7 with (fail)
          go_cut [28] from 17 to 68 (fun s28 wx => s28 = .bool false ∧ wx = (wr.alloc (.cells #[.string ⟨#[103, 101, 116]⟩, .string ⟨#[112, 117, 116]⟩, .string ⟨#[97, 100, 100]⟩] 9)).drew)
          case first =>
            go_region_law (first | (go_simp; go_at_call 78; refine (l01Verbs_any _).mono ?_; rintro e w' ⟨rfl, rfl⟩))
            all_goals
              go_wp2_with fail
              go_meet
              exact ⟨rfl, rfl⟩
          case rest =>
            obtain ⟨rfl, rfl⟩ := hcut
            have hbB : Below w1.heap.size w1 (wr.alloc (.cells #[.string ⟨#[103, 101, 116]⟩, .string ⟨#[112, 117, 116]⟩, .string ⟨#[97, 100, 100]⟩] 9)).drew := (hb.alloc hsz _).drew
            have hszB : w1.heap.size ≤ (wr.alloc (.cells #[.string ⟨#[103, 101, 116]⟩, .string ⟨#[112, 117, 116]⟩, .string ⟨#[97, 100, 100]⟩] 9)).drew.heap.size := hbB.size
            clear hb hsz d0 hgr
            generalize (wr.alloc (.cells #[.string ⟨#[103, 101, 116]⟩, .string ⟨#[112, 117, 116]⟩, .string ⟨#[97, 100, 100]⟩] 9)).drew = wB at hbB hszB ⊢
            go_wp2
            have hN0 : Nums2 (wB.alloc (.cells #[.int .i64 0, .int .i64 0] 3)) wB.heap.size 0 0 := Nums2.made _ _
            have hbN := hbB.alloc hszB (.cells #[.int .i64 0, .int .i64 0] 3)
            generalize wB.heap.size = NB at hN0 hszB ⊢
            generalize wB.alloc (.cells #[.int .i64 0, .int .i64 0] 3) = wN at hN0 hbN ⊢
            have HN0 := Lib.hid hN0
            clear hN0 hbB
            go_loopw [7] (fun x wq => ∃ (i : Nat) (n0 n1 : Int), 1 ≤ i ∧ i ≤ 3 ∧ i ≤ R.length + 1 ∧ x = .int .i64 (i : Int) ∧ Nums2 wq NB n0 n1 ∧ Below w1.heap.size w1 wq ∧ Read2 R i n0 n1) (fun x _ => (3 - intOf x).toNat)
            case atStart => exact ⟨1, 0, 0, by omega, by omega, by omega, rfl, HN0.out, hbN, ⟨fun h => by omega, fun h => by omega, fun _ => rfl, fun _ => rfl⟩⟩
            case round =>
              obtain ⟨i, n0, n1, hi1, hi3, hiR, rfl, hnums, hbq, hread⟩ := hrel
              have HNU := Lib.hid hnums
              have HRE := Lib.hid hread
              have hszq := hbq.size
              clear hnums hread HN0 hbN
              by_cases hA : i < R.length + 1
              · by_cases hB : i < 3
                · have hA' : (i : Int) < (R.length : Int) + 1 := by omega
                  have hB' : (i : Int) < 3 := by omega
                  obtain ⟨x, hx⟩ : ∃ x, R[i - 1]? = some x := ⟨R[i - 1], List.getElem?_eq_getElem (by omega)⟩
                  have hx' : (p0 :: R)[i]? = some x := by
                    obtain ⟨m, rfl⟩ : ∃ m, i = m + 1 := ⟨i - 1, by omega⟩
                    simpa using hx
                  have d1 : wr.cell? ⟨g, i, none⟩ = some (.string x) := ((bcell hbq).1 _ _ hg).trans (HC.out i x hx')
                  have HX := Lib.hid hx
                  have hxs := HSZ.out x (List.mem_of_getElem? hx')
                  clear hx hx'
                  go_wp2_with fail
                  refine (l01Read_any x hxs _).mono ?_; rintro e w5 ⟨y, b1, rfl, hy1, hy2, hb5⟩
                  have HNU5 := Lib.hid (HNU.out.below hb5)
                  have hb5' := hbq.trans (hb5.mono hszq)
                  have HY1 := Lib.hid hy1
                  have HY2 := Lib.hid hy2
                  clear hy1 hy2 HNU hbq hszq d1
                  cases b1
                  · have HN := Lib.hid (show ∀ k y n, ¬ actIs s k y n from fun k y' n' h => by
                      obtain ⟨v, hv⟩ := actIs_nums HP.out h HX.out
                      have := (HY2.out v hv).1
                      cases this)
                    obtain ⟨⟨z0, z1, z2⟩, ⟨f0, f1, f2⟩, zl⟩ := HZ1.out.below hb5'
                    have hB2 := hB1.trans (hb5'.mono (Nat.le_of_lt hz1))
                    clear hb5 hb5' HZ1
                    go_wp2
                    exact bodyPost_ret (v := .tuple #[.agg #[.int .i64 0, .int .i64 0, .int .i64 0], .bool false]) (by simp [results, Tryd.results30, go_sem, z0, z1, z2]) rfl ⟨.inr ⟨HN.out, rfl⟩, ((hB2.setCell (by simp) _).setCell (by simp) _).setCell (by simp) _⟩
                  · obtain ⟨⟨m0, m1⟩, ⟨mf0, mf1⟩, ml⟩ := HNU5.out
                    have hi12 : i = 1 ∨ i = 2 := by omega
                    rcases hi12 with rfl | rfl
                    · have HR2 := Lib.hid (HRE.out.one HX.out (HY1.out rfl))
                      have HN2 := Lib.hid (HNU5.out.set0 y)
                      clear hb5 HNU5
                      go_wp2
                      exact ⟨⟨_, _, _, _, _, _, _, _, _, _, _, _, _, _, _, _, _, _, _, _, _, _, _, _, _, _, _, _, _, _, ⟨2, y, n1, by omega, by omega, by omega, by go_num, HN2.out, hb5'.setCell hszB _, HR2.out⟩, rfl⟩, by simp [intOf]⟩
                    · have HR2 := Lib.hid (HRE.out.two HX.out (HY1.out rfl))
                      have HN2 := Lib.hid (HNU5.out.set1 y)
                      clear hb5 HNU5
                      go_wp2
                      exact ⟨⟨_, _, _, _, _, _, _, _, _, _, _, _, _, _, _, _, _, _, _, _, _, _, _, _, _, _, _, _, _, _, ⟨3, n0, y, by omega, by omega, by omega, by go_num, HN2.out, hb5'.setCell hszB _, HR2.out⟩, rfl⟩, by simp [intOf]⟩
                · have hA' : (i : Int) < (R.length : Int) + 1 := by omega
                  have hB' : ¬ (i : Int) < 3 := by omega
                  have hfull : R.length + 1 ≤ i ∨ i = 3 := by omega
                  obtain ⟨⟨m0, m1⟩, ⟨mf0, mf1⟩, ml⟩ := HNU.out
                  go_upto_region 16 with (fail)
                  go_cut [10] from 17 to 68 (fun s10 wx => s10 = .pointer (some ⟨wr.heap.size, 0, none⟩) ∧ wx = (wr.alloc (.cells #[.int .i64 1, .int .i64 n0, .int .i64 n1] 40)).drew)
                  case first =>
                    go_region_law (fail)
                    all_goals
                      go_wp2_with fail
                      go_meet
                      exact ⟨rfl, rfl⟩
                  case rest =>
                    obtain ⟨rfl, rfl⟩ := hcut
                    clear m0 m1 mf0 mf1 ml HNU
                    have hbA := (hbq.alloc hszq (.cells #[.int .i64 1, .int .i64 n0, .int .i64 n1] 40)).drew
                    go_wp2_with fail
                    refine (specActText_any 1 n0 n1 _).mono ?_; rintro e w7 ⟨rfl, hb7⟩
                    have hz7 : wr.heap.size < w7.heap.size := by have := hb7.size; simp at this; omega
                    have hb7' := hbA.trans (hb7.mono (by simp; omega))
                    have y0 : w7.cell? ⟨wr.heap.size, 0, none⟩ = some (.int .i64 1) := by rw [(bcell hb7).1 _ _ (by simp)]; go_simp
                    have y1 : w7.cell? ⟨wr.heap.size, 1, none⟩ = some (.int .i64 n0) := by rw [(bcell hb7).1 _ _ (by simp)]; go_simp
                    have y2 : w7.cell? ⟨wr.heap.size, 2, none⟩ = some (.int .i64 n1) := by rw [(bcell hb7).1 _ _ (by simp)]; go_simp
                    clear hb7 hbA hbq hszq
                    by_cases he : actText 1 n0 n1 = bl s
                    · have hbe : (actText 1 n0 n1 == s.toList) = true := by rw [ByteArray.toList_eq, beq_iff_eq]; exact he
                      have HN := Lib.hid (act_text HP.out V.out (by decide) he)
                      obtain ⟨⟨z0, z1, z2⟩, ⟨f0, f1, f2⟩, zl⟩ := HZ1.out.below hb7'
                      have hB2 := hB1.trans (hb7'.mono (Nat.le_of_lt hz1))
                      clear hb7' HZ1 he
                      go_wp2
                      exact bodyPost_ret (v := .tuple #[.agg #[.int .i64 1, .int .i64 n0, .int .i64 n1], .bool true]) (by simp [results, Tryd.results30, go_sem, z0, z1, z2]) rfl ⟨.inl ⟨1, n0, n1, HN.out, rfl⟩, ((hB2.setCell (by simp) _).setCell (by simp) _).setCell (by simp) _⟩
                    · have hbe : (actText 1 n0 n1 == s.toList) = false := by rw [ByteArray.toList_eq, beq_eq_false_iff_ne]; exact he
                      have HNM := Lib.hid (HNO.out.more (k := 1) (fun y n h => by
                        obtain ⟨e1, e2⟩ := read_act HP.out HRE.out hi1 hi3 hfull hiR h
                        rw [e1, e2] at h
                        exact he h.2.symm))
                      clear he
                      go_wp2
                      exact ⟨⟨2, by omega, by go_num, HNM.out, hb7'⟩, by simp [intOf]⟩
              · have hA' : ¬ (i : Int) < (R.length : Int) + 1 := by omega
                have hfull : R.length + 1 ≤ i ∨ i = 3 := by omega
                obtain ⟨⟨m0, m1⟩, ⟨mf0, mf1⟩, ml⟩ := HNU.out
                go_upto_region 16 with (fail)
                go_cut [10] from 17 to 68 (fun s10 wx => s10 = .pointer (some ⟨wr.heap.size, 0, none⟩) ∧ wx = (wr.alloc (.cells #[.int .i64 1, .int .i64 n0, .int .i64 n1] 40)).drew)
                case first =>
                  go_region_law (fail)
                  all_goals
                    go_wp2_with fail
                    go_meet
                    exact ⟨rfl, rfl⟩
                case rest =>
                  obtain ⟨rfl, rfl⟩ := hcut
                  clear m0 m1 mf0 mf1 ml HNU
                  have hbA := (hbq.alloc hszq (.cells #[.int .i64 1, .int .i64 n0, .int .i64 n1] 40)).drew
                  go_wp2_with fail
                  refine (specActText_any 1 n0 n1 _).mono ?_; rintro e w7 ⟨rfl, hb7⟩
                  have hz7 : wr.heap.size < w7.heap.size := by have := hb7.size; simp at this; omega
                  have hb7' := hbA.trans (hb7.mono (by simp; omega))
                  have y0 : w7.cell? ⟨wr.heap.size, 0, none⟩ = some (.int .i64 1) := by rw [(bcell hb7).1 _ _ (by simp)]; go_simp
                  have y1 : w7.cell? ⟨wr.heap.size, 1, none⟩ = some (.int .i64 n0) := by rw [(bcell hb7).1 _ _ (by simp)]; go_simp
                  have y2 : w7.cell? ⟨wr.heap.size, 2, none⟩ = some (.int .i64 n1) := by rw [(bcell hb7).1 _ _ (by simp)]; go_simp
                  clear hb7 hbA hbq hszq
                  by_cases he : actText 1 n0 n1 = bl s
                  · have hbe : (actText 1 n0 n1 == s.toList) = true := by rw [ByteArray.toList_eq, beq_iff_eq]; exact he
                    have HN := Lib.hid (act_text HP.out V.out (by decide) he)
                    obtain ⟨⟨z0, z1, z2⟩, ⟨f0, f1, f2⟩, zl⟩ := HZ1.out.below hb7'
                    have hB2 := hB1.trans (hb7'.mono (Nat.le_of_lt hz1))
                    clear hb7' HZ1 he
                    go_wp2
                    exact bodyPost_ret (v := .tuple #[.agg #[.int .i64 1, .int .i64 n0, .int .i64 n1], .bool true]) (by simp [results, Tryd.results30, go_sem, z0, z1, z2]) rfl ⟨.inl ⟨1, n0, n1, HN.out, rfl⟩, ((hB2.setCell (by simp) _).setCell (by simp) _).setCell (by simp) _⟩
                  · have hbe : (actText 1 n0 n1 == s.toList) = false := by rw [ByteArray.toList_eq, beq_eq_false_iff_ne]; exact he
                    have HNM := Lib.hid (HNO.out.more (k := 1) (fun y n h => by
                      obtain ⟨e1, e2⟩ := read_act HP.out HRE.out hi1 hi3 hfull hiR h
                      rw [e1, e2] at h
                      exact he h.2.symm))
                    clear he
                    go_wp2
                    exact ⟨⟨2, by omega, by go_num, HNM.out, hb7'⟩, by simp [intOf]⟩
        · have hb0 : (p0.toList == [112, 117, 116]) = false := by
            rw [ByteArray.toList_eq, beq_eq_false_iff_ne]
            exact hv
          have hno := no_verb HP.out (k := 1) hv
          clear hv
          go_upto_region 7 with (fail)
          go_cut [28] from 17 to 68 (fun s28 wx => s28 = .bool true ∧ wx = (wr.alloc (.cells #[.string ⟨#[103, 101, 116]⟩, .string ⟨#[112, 117, 116]⟩, .string ⟨#[97, 100, 100]⟩] 9)).drew)
          case first =>
            go_region_law (first | (go_simp; go_at_call 78; refine (l01Verbs_any _).mono ?_; rintro e w' ⟨rfl, rfl⟩))
            all_goals
              go_wp2_with fail
              go_meet
              exact ⟨rfl, rfl⟩
          case rest =>
            obtain ⟨rfl, rfl⟩ := hcut
            have HNM := Lib.hid (HNO.out.more hno)
            go_wp2
            exact ⟨⟨2, by omega, by go_num, HNM.out, (hb.alloc hsz _).drew⟩, by simp [intOf]⟩
      · by_cases hv : bl p0 = verb 2
        · have hb0 : (p0.toList == [97, 100, 100]) = true := by
            rw [ByteArray.toList_eq]
            have : p0.data.toList = [97, 100, 100] := hv
            rw [this]
            rfl
          have V := Lib.hid hv
          clear hv
          go_upto_region 7 with (fail)
          go_cut [28] from 17 to 68 (fun s28 wx => s28 = .bool false ∧ wx = (wr.alloc (.cells #[.string ⟨#[103, 101, 116]⟩, .string ⟨#[112, 117, 116]⟩, .string ⟨#[97, 100, 100]⟩] 9)).drew)
          case first =>
            go_region_law (first | (go_simp; go_at_call 78; refine (l01Verbs_any _).mono ?_; rintro e w' ⟨rfl, rfl⟩))
            all_goals
              go_wp2_with fail
              go_meet
              exact ⟨rfl, rfl⟩
          case rest =>
            obtain ⟨rfl, rfl⟩ := hcut
            have hbB : Below w1.heap.size w1 (wr.alloc (.cells #[.string ⟨#[103, 101, 116]⟩, .string ⟨#[112, 117, 116]⟩, .string ⟨#[97, 100, 100]⟩] 9)).drew := (hb.alloc hsz _).drew
            have hszB : w1.heap.size ≤ (wr.alloc (.cells #[.string ⟨#[103, 101, 116]⟩, .string ⟨#[112, 117, 116]⟩, .string ⟨#[97, 100, 100]⟩] 9)).drew.heap.size := hbB.size
            clear hb hsz d0 hgr
            generalize (wr.alloc (.cells #[.string ⟨#[103, 101, 116]⟩, .string ⟨#[112, 117, 116]⟩, .string ⟨#[97, 100, 100]⟩] 9)).drew = wB at hbB hszB ⊢
            go_wp2
            have hN0 : Nums2 (wB.alloc (.cells #[.int .i64 0, .int .i64 0] 3)) wB.heap.size 0 0 := Nums2.made _ _
            have hbN := hbB.alloc hszB (.cells #[.int .i64 0, .int .i64 0] 3)
            generalize wB.heap.size = NB at hN0 hszB ⊢
            generalize wB.alloc (.cells #[.int .i64 0, .int .i64 0] 3) = wN at hN0 hbN ⊢
            have HN0 := Lib.hid hN0
            clear hN0 hbB
            go_loopw [7] (fun x wq => ∃ (i : Nat) (n0 n1 : Int), 1 ≤ i ∧ i ≤ 3 ∧ i ≤ R.length + 1 ∧ x = .int .i64 (i : Int) ∧ Nums2 wq NB n0 n1 ∧ Below w1.heap.size w1 wq ∧ Read2 R i n0 n1) (fun x _ => (3 - intOf x).toNat)
            case atStart => exact ⟨1, 0, 0, by omega, by omega, by omega, rfl, HN0.out, hbN, ⟨fun h => by omega, fun h => by omega, fun _ => rfl, fun _ => rfl⟩⟩
            case round =>
              obtain ⟨i, n0, n1, hi1, hi3, hiR, rfl, hnums, hbq, hread⟩ := hrel
              have HNU := Lib.hid hnums
              have HRE := Lib.hid hread
              have hszq := hbq.size
              clear hnums hread HN0 hbN
              by_cases hA : i < R.length + 1
              · by_cases hB : i < 3
                · have hA' : (i : Int) < (R.length : Int) + 1 := by omega
                  have hB' : (i : Int) < 3 := by omega
                  obtain ⟨x, hx⟩ : ∃ x, R[i - 1]? = some x := ⟨R[i - 1], List.getElem?_eq_getElem (by omega)⟩
                  have hx' : (p0 :: R)[i]? = some x := by
                    obtain ⟨m, rfl⟩ : ∃ m, i = m + 1 := ⟨i - 1, by omega⟩
                    simpa using hx
                  have d1 : wr.cell? ⟨g, i, none⟩ = some (.string x) := ((bcell hbq).1 _ _ hg).trans (HC.out i x hx')
                  have HX := Lib.hid hx
                  have hxs := HSZ.out x (List.mem_of_getElem? hx')
                  clear hx hx'
                  go_wp2_with fail
                  refine (l01Read_any x hxs _).mono ?_; rintro e w5 ⟨y, b1, rfl, hy1, hy2, hb5⟩
                  have HNU5 := Lib.hid (HNU.out.below hb5)
                  have hb5' := hbq.trans (hb5.mono hszq)
                  have HY1 := Lib.hid hy1
                  have HY2 := Lib.hid hy2
                  clear hy1 hy2 HNU hbq hszq d1
                  cases b1
                  · have HN := Lib.hid (show ∀ k y n, ¬ actIs s k y n from fun k y' n' h => by
                      obtain ⟨v, hv⟩ := actIs_nums HP.out h HX.out
                      have := (HY2.out v hv).1
                      cases this)
                    obtain ⟨⟨z0, z1, z2⟩, ⟨f0, f1, f2⟩, zl⟩ := HZ1.out.below hb5'
                    have hB2 := hB1.trans (hb5'.mono (Nat.le_of_lt hz1))
                    clear hb5 hb5' HZ1
                    go_wp2
                    exact bodyPost_ret (v := .tuple #[.agg #[.int .i64 0, .int .i64 0, .int .i64 0], .bool false]) (by simp [results, Tryd.results30, go_sem, z0, z1, z2]) rfl ⟨.inr ⟨HN.out, rfl⟩, ((hB2.setCell (by simp) _).setCell (by simp) _).setCell (by simp) _⟩
                  · obtain ⟨⟨m0, m1⟩, ⟨mf0, mf1⟩, ml⟩ := HNU5.out
                    have hi12 : i = 1 ∨ i = 2 := by omega
                    rcases hi12 with rfl | rfl
                    · have HR2 := Lib.hid (HRE.out.one HX.out (HY1.out rfl))
                      have HN2 := Lib.hid (HNU5.out.set0 y)
                      clear hb5 HNU5
                      go_wp2
                      exact ⟨⟨_, _, _, _, _, _, _, _, _, _, _, _, _, _, _, _, _, _, _, _, _, _, _, _, _, _, _, _, _, _, ⟨2, y, n1, by omega, by omega, by omega, by go_num, HN2.out, hb5'.setCell hszB _, HR2.out⟩, rfl⟩, by simp [intOf]⟩
                    · have HR2 := Lib.hid (HRE.out.two HX.out (HY1.out rfl))
                      have HN2 := Lib.hid (HNU5.out.set1 y)
                      clear hb5 HNU5
                      go_wp2
                      exact ⟨⟨_, _, _, _, _, _, _, _, _, _, _, _, _, _, _, _, _, _, _, _, _, _, _, _, _, _, _, _, _, _, ⟨3, n0, y, by omega, by omega, by omega, by go_num, HN2.out, hb5'.setCell hszB _, HR2.out⟩, rfl⟩, by simp [intOf]⟩
                · have hA' : (i : Int) < (R.length : Int) + 1 := by omega
                  have hB' : ¬ (i : Int) < 3 := by omega
                  have hfull : R.length + 1 ≤ i ∨ i = 3 := by omega
                  obtain ⟨⟨m0, m1⟩, ⟨mf0, mf1⟩, ml⟩ := HNU.out
                  go_upto_region 16 with (fail)
                  go_cut [10] from 17 to 68 (fun s10 wx => s10 = .pointer (some ⟨wr.heap.size, 0, none⟩) ∧ wx = (wr.alloc (.cells #[.int .i64 2, .int .i64 n0, .int .i64 n1] 40)).drew)
                  case first =>
                    go_region_law (fail)
                    all_goals
                      go_wp2_with fail
                      go_meet
                      exact ⟨rfl, rfl⟩
                  case rest =>
                    obtain ⟨rfl, rfl⟩ := hcut
                    clear m0 m1 mf0 mf1 ml HNU
                    have hbA := (hbq.alloc hszq (.cells #[.int .i64 2, .int .i64 n0, .int .i64 n1] 40)).drew
                    go_wp2_with fail
                    refine (specActText_any 2 n0 n1 _).mono ?_; rintro e w7 ⟨rfl, hb7⟩
                    have hz7 : wr.heap.size < w7.heap.size := by have := hb7.size; simp at this; omega
                    have hb7' := hbA.trans (hb7.mono (by simp; omega))
                    have y0 : w7.cell? ⟨wr.heap.size, 0, none⟩ = some (.int .i64 2) := by rw [(bcell hb7).1 _ _ (by simp)]; go_simp
                    have y1 : w7.cell? ⟨wr.heap.size, 1, none⟩ = some (.int .i64 n0) := by rw [(bcell hb7).1 _ _ (by simp)]; go_simp
                    have y2 : w7.cell? ⟨wr.heap.size, 2, none⟩ = some (.int .i64 n1) := by rw [(bcell hb7).1 _ _ (by simp)]; go_simp
                    clear hb7 hbA hbq hszq
                    by_cases he : actText 2 n0 n1 = bl s
                    · have hbe : (actText 2 n0 n1 == s.toList) = true := by rw [ByteArray.toList_eq, beq_iff_eq]; exact he
                      have HN := Lib.hid (act_text HP.out V.out (by decide) he)
                      obtain ⟨⟨z0, z1, z2⟩, ⟨f0, f1, f2⟩, zl⟩ := HZ1.out.below hb7'
                      have hB2 := hB1.trans (hb7'.mono (Nat.le_of_lt hz1))
                      clear hb7' HZ1 he
                      go_wp2
                      exact bodyPost_ret (v := .tuple #[.agg #[.int .i64 2, .int .i64 n0, .int .i64 n1], .bool true]) (by simp [results, Tryd.results30, go_sem, z0, z1, z2]) rfl ⟨.inl ⟨2, n0, n1, HN.out, rfl⟩, ((hB2.setCell (by simp) _).setCell (by simp) _).setCell (by simp) _⟩
                    · have hbe : (actText 2 n0 n1 == s.toList) = false := by rw [ByteArray.toList_eq, beq_eq_false_iff_ne]; exact he
                      have HNM := Lib.hid (HNO.out.more (k := 2) (fun y n h => by
                        obtain ⟨e1, e2⟩ := read_act HP.out HRE.out hi1 hi3 hfull hiR h
                        rw [e1, e2] at h
                        exact he h.2.symm))
                      clear he
                      go_wp2
                      exact ⟨⟨3, by omega, by go_num, HNM.out, hb7'⟩, by simp [intOf]⟩
              · have hA' : ¬ (i : Int) < (R.length : Int) + 1 := by omega
                have hfull : R.length + 1 ≤ i ∨ i = 3 := by omega
                obtain ⟨⟨m0, m1⟩, ⟨mf0, mf1⟩, ml⟩ := HNU.out
                go_upto_region 16 with (fail)
                go_cut [10] from 17 to 68 (fun s10 wx => s10 = .pointer (some ⟨wr.heap.size, 0, none⟩) ∧ wx = (wr.alloc (.cells #[.int .i64 2, .int .i64 n0, .int .i64 n1] 40)).drew)
                case first =>
                  go_region_law (fail)
                  all_goals
                    go_wp2_with fail
                    go_meet
                    exact ⟨rfl, rfl⟩
                case rest =>
                  obtain ⟨rfl, rfl⟩ := hcut
                  clear m0 m1 mf0 mf1 ml HNU
                  have hbA := (hbq.alloc hszq (.cells #[.int .i64 2, .int .i64 n0, .int .i64 n1] 40)).drew
                  go_wp2_with fail
                  refine (specActText_any 2 n0 n1 _).mono ?_; rintro e w7 ⟨rfl, hb7⟩
                  have hz7 : wr.heap.size < w7.heap.size := by have := hb7.size; simp at this; omega
                  have hb7' := hbA.trans (hb7.mono (by simp; omega))
                  have y0 : w7.cell? ⟨wr.heap.size, 0, none⟩ = some (.int .i64 2) := by rw [(bcell hb7).1 _ _ (by simp)]; go_simp
                  have y1 : w7.cell? ⟨wr.heap.size, 1, none⟩ = some (.int .i64 n0) := by rw [(bcell hb7).1 _ _ (by simp)]; go_simp
                  have y2 : w7.cell? ⟨wr.heap.size, 2, none⟩ = some (.int .i64 n1) := by rw [(bcell hb7).1 _ _ (by simp)]; go_simp
                  clear hb7 hbA hbq hszq
                  by_cases he : actText 2 n0 n1 = bl s
                  · have hbe : (actText 2 n0 n1 == s.toList) = true := by rw [ByteArray.toList_eq, beq_iff_eq]; exact he
                    have HN := Lib.hid (act_text HP.out V.out (by decide) he)
                    obtain ⟨⟨z0, z1, z2⟩, ⟨f0, f1, f2⟩, zl⟩ := HZ1.out.below hb7'
                    have hB2 := hB1.trans (hb7'.mono (Nat.le_of_lt hz1))
                    clear hb7' HZ1 he
                    go_wp2
                    exact bodyPost_ret (v := .tuple #[.agg #[.int .i64 2, .int .i64 n0, .int .i64 n1], .bool true]) (by simp [results, Tryd.results30, go_sem, z0, z1, z2]) rfl ⟨.inl ⟨2, n0, n1, HN.out, rfl⟩, ((hB2.setCell (by simp) _).setCell (by simp) _).setCell (by simp) _⟩
                  · have hbe : (actText 2 n0 n1 == s.toList) = false := by rw [ByteArray.toList_eq, beq_eq_false_iff_ne]; exact he
                    have HNM := Lib.hid (HNO.out.more (k := 2) (fun y n h => by
                      obtain ⟨e1, e2⟩ := read_act HP.out HRE.out hi1 hi3 hfull hiR h
                      rw [e1, e2] at h
                      exact he h.2.symm))
                    clear he
                    go_wp2
                    exact ⟨⟨3, by omega, by go_num, HNM.out, hb7'⟩, by simp [intOf]⟩
        · have hb0 : (p0.toList == [97, 100, 100]) = false := by
            rw [ByteArray.toList_eq, beq_eq_false_iff_ne]
            exact hv
          have hno := no_verb HP.out (k := 2) hv
          clear hv
          go_upto_region 7 with (fail)
          go_cut [28] from 17 to 68 (fun s28 wx => s28 = .bool true ∧ wx = (wr.alloc (.cells #[.string ⟨#[103, 101, 116]⟩, .string ⟨#[112, 117, 116]⟩, .string ⟨#[97, 100, 100]⟩] 9)).drew)
          case first =>
            go_region_law (first | (go_simp; go_at_call 78; refine (l01Verbs_any _).mono ?_; rintro e w' ⟨rfl, rfl⟩))
            all_goals
              go_wp2_with fail
              go_meet
              exact ⟨rfl, rfl⟩
          case rest =>
            obtain ⟨rfl, rfl⟩ := hcut
            have HNM := Lib.hid (HNO.out.more hno)
            go_wp2
            exact ⟨⟨3, by omega, by go_num, HNM.out, (hb.alloc hsz _).drew⟩, by simp [intOf]⟩

theorem specParseAct_any (s : ByteArray) (hs : s.size ≤ 1048576) (w : World) : Calls Tryd.prog 30 #[.string s] w (ActOut s w) := by
  by_cases h : 20 < s.size
  · exact specParseAct_big s h hs w
  · exact specParseAct_small s (by omega) w
end Go.Proofs.YtilgfcbjonalaaaDoor
