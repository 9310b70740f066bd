/- FnExactBlockedBy: for every argument the program's function answers as the model's, its answer owns its memory, and the arguments read as before. No condition. -/
import Derived.Test.YtkpkjcmoldkmmaaGreatWfI
import Derived.Test.YtkpkjcmoldkmmaaGreatWfJ
import Derived.Test.YtkpkjcmoldkmmaaGreatWfC
import Derived.Test.YtkpkjcmoldkmmaaGreatGoo
import Derived.Deep.RegionLaw
namespace Go.Proofs.YtkpkjcmoldkmmaaGreat
open Go.RowKit

theorem adl_Wait : ∀ l : List DWait, adl ad_Wait l = 2 * (l.length : Int)
  | [] => rfl
  | a :: l => by
    have h := adl_Wait l
    unfold adl at *
    rw [List.map_cons, List.sum_cons, h, List.length_cons]
    unfold ad_Wait
    omega
theorem waitsL_ub (d : DEngine) : adl ad_Wait (waitsL d) ≤ 1000 := by
  rw [adl_Wait]
  cases h : engOk d with
  | false => rw [waits_no h]; decide
  | true => have := waits_len h; omega
end Go.Proofs.YtkpkjcmoldkmmaaGreat

namespace Go.Proofs.YtkpkjcmoldkmmaaGreat
open Go.RowKit Go.Lib

def toB (z : Int) (l : List DWait) : List Int := (l.filter fun a => decide (a.1 = z)).map fun a => a.2
theorem toB_yes {z : Int} {l : List DWait} {j : Nat} {a : DWait} (hg : l[j]? = some a) (h : a.1 = z) : toB z (l.take (j + 1)) = toB z (l.take j) ++ [a.2] := by
  unfold toB
  rw [List.take_add_one, hg]
  simp [h]
theorem toB_no {z : Int} {l : List DWait} {j : Nat} {a : DWait} (hg : l[j]? = some a) (h : ¬ a.1 = z) : toB z (l.take (j + 1)) = toB z (l.take j) := by
  unfold toB
  rw [List.take_add_one, hg]
  simp [h]
theorem toB_len (z : Int) (l : List DWait) : (toB z l).length ≤ l.length := by
  unfold toB
  rw [List.length_map]
  exact List.length_filter_le _ _
theorem waits_16 (d : DEngine) : (waitsL d).length ≤ 16 := by
  cases h : engOk d with
  | false => rw [waits_no h]; decide
  | true => exact waits_len h
def blockedL (d : DEngine) (z : Int) : List Int := toB z (waitsL d)
/-- a row of waits beside a row in the making -/
def BesW (w : World) (v : Value) (A : Option Addr) (l : List DWait) : Prop := 0 < l.length → ∃ b o, A = some ⟨b, o, none⟩ ∧ b < w.heap.size ∧ ¬ v.ownBlock = some b ∧ ∀ j a, l[j]? = some a → w.cell? ⟨b, o + j * 2, none⟩ = some (.int .i64 a.1) ∧ w.cell? ⟨b, o + j * 2 + 1, none⟩ = some (.int .i64 a.2)
theorem BesW.start {w : World} {v : Value} {A : Option Addr} {l : List DWait} {lo : Nat} (r : ROwn fWait w lo w.heap.size A l) (hv : ∀ q, v.ownBlock = some q → q < lo) : BesW w v A l := fun h0 => by
  obtain ⟨b, o, e, vs, L, H, hr⟩ := r.2 h0
  refine ⟨b, o, e, hr.rhi, fun h => ?_, fun j a ha => ?_⟩
  · have := hv b h
    have := hr.rlo
    omega
  · have h1 := hr.cell j (get_lt ha)
    rw [at_Wait (fWait.own_at (hr.own j a ha))] at h1
    exact h1.c2
theorem BesW.push {w w5 : World} {v : Value} {A : Option Addr} {l : List DWait} {o : Obj} {g n cap : Nat} (h : BesW w v A l) (hgrow : (w.alloc o).grownBy w5 v.ownBlock) (hat : v.ownBlock = some g ∨ w.heap.size ≤ g) : BesW w5 (.slice (some ⟨g, 0, none⟩) n cap) A l := fun h0 => by
  obtain ⟨b, off, e, hb, hne, hc⟩ := h h0
  have hs : (w.alloc o).heap.size = w.heap.size + 1 := by simp
  refine ⟨b, off, e, ?_, fun h => ?_, fun j a ha => ?_⟩
  · have := hgrow.size
    omega
  · injection h with h
    replace h : g = b := h
    subst h
    rcases hat with hat | hat
    · exact hne hat
    · omega
  · have h1 := hgrow.block b (by omega) (fun e => hne e.symm)
    obtain ⟨h2, h3⟩ := hc j a ha
    exact ⟨by rw [World.cell?_of_block (a := ⟨b, off + j * 2, none⟩) h1, World.cell?_alloc_lt _ _ _ hb]; exact h2, by rw [World.cell?_of_block (a := ⟨b, off + j * 2 + 1, none⟩) h1, World.cell?_alloc_lt _ _ _ hb]; exact h3⟩
theorem BesW.next {w w5 : World} {v : Value} {A : Option Addr} {l : List DWait} (h : BesW w v A l) (hb : Below w.heap.size w w5) : BesW w5 v A l := fun h0 => by
  obtain ⟨b, off, e, hlt, hne, hc⟩ := h h0
  exact ⟨b, off, e, Nat.lt_of_lt_of_le hlt hb.size, hne, fun j a ha => ⟨(hb.cell (p := ⟨b, off + j * 2, none⟩) hlt).trans (hc j a ha).1, (hb.cell (p := ⟨b, off + j * 2 + 1, none⟩) hlt).trans (hc j a ha).2⟩⟩
theorem adl_IntB : ∀ l : List Int, adl ad_Int l = (l.length : Int)
  | [] => rfl
  | a :: l => by
    have h := adl_IntB l
    unfold adl at *
    rw [List.map_cons, List.sum_cons, h, List.length_cons]
    unfold ad_Int
    omega
theorem blockedL_ub (d : DEngine) (z : Int) : adl ad_Int (blockedL d z) ≤ 1000 := by
  rw [adl_IntB]
  have h1 := toB_len z (waitsL d)
  have h2 := waits_16 d
  unfold blockedL
  omega
set_option maxHeartbeats 6400000 in
set_option maxRecDepth 100000 in
theorem implBlocked_any (d : DEngine) (z : Int) (B : Nat) (vs : List Value) (w : World) (hs : fEngine.cnt d ≤ 1048576) (hB : B ≤ w.heap.size) (h : fEngine.At w B d vs) :
    Calls Tryz.prog 18 #[.agg vs.toArray, .int .i64 z] w (RetF intF w (blockedL d z)) := by
  obtain ⟨i0, hi, hz0, hz1, hz2⟩ := info_parts infoInt
  have Hi := Lib.hid hi
  have Hz0 := Lib.hid hz0
  have Hz1 := Lib.hid hz1
  have Hz2 := Lib.hid hz2
  clear hi hz0 hz1 hz2
  have HAT := Lib.hid h
  have HCNT := Lib.hid hs
  have h16 := waits_16 d
  obtain ⟨A5, c5, A6, c6, A7, c7, A10, c10, rfl, r5, r6, r7, r10⟩ := at_Engine h
  clear h r5 r6 r7 r10 hs
  have b := (Below.refl w.heap.size w).alloc (Nat.le_refl _) (.cells #[.int .i64 d.1.1, .int .i64 d.1.2.1, .int .i64 d.1.2.2.1, .bool d.1.2.2.2.1, .int .i64 d.1.2.2.2.2, .slice A5 (d.2.1).length c5, .slice A6 (d.2.2.1).length c6, .slice A7 (d.2.2.2.1).length c7, .int .i64 d.2.2.2.2.1, .int .i64 d.2.2.2.2.2.1, .slice A10 (d.2.2.2.2.2.2.1).length c10, .int .i64 d.2.2.2.2.2.2.2.1, .int .i64 d.2.2.2.2.2.2.2.2] 41)
  have X := Bx.new (w := w) (c := #[.int .i64 d.1.1, .int .i64 d.1.2.1, .int .i64 d.1.2.2.1, .bool d.1.2.2.2.1, .int .i64 d.1.2.2.2.2, .slice A5 (d.2.1).length c5, .slice A6 (d.2.2.1).length c6, .slice A7 (d.2.2.2.1).length c7, .int .i64 d.2.2.2.2.1, .int .i64 d.2.2.2.2.2.1, .slice A10 (d.2.2.2.2.2.2.1).length c10, .int .i64 d.2.2.2.2.2.2.2.1, .int .i64 d.2.2.2.2.2.2.2.2]) (t := 41) rfl
  have hsz := b.size
  go_enter Tryz.func18, Tryz.ntmps18
  go_upto_region 0 with (fail)
  go_upto_region 1 with (fail)
  have hs1 : (w.alloc (.cells #[.int .i64 d.1.1, .int .i64 d.1.2.1, .int .i64 d.1.2.2.1, .bool d.1.2.2.2.1, .int .i64 d.1.2.2.2.2, .slice A5 (d.2.1).length c5, .slice A6 (d.2.2.1).length c6, .slice A7 (d.2.2.2.1).length c7, .int .i64 d.2.2.2.2.1, .int .i64 d.2.2.2.2.2.1, .slice A10 (d.2.2.2.2.2.2.1).length c10, .int .i64 d.2.2.2.2.2.2.2.1, .int .i64 d.2.2.2.2.2.2.2.2] 41)).heap.size = w.heap.size + 1 := by simp
  generalize w.alloc (.cells #[.int .i64 d.1.1, .int .i64 d.1.2.1, .int .i64 d.1.2.2.1, .bool d.1.2.2.2.1, .int .i64 d.1.2.2.2.2, .slice A5 (d.2.1).length c5, .slice A6 (d.2.2.1).length c6, .slice A7 (d.2.2.2.1).length c7, .int .i64 d.2.2.2.2.1, .int .i64 d.2.2.2.2.2.1, .slice A10 (d.2.2.2.2.2.2.1).length c10, .int .i64 d.2.2.2.2.2.2.2.1, .int .i64 d.2.2.2.2.2.2.2.2] 41) = w1 at b X hsz hs1 ⊢
  go_upto_region 2 with (fail)
  obtain ⟨⟨x0, x1, x2, x3, x4, x5, x6, x7, x8, x9, x10, x11, x12⟩, _⟩ := X.c13
  have Xl := X.lt
  go_wp2_with fail
  clear x0 x1 x2 x3 x4 x5 x6 x7 x8 x9 x10 x11 x12 Xl
  (with_reducible refine (implWaitsFor_any d B _ _ HCNT.out (Nat.le_trans hB hsz) (fEngine.at_same HAT.out (.of b hB))).mono ?_); rintro o w3 ⟨AL, cL, rfl, hb, OL⟩
  have HB := Lib.hid (BesW.start (v := .slice none 0 0) OL (fun q hq => by cases hq))
  have b3 := b.trans (hb.mono hsz)
  have hs3 := hb.size
  clear OL hb b X
  have hb3s := b3.size
  go_wp2_with fail
  go_loopw [5, 11] (fun v i wi => ∃ (j : Nat) (N : List Int) (vs : Nat → List Value) (L H : Nat → Nat), j ≤ (waitsL d).length ∧ i = .int .i64 j ∧ Hid (N = toB z ((waitsL d).take j)) ∧ N.length ≤ 100 ∧ Grow intF 3 (w.heap.size + 1) wi v N vs L H ∧ Hid (BesW wi v AL (waitsL d)) ∧ Below (w.heap.size + 1) w3 wi) (fun _ i _ => (waitsL d).length - (intOf i).toNat)
  case atStart => exact ⟨0, [], _, _, _, Nat.zero_le _, rfl, Lib.hid (by simp [toB]), Nat.zero_le _, Grow.nil, HB, Below.refl _ _⟩
  case round =>
    clear HB
    obtain ⟨j, N, vs, L, H, hj, rfl, HN, hNl, hG, HB, bi⟩ := hrel
    have hszi := bi.size
    by_cases hjn : j < (waitsL d).length
    · have hjz : (j : Int) < (waitsL d).length := by omega
      obtain ⟨bL, oL, hAL, hbL, hne, hcL⟩ := HB.out (by omega)
      have hget : (waitsL d)[j]? = some (waitsL d)[j] := List.getElem?_eq_getElem hjn
      generalize (waitsL d)[j] = a at hget
      obtain ⟨a0, a1⟩ := hcL j a hget
      have HGJ := Lib.hid hget
      subst hAL
      clear hcL hget hne
      have hA0 := (Below.refl wr.heap.size wr).alloc (Nat.le_refl _) (.cells #[.int .i64 a.1, .int .i64 a.2] 90)
      have Z := Bx.new (w := wr) (c := #[.int .i64 a.1, .int .i64 a.2]) (t := 90) rfl
      have hG := hG.next hA0
      have HB := Lib.hid (HB.out.next hA0)
      have bi := bi.trans (hA0.mono (by omega))
      have hszi := bi.size
      clear hA0
      go_upto_region 4 with (fail)
      go_upto_region 5 with (fail)
      clear a0 a1
      generalize wr.alloc (.cells #[.int .i64 a.1, .int .i64 a.2] 90) = wr at hG HB bi hszi Z ⊢
      obtain ⟨⟨a0, a1⟩, _⟩ := Z.c2
      have Zl := Z.lt
      by_cases hz : a.1 = z
      · rw [hz] at a0
        have hA := (Below.refl wr.heap.size wr).alloc (Nat.le_refl _) (.cells #[.int .i64 a.2] 3)
        have hGa := hG.next hA
        have hbk := hG.row.lt
        have hH4 := hG.top
        clear hA hG
        go_wp2_with (at_builtin; refine wpList_append_lies _ rfl _ _ 28 rfl (w.heap.size + 1) 3 i0 (.int .i64 0) 1 8 Tryz.underlying28 Hi.out Hz0.out Hz1.out Hz2.out rfl (by decide) _ _ _ rfl (show World.ownsRow _ _ _ 1 _ _ _ from hGa.row) ⟨wr.heap.size, 0, none⟩ 1 1 [.int .i64 a.2] rfl rfl ?c1 (fun u hu => by simp at hu; subst hu; rfl) (by decide) ?c3 ?c4 ?c5 (wr.heap.size + 1) ?c6 ?_)
        case c3 => unfold maxLen; omega
        case c4 => omega
        case c5 => first | omega | (simp; omega)
        intro q cap w5 hown' hgrow hat hlt
        have HG5 := Lib.hid (hGa.push (a := a.2) (nv := [.int .i64 a.2]) (s := wr.heap.size) (t := wr.heap.size) hown' hgrow (by rcases hat with h | h; exact .inl h; exact .inr (by simpa using h)) rfl (by omega) (by simp) hH4 (fun q hq => (hbk q hq).2))
        have HB5 := Lib.hid (HB.out.push (n := N.length + 1) (cap := cap) hgrow (by rcases hat with h | h; exact .inl h; exact .inr (by omega)))
        have b45 : Below (w.heap.size + 1) wr w5 := ((Below.refl ((w.heap.size + 1)) wr).alloc (by omega) (.cells #[.int .i64 a.2] 3)).grown hgrow (by simp; omega) (fun q hq => (hGa.row.lt q hq).1)
        have bi := bi.trans b45
        have HN5 := Lib.hid (show N ++ [a.2] = toB z ((waitsL d).take (j + 1)) by rw [toB_yes HGJ.out hz, ← HN.out])
        have HN5L := Lib.hid (show (N ++ [a.2]).length ≤ 100 by rw [HN5.out]; have := toB_len z ((waitsL d).take (j + 1)); rw [List.length_take] at this; omega)
        clear hown' hgrow hat hGa b45 hbk hH4 HN hNl HB
        go_wp2
        exact ⟨⟨j + 1, N ++ [a.2], _, _, _, by omega, by go_num, HN5, HN5L.out, HG5.out, HB5, bi⟩, by simp [intOf]; omega⟩
      · have HN5 := Lib.hid (show N = toB z ((waitsL d).take (j + 1)) by rw [toB_no HGJ.out hz, ← HN.out])
        have HG5 := Lib.hid hG
        have HB5 := HB
        clear hG HN HB
        go_wp2
        exact ⟨⟨j + 1, N, _, _, _, by omega, by go_num, HN5, hNl, HG5.out, HB5, bi⟩, by simp [intOf]; omega⟩
    · obtain rfl : j = (waitsL d).length := by omega
      have HE := Lib.hid (show N = blockedL d z by rw [HN.out, List.take_length]; rfl)
      obtain ⟨A, c, rfl, ho⟩ := hG.done
      have HO := Lib.hid (ho.more (show w.heap.size ≤ w.heap.size + 1 by omega) (Nat.le_refl _))
      rw [HE.out] at HO ⊢
      have bw := b3.trans (bi.mono (by omega))
      clear hG ho
      go_wp2
      go_ret
      exact ⟨A, c, rfl, bw, HO.out⟩
set_option maxHeartbeats 6400000 in
set_option maxRecDepth 100000 in
theorem specBlocked_any (d : DEngine) (z : Int) (B : Nat) (vs : List Value) (w : World) (hs : fEngine.cnt d ≤ 1048576) (hB : B ≤ w.heap.size) (h : fEngine.At w B d vs) :
    Calls Tryz.prog 17 #[.agg vs.toArray, .int .i64 z] w (RetF intF w (blockedL d z)) := by
  obtain ⟨i0, hi, hz0, hz1, hz2⟩ := info_parts infoInt
  have Hi := Lib.hid hi
  have Hz0 := Lib.hid hz0
  have Hz1 := Lib.hid hz1
  have Hz2 := Lib.hid hz2
  clear hi hz0 hz1 hz2
  have HAT := Lib.hid h
  have HCNT := Lib.hid hs
  have h16 := waits_16 d
  obtain ⟨A5, c5, A6, c6, A7, c7, A10, c10, rfl, r5, r6, r7, r10⟩ := at_Engine h
  clear h r5 r6 r7 r10 hs
  have b := (Below.refl w.heap.size w).alloc (Nat.le_refl _) (.cells #[.int .i64 d.1.1, .int .i64 d.1.2.1, .int .i64 d.1.2.2.1, .bool d.1.2.2.2.1, .int .i64 d.1.2.2.2.2, .slice A5 (d.2.1).length c5, .slice A6 (d.2.2.1).length c6, .slice A7 (d.2.2.2.1).length c7, .int .i64 d.2.2.2.2.1, .int .i64 d.2.2.2.2.2.1, .slice A10 (d.2.2.2.2.2.2.1).length c10, .int .i64 d.2.2.2.2.2.2.2.1, .int .i64 d.2.2.2.2.2.2.2.2] 41)
  have X := Bx.new (w := w) (c := #[.int .i64 d.1.1, .int .i64 d.1.2.1, .int .i64 d.1.2.2.1, .bool d.1.2.2.2.1, .int .i64 d.1.2.2.2.2, .slice A5 (d.2.1).length c5, .slice A6 (d.2.2.1).length c6, .slice A7 (d.2.2.2.1).length c7, .int .i64 d.2.2.2.2.1, .int .i64 d.2.2.2.2.2.1, .slice A10 (d.2.2.2.2.2.2.1).length c10, .int .i64 d.2.2.2.2.2.2.2.1, .int .i64 d.2.2.2.2.2.2.2.2]) (t := 41) rfl
  have hsz := b.size
  go_enter Tryz.func17, Tryz.ntmps17
  go_upto_region 0 with (fail)
  go_upto_region 1 with (fail)
  have hs1 : (w.alloc (.cells #[.int .i64 d.1.1, .int .i64 d.1.2.1, .int .i64 d.1.2.2.1, .bool d.1.2.2.2.1, .int .i64 d.1.2.2.2.2, .slice A5 (d.2.1).length c5, .slice A6 (d.2.2.1).length c6, .slice A7 (d.2.2.2.1).length c7, .int .i64 d.2.2.2.2.1, .int .i64 d.2.2.2.2.2.1, .slice A10 (d.2.2.2.2.2.2.1).length c10, .int .i64 d.2.2.2.2.2.2.2.1, .int .i64 d.2.2.2.2.2.2.2.2] 41)).heap.size = w.heap.size + 1 := by simp
  generalize w.alloc (.cells #[.int .i64 d.1.1, .int .i64 d.1.2.1, .int .i64 d.1.2.2.1, .bool d.1.2.2.2.1, .int .i64 d.1.2.2.2.2, .slice A5 (d.2.1).length c5, .slice A6 (d.2.2.1).length c6, .slice A7 (d.2.2.2.1).length c7, .int .i64 d.2.2.2.2.1, .int .i64 d.2.2.2.2.2.1, .slice A10 (d.2.2.2.2.2.2.1).length c10, .int .i64 d.2.2.2.2.2.2.2.1, .int .i64 d.2.2.2.2.2.2.2.2] 41) = w1 at b X hsz hs1 ⊢
  go_upto_region 2 with (fail)
  have hown := World.ownsRow_made (base := w1.heap.size) (size := 1) (e := 3) w1 #[] 0 (Nat.le_refl _) (Nat.zero_le _) rfl
  have hG0 := Grow.of_row (F := intF) hown
  have hb1 := (Below.refl w1.heap.size w1).alloc (Nat.le_refl _) (.cells #[] 3)
  have X := X.next hb1
  have b := b.trans (hb1.mono hsz)
  clear hown
  generalize w1.alloc (.cells #[] 3) = w2 at hG0 hb1 X b ⊢
  rw [hs1] at hG0
  have hsz := b.size
  have hs2 := hb1.size
  clear hb1
  obtain ⟨⟨x0, x1, x2, x3, x4, x5, x6, x7, x8, x9, x10, x11, x12⟩, _⟩ := X.c13
  have Xl := X.lt
  go_wp2_with fail
  clear x0 x1 x2 x3 x4 x5 x6 x7 x8 x9 x10 x11 x12 Xl
  (with_reducible refine (specWaitsFor_any d B _ _ HCNT.out (Nat.le_trans hB hsz) (fEngine.at_same HAT.out (.of b hB))).mono ?_); rintro o w3 ⟨AL, cL, rfl, hb, OL⟩
  have hGl := hG0.row.lt
  have HB := Lib.hid (BesW.start (v := .slice (some ⟨w.heap.size + 1, 0, none⟩) 0 0) OL (fun q hq => (hGl q hq).2))
  have HG := Lib.hid (hG0.next hb)
  have b3 := b.trans (hb.mono hsz)
  have hs3 := hb.size
  clear OL hb b X hG0 hGl
  have hb3s := b3.size
  go_wp2_with fail
  go_loopw [5, 7] (fun v i wi => ∃ (j : Nat) (N : List Int) (vs : Nat → List Value) (L H : Nat → Nat), j ≤ (waitsL d).length ∧ i = .int .i64 j ∧ Hid (N = toB z ((waitsL d).take j)) ∧ N.length ≤ 100 ∧ Grow intF 3 (w.heap.size + 1) wi v N vs L H ∧ Hid (BesW wi v AL (waitsL d)) ∧ Below (w.heap.size + 1) w3 wi) (fun _ i _ => (waitsL d).length - (intOf i).toNat)
  case atStart => exact ⟨0, [], _, _, _, Nat.zero_le _, rfl, Lib.hid (by simp [toB]), Nat.zero_le _, HG.out, HB, Below.refl _ _⟩
  case round =>
    clear HB HG
    obtain ⟨j, N, vs, L, H, hj, rfl, HN, hNl, hG, HB, bi⟩ := hrel
    have hszi := bi.size
    by_cases hjn : j < (waitsL d).length
    · have hjz : (j : Int) < (waitsL d).length := by omega
      obtain ⟨bL, oL, hAL, hbL, hne, hcL⟩ := HB.out (by omega)
      have hget : (waitsL d)[j]? = some (waitsL d)[j] := List.getElem?_eq_getElem hjn
      generalize (waitsL d)[j] = a at hget
      obtain ⟨a0, a1⟩ := hcL j a hget
      have HGJ := Lib.hid hget
      subst hAL
      clear hcL hget hne
      by_cases hz : a.1 = z
      · rw [hz] at a0
        have hA := (Below.refl wr.heap.size wr).alloc (Nat.le_refl _) (.cells #[.int .i64 a.2] 3)
        have hGa := hG.next hA
        have hbk := hG.row.lt
        have hH4 := hG.top
        clear hA hG
        go_wp2_with (at_builtin; refine wpList_append_lies _ rfl _ _ 28 rfl (w.heap.size + 1) 3 i0 (.int .i64 0) 1 8 Tryz.underlying28 Hi.out Hz0.out Hz1.out Hz2.out rfl (by decide) _ _ _ rfl (show World.ownsRow _ _ _ 1 _ _ _ from hGa.row) ⟨wr.heap.size, 0, none⟩ 1 1 [.int .i64 a.2] rfl rfl ?c1 (fun u hu => by simp at hu; subst hu; rfl) (by decide) ?c3 ?c4 ?c5 (wr.heap.size + 1) ?c6 ?_)
        case c1 => intro q u hu; rw [cell_addr, Nat.zero_add, World.cell?_alloc_new]; simpa using hu
        case c3 => unfold maxLen; omega
        case c4 => omega
        case c5 => first | omega | (simp; omega)
        case c6 => simp
        intro q cap w5 hown' hgrow hat hlt
        have HG5 := Lib.hid (hGa.push (a := a.2) (nv := [.int .i64 a.2]) (s := wr.heap.size) (t := wr.heap.size) hown' hgrow (by rcases hat with h | h; exact .inl h; exact .inr (by simpa using h)) rfl (by omega) (by simp) hH4 (fun q hq => (hbk q hq).2))
        have HB5 := Lib.hid (HB.out.push (n := N.length + 1) (cap := cap) hgrow (by rcases hat with h | h; exact .inl h; exact .inr (by omega)))
        have b45 : Below (w.heap.size + 1) wr w5 := ((Below.refl ((w.heap.size + 1)) wr).alloc (by omega) (.cells #[.int .i64 a.2] 3)).grown hgrow (by simp; omega) (fun q hq => (hGa.row.lt q hq).1)
        have bi := bi.trans b45
        have HN5 := Lib.hid (show N ++ [a.2] = toB z ((waitsL d).take (j + 1)) by rw [toB_yes HGJ.out hz, ← HN.out])
        have HN5L := Lib.hid (show (N ++ [a.2]).length ≤ 100 by rw [HN5.out]; have := toB_len z ((waitsL d).take (j + 1)); rw [List.length_take] at this; omega)
        clear hown' hgrow hat hGa b45 hbk hH4 HN hNl HB
        go_wp2
        exact ⟨⟨j + 1, N ++ [a.2], _, _, _, by omega, by go_num, HN5, HN5L.out, HG5.out, HB5, bi⟩, by simp [intOf]; omega⟩
      · have HN5 := Lib.hid (show N = toB z ((waitsL d).take (j + 1)) by rw [toB_no HGJ.out hz, ← HN.out])
        have HG5 := Lib.hid hG
        have HB5 := HB
        clear hG HN HB
        go_wp2
        exact ⟨⟨j + 1, N, _, _, _, by omega, by go_num, HN5, hNl, HG5.out, HB5, bi⟩, by simp [intOf]; omega⟩
    · obtain rfl : j = (waitsL d).length := by omega
      have HE := Lib.hid (show N = blockedL d z by rw [HN.out, List.take_length]; rfl)
      obtain ⟨A, c, rfl, ho⟩ := hG.done
      have HO := Lib.hid (ho.more (show w.heap.size ≤ w.heap.size + 1 by omega) (Nat.le_refl _))
      rw [HE.out] at HO ⊢
      have bw := b3.trans (bi.mono (by omega))
      clear hG ho
      go_wp2
      go_ret
      exact ⟨A, c, rfl, bw, HO.out⟩
end Go.Proofs.YtkpkjcmoldkmmaaGreat

namespace Go.Proofs.YtkpkjcmoldkmmaaGreat
open Go.ChangeShapes Go.WideShapes Go.ChangeAt Go.RowKit Go.Joins

set_option maxHeartbeats 12800000 in
set_option maxRecDepth 100000 in
theorem fnExactBlockedBy_walk (d : DEngine) (vs : List Value) (z1 : Int) (w : World) (hr : fEngine.At w w.heap.size d vs) :
    Calls Tryz.prog 5 #[.agg vs.toArray, .int .i64 z1] w fun e w' => e = .returned (.bool true) ∧ Below w.heap.size w w' := by
  have HR := Lib.hid hr
  obtain ⟨A5, c5, A6, c6, A7, c7, A10, c10, rfl, _, _, _, _⟩ := at_Engine hr
  clear hr
  by_cases hs : fEngine.cnt d ≤ 1048576
  · go_enter Tryz.func5, Tryz.ntmps5
    go_wp2_with fail
    have b := (Below.refl w.heap.size w).alloc (Nat.le_refl _) (.cells #[.int .i64 d.1.1, .int .i64 d.1.2.1, .int .i64 d.1.2.2.1, .bool d.1.2.2.2.1, .int .i64 d.1.2.2.2.2, .slice A5 (d.2.1).length c5, .slice A6 (d.2.2.1).length c6, .slice A7 (d.2.2.2.1).length c7, .int .i64 d.2.2.2.2.1, .int .i64 d.2.2.2.2.2.1, .slice A10 (d.2.2.2.2.2.2.1).length c10, .int .i64 d.2.2.2.2.2.2.2.1, .int .i64 d.2.2.2.2.2.2.2.2] 31)
    have X := Bx.new (w := w) (c := #[.int .i64 d.1.1, .int .i64 d.1.2.1, .int .i64 d.1.2.2.1, .bool d.1.2.2.2.1, .int .i64 d.1.2.2.2.2, .slice A5 (d.2.1).length c5, .slice A6 (d.2.2.1).length c6, .slice A7 (d.2.2.2.1).length c7, .int .i64 d.2.2.2.2.1, .int .i64 d.2.2.2.2.2.1, .slice A10 (d.2.2.2.2.2.2.1).length c10, .int .i64 d.2.2.2.2.2.2.2.1, .int .i64 d.2.2.2.2.2.2.2.2]) (t := 31) rfl
    generalize w.alloc (.cells #[.int .i64 d.1.1, .int .i64 d.1.2.1, .int .i64 d.1.2.2.1, .bool d.1.2.2.2.1, .int .i64 d.1.2.2.2.2, .slice A5 (d.2.1).length c5, .slice A6 (d.2.2.1).length c6, .slice A7 (d.2.2.2.1).length c7, .int .i64 d.2.2.2.2.1, .int .i64 d.2.2.2.2.2.1, .slice A10 (d.2.2.2.2.2.2.1).length c10, .int .i64 d.2.2.2.2.2.2.2.1, .int .i64 d.2.2.2.2.2.2.2.2] 31) = w1 at b X ⊢
    have hsz := b.size
    have hz : ¬ ((1048576 : Int) - (fEngine.cnt d : Int) < 0) := by omega
    have HE := Lib.hid (szOf_le (left := 1048576) (n := fEngine.cnt d) (by omega))
    (with_reducible refine (sz_Engine d w.heap.size _ 1048576 _ (by omega) (by omega) b.size (fEngine.at_same HR.out (.of b (Nat.le_refl _)))).mono ?_); rintro e w2 ⟨rfl, hb⟩
    rw [HE.out]
    have hsz := hb.size
    have X := X.next hb
    have b := b.trans (hb.mono b.size)
    clear hb
    obtain ⟨⟨x0, x1, x2, x3, x4, x5, x6, x7, x8, x9, x10, x11, x12⟩, _⟩ := X.c13
    go_wp2_with fail
    clear hz x0 x1 x2 x3 x4 x5 x6 x7 x8 x9 x10 x11 x12
    (with_reducible refine (to_Engine d w.heap.size _ _ hs b.size (fEngine.at_same HR.out (.of b (Nat.le_refl _)))).mono ?_); rintro e w3 ⟨us, rfl, hb, o1⟩
    obtain ⟨A5p, c5p, A6p, c6p, A7p, c7p, A10p, c10p, rfl, _, _, _, _⟩ := at_Engine (fEngine.own_at o1)
    have hsz := hb.size
    have X := X.next hb
    have b := b.trans (hb.mono b.size)
    clear hb
    have sz3 := b.size
    go_wp2_with fail
    (with_reducible refine (specBlocked_any d z1 w3.heap.size _ _ hs (by omega) (fEngine.own_at o1)).mono ?_); rintro e w4 ⟨Aa, ca, rfl, hb, a⟩
    clear o1
    have hsz := hb.size
    have X := X.next hb
    have b := b.trans (hb.mono b.size)
    clear hb
    have a := a.at_
    have sa : w3.heap.size ≤ w4.heap.size := hsz
    have sx4 : w.heap.size < w4.heap.size := X.lt
    obtain ⟨⟨x0, x1, x2, x3, x4, x5, x6, x7, x8, x9, x10, x11, x12⟩, _⟩ := X.c13
    go_wp2_with fail
    clear x0 x1 x2 x3 x4 x5 x6 x7 x8 x9 x10 x11 x12
    (with_reducible refine (to_Engine d w.heap.size _ _ hs b.size (fEngine.at_same HR.out (.of b (Nat.le_refl _)))).mono ?_); rintro e w5 ⟨us, rfl, hb, o1⟩
    obtain ⟨A5q, c5q, A6q, c6q, A7q, c7q, A10q, c10q, rfl, _, _, _, _⟩ := at_Engine (fEngine.own_at o1)
    have hsz := hb.size
    have X := X.next hb
    have a := a.keep hb (by omega)
    have b := b.trans (hb.mono b.size)
    clear hb
    have s5 : w4.heap.size ≤ w5.heap.size := hsz
    go_wp2_with fail
    have hb := (Below.refl w5.heap.size w5).alloc (Nat.le_refl _) (.cells #[.int .i64 d.1.1, .int .i64 d.1.2.1, .int .i64 d.1.2.2.1, .bool d.1.2.2.2.1, .int .i64 d.1.2.2.2.2, .slice A5q (d.2.1).length c5q, .slice A6q (d.2.2.1).length c6q, .slice A7q (d.2.2.2.1).length c7q, .int .i64 d.2.2.2.2.1, .int .i64 d.2.2.2.2.2.1, .slice A10q (d.2.2.2.2.2.2.1).length c10q, .int .i64 d.2.2.2.2.2.2.2.1, .int .i64 d.2.2.2.2.2.2.2.2] 41)
    have Y := Bx.new (w := w5) (c := #[.int .i64 d.1.1, .int .i64 d.1.2.1, .int .i64 d.1.2.2.1, .bool d.1.2.2.2.1, .int .i64 d.1.2.2.2.2, .slice A5q (d.2.1).length c5q, .slice A6q (d.2.2.1).length c6q, .slice A7q (d.2.2.2.1).length c7q, .int .i64 d.2.2.2.2.1, .int .i64 d.2.2.2.2.2.1, .slice A10q (d.2.2.2.2.2.2.1).length c10q, .int .i64 d.2.2.2.2.2.2.2.1, .int .i64 d.2.2.2.2.2.2.2.2]) (t := 41) rfl
    have hY : w5.heap.size < (w5.alloc (.cells #[.int .i64 d.1.1, .int .i64 d.1.2.1, .int .i64 d.1.2.2.1, .bool d.1.2.2.2.1, .int .i64 d.1.2.2.2.2, .slice A5q (d.2.1).length c5q, .slice A6q (d.2.2.1).length c6q, .slice A7q (d.2.2.2.1).length c7q, .int .i64 d.2.2.2.2.1, .int .i64 d.2.2.2.2.2.1, .slice A10q (d.2.2.2.2.2.2.1).length c10q, .int .i64 d.2.2.2.2.2.2.2.1, .int .i64 d.2.2.2.2.2.2.2.2] 41)).heap.size := by simp
    generalize w5.alloc (.cells #[.int .i64 d.1.1, .int .i64 d.1.2.1, .int .i64 d.1.2.2.1, .bool d.1.2.2.2.1, .int .i64 d.1.2.2.2.2, .slice A5q (d.2.1).length c5q, .slice A6q (d.2.2.1).length c6q, .slice A7q (d.2.2.2.1).length c7q, .int .i64 d.2.2.2.2.1, .int .i64 d.2.2.2.2.2.1, .slice A10q (d.2.2.2.2.2.2.1).length c10q, .int .i64 d.2.2.2.2.2.2.2.1, .int .i64 d.2.2.2.2.2.2.2.2] 41) = w6 at hb Y hY ⊢
    have hsz := hb.size
    have X := X.next hb
    have a := a.keep hb (by omega)
    have o1 := fEngine.own_same o1 (.of hb (by omega))
    have b := b.trans (hb.mono b.size)
    clear hb
    (with_reducible refine (implBlocked_any d z1 w5.heap.size _ _ hs (by omega) (fEngine.own_at o1)).mono ?_); rintro e w7 ⟨Ag, cg, rfl, hb, g⟩
    have s7 : w6.heap.size ≤ w7.heap.size := hb.size
    have hsz := hb.size
    have X := X.next hb
    have a := a.keep hb (by omega)
    have o1 := fEngine.own_same o1 (.of hb (by omega))
    have Y := Y.next hb
    have b := b.trans (hb.mono b.size)
    clear hb
    obtain ⟨⟨x0, x1, x2, x3, x4, x5, x6, x7, x8, x9, x10, x11, x12⟩, _⟩ := X.c13
    obtain ⟨⟨y0, y1, y2, y3, y4, y5, y6, y7, y8, y9, y10, y11, y12⟩, _⟩ := Y.c13
    go_wp2_with fail
    clear x0 x1 x2 x3 x4 x5 x6 x7 x8 x9 x10 x11 x12 y0 y1 y2 y3 y4 y5 y6 y7 y8 y9 y10 y11 y12
    (with_reducible refine (eq_IntS _ _ _ _ _ _ _ _ (by omega) (by omega) g.at_ a).mono ?_); rintro e w8 ⟨rfl, hb⟩
    have hsz := hb.size
    have X := X.next hb
    have a := a.keep hb (by omega)
    have o1 := fEngine.own_same o1 (.of hb (by omega))
    have Y := Y.next hb
    have g := g.next hb (by omega)
    have b := b.trans (hb.mono b.size)
    clear hb
    have s8 : w7.heap.size ≤ w8.heap.size := hsz
    have hs5 : w5.heap.size ≤ w8.heap.size := by omega
    obtain ⟨⟨x0, x1, x2, x3, x4, x5, x6, x7, x8, x9, x10, x11, x12⟩, _⟩ := X.c13
    obtain ⟨⟨y0, y1, y2, y3, y4, y5, y6, y7, y8, y9, y10, y11, y12⟩, _⟩ := Y.c13
    go_upto_region 10 with (fail)
    clear x0 x1 x2 x3 x4 x5 x6 x7 x8 x9 x10 x11 x12 y0 y1 y2 y3 y4 y5 y6 y7 y8 y9 y10 y11 y12
    go_cut [35] from 31 to 35 (fun s wx => s = .bool false ∧ Below w8.heap.size w8 wx)
    case first =>
      have hD := (Below.refl w8.heap.size w8).drew
      have Yd := Lib.hid Y.drew
      have O1 := Lib.hid (fEngine.own_at (fEngine.own_same o1 (.of hD (by omega))))
      have HD := Lib.hid (fEngine.at_same HR.out (.of b.drew (Nat.le_refl _)))
      have hbd := b.drew.size
      obtain ⟨⟨x0, x1, x2, x3, x4, x5, x6, x7, x8, x9, x10, x11, x12⟩, _⟩ := X.c13
      have Xl := X.lt
      obtain ⟨⟨y0, y1, y2, y3, y4, y5, y6, y7, y8, y9, y10, y11, y12⟩, _⟩ := Y.c13
      have Yl := Y.lt
      go_region_law (first | (go_simp; go_at_call 8; refine (to_Engine d w.heap.size _ _ hs hbd HD.out).mono ?_; rintro o w9 ⟨us, rfl, hb6, o6⟩; obtain ⟨A5r, c5r, A6r, c6r, A7r, c7r, A10r, c10r, rfl, _, _, _, _⟩ := at_Engine (fEngine.own_at o6); obtain ⟨⟨z0, z1, z2, z3, z4, z5, z6, z7, z8, z9, z10, z11, z12⟩, _⟩ := (Yd.out.next hb6).c13) | (go_simp; go_at_call 10; refine (eq_Engine d w5.heap.size _ _ _ _ (by have := hb6.size; show _ ≤ w9.heap.size; have : w8.drew.heap.size = w8.heap.size := rfl; omega) (Nat.le_refl _) (fEngine.at_same O1.out (.of hb6 (by show _ ≤ w8.heap.size; omega))) (fEngine.own_at o6)).mono ?_; rintro o w10 ⟨rfl, hb7⟩))
      all_goals
        have hb := hD.trans ((hb6.trans (hb7.mono hb6.size)).mono (Nat.le_refl _))
        clear hb6 hb7 o6 Yd O1 HD hD hbd x0 x1 x2 x3 x4 x5 x6 x7 x8 x9 x10 x11 x12 y0 y1 y2 y3 y4 y5 y6 y7 y8 y9 y10 y11 y12 z0 z1 z2 z3 z4 z5 z6 z7 z8 z9 z10 z11 z12 Xl Yl
        go_wp2_with fail
        go_meet
        exact ⟨rfl, hb⟩
    case rest =>
      obtain ⟨rfl, hb⟩ := hcut
      have hsz := hb.size
      have X := X.next hb
      have a := a.keep hb (by omega)
      have o1 := fEngine.own_same o1 (.of hb (by omega))
      have Y := Y.next hb
      have g := g.next hb (by omega)
      have b := b.trans (hb.mono b.size)
      clear hb
      have s10 := hsz
      obtain ⟨A5m, c5m, A6m, c6m, A7m, c7m, A10m, c10m, L1, H1, L2, H2, L3, H3, L4, H4, em, EO⟩ := open_EOwn o1
      clear o1
      simp only [List.cons.injEq, Value.slice.injEq, and_true, true_and] at em
      obtain ⟨⟨rfl, rfl⟩, ⟨rfl, rfl⟩, ⟨rfl, rfl⟩, rfl, rfl⟩ := em
      have hpe := pos_Engine d
      have hue := ub_Engine d
      obtain ⟨⟨x0, x1, x2, x3, x4, x5, x6, x7, x8, x9, x10, x11, x12⟩, _⟩ := X.c13
      obtain ⟨⟨y0, y1, y2, y3, y4, y5, y6, y7, y8, y9, y10, y11, y12⟩, _⟩ := Y.c13
      go_wp2_with fail
      clear x0 x1 x2 x3 x4 x5 x6 x7 x8 x9 x10 x11 x12 y0 y1 y2 y3 y4 y5 y6 y7 y8 y9 y10 y11 y12
      (with_reducible refine (mark_Engine w4.heap.size w5.heap.size d A5q A6q A7q A10q c5q c6q c7q c10q L1 H1 L2 H2 L3 H3 L4 H4 1 _ (by omega) (by omega) (by omega) EO).mono ?_); rintro e w11 ⟨rfl, hm, EO⟩
      have s11 := hm.size
      have X := X.chs hm (.inl (by omega))
      have Y := Y.chs hm (.inr (by omega))
      have a := a.same (hm.sameB (by omega) (by omega))
      have g := g.chs hm (.inr (by omega)) (by omega)
      have b := b.trans (hm.below (by omega) (by omega))
      clear hm EO
      have hk0 : ¬ ((1 : Int) + ad_Engine d < 0) := by omega
      go_wp2_with fail
      (with_reducible refine (eq_IntS _ _ _ _ _ _ _ _ (by omega) (by omega) g.at_ a).mono ?_); rintro e w12 ⟨rfl, hb⟩
      have hsz := hb.size
      have X := X.next hb
      have a := a.keep hb (by omega)
      have Y := Y.next hb
      have g := g.next hb (by omega)
      have b := b.trans (hb.mono b.size)
      clear hb
      have s12 : w11.heap.size ≤ w12.heap.size := hsz
      go_wp2_with fail
      have hua := adl_pos pos_Int (blockedL d z1)
      have hub : adl ad_Int (blockedL d z1) ≤ 1099511627775 := by have := blockedL_ub d z1; omega
      have hq0 : ¬ ((1 : Int) + adl ad_Int (blockedL d z1) < 0) := by omega
      (with_reducible refine (mark_IntS _ _ _ _ (blockedL d z1) 1 _ (by omega) (by omega) g).mono ?_); rintro e w13 ⟨rfl, hm, gm⟩
      have s13 : w13.heap.size = w12.heap.size := hm.size
      have X := X.chs (Chs.onlys hm (Nat.le_refl _) (Nat.le_refl _)) (.inl (by omega))
      have a := a.same (fun k hk => hm.block k (.inl (by omega)))
      have b := b.trans (hm.below (by omega))
      clear hm g Y
      go_wp2_with fail
      (with_reducible refine (held_IntS _ _ _ (blockedL d z1) 1 _ (by omega) (by omega) gm.at_).mono ?_); rintro e w14 ⟨rfl, rfl⟩
      obtain ⟨⟨x0, x1, x2, x3, x4, x5, x6, x7, x8, x9, x10, x11, x12⟩, _⟩ := X.c13
      go_wp2_with fail
      clear x0 x1 x2 x3 x4 x5 x6 x7 x8 x9 x10 x11 x12
      (with_reducible refine (to_Engine d w.heap.size _ _ hs b.size (fEngine.at_same HR.out (.of b (Nat.le_refl _)))).mono ?_); rintro e w15 ⟨us, rfl, hb, o2⟩
      obtain ⟨A5s, c5s, A6s, c6s, A7s, c7s, A10s, c10s, rfl, _, _, _, _⟩ := at_Engine (fEngine.own_at o2)
      have hsz := hb.size
      have X := X.next hb
      have a := a.keep hb (by omega)
      have gm := gm.next hb (by omega)
      have b := b.trans (hb.mono b.size)
      clear hb
      go_wp2_with fail
      (with_reducible refine (implBlocked_any d z1 w15.heap.size _ _ hs (by omega) (fEngine.own_at o2)).mono ?_); rintro e w16 ⟨Ah, ch, rfl, hb, h⟩
      clear o2
      have hsz := hb.size
      have X := X.next hb
      have a := a.keep hb (by omega)
      have gm := gm.next hb (by omega)
      have b := b.trans (hb.mono b.size)
      clear hb
      go_wp2_with fail
      (with_reducible refine (eq_IntS _ _ _ _ _ _ _ _ (by omega) (by omega) h.at_ a).mono ?_); rintro e w17 ⟨rfl, hb⟩
      have hsz := hb.size
      have X := X.next hb
      have a := a.keep hb (by omega)
      have gm := gm.next hb (by omega)
      have h := h.next hb (by omega)
      have b := b.trans (hb.mono b.size)
      clear hb
      go_wp2_with fail
      (with_reducible refine (held_IntS _ _ _ (blockedL d z1) 1 _ (by omega) (by omega) gm.at_).mono ?_); rintro e w18 ⟨rfl, rfl⟩
      go_wp2
      go_ret
      exact ⟨rfl, b⟩
  · go_enter Tryz.func5, Tryz.ntmps5
    go_wp2_with fail
    have b := (Below.refl w.heap.size w).alloc (Nat.le_refl _) (.cells #[.int .i64 d.1.1, .int .i64 d.1.2.1, .int .i64 d.1.2.2.1, .bool d.1.2.2.2.1, .int .i64 d.1.2.2.2.2, .slice A5 (d.2.1).length c5, .slice A6 (d.2.2.1).length c6, .slice A7 (d.2.2.2.1).length c7, .int .i64 d.2.2.2.2.1, .int .i64 d.2.2.2.2.2.1, .slice A10 (d.2.2.2.2.2.2.1).length c10, .int .i64 d.2.2.2.2.2.2.2.1, .int .i64 d.2.2.2.2.2.2.2.2] 31)
    have X := Bx.new (w := w) (c := #[.int .i64 d.1.1, .int .i64 d.1.2.1, .int .i64 d.1.2.2.1, .bool d.1.2.2.2.1, .int .i64 d.1.2.2.2.2, .slice A5 (d.2.1).length c5, .slice A6 (d.2.2.1).length c6, .slice A7 (d.2.2.2.1).length c7, .int .i64 d.2.2.2.2.1, .int .i64 d.2.2.2.2.2.1, .slice A10 (d.2.2.2.2.2.2.1).length c10, .int .i64 d.2.2.2.2.2.2.2.1, .int .i64 d.2.2.2.2.2.2.2.2]) (t := 31) rfl
    generalize w.alloc (.cells #[.int .i64 d.1.1, .int .i64 d.1.2.1, .int .i64 d.1.2.2.1, .bool d.1.2.2.2.1, .int .i64 d.1.2.2.2.2, .slice A5 (d.2.1).length c5, .slice A6 (d.2.2.1).length c6, .slice A7 (d.2.2.2.1).length c7, .int .i64 d.2.2.2.2.1, .int .i64 d.2.2.2.2.2.1, .slice A10 (d.2.2.2.2.2.2.1).length c10, .int .i64 d.2.2.2.2.2.2.2.1, .int .i64 d.2.2.2.2.2.2.2.2] 31) = w1 at b X ⊢
    have hsz := b.size
    have HE := Lib.hid (szOf_lt (left := 1048576) (n := fEngine.cnt d) (by omega))
    (with_reducible refine (sz_Engine d w.heap.size _ 1048576 _ (by omega) (by omega) b.size (fEngine.at_same HR.out (.of b (Nat.le_refl _)))).mono ?_); rintro e w2 ⟨rfl, hb⟩
    rw [HE.out]
    have b := b.trans (hb.mono b.size)
    clear hb
    go_wp2
    go_ret
    exact ⟨rfl, b⟩

set_option maxRecDepth 100000 in
theorem fnExactBlockedBy_lifted (os : Os) (started : os.Started) (H : Type) (enc : TypeId × Value → H) :
    ReturnsInHanded {} Tryz.checked os 5 .any (Rows.fnExactBlockedBySpec.pre6 enc Tryz.prog Tryz.f5 Rows.fnExactBlockedByRow.domain false) (Rows.fnExactBlockedBySpec.post enc Tryz.prog Tryz.f5 false true false false) := by
  refine returnsInHanded_of_change (C := Tryz.checked) own started (by kernel_rfl) Tryz.func5
    (ChangeSpec.witness6 (enc := enc) (C := Tryz.checked) false ⟨#[], #[.agg #[.int .i64 0, .int .i64 0, .int .i64 0, .bool false, .int .i64 0, .slice none 0 0, .slice none 0 0, .slice none 0 0, .int .i64 0, .int .i64 0, .slice none 0 0, .int .i64 0, .int .i64 0], .int .i64 0], []⟩ 8 (by kernel_rfl) (by kernel_rfl) (by kernel_rfl) (by kernel_rfl)) ?_
  intro W base args ds gs before hval0 hW _ _
  have hval : ∀ (j : Nat) t v, Tryz.f5.params[j]? = some t → args[j]? = some v → Value.okWide Tryz.prog W .any base t v := hval0
  have hW' := hW
  obtain ⟨p, q, hA0, hV, rfl, _, _⟩ := hW
  have hA : DataW.TrodAll enc Tryz.prog W 0 (fun _ => true) true Tryz.f5.params.toList args.toList ds p := hA0
  rw [Tryz.params5] at hA hval
  obtain ⟨v0, vs0, d0, ds0, p0, q0, hargs0, rfl, rfl, h0, rr0⟩ := trodAll_cons hA
  obtain ⟨v1, vs1, d1, ds1, p1, q1, hargs1, rfl, rfl, h1, rr1⟩ := trodAll_cons rr0
  obtain ⟨rfl, rfl, rfl⟩ := trodAll_nil rr1
  obtain rfl : args = #[v0, v1] := by cases args; simp_all
  obtain ⟨rfl, rfl⟩ := trodVars_none hV
  have k0 := h0
  have lt0 : ∀ x ∈ p0, x.block < W.heap.size := by obtain ⟨m, hm⟩ := k0; exact DataW.trod_lt m _ _ _ hm
  have k1 := h1
  have lt1 : ∀ x ∈ p1, x.block < W.heap.size := by obtain ⟨m, hm⟩ := k1; exact DataW.trod_lt m _ _ _ hm
  obtain ⟨d, vs, rfl, hat, _⟩ := arg_Engine (hval 0 31 v0 rfl rfl) h0
  obtain ⟨z1, rfl⟩ := Go.WideShapes.okWide_int Tryz.underlying3 (hval 1 3 v1 rfl rfl)
  clear hA0 hval0
  refine (fnExactBlockedBy_walk d vs z1 W hat).mono fun e W' ⟨he, bel⟩ => ?_
  subst he
  exact ⟨_, rfl, _, _, _, [], _, [], hW', trodAll_mk1 (shut_bool Tryz.underlying4 _), (trodAll_cons_mk (Below.trod laidOut (by kernel_rfl) (of_decide_eq_true (by kernel_rfl)) k0 bel lt0) (trodAll_cons_mk (Below.trod laidOut (by kernel_rfl) (of_decide_eq_true (by kernel_rfl)) k1 bel lt1) (trodAll_mk0))), rfl, bel.frame _, fun h => by cases h⟩

/-- FnExactBlockedBy -/
theorem fnExactBlockedBy_holds : Rows.FnExactBlockedBySaid :=
  OpenClaim.holds_of_wide 5 Tryz.f5 rfl rfl rfl rfl rfl rfl rfl ⟨rfl, rfl, rfl, rfl, rfl⟩ rfl rfl rfl rfl rfl (by kernel_rfl) Tryz.func5 (by kernel_rfl)
    (of_decide_eq_true (by kernel_rfl)) (by unfold Func.isWrapper; first | (rw [if_pos (by decide +kernel)]; kernel_rfl) | (rw [if_neg (by decide +kernel)]; exact ⟨rfl, rfl⟩))
    (fun os started H enc _ => fnExactBlockedBy_lifted os started H enc)
#print axioms fnExactBlockedBy_holds
end Go.Proofs.YtkpkjcmoldkmmaaGreat
