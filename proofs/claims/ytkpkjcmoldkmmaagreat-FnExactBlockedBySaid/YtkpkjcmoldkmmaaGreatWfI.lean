/- Wait graphs: WaitsFor of the program. -/
import Derived.Test.YtkpkjcmoldkmmaaGreatWfG
import Derived.Test.YtkpkjcmoldkmmaaGreatWfH
import Derived.Test.YtkpkjcmoldkmmaaGreatWfC
import Derived.Test.YtkpkjcmoldkmmaaGreatWfF
import Derived.Lib.OwnBridge
import Derived.Lib.AppendIntMem
import Derived.Test.YtkpkjcmoldkmmaaGreatWfD
import Derived.Deep.AppendLies
namespace Go.Proofs.YtkpkjcmoldkmmaaGreat
open Go.RowKit Go.Sort Go.Shelf Go.Lib

theorem infoC_Wait : (Tryz.prog.info? 90).map (fun i => (i.zero, i.size, i.bytes)) = some (some (.agg #[.int .i64 0, .int .i64 0]), 2, 16) := by kernel_rfl
theorem holds_grow_row {w : World} {e : TypeId} {base g cap : Nat} {M : List DWait} {vs : Nat → List Value} {L H : Nat → Nat} (h : Grow fWait e base w (.slice (some ⟨g, 0, none⟩) M.length cap) M vs L H) : HoldsK encW 2 w g 0 M.toArray := by
  intro j hj
  have hj2 : j < M.length * 2 := by simpa using hj
  refine ⟨?_, h.row.frozenAt _⟩
  have hd : j / 2 < M.length := by omega
  have hv : vs (j / 2) = encW M[j / 2] := at_Wait (fWait.own_at (h.own _ _ (List.getElem?_eq_getElem hd)).2.2)
  have h1 := h.row.cellAt j (by exact hj2)
  have h2 := catC_get (vs := vs) (n := 2) (i := j % 2) (fun j hj => h.len hj) hd (by omega)
  rw [show j / 2 * 2 + j % 2 = j by omega, hv] at h2
  rw [Nat.zero_add, h1, h2, get_flatK _ _ _ _ (by simpa using hj2), getElem!_pos M.toArray _ (by simpa using hd)]
  rcases (by omega : j % 2 = 0 ∨ j % 2 = 1) with h3 | h3 <;> rw [h3] <;> simp [encW]
theorem compactW_n (n g cap : Nat) (d : Array (Int × Int)) (w : World) (hn : n = d.size) (hH : HoldsK encW 2 w g 0 d) (hsz : d.size ≤ 1000) (hcap : d.size ≤ cap) :
    Calls Tryz.prog 50 #[.slice (some ⟨g, 0, none⟩) n cap] w fun e w' => e = .returned (.slice (some ⟨g, 0, none⟩) (compactUpTo d d.size).length cap) ∧ ∃ q, w' = endW w g d q := by
  subst hn
  exact compactW_any g cap d w hH hsz hcap
set_option maxRecDepth 100000 in
theorem compactW_none (p : Option Addr) (c : Nat) (w : World) :
    Calls Tryz.prog 50 #[.slice p 0 c] w fun e w' => e = .returned (.slice p 0 c) ∧ w' = w := by
  go_enter Tryz.func50, Tryz.ntmps50
  go_wp2
  go_ret
  exact ⟨rfl, rfl⟩
theorem frozen_sortW {w : World} {g n : Nat} {d : Array (Int × Int)} {os : Array Obj} (hg : g < w.heap.size) (o : Nat) (h : w.frozen? ⟨g, o, none⟩ = false) : (sortWorldK encW 2 w g 0 n d os).frozen? ⟨g, o, none⟩ = false := by
  unfold sortWorldK
  have e : (grow (putRowK encW 2 (Sort.ahead w n) g 0 d) os).heap[g]? = (putRowK encW 2 (Sort.ahead w n) g 0 d).heap[g]? := by
    unfold grow
    exact Array.getElem?_append_left (by simpa [putRowK, putRow, mapBlock, Sort.ahead] using hg)
  rw [World.frozen?_of_block (a := ⟨g, o, none⟩) e]
  unfold putRowK
  rw [frozen?_putRow]
  exact h
theorem frozen_endW {w : World} {g q : Nat} {d : Array (Int × Int)} (o : Nat) (h : w.frozen? ⟨g, o, none⟩ = false) : (endW w g d q).frozen? ⟨g, o, none⟩ = false := by
  unfold endW putRowK
  rw [frozen?_putRow]
  exact h
theorem below_sortW {B : Nat} {w0 w : World} {g n : Nat} {d : Array (Int × Int)} {os : Array Obj} (h : Below B w0 w) (hg : B ≤ g) (hB : B ≤ w.heap.size) : Below B w0 (sortWorldK encW 2 w g 0 n d os) := by
  unfold sortWorldK putRowK
  have h1 := below_putRow (enc := id) (q := n) (d := flatK encW 2 d) h hg
  refine h1.trans (below_grow B _ ?_ 0 os)
  simpa [putRow, mapBlock, Sort.ahead] using hB
theorem below_endW {B : Nat} {w0 w : World} {g q : Nat} {d : Array (Int × Int)} (h : Below B w0 w) (hg : B ≤ g) : Below B w0 (endW w g d q) := by
  unfold endW putRowK
  exact below_putRow h hg
theorem compact_le (d : Array (Int × Int)) (m : Nat) : (compactUpTo d m).length ≤ m := by
  unfold compactUpTo
  rw [List.length_map]
  exact Nat.le_trans (List.length_filter_le _ _) (by simp)
theorem end_holds {w : World} {g q : Nat} {d : Array (Int × Int)} (hH : HoldsK encW 2 w g 0 d) : HoldsK encW 2 (endW w g d q) g 0 (compactUpTo d d.size ++ List.replicate (d.size - (compactUpTo d d.size).length) ((0 : Int), (0 : Int))).toArray := by
  unfold endW
  have := compact_le d d.size
  exact holdsK_putRowK encW 2 _ g 0 d _ (holdsK_ahead encW 2 w q g 0 d hH) (by simp; omega)
theorem flat_Wait {w w' : World} {B : Nat} : ∀ a vs, fWait.At w B a vs → fWait.Own w' w'.heap.size w'.heap.size a vs := fun a vs h => by
  have := at_Wait h
  subst this
  exact own_Wait (Nat.le_refl _) a
/-- the row that compacting leaves -/
theorem end_own {w w0 : World} {g q : Nat} {d : Array (Int × Int)} (hH : HoldsK encW 2 w g 0 d) (hg : w0.heap.size ≤ g) (hlt : g < w.heap.size) (hf : ∀ o, w.frozen? ⟨g, o, none⟩ = false) (hsz : d.size ≤ 1000) :
    ROwn fWait (endW w g d q) w0.heap.size (endW w g d q).heap.size (some ⟨g, 0, none⟩) (compactUpTo d d.size) := by
  have hl := compact_le d d.size
  have hE := end_holds (q := q) hH
  refine Shal.own (F := fWait) (w := w0) (B := 0) (fun _ => ⟨g, fun j => encW ((compactUpTo d d.size).getD j (0, 0)), rfl, hg, ?_, fun o => frozen_endW o (hf o), fun j a ha => ⟨fun i u hu => ?_, ?_⟩⟩) (by unfold maxLen; omega) flat_Wait
  · unfold endW putRowK
    simpa [putRow, mapBlock, Sort.ahead] using hlt
  · have hj := get_lt ha
    have ea : (compactUpTo d d.size).getD j (0, 0) = a := by rw [List.getD_eq_getElem?_getD, ha]; rfl
    obtain ⟨h1, h2, _, _⟩ := holdsW_get hE (k := j) (by simp; omega)
    have e : (compactUpTo d d.size ++ List.replicate (d.size - (compactUpTo d d.size).length) ((0 : Int), (0 : Int))).toArray[j]! = a := by
      rw [get_def, List.getElem?_toArray, List.getElem?_append_left hj, ha]
      rfl
    rw [e] at h1 h2
    replace hu : (encW ((compactUpTo d d.size).getD j (0, 0)))[i]? = some u := hu
    rw [ea] at hu
    match i, hu with
    | 0, hu => simp [encW] at hu; subst hu; exact h1
    | 1, hu => simp [encW] at hu; subst hu; exact h2
  · have ea : (compactUpTo d d.size).getD j (0, 0) = a := by rw [List.getD_eq_getElem?_getD, ha]; rfl
    show fWait.At w0 0 a (encW ((compactUpTo d d.size).getD j (0, 0)))
    rw [ea]
    exact fWait.own_at (own_Wait (Nat.le_refl 0) a)
theorem waits_compact {d : DEngine} (hok : engOk d = true) : compactUpTo (sortedW (listedL d d.2.2.1.length)).toArray (sortedW (listedL d d.2.2.1.length)).toArray.size = waitsL d := by
  have hp := sortedW_perm (listedL d d.2.2.1.length)
  have hs := sortedW_sorted (listedL d d.2.2.1.length)
  have hm : ∀ x, x ∈ sortedW (listedL d d.2.2.1.length) ↔ x ∈ waitsL d := fun x => by
    rw [hp.mem_iff, listed_mem hok, waits_yes hok]
  have hw : (waitsL d).Pairwise wlt := by rw [waits_yes hok]; exact pairsUp_sorted _ _
  generalize sortedW (listedL d d.2.2.1.length) = S at hs hm
  refine sorted_eq (compact_wlt _ (fun i j hij hj => ?_) _ (Nat.le_refl _)) hw (fun x => ?_)
  · have hj' : j < S.length := by simpa using hj
    rw [getElem!_pos S.toArray j hj, getElem!_pos S.toArray i (by omega)]
    simpa using List.pairwise_iff_getElem.1 hs i j (by omega) hj' hij
  · rw [compact_mem, ← hm]
    constructor
    · rintro ⟨j, hj, rfl⟩
      rw [getElem!_pos S.toArray j hj]
      simp
    · intro hx
      obtain ⟨j, hj, rfl⟩ := List.getElem_of_mem hx
      exact ⟨j, by simpa using hj, by rw [getElem!_pos S.toArray j (by simpa using hj)]; simp⟩
theorem waits_len {d : DEngine} (hok : engOk d = true) : (waitsL d).length ≤ 16 := by
  rw [waits_yes hok]
  have h1 := pairsUp_len d.2.2.1.length (waitB d)
  have h2 := eng_four hok
  exact Nat.le_trans h1 (Nat.mul_le_mul h2 h2)
end Go.Proofs.YtkpkjcmoldkmmaaGreat

namespace Go.Proofs.YtkpkjcmoldkmmaaGreat
open Go.RowKit Go.Sort Go.Shelf Go.Lib

theorem rat_own {w : World} {lo hi : Nat} {A : Option Addr} {l : List Int} (h : OwnI w lo hi A l.length (fun j => l.getD j 0)) (hl : l.length ≤ 1000) : RAt intF w hi A l := ⟨by unfold maxLen; omega, fun h0 => by
  obtain ⟨b, off, e, h1, h2, hc⟩ := h h0
  refine ⟨b, off, e, h2, fun j a ha => ⟨[.int .i64 a], fun i u hu => ?_, rfl⟩⟩
  have hj := get_lt ha
  have h3 : w.cell? ⟨b, off + j, none⟩ = some (.int .i64 (l.getD j 0)) := (hc j hj).1
  match i, hu with
  | 0, hu =>
    simp only [List.getElem?_cons_zero, Option.some.injEq] at hu
    subst hu
    rw [List.getD_eq_getElem?_getD, ha] at h3
    rw [show intF.n = 1 from rfl, Nat.mul_one, Nat.add_zero]
    exact h3⟩
theorem rat_up {α : Type} {F : Fm α} {w : World} {B B' : Nat} {A : Option Addr} {l : List α} (h : RAt F w B A l) (hB : B ≤ B') : RAt F w B' A l := ⟨h.1, fun h0 => by
  obtain ⟨b, off, e, hb, hc⟩ := h.2 h0
  exact ⟨b, off, e, by omega, fun j a ha => by
    obtain ⟨vs, h1, h2⟩ := hc j a ha
    exact ⟨vs, h1, F.at_up h2 hB⟩⟩⟩
/-- what region 7 leaves -/
def CutC (w1 : World) (l : List Int) (s t u : Value) (wx : World) : Prop := ∃ A c, s = .slice A l.length c ∧ t = .int .i64 l.length ∧ u = .int .i64 0 ∧ Below w1.heap.size w1 wx ∧ ROwn intF wx w1.heap.size wx.heap.size A l
/-- a row of ints beside a row in the making -/
def BesI (w : World) (v : Value) (A : Option Addr) (l : List Int) : Prop := 0 < l.length → ∃ b o, A = some ⟨b, o, none⟩ ∧ b < w.heap.size ∧ ¬ v.ownBlock = some b ∧ ∀ j a, l[j]? = some a → w.cell? ⟨b, o + j, none⟩ = some (.int .i64 a)
theorem BesI.start {w : World} {v : Value} {A : Option Addr} {l : List Int} {lo : Nat} (r : ROwn intF w lo w.heap.size A l) (hv : ∀ q, v.ownBlock = some q → q < lo) : BesI w v A l := fun h0 => by
  obtain ⟨b, o, e, vs, L, H, hr⟩ := r.2 h0
  refine ⟨b, o, e, hr.rhi, fun h => ?_, fun j a ha => ?_⟩
  · have := hv b h
    have := hr.rlo
    omega
  · have h1 := hr.cell j (get_lt ha)
    have h2 := hr.own j a ha
    rw [show vs j = [.int .i64 a] from h2] at h1
    have h3 := h1 0 _ rfl
    rw [show intF.n = 1 from rfl, Nat.mul_one, Nat.add_zero] at h3
    exact h3
theorem BesI.push {w w5 : World} {v : Value} {A : Option Addr} {l : List Int} {o : Obj} {g n cap : Nat} (h : BesI w v A l) (hgrow : (w.alloc o).grownBy w5 v.ownBlock) (hat : v.ownBlock = some g ∨ w.heap.size ≤ g) : BesI w5 (.slice (some ⟨g, 0, none⟩) n cap) A l := fun h0 => by
  obtain ⟨b, off, e, hb, hne, hc⟩ := h h0
  have hs : (w.alloc o).heap.size = w.heap.size + 1 := by simp
  refine ⟨b, off, e, ?_, fun h => ?_, fun j a ha => ?_⟩
  · have := hgrow.size
    omega
  · injection h with h
    replace h : g = b := h
    subst h
    rcases hat with hat | hat
    · exact hne hat
    · omega
  · have h1 := hgrow.block b (by omega) (fun e => hne e.symm)
    rw [World.cell?_of_block (a := ⟨b, off + j, none⟩) h1, World.cell?_alloc_lt _ _ _ hb]
    exact hc j a ha
set_option maxHeartbeats 6400000 in
set_option maxRecDepth 100000 in
theorem implWaitsFor_any (d : DEngine) (B : Nat) (vs : List Value) (w : World) (hs : fEngine.cnt d ≤ 1048576) (hB : B ≤ w.heap.size) (h : fEngine.At w B d vs) :
    Calls Tryz.prog 12 #[.agg vs.toArray] w (RetF fWait w (waitsL d)) := by
  have HAT := Lib.hid h
  have HCNT := Lib.hid hs
  obtain ⟨A5, c5, A6, c6, A7, c7, A10, c10, rfl, r5, r6, r7, r10⟩ := at_Engine h
  clear h r5 r6 r7 r10 hs
  have b := (Below.refl w.heap.size w).alloc (Nat.le_refl _) (.cells #[.int .i64 d.1.1, .int .i64 d.1.2.1, .int .i64 d.1.2.2.1, .bool d.1.2.2.2.1, .int .i64 d.1.2.2.2.2, .slice A5 (d.2.1).length c5, .slice A6 (d.2.2.1).length c6, .slice A7 (d.2.2.2.1).length c7, .int .i64 d.2.2.2.2.1, .int .i64 d.2.2.2.2.2.1, .slice A10 (d.2.2.2.2.2.2.1).length c10, .int .i64 d.2.2.2.2.2.2.2.1, .int .i64 d.2.2.2.2.2.2.2.2] 41)
  have X := Bx.new (w := w) (c := #[.int .i64 d.1.1, .int .i64 d.1.2.1, .int .i64 d.1.2.2.1, .bool d.1.2.2.2.1, .int .i64 d.1.2.2.2.2, .slice A5 (d.2.1).length c5, .slice A6 (d.2.2.1).length c6, .slice A7 (d.2.2.2.1).length c7, .int .i64 d.2.2.2.2.1, .int .i64 d.2.2.2.2.2.1, .slice A10 (d.2.2.2.2.2.2.1).length c10, .int .i64 d.2.2.2.2.2.2.2.1, .int .i64 d.2.2.2.2.2.2.2.2]) (t := 41) rfl
  have hsz := b.size
  go_enter Tryz.func12, Tryz.ntmps12
  go_upto_region 0 with (fail)
  go_upto_region 1 with (fail)
  generalize w.alloc (.cells #[.int .i64 d.1.1, .int .i64 d.1.2.1, .int .i64 d.1.2.2.1, .bool d.1.2.2.2.1, .int .i64 d.1.2.2.2.2, .slice A5 (d.2.1).length c5, .slice A6 (d.2.2.1).length c6, .slice A7 (d.2.2.2.1).length c7, .int .i64 d.2.2.2.2.1, .int .i64 d.2.2.2.2.2.1, .slice A10 (d.2.2.2.2.2.2.1).length c10, .int .i64 d.2.2.2.2.2.2.2.1, .int .i64 d.2.2.2.2.2.2.2.2] 41) = w1 at b X hsz ⊢
  obtain ⟨⟨x0, x1, x2, x3, x4, x5, x6, x7, x8, x9, x10, x11, x12⟩, _⟩ := X.c13
  have Xl := X.lt
  go_wp2_with fail
  (with_reducible refine (implEngineOk_any d B _ _ HCNT.out (Nat.le_trans hB hsz) (fEngine.at_same HAT.out (.of b hB))).mono ?_); rintro o w2 ⟨rfl, hb⟩
  have X := X.next hb
  have b := b.trans (hb.mono hsz)
  have hsz2 := b.size
  clear hb x0 x1 x2 x3 x4 x5 x6 x7 x8 x9 x10 x11 x12 Xl
  cases hok : engOk d with
  | false =>
    have HE := Lib.hid (waits_no hok)
    go_wp2
    go_ret
    rw [HE.out]
    exact RetF.nil b
  | true =>
    have HOK := Lib.hid hok
    have h4 := eng_four hok
    clear hok
    obtain ⟨⟨x0, x1, x2, x3, x4, x5, x6, x7, x8, x9, x10, x11, x12⟩, _⟩ := X.c13
    have Xl := X.lt
    go_wp2_with fail
    clear x0 x1 x2 x3 x4 x5 x6 x7 x8 x9 x10 x11 x12 Xl
    go_loopw [3, 13] (fun v i wr => ∃ (k : Nat) (M : List DWait) (vs : Nat → List Value) (L H : Nat → Nat), k ≤ d.2.2.1.length ∧ i = .int .i64 k ∧ Hid (M = listedL d k) ∧ Grow fWait 90 w2.heap.size wr v M vs L H ∧ Below w2.heap.size w2 wr) (fun _ i _ => d.2.2.1.length - (intOf i).toNat)
    case atStart => exact ⟨0, [], _, _, _, Nat.zero_le _, rfl, Lib.hid (by simp [listedL]), Grow.nil, Below.refl _ _⟩
    case round =>
      obtain ⟨k, M, vs, L, H, hk, rfl, HM, hG, br⟩ := hrel
      have hszr := br.size
      by_cases hkn : k < d.2.2.1.length
      · have hkz : (k : Int) < d.2.2.1.length := by omega
        have Xr := X.next br
        have bw := b.trans (br.mono hsz2)
        have HX := Lib.hid Xr
        have BB := Lib.hid ((Below.refl wr.heap.size wr).drew)
        have bws := bw.size
        have hget : d.2.2.1[k]? = some d.2.2.1[k] := List.getElem?_eq_getElem hkn
        generalize d.2.2.1[k] = x at hget
        obtain ⟨⟨x0, x1, x2, x3, x4, x5, x6, x7, x8, x9, x10, x11, x12⟩, _⟩ := Xr.c13
        have Xl := Xr.lt
        obtain ⟨lnL, lnG⟩ := lists_len (w := k) HOK.out
        rw [gate_some hget] at lnG
        have HGET := Lib.hid hget
        clear hget
        go_upto_region 7 with (fail)
        go_cut [23, 24, 25] from 16 to 25 (fun s t u wx => CutC wr (lockL d k ++ gateL d k x) s t u wx)
        case first =>
          go_region_law (first | (go_simp; go_at_call 46; refine (lock_any d k B _ _ HCNT.out (Nat.le_trans hB (bw.trans (BB.out.mono bws)).size) (fEngine.at_same HAT.out (.of (bw.trans (BB.out.mono bws)) hB)) HOK.out hkn).mono ?_; rintro o wa ⟨AL, cL, rfl, OL, hb⟩; have RL := Lib.hid (rat_own OL (Nat.le_trans lnL (by decide))); have BB := Lib.hid (BB.out.trans (hb.mono BB.out.size)); clear OL; obtain ⟨⟨x0, x1, x2, x3, x4, x5, x6, x7, x8, x9, x10, x11, x12⟩, _⟩ := (HX.out.next BB.out).c13; clear hb) | (go_simp; go_at_call 47; refine (gate_any d k x B _ _ HCNT.out (Nat.le_trans hB (bw.trans (BB.out.mono bws)).size) (fEngine.at_same HAT.out (.of (bw.trans (BB.out.mono bws)) hB)) HGET.out).mono ?_; rintro o wb ⟨AG, cG, rfl, OG, hb⟩; have RG := Lib.hid (rat_own OG (Nat.le_trans lnG (by decide))); have RL := Lib.hid (rat_up (RL.out.keep hb (Nat.le_refl _)) hb.size); have BB := Lib.hid (BB.out.trans (hb.mono BB.out.size)); clear OG hb) | (go_simp; go_at_call 45; have hW := (Below.refl wb.heap.size wb).alloc (Nat.le_refl _) (.cells #[.slice AL (lockL d k).length cL, .slice AG (gateL d k x).length cG] 28); have P := Bx.new (w := wb) (c := #[.slice AL (lockL d k).length cL, .slice AG (gateL d k x).length cG]) (t := 28) rfl; refine (concat_Int AL AG cL cG wb.heap.size wb.heap.size (lockL d k) (gateL d k x) _ (Nat.le_trans lnL (by decide)) (Nat.le_trans lnG (by decide)) hW.size P.lt P.c2.1.1 P.c2.1.2 (RL.out.keep hW (Nat.le_refl _)) (RG.out.keep hW (Nat.le_refl _))).mono ?_; rintro o wc ⟨AC, cC, rfl, hcap, hb, OC⟩; have RC := Lib.hid (OC.more (show wr.heap.size ≤ (wb.alloc (.cells #[.slice AL (lockL d k).length cL, .slice AG (gateL d k x).length cG] 28)).heap.size from Nat.le_trans BB.out.size hW.size) (Nat.le_refl _)); have BB := Lib.hid ((BB.out.trans (hW.mono BB.out.size)).trans (hb.mono (Nat.le_trans BB.out.size hW.size))); clear OC hcap hb P hW))
          all_goals (go_wp2_with fail; go_meet; exact ⟨AC, cC, by simp, by simp, rfl, BB.out, RC.out⟩)
        case rest =>
          obtain ⟨AC, cC, rfl, rfl, rfl, hb, RC⟩ := hcut
          clear x0 x1 x2 x3 x4 x5 x6 x7 x8 x9 x10 x11 x12 Xl HX
          have HLL := Lib.hid (show listedL d (k + 1) = listedL d k ++ (lockL d k ++ gateL d k x).map fun z => ((k : Int), z) by rw [listed_succ, gate_some HGET.out])
          have hMl := listed_len HOK.out k
          rw [← HM.out] at hMl
          have hLl : (lockL d k ++ gateL d k x).length ≤ 13 := by rw [List.length_append]; omega
          have HB := Lib.hid (BesI.start (v := u3) RC (fun q hq => (hG.row.lt q hq).2))
          have hGc := hG.next hb
          have brc := br.trans (hb.mono hszr)
          clear hG hb br Xr bw bws RC lnL lnG
          generalize lockL d k ++ gateL d k x = LL at HLL hLl HB ⊢
          obtain ⟨i0, hi, hzz⟩ := Option.map_eq_some_iff.1 infoC_Wait
          injection hzz with hz0 hz12
          injection hz12 with hz1 hz2
          have Hi := Lib.hid hi
          have Hz0 := Lib.hid hz0
          have Hz1 := Lib.hid hz1
          have Hz2 := Lib.hid hz2
          clear hi hz0 hz1 hz2
          go_wp2_with fail
          go_loopw [3, 25] (fun v i wi => ∃ (j : Nat) (N : List DWait) (vs : Nat → List Value) (L H : Nat → Nat), j ≤ LL.length ∧ i = .int .i64 j ∧ Hid (N = M ++ (LL.take j).map fun z => ((k : Int), z)) ∧ N.length ≤ 100 ∧ Grow fWait 90 w2.heap.size wi v N vs L H ∧ Hid (BesI wi v AC LL) ∧ Below w2.heap.size w2 wi) (fun _ i _ => LL.length - (intOf i).toNat)
          case atStart => exact ⟨0, M, _, _, _, Nat.zero_le _, rfl, Lib.hid (by simp), by omega, hGc, HB, brc⟩
          case round =>
            clear hGc HB brc
            obtain ⟨j, N, vs, L, H, hj, rfl, HN, hNl, hG, HB, bi⟩ := hrel
            have hszi := bi.size
            by_cases hjn : j < LL.length
            · have hjz : (j : Int) < LL.length := by omega
              obtain ⟨bL, oL, rfl, hbL, hne, hcL⟩ := HB.out (by omega)
              have hget : LL[j]? = some LL[j] := List.getElem?_eq_getElem hjn
              generalize LL[j] = z at hget
              have a0 := hcL j z hget
              have HGZ := Lib.hid hget
              clear hcL hget hne
              have hA := (Below.refl wr.heap.size wr).alloc (Nat.le_refl _) (.cells #[.int .i64 (k : Int), .int .i64 z] 90)
              have hGa := hG.next hA
              have hbk := hG.row.lt
              have hH4 := hG.top
              have OW := Lib.hid (own_Wait (w := wr.alloc (.cells #[.int .i64 (k : Int), .int .i64 z] 90)) (Nat.le_refl wr.heap.size) ((k : Int), z))
              clear hA hG
              go_wp2_with (at_builtin; refine wpList_append_lies _ rfl _ _ 45 rfl w2.heap.size 90 i0 (.agg #[.int .i64 0, .int .i64 0]) 2 16 Tryz.underlying45 Hi.out Hz0.out Hz1.out Hz2.out rfl (by decide) _ _ _ rfl (show World.ownsRow _ _ _ 2 _ _ _ from hGa.row) ⟨wr.heap.size, 0, none⟩ 1 1 [.int .i64 (k : Int), .int .i64 z] rfl rfl ?c1 (fun u hu => by simp at hu; rcases hu with rfl | rfl <;> rfl) (by decide) ?c3 ?c4 ?c5 (wr.heap.size + 1) ?c6 ?_)
              case c3 => unfold maxLen; omega
              case c4 => omega
              case c5 => first | omega | (simp; omega)
              intro g cap w5 hown' hgrow hat hlt
              have HG5 := Lib.hid (hGa.push (a := ((k : Int), z)) (nv := [.int .i64 (k : Int), .int .i64 z]) (s := wr.heap.size) (t := wr.heap.size) hown' hgrow (by rcases hat with h | h; exact .inl h; exact .inr (by simpa using h)) OW.out hszi (by simp) hH4 (fun q hq => (hbk q hq).2))
              have HB5 := Lib.hid (HB.out.push (n := N.length + 1) (cap := cap) hgrow (by rcases hat with h | h; exact .inl h; exact .inr (by omega)))
              have b45 : Below w2.heap.size wr w5 := ((Below.refl w2.heap.size wr).alloc hszi (.cells #[.int .i64 (k : Int), .int .i64 z] 90)).grown hgrow (by simp; omega) (fun q hq => (hGa.row.lt q hq).1)
              have bi := bi.trans b45
              have HN5 := Lib.hid (show N ++ [((k : Int), z)] = M ++ (LL.take (j + 1)).map fun z => ((k : Int), z) by rw [List.take_add_one, HGZ.out, HN.out]; simp)
              have HN5L := Lib.hid (show (N ++ [((k : Int), z)]).length ≤ 100 by rw [HN5.out, List.length_append, List.length_map, List.length_take]; omega)
              clear hown' hgrow hat hGa OW b45 hbk hH4 HN hNl a0 HB
              go_wp2
              exact ⟨⟨j + 1, N ++ [((k : Int), z)], _, _, _, by omega, by go_num, HN5, HN5L.out, HG5.out, HB5, bi⟩, by simp [intOf]; omega⟩
            · obtain rfl : j = LL.length := by omega
              have HM5 := Lib.hid (show N = listedL d (k + 1) by rw [HN.out, HLL.out, List.take_length, HM.out])
              have HG5 := Lib.hid hG
              clear hG HN HB
              go_wp2
              exact ⟨⟨k + 1, N, _, _, _, by omega, by go_num, HM5, HG5.out, bi⟩, by simp [intOf]; omega⟩
      · obtain rfl : k = d.2.2.1.length := by omega
        have hMl := listed_len HOK.out d.2.2.1.length
        rw [← HM.out] at hMl
        have HWC := Lib.hid (waits_compact HOK.out)
        have bw := b.trans (br.mono hsz2)
        rw [← HM.out] at HWC
        have hpl : (sortedW M).length = M.length := (sortedW_perm M).length_eq
        rcases hG.row.2 with ⟨rfl, h0⟩ | ⟨g, cap, cur, rfl, hg, hh, hn, hm, hs, ht⟩
        · have HE := Lib.hid (show waitsL d = [] by
            rw [← HWC.out, List.length_eq_zero_iff.1 h0]
            simp [sortedW, compactUpTo])
          clear hG
          go_wp2_with fail
          (with_reducible refine (sortW_none none 0 _ _).mono ?_); rintro o w5 ⟨rfl, rfl⟩
          go_wp2_with fail
          (with_reducible refine (compactW_none none 0 _).mono ?_); rintro o w6 ⟨rfl, rfl⟩
          go_wp2
          go_ret
          rw [HE.out]
          exact RetF.nil bw
        · have hlt := (Array.getElem?_eq_some_iff.1 hh).1
          have HH := holds_grow_row hG
          have hfr := fun o => hG.row.frozenAt o
          have hgw : w.heap.size ≤ g := Nat.le_trans hsz2 hg
          clear hG hh hs ht hm
          go_wp2_with fail
          (with_reducible refine (sortW_any g cap M _ HH hlt (by omega)).mono ?_); rintro o w5 ⟨rfl, n, os, hw5⟩
          have b5 : Below w.heap.size w w5 := by rw [hw5]; exact below_sortW bw hgw bw.size
          have H5 : HoldsK encW 2 w5 g 0 (sortedW M).toArray := by rw [hw5]; exact holdsK_sortWorldK_c encW 2 _ g 0 M.toArray _ n os HH hlt (by simp [hpl])
          have hf5 : ∀ o, w5.frozen? ⟨g, o, none⟩ = false := fun o => by rw [hw5]; exact frozen_sortW hlt o (hfr o)
          have hl5 : g < w5.heap.size := by rw [hw5]; exact Nat.lt_of_lt_of_le hlt (size_sortWorldK_c encW 2 _ g 0 n _ os)
          clear hw5 HH hfr
          go_wp2_with fail
          (with_reducible refine (compactW_n M.length g cap (sortedW M).toArray _ (by simp [hpl]) H5 (by simp [hpl]; omega) (by simp [hpl]; omega)).mono ?_); rintro o w6 ⟨rfl, q, hw6⟩
          have O6 := Lib.hid (end_own (w0 := w) (q := q) H5 hgw hl5 hf5 (by simp [hpl]; omega))
          have b6 := Lib.hid (below_endW (q := q) (d := (sortedW M).toArray) b5 hgw)
          rw [← hw6] at O6 b6
          rw [HWC.out] at O6 ⊢
          clear hw6 H5 hf5 b5
          go_wp2
          go_ret
          exact ⟨_, _, rfl, b6.out, O6.out⟩
end Go.Proofs.YtkpkjcmoldkmmaaGreat
