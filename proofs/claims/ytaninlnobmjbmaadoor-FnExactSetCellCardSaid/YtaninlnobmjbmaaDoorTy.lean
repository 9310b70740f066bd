/- The model's copy of a table: l05Copy. -/
import Derived.Test.YtaninlnobmjbmaaDoorTg
import Derived.Test.YtaninlnobmjbmaaDoorLs4
import Derived.Test.YtaninlnobmjbmaaDoorLa
import Derived.Deep.RegionHeldLaw
import Derived.Deep.AppendLies
namespace Go.Proofs.YtaninlnobmjbmaaDoor
open Go.RowKit

section
variable {w w' : World} {b1 b2 s1 s2 n1 n2 k : Nat} {e1 e2 : TypeId} {v1 v2 : Value} {x1 x2 : List Value}
/-- a row stays while its own block does -/
theorem ownsRow_own (h : w.ownsRow b1 e1 s1 v1 n1 x1) (hb : ∀ k, v1.ownBlock = some k → w'.heap[k]? = w.heap[k]?) : w'.ownsRow b1 e1 s1 v1 n1 x1 := by
  refine ⟨h.1, ?_⟩
  rcases h.2 with h' | ⟨g, cap, cur, h1, h2, h3, h4⟩
  · exact .inl h'
  · exact .inr ⟨g, cap, cur, h1, h2, (hb g (by rw [h1]; rfl)).trans h3, h4⟩
/-- rows of two types lie in two blocks -/
theorem ownsRow_ne (h : w.ownsRow b1 e1 s1 v1 n1 x1) (h' : w.ownsRow b2 e2 s2 v2 n2 x2) (hne : ¬ e1 = e2) (hk : v1.ownBlock = some k) : ¬ v2.ownBlock = some k := by
  intro hk'
  rcases h.2 with ⟨rfl, _⟩ | ⟨g, cap, cur, rfl, _, hh, _⟩
  · cases hk
  · rcases h'.2 with ⟨rfl, _⟩ | ⟨g', cap', cur', rfl, _, hh', _⟩
    · cases hk'
    · injection hk with hk; injection hk' with hk'
      simp only at hk hk'
      subst hk hk'
      have := hh.symm.trans hh'
      injection this with this
      injection this with _ e _
      exact hne e
end
/-- the cells of the first k cells of a table -/
def ccs (T : TL) (q : Nat → Pl) : Nat → List Value
  | 0 => []
  | k + 1 => ccs T q k ++ cvs (cd T k) (q k)
theorem ccs_len (T : TL) (q : Nat → Pl) (k : Nat) : (ccs T q k).length = k * 6 := by
  induction k with
  | zero => rfl
  | succ k ih => simp [ccs, ih, cvs]; omega
theorem ccs_congr {T : TL} {q q' : Nat → Pl} {k : Nat} (h : ∀ j, j < k → q j = q' j) : ccs T q k = ccs T q' k := by
  induction k with
  | zero => rfl
  | succ k ih => simp only [ccs]; rw [ih (fun j hj => h j (by omega)), h k (by omega)]
theorem ccs_get (T : TL) (q : Nat → Pl) {k j i : Nat} (hj : j < k) (hi : i < 6) : (ccs T q k)[j * 6 + i]? = (cvs (cd T j) (q j))[i]? := by
  induction k with
  | zero => omega
  | succ k ih =>
    simp only [ccs]
    by_cases e : j = k
    · subst e
      rw [List.getElem?_append_right (by rw [ccs_len]; omega), ccs_len]
      congr 1; omega
    · rw [List.getElem?_append_left (by rw [ccs_len]; omega)]
      exact ih (by omega)
/-- the two lists of a cell, each the call's own -/
def LsRow (w : World) (lo : Nat) (c : CD) (q : Pl) : Prop := OwnH w lo (.slice q.G c.hs.length q.c) c.hs ∧ OwnH w lo (.slice q.G' c.ws.length q.c') c.ws
/-- the copy so far -/
structure CopyTo (wr : World) (lo : Nat) (T : TL) (k : Nat) (v : Value) (q : Nat → Pl) : Prop where
  row : wr.ownsRow lo 72 6 v k (ccs T q k)
  own : ∀ j, j < k → LsRow wr lo (cd T j) (q j)
theorem LsRow.own_ {w w' : World} {lo : Nat} {c : CD} {q : Pl} (h : LsRow w lo c q) (hb : ∀ k, (Value.slice q.G c.hs.length q.c).ownBlock = some k ∨ (Value.slice q.G' c.ws.length q.c').ownBlock = some k → w'.heap[k]? = w.heap[k]?) : LsRow w' lo c q :=
  ⟨ownsRow_own h.1 (fun k hk => hb k (.inl hk)), ownsRow_own h.2 (fun k hk => hb k (.inr hk))⟩
theorem LsRow.next {w w' : World} {lo : Nat} {c : CD} {q : Pl} (h : LsRow w lo c q) (hb : Below w.heap.size w w') : LsRow w' lo c q := ⟨h.1.next hb, h.2.next hb⟩
theorem LsRow.less {w : World} {lo lo' : Nat} {c : CD} {q : Pl} (h : LsRow w lo c q) (hl : lo' ≤ lo) : LsRow w lo' c q := ⟨h.1.less hl, h.2.less hl⟩
theorem LsRow.at_ {w : World} {lo : Nat} {c : CD} {q : Pl} (h : LsRow w lo c q) : LsAt w w.heap.size c q := by
  obtain ⟨A, cap, e, h1⟩ := h.1.own
  obtain ⟨A', cap', e', h2⟩ := h.2.own
  injection e with e1 _ _
  injection e' with e2 _ _
  exact ⟨by rw [e1]; exact h1.at_, by rw [e2]; exact h2.at_⟩
theorem CopyTo.next {wr w' : World} {lo : Nat} {T : TL} {k : Nat} {v : Value} {q : Nat → Pl} (h : CopyTo wr lo T k v q) (hb : Below wr.heap.size wr w') : CopyTo w' lo T k v q :=
  ⟨ownsRow_block' h.row (fun k hk _ => hb.block k hk), fun j hj => (h.own j hj).next hb⟩
/-- a row grown: the lists of the cells before stay -/
theorem CopyTo.grown {wr w' : World} {lo : Nat} {T : TL} {k : Nat} {v : Value} {q : Nat → Pl} (h : CopyTo wr lo T k v q) (hg : wr.grownBy w' v.ownBlock) (j : Nat) (hj : j < k) : LsRow w' lo (cd T j) (q j) := by
  have ho := h.own j hj
  refine ho.own_ (fun b hb => hg.block b ?_ (fun e => ?_))
  · rcases hb with hb | hb
    · exact (ho.1.lt b hb).2
    · exact (ho.2.lt b hb).2
  · rcases hb with hb | hb
    · exact ownsRow_ne ho.1 h.row (by decide) hb e.symm
    · exact ownsRow_ne ho.2 h.row (by decide) hb e.symm
theorem CopyTo.tab {wr : World} {lo : Nat} {T : TL} {v : Value} {q : Nat → Pl} (h : CopyTo wr lo T T.length v q) : ∃ A c, v = .slice A T.length c ∧ TAt wr wr.heap.size A T := by
  rcases h.row.2 with ⟨rfl, e⟩ | ⟨g, cap, cur, rfl, hg, hh, hn, hm, hs, ht⟩
  · have hz : T.length = 0 := by
      have := h.row.1
      rw [e] at this; simp at this; omega
    exact ⟨none, 0, by rw [hz], fun hn => absurd hn (by omega)⟩
  · refine ⟨_, cap, rfl, fun hn => ⟨g, 0, rfl, (Array.getElem?_eq_some_iff.1 hh).1, q, fun j hj => ?_⟩⟩
    refine ⟨?_, (h.own j hj).at_⟩
    have e : ∀ i, i < 6 → wr.cell? ⟨g, 0 + j * 6 + i, none⟩ = (cvs (cd T j) (q j))[i]? := fun i hi => by
      rw [Nat.zero_add, h.row.cellAt _ (by omega), ccs_get T q hj hi]
    exact ⟨e 0 (by omega), e 1 (by omega), e 2 (by omega), e 3 (by omega), e 4 (by omega), e 5 (by omega)⟩
theorem CopyTo.far {wr : World} {lo : Nat} {T : TL} {k : Nat} {v : Value} {q : Nat → Pl} {a : Addr} (h : CopyTo wr lo T k v q) (u : Value) (hd : a.block < lo) : CopyTo (wr.setCell a u) lo T k v q :=
  ⟨ownsRow_block' h.row (fun b _ hb => Below.heap_setCell _ _ _ _ (by omega)), fun j hj => ⟨(h.own j hj).1.far u hd, (h.own j hj).2.far u hd⟩⟩
theorem ownsRow_less {w : World} {lo lo' s n : Nat} {e : TypeId} {v : Value} {xs : List Value} (h : w.ownsRow lo e s v n xs) (hl : lo' ≤ lo) : w.ownsRow lo' e s v n xs := by
  refine ⟨h.1, ?_⟩
  rcases h.2 with h' | ⟨g, cap, cur, h1, h2, h3⟩
  · exact .inl h'
  · exact .inr ⟨g, cap, cur, h1, by omega, h3⟩
theorem CopyTo.less {wr : World} {lo lo' : Nat} {T : TL} {k : Nat} {v : Value} {q : Nat → Pl} (h : CopyTo wr lo T k v q) (hl : lo' ≤ lo) : CopyTo wr lo' T k v q :=
  ⟨ownsRow_less h.row hl, fun j hj => (h.own j hj).less hl⟩
/-- one cell more -/
theorem CopyTo.step {w5 w6 : World} {lo : Nat} {T : TL} {k : Nat} {v v' : Value} {q : Nat → Pl} {p : Pl} (h : CopyTo w5 lo T k v q) (hp : LsRow w5 lo (cd T k) p) (hg : w5.grownBy w6 v.ownBlock)
    (hr : w6.ownsRow lo 72 6 v' (k + 1) (ccs T q k ++ cvs (cd T k) p)) : CopyTo w6 lo T (k + 1) v' (fun j => if j = k then p else q j) := by
  refine ⟨?_, fun j hj => ?_⟩
  · have e : ccs T (fun j => if j = k then p else q j) (k + 1) = ccs T q k ++ cvs (cd T k) p := by
      simp only [ccs, if_true]
      rw [ccs_congr (fun j hj => by rw [if_neg (by omega)])]
    rw [e]; exact hr
  · by_cases e : j = k
    · subst e
      simp only [if_true]
      refine hp.own_ (fun b hb => hg.block b ?_ (fun e => ?_))
      · rcases hb with hb | hb
        · exact (hp.1.lt b hb).2
        · exact (hp.2.lt b hb).2
      · rcases hb with hb | hb
        · exact ownsRow_ne hp.1 h.row (by decide) hb e.symm
        · exact ownsRow_ne hp.2 h.row (by decide) hb e.symm
    · simp only [if_neg e]
      exact h.grown hg j (by omega)
theorem cells_six {w : World} {b : Nat} {x0 x1 x2 x3 x4 x5 : Value} (h : Box w b [x0, x1, x2, x3, x4, x5]) : ∀ j u, [x0, x1, x2, x3, x4, x5][j]? = some u → w.cell? ((⟨b, 0, none⟩ : Addr).add j) = some u := by
  intro j u hj
  obtain ⟨d0, d1, d2, d3, d4, d5⟩ := h.c6.1
  match j, hj with
  | 0, hj => simp at hj; subst hj; simp [Addr.add]; exact d0
  | 1, hj => simp at hj; subst hj; simp [Addr.add]; exact d1
  | 2, hj => simp at hj; subst hj; simp [Addr.add]; exact d2
  | 3, hj => simp at hj; subst hj; simp [Addr.add]; exact d3
  | 4, hj => simp at hj; subst hj; simp [Addr.add]; exact d4
  | 5, hj => simp at hj; subst hj; simp [Addr.add]; exact d5
theorem one_six (c : CD) (q : Pl) : ∀ u ∈ cvs c q, u.oneCell' = true := by
  intro u hu
  simp [cvs] at hu
  rcases hu with rfl | rfl | rfl | rfl | rfl | rfl <;> rfl
/-- the copy -/
def RetCopy (w : World) (T : TL) (e : Ending) (w' : World) : Prop := ∃ v q, e = .returned (.agg #[v]) ∧ CopyTo w' w.heap.size T T.length v q ∧ Below w.heap.size w w'
theorem CCells.and6 {w : World} {b o : Nat} {c : CD} {q : Pl} (h : CCells w b o c q) : w.cell? ⟨b, o, none⟩ = some (.int .i64 c.v) ∧ w.cell? ⟨b, o + 1, none⟩ = some (.int .i64 c.e) ∧ w.cell? ⟨b, o + 2, none⟩ = some (.int .i64 c.s) ∧ w.cell? ⟨b, o + 3, none⟩ = some (.bool c.h) ∧ w.cell? ⟨b, o + 4, none⟩ = some (.slice q.G c.hs.length q.c) ∧ w.cell? ⟨b, o + 5, none⟩ = some (.slice q.G' c.ws.length q.c') :=
  ⟨h.c0, h.c1, h.c2, h.c3, h.c4, h.c5⟩
set_option maxHeartbeats 1600000 in
set_option maxRecDepth 100000 in
theorem l05Copy_any (A : Option Addr) (c B : Nat) (T : TL) (w : World) (hs : TFit T) (hB : B ≤ w.heap.size) (h : TAt w B A T) :
    Calls Tryd.prog 24 #[.agg #[.slice A T.length c]] w (RetCopy w T) := by
  have hlen := hs.len
  obtain ⟨i0, hi, hzz⟩ := Option.map_eq_some_iff.1 infoCell
  injection hzz with hz0 hz12
  injection hz12 with hz1 hz2
  have Hi := Lib.hid hi
  have Hz0 := Lib.hid hz0
  have Hz1 := Lib.hid hz1
  have Hz2 := Lib.hid hz2
  clear hi hz0 hz1 hz2
  go_enter Tryd.func24, Tryd.ntmps24
  go_wp2_with fail
  have b := (((Below.refl w.heap.size w).alloc (Nat.le_refl _) (.cells #[.slice A T.length c] 28)).alloc (by simp) (.cells #[.slice none 0 0] 28)).alloc (by simp; omega) (.cells #[.slice none 0 0] 28)
  have X := ((Box.new (w := w) (c := #[.slice A T.length c]) (t := 28) rfl).alloc (.cells #[.slice none 0 0] 28)).alloc (.cells #[.slice none 0 0] 28)
  have R := (Box.new (w := w.alloc (.cells #[.slice A T.length c] 28)) (b := w.heap.size + 1) (c := #[.slice none 0 0]) (t := 28) (by simp)).alloc (.cells #[.slice none 0 0] 28)
  have U := Box.new (w := (w.alloc (.cells #[.slice A T.length c] 28)).alloc (.cells #[.slice none 0 0] 28)) (b := w.heap.size + 1 + 1) (c := #[.slice none 0 0]) (t := 28) (by simp)
  have hs0 : w.heap.size + 3 ≤ (((w.alloc (.cells #[.slice A T.length c] 28)).alloc (.cells #[.slice none 0 0] 28)).alloc (.cells #[.slice none 0 0] 28)).heap.size := by simp
  generalize ((w.alloc (.cells #[.slice A T.length c] 28)).alloc (.cells #[.slice none 0 0] 28)).alloc (.cells #[.slice none 0 0] 28) = w0 at b X R U hs0 ⊢
  have U1 := (Box.c1 U).2
  clear U1
  go_loopw [4] (fun i wr => ∃ (k : Nat) (v : Value) (q : Nat → Pl), k ≤ T.length ∧ i = .int .i64 k ∧ CopyTo wr (w.heap.size + 3) T k v q ∧ Box wr w.heap.size [.slice A T.length c] ∧ Box wr (w.heap.size + 1) [.slice none 0 0] ∧ Box wr (w.heap.size + 1 + 1) [v] ∧ Below w.heap.size w wr ∧ w.heap.size + 3 ≤ wr.heap.size) (fun i _ => T.length - (intOf i).toNat)
  case atStart => exact ⟨0, _, fun _ => ⟨none, 0, none, 0⟩, Nat.zero_le _, rfl, ⟨World.ownsRow_nil _ _ _ _, fun j hj => absurd hj (by omega)⟩, X, R, U, b, hs0⟩
  case round =>
    clear b X R U hs0
    obtain ⟨k, v, q, hk, rfl, hcp, X, R, U, hb, hsz⟩ := hrel
    obtain ⟨x0, xf⟩ := X.c1
    have Xl := X.lt
    by_cases hkn : k < T.length
    · obtain ⟨bb, off, rfl, hbB, qa, hc⟩ := h (by omega)
      have hkz : (k : Int) < T.length := by omega
      have hlk := hs.at_ hkn
      have hcc := (hc k hkn).1.below hb (show bb < w.heap.size by omega)
      have hbl : bb < w.heap.size := by omega
      have hL : LAt wr B (qa k).G (qa k).G' ((cd T k).hs, (cd T k).ws) := LAt.keep (hc k hkn).2 hb hB
      obtain ⟨a0, a1, a2, a3, a4, a5⟩ := hcc
      have hcc := (hc k hkn).1
      obtain ⟨y0, uf⟩ := U.c1
      have Ul := U.lt
      have hbd : wr.heap.size = wr.drew.heap.size := rfl
      have hD : Below wr.heap.size wr wr.drew := (Below.refl _ _).drew
      have HC := Lib.hid (hcp.next hD)
      have HX := Lib.hid (X.next hD)
      have HR := Lib.hid (R.next hD)
      have HU := Lib.hid (U.next hD)
      have HB := Lib.hid (hb.trans (hD.mono hb.size))
      have HL := Lib.hid (LAt.keep hL hD (Nat.le_trans hB hb.size))
      have HCC := Lib.hid hcc
      have HS0 := Lib.hid (And.intro x0 (And.intro y0 (And.intro a0 (And.intro a1 (And.intro a2 (And.intro a3 (And.intro a4 a5)))))))
      clear hcc hc h x0 y0 xf uf X R U hcp hD hL a0 a1 a2 a3 a4 a5
      obtain ⟨x0, y0, a0, a1, a2, a3, a4, a5⟩ := HS0.out
      have HS1 := Lib.hid (And.intro HX.out.c1.1 (And.intro HU.out.c1.1 (HCC.out.below HB.out hbl).and6))
      clear HS0
      go_wp2_with fail
      refine wp_region_last (S := (fun W => W.cell? ⟨w.heap.size, 0, none⟩ = some (.slice (some ⟨bb, off, none⟩) T.length c) ∧ W.cell? ⟨w.heap.size + 1 + 1, 0, none⟩ = some v ∧ W.cell? ⟨bb, off + k * 6, none⟩ = some (.int .i64 (cd T k).v) ∧ W.cell? ⟨bb, off + k * 6 + 1, none⟩ = some (.int .i64 (cd T k).e) ∧ W.cell? ⟨bb, off + k * 6 + 2, none⟩ = some (.int .i64 (cd T k).s) ∧ W.cell? ⟨bb, off + k * 6 + 3, none⟩ = some (.bool (cd T k).h) ∧ W.cell? ⟨bb, off + k * 6 + 4, none⟩ = some (.slice (qa k).G (cd T k).hs.length (qa k).c) ∧ W.cell? ⟨bb, off + k * 6 + 5, none⟩ = some (.slice (qa k).G' (cd T k).ws.length (qa k).c'))) (by kernel_rfl) 25 (by kernel_rfl) (by kernel_rfl) (by kernel_rfl) (by kernel_rfl) HS1.out (m := 25) rfl (fun hHeld => ?_)
      refine takeH 0 13 (v := ?v0) rfl rfl (by kernel_rfl) (by kernel_rfl) (by kernel_rfl) (fun _ _ _ h => h) (by rfl) ?hy0 hHeld ?rest0
      case hy0 => intro W hSw; obtain ⟨s0, s1, s2, s3, s4, s5, s6, s7⟩ := hSw; go_simp; (try with_reducible rfl)
      simp only [Act.put, List.setIfInBounds_toArray, List.set]
      refine takeH 1 14 (v := ?v1) rfl rfl (by kernel_rfl) (by kernel_rfl) (by kernel_rfl) (fun _ _ _ h => h) (by rfl) ?hy1 hHeld ?rest1
      case hy1 => intro W hSw; obtain ⟨s0, s1, s2, s3, s4, s5, s6, s7⟩ := hSw; go_simp; (try with_reducible rfl)
      simp only [Act.put, List.setIfInBounds_toArray, List.set]
      refine takeH 2 15 (v := ?v2) rfl rfl (by kernel_rfl) (by kernel_rfl) (by kernel_rfl) (fun _ _ _ h => h) (by rfl) ?hy2 hHeld ?rest2
      case hy2 => intro W hSw; obtain ⟨s0, s1, s2, s3, s4, s5, s6, s7⟩ := hSw; go_simp; (try with_reducible rfl)
      simp only [Act.put, List.setIfInBounds_toArray, List.set]
      refine takeH 3 16 (v := ?v3) rfl rfl (by kernel_rfl) (by kernel_rfl) (by kernel_rfl) (fun _ _ _ h => h) (by rfl) ?hy3 hHeld ?rest3
      case hy3 => intro W hSw; obtain ⟨s0, s1, s2, s3, s4, s5, s6, s7⟩ := hSw; go_simp; (try with_reducible rfl)
      simp only [Act.put, List.setIfInBounds_toArray, List.set]
      refine takeH 4 17 (v := ?v4) rfl rfl (by kernel_rfl) (by kernel_rfl) (by kernel_rfl) (fun _ _ _ h => h) (by rfl) ?hy4 hHeld ?rest4
      case hy4 => intro W hSw; obtain ⟨s0, s1, s2, s3, s4, s5, s6, s7⟩ := hSw; go_simp; (try with_reducible rfl)
      simp only [Act.put, List.setIfInBounds_toArray, List.set]
      refine takeH 5 18 (v := ?v5) rfl rfl (by kernel_rfl) (by kernel_rfl) (by kernel_rfl) (fun _ _ _ h => h) (by rfl) ?hy5 hHeld ?rest5
      case hy5 => intro W hSw; obtain ⟨s0, s1, s2, s3, s4, s5, s6, s7⟩ := hSw; go_simp; (try with_reducible rfl)
      simp only [Act.put, List.setIfInBounds_toArray, List.set]
      refine takeH 6 19 (v := ?v6) rfl rfl (by kernel_rfl) (by kernel_rfl) (by kernel_rfl) (fun _ _ _ h => h) (by rfl) ?hy6 hHeld ?rest6
      case hy6 => intro W hSw; obtain ⟨s0, s1, s2, s3, s4, s5, s6, s7⟩ := hSw; go_simp; (try with_reducible rfl)
      simp only [Act.put, List.setIfInBounds_toArray, List.set]
      refine takeH 7 20 (v := ?v7) rfl rfl (by kernel_rfl) (by kernel_rfl) (by kernel_rfl) (fun _ _ _ h => h) (by rfl) ?hy7 hHeld ?rest7
      case hy7 => intro W hSw; obtain ⟨s0, s1, s2, s3, s4, s5, s6, s7⟩ := hSw; go_simp; (try with_reducible rfl)
      simp only [Act.put, List.setIfInBounds_toArray, List.set]
      refine takeH 8 21 (v := ?v8) rfl rfl (by kernel_rfl) (by kernel_rfl) (by kernel_rfl) (fun _ _ _ h => h) (by rfl) ?hy8 hHeld ?rest8
      case hy8 => intro W hSw; obtain ⟨s0, s1, s2, s3, s4, s5, s6, s7⟩ := hSw; go_simp; (try with_reducible rfl)
      simp only [Act.put, List.setIfInBounds_toArray, List.set]
      refine takeH 9 22 (v := ?v9) rfl rfl (by kernel_rfl) (by kernel_rfl) (by kernel_rfl) (fun _ _ _ h => h) (by rfl) ?hy9 hHeld ?rest9
      case hy9 => intro W hSw; obtain ⟨s0, s1, s2, s3, s4, s5, s6, s7⟩ := hSw; go_simp; (try with_reducible rfl)
      simp only [Act.put, List.setIfInBounds_toArray, List.set]
      refine takeH 10 23 (v := ?v10) rfl rfl (by kernel_rfl) (by kernel_rfl) (by kernel_rfl) (fun _ _ _ h => h) (by rfl) ?hy10 hHeld ?rest10
      case hy10 => intro W hSw; obtain ⟨s0, s1, s2, s3, s4, s5, s6, s7⟩ := hSw; go_simp; (try with_reducible rfl)
      simp only [Act.put, List.setIfInBounds_toArray, List.set]
      refine takeH 11 24 (v := ?v11) rfl rfl (by kernel_rfl) (by kernel_rfl) (by kernel_rfl) (fun _ _ _ h => h) (by rfl) ?hy11 hHeld ?rest11
      case hy11 => intro W hSw; obtain ⟨s0, s1, s2, s3, s4, s5, s6, s7⟩ := hSw; go_simp; (try with_reducible rfl)
      simp only [Act.put, List.setIfInBounds_toArray, List.set]
      refine takeH 12 25 (v := ?v12) rfl rfl (by kernel_rfl) (by kernel_rfl) (by kernel_rfl) (fun _ _ _ h => h) (by rfl) ?hy12 hHeld ?rest12
      case hy12 => intro W hSw; obtain ⟨s0, s1, s2, s3, s4, s5, s6, s7⟩ := hSw; go_simp; (try with_reducible rfl)
      simp only [Act.put, List.setIfInBounds_toArray, List.set]
      refine takeH 13 26 (v := ?v13) rfl rfl (by kernel_rfl) (by kernel_rfl) (by kernel_rfl) (fun _ _ _ h => h) (by rfl) ?hy13 hHeld ?rest13
      case hy13 => intro W hSw; obtain ⟨s0, s1, s2, s3, s4, s5, s6, s7⟩ := hSw; go_simp; (try with_reducible rfl)
      simp only [Act.put, List.setIfInBounds_toArray, List.set]
      refine takeH 14 27 (v := ?v14) rfl rfl (by kernel_rfl) (by kernel_rfl) (by kernel_rfl) (fun _ _ _ h => h) (by rfl) ?hy14 hHeld ?rest14
      case hy14 => intro W hSw; obtain ⟨s0, s1, s2, s3, s4, s5, s6, s7⟩ := hSw; go_simp; (try with_reducible rfl)
      simp only [Act.put, List.setIfInBounds_toArray, List.set]
      refine takeH 15 28 (v := ?v15) rfl rfl (by kernel_rfl) (by kernel_rfl) (by kernel_rfl) (fun _ _ _ h => h) (by rfl) ?hy15 hHeld ?rest15
      case hy15 => intro W hSw; obtain ⟨s0, s1, s2, s3, s4, s5, s6, s7⟩ := hSw; go_simp; (try with_reducible rfl)
      simp only [Act.put, List.setIfInBounds_toArray, List.set]
      refine takeH 16 29 (v := ?v16) rfl rfl (by kernel_rfl) (by kernel_rfl) (by kernel_rfl) (fun _ _ _ h => h) (by rfl) ?hy16 hHeld ?rest16
      case hy16 => intro W hSw; obtain ⟨s0, s1, s2, s3, s4, s5, s6, s7⟩ := hSw; go_simp; (try with_reducible rfl)
      simp only [Act.put, List.setIfInBounds_toArray, List.set]
      refine takeH 17 30 (v := ?v17) rfl rfl (by kernel_rfl) (by kernel_rfl) (by kernel_rfl) (fun _ _ _ h => h) (by rfl) ?hy17 hHeld ?rest17
      case hy17 => intro W hSw; obtain ⟨s0, s1, s2, s3, s4, s5, s6, s7⟩ := hSw; go_simp; (try with_reducible rfl)
      simp only [Act.put, List.setIfInBounds_toArray, List.set]
      refine takeH 18 31 (v := ?v18) rfl rfl (by kernel_rfl) (by kernel_rfl) (by kernel_rfl) (fun _ _ _ h => h) (by rfl) ?hy18 hHeld ?rest18
      case hy18 => intro W hSw; obtain ⟨s0, s1, s2, s3, s4, s5, s6, s7⟩ := hSw; go_simp; (try with_reducible rfl)
      simp only [Act.put, List.setIfInBounds_toArray, List.set]
      refine takeH 19 32 (v := ?v19) rfl rfl (by kernel_rfl) (by kernel_rfl) (by kernel_rfl) (fun _ _ _ h => h) (by rfl) ?hy19 hHeld ?rest19
      case hy19 => intro W hSw; obtain ⟨s0, s1, s2, s3, s4, s5, s6, s7⟩ := hSw; go_simp; (try with_reducible rfl)
      simp only [Act.put, List.setIfInBounds_toArray, List.set]
      refine wpAnyH_ready (rs := [20]) (by kernel_rfl) (by simp) ?_
      refine AllReadyH.cons rfl (fun K hK => ?_) AllReadyH.nil
      go_simp
      refine (specCopy_any _ _ _ _ B (cd T k).hs (cd T k).ws _ hlk.1 hlk.2 HL.out).mono ?_; rintro o w5 ⟨v1, v2, rfl, hw5, hb5⟩; obtain ⟨G1, c1, rfl, _⟩ := hw5.1.own; obtain ⟨G2, c2, rfl, _⟩ := hw5.2.1.own
      have hx5 := HX.out.next hb5
      have hB5 := HB.out.trans (hb5.mono HB.out.size)
      have hu5 := HU.out.next hb5
      have hA := (Below.refl w5.heap.size w5).alloc (Nat.le_refl _) (.cells #[.int .i64 (cd T k).v, .int .i64 (cd T k).e, .int .i64 (cd T k).s, .bool (cd T k).h, .slice G1 (cd T k).hs.length c1, .slice G2 (cd T k).ws.length c2] 72)
      have hz5 : w.heap.size + 3 ≤ w5.heap.size := Nat.le_trans hsz hb5.size
      have HS5 := Lib.hid (And.intro hx5.c1.1 (And.intro hu5.c1.1 (HCC.out.below hB5 hbl).and6))
      have hB7 := hB5.trans (hA.mono hB5.size)
      have HS7 := Lib.hid (And.intro (hx5.next hA).c1.1 (And.intro (hu5.next hA).c1.1 (HCC.out.below hB7 hbl).and6))
      have HC7 := Lib.hid ((HC.out.next hb5).next hA)
      have HP7 := Lib.hid (show LsRow (w5.alloc (.cells #[.int .i64 (cd T k).v, .int .i64 (cd T k).e, .int .i64 (cd T k).s, .bool (cd T k).h, .slice G1 (cd T k).hs.length c1, .slice G2 (cd T k).ws.length c2] 72)) (w.heap.size + 3) (cd T k) (⟨G1, c1, G2, c2⟩ : Pl) from LsRow.less (lo := wr.drew.heap.size) (LsRow.next ⟨hw5.1, hw5.2.1⟩ hA) hsz)
      have HOW := Lib.hid HC7.out.row
      have NEWS := Lib.hid (cells_six (Box.new (w := w5) (b := w5.heap.size) (c := #[.int .i64 (cd T k).v, .int .i64 (cd T k).e, .int .i64 (cd T k).s, .bool (cd T k).h, .slice G1 (cd T k).hs.length c1, .slice G2 (cd T k).ws.length c2]) (t := 72) rfl))
      have ONE := Lib.hid (one_six (cd T k) (⟨G1, c1, G2, c2⟩ : Pl))
      have SZ : Hid (w.heap.size + 3 ≤ (w5.alloc (.cells #[.int .i64 (cd T k).v, .int .i64 (cd T k).e, .int .i64 (cd T k).s, .bool (cd T k).h, .slice G1 (cd T k).hs.length c1, .slice G2 (cd T k).ws.length c2] 72)).heap.size) := Lib.hid (Nat.le_trans hz5 hA.size)
      have HH : Hid ((w5.alloc (.cells #[.int .i64 (cd T k).v, .int .i64 (cd T k).e, .int .i64 (cd T k).s, .bool (cd T k).h, .slice G1 (cd T k).hs.length c1, .slice G2 (cd T k).ws.length c2] 72)).heap.size = w5.heap.size + 1) := Lib.hid (by simp)
      have HX7 := Lib.hid (hx5.next hA)
      have HR7 := Lib.hid ((HR.out.next hb5).next hA)
      have HU7 := Lib.hid (hu5.next hA)
      have HB7 := Lib.hid hB7
      clear hx5 hB5 hu5 hA hB7 hw5 hb5 hz5 x0 y0 a0 a1 a2 a3 a4 a5
      refine hK.out _ _ HS5.out (fun hHeld => ?_)
      clear hK K
      refine takeH 21 34 (v := ?v21) rfl rfl (by kernel_rfl) (by kernel_rfl) (by kernel_rfl) (fun _ _ _ h => h) (by rfl) ?hy21 hHeld ?rest21
      case hy21 => intro W hSw; obtain ⟨s0, s1, s2, s3, s4, s5, s6, s7⟩ := hSw; go_simp; (try with_reducible rfl)
      simp only [Act.put, List.setIfInBounds_toArray, List.set]
      refine wpAnyH_ready (rs := [22]) (by kernel_rfl) (by simp) ?_
      refine AllReadyH.cons rfl (fun K hK => ?_) AllReadyH.nil
      go_simp
      refine hK.out _ _ HS7.out (fun hHeld => ?_)
      clear hK K
      refine wpAnyH_ready (rs := [23]) (by kernel_rfl) (by simp) ?_
      refine AllReadyH.cons rfl (fun K hK => ?_) AllReadyH.nil
      refine step_append_lies _ rfl _ _ 26 rfl (w.heap.size + 3) 72 i0 (.agg #[.int .i64 0, .int .i64 0, .int .i64 0, .bool false, .slice none 0 0, .slice none 0 0]) 6 80 Tryd.underlying26 Hi.out Hz0.out Hz1.out Hz2.out rfl (by decide) v k (ccs T q k) (by simp [Act.eval]) HOW.out ⟨w5.heap.size, 0, none⟩ 1 1 [.int .i64 (cd T k).v, .int .i64 (cd T k).e, .int .i64 (cd T k).s, .bool (cd T k).h, .slice G1 (cd T k).hs.length c1, .slice G2 (cd T k).ws.length c2] (by simp [Act.eval]) rfl NEWS.out ONE.out (by decide) (by unfold maxLen; omega) (by omega) SZ.out (w5.heap.size + 1) HH.out ?_
      intro g5 cap5 w6 hown6 hgrow hat6 hlt6
      have hne : ∀ p, v.ownBlock = some p → w.heap.size + 3 ≤ p := fun p hp => (HOW.out.lt p hp).1
      have hX6 := HX7.out.grown hgrow (fun p hp => by have := hne p hp; omega)
      have hR6 := HR7.out.grown hgrow (fun p hp => by have := hne p hp; omega)
      have hU6 := HU7.out.grown hgrow (fun p hp => by have := hne p hp; omega)
      have hB6 := HB7.out.grown hgrow (Nat.le_trans (Nat.le_add_right _ 3) SZ.out) (fun p hp => by have := hne p hp; omega)
      have HC6 := Lib.hid (CopyTo.step HC7.out HP7.out hgrow hown6)
      have HS6 := Lib.hid (And.intro hX6.c1.1 (And.intro hU6.c1.1 (HCC.out.below hB6 hbl).and6))
      refine hK.out _ _ HS6.out (fun hHeld => ?_)
      clear hK K hne hown6 hgrow hat6 HC7 HP7 HOW NEWS ONE SZ HH HX7 HR7 HU7 HB7
      refine takeH 24 37 (v := ?v24) rfl rfl (by kernel_rfl) (by kernel_rfl) (by kernel_rfl) (fun _ _ _ h => h) (by rfl) ?hy24 hHeld ?rest24
      case hy24 => intro W hSw; obtain ⟨s0, s1, s2, s3, s4, s5, s6, s7⟩ := hSw; go_simp; (try with_reducible rfl)
      simp only [Act.put, List.setIfInBounds_toArray]
      refine wpAnyH_done (by kernel_rfl) ?_ _
      obtain ⟨y6, yf6⟩ := hU6.c1
      have Yl6 := hU6.lt
      have HX8 := Lib.hid (hX6.far (a := ⟨w.heap.size + 1 + 1, 0, none⟩) (.slice (some ⟨g5, 0, none⟩) (k + 1) cap5) (by simp; omega))
      have HR8 := Lib.hid (hR6.far (a := ⟨w.heap.size + 1 + 1, 0, none⟩) (.slice (some ⟨g5, 0, none⟩) (k + 1) cap5) (by simp))
      have HU8 := Lib.hid (Box.set (j := 0) hU6 (.slice (some ⟨g5, 0, none⟩) (k + 1) cap5) (by simp))
      have HB8 := Lib.hid (hB6.setCell (p := ⟨w.heap.size + 1 + 1, 0, none⟩) (by simp; omega) (.slice (some ⟨g5, 0, none⟩) (k + 1) cap5))
      have HC8 := Lib.hid (HC6.out.far (a := ⟨w.heap.size + 1 + 1, 0, none⟩) (.slice (some ⟨g5, 0, none⟩) (k + 1) cap5) (by simp))
      have hsz8 := hB6.size
      clear hX6 hR6 hU6 hB6
      refine lastH rfl (fun K hK => ?_)
      go_simp
      refine hK _ _ ?_
      clear hK K hHeld y6 yf6
      go_wp2
      exact ⟨⟨k + 1, _, _, by omega, by go_num, HC8.out, HX8.out, HR8.out, HU8.out, HB8.out, by simp; omega⟩, by simp [intOf]; omega⟩
    · obtain rfl : k = T.length := by omega
      obtain ⟨A2, c2, rfl, _⟩ := hcp.tab
      obtain ⟨y0, yf⟩ := U.c1
      obtain ⟨r0, rf⟩ := R.c1
      have Ul := U.lt
      have Rl := R.lt
      have hb8 := hb.setCell (p := ⟨w.heap.size + 1, 0, none⟩) (by simp) (.slice A2 T.length c2)
      have HC8 := Lib.hid ((hcp.far (a := ⟨w.heap.size + 1, 0, none⟩) (.slice A2 T.length c2) (by simp)).less (lo' := w.heap.size) (by omega))
      clear hcp X R U
      go_wp2
      exact bodyPost_ret (v := .agg #[.slice A2 T.length c2]) (by simp [results, Tryd.results24, go_sem, r0]) rfl ⟨_, q, rfl, HC8.out, hb8⟩
end Go.Proofs.YtaninlnobmjbmaaDoor
