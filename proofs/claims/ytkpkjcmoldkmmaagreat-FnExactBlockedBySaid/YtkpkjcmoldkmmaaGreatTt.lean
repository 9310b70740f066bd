/- The program's storeOf. -/
import Derived.Test.YtkpkjcmoldkmmaaGreatTs
namespace Go.Proofs.YtkpkjcmoldkmmaaGreat
open Go.RowKit
open Go.Maps (Keyed)

def ci (T : TL) (j : Int) : CD := cd T j.toNat
def slotsF (T : TL) (k : Int) (j : Int) : Option Value := if 0 ≤ j ∧ j < k then some (sv (pk (ci T j).e (ci T j).s (ci T j).h) (ci T j).v) else none
def lkq (c : CD) (q : Pl) : Value := lkv q.G c.hs.length q.c q.G' c.ws.length q.c'
def locksF (T : TL) (q : Nat → Pl) (k : Int) (j : Int) : Option Value := if (0 ≤ j ∧ j < k) ∧ ¬ (ci T j).hs.length = 0 then some (lkq (ci T j) (q j.toNat)) else none
theorem slotsF_step {T : TL} {k : Nat} (h : (cd T k).h = wrote (cd T k).hs) (u : Value) (j : Int) :
    upd (upd (slotsF T k) k (some u)) k (some (sv (pk (cd T k).e (cd T k).s (wrote (cd T k).hs)) (cd T k).v)) j = slotsF T ((k + 1 : Nat) : Int) j := by
  unfold upd slotsF
  by_cases e : j = k
  · subst e
    have h1 : (0 : Int) ≤ (k : Int) ∧ (k : Int) < ((k + 1 : Nat) : Int) := by omega
    have h2 : ci T (k : Int) = cd T k := by simp [ci]
    rw [if_pos rfl, if_pos h1, h2, h]
  · rw [if_neg e, if_neg e]
    by_cases h1 : 0 ≤ j ∧ j < (k : Int)
    · rw [if_pos h1, if_pos (by omega)]
    · rw [if_neg h1, if_neg (by omega)]
theorem locksF_step {T : TL} {q : Nat → Pl} {k : Nat} (j : Int) :
    upd (locksF T q k) k (if (cd T k).hs.length = 0 then none else some (lkq (cd T k) (q k))) j = locksF T q ((k + 1 : Nat) : Int) j := by
  unfold upd locksF
  by_cases e : j = k
  · subst e
    have h1 : (0 : Int) ≤ (k : Int) ∧ (k : Int) < ((k + 1 : Nat) : Int) := by omega
    have h2 : ci T (k : Int) = cd T k := by simp [ci]
    rw [if_pos rfl, h2]
    by_cases h0 : (cd T k).hs.length = 0
    · rw [if_pos h0, if_neg (fun h => h.2 h0)]
    · rw [if_neg h0, if_pos ⟨h1, h0⟩]; simp
  · rw [if_neg e]
    by_cases h1 : (0 ≤ j ∧ j < (k : Int)) ∧ ¬ (ci T j).hs.length = 0
    · rw [if_pos h1, if_pos ⟨by omega, h1.2⟩]
    · rw [if_neg h1, if_neg (fun h => h1 ⟨by omega, h.2⟩)]
/-- the row of a table that can be read, opened -/
def TCl (w : World) (B b off : Nat) (T : TL) (q : Nat → Pl) : Prop := b < B ∧ ∀ j, j < T.length → CCells w b (off + j * 6) (cd T j) (q j) ∧ LsAt w B (cd T j) (q j)
theorem TCl.at_ {w : World} {B b off : Nat} {T : TL} {q : Nat → Pl} (h : TCl w B b off T q) : TAt w B (some ⟨b, off, none⟩) T := fun _ => ⟨b, off, rfl, h.1, q, h.2⟩
def StOk (w : World) (T : TL) (q : Nat → Pl) (e : Ending) (w' : World) : Prop :=
  ∃ b1 b2 m, e = .returned (.agg #[.map (some b1), .map (some b2)]) ∧ ¬ b1 = b2 ∧ w.heap.size ≤ b1 ∧ w.heap.size ≤ b2 ∧ MapN Tryz.prog 3 w' b1 T.length (slotsF T T.length) ∧ m ≤ T.length ∧ MapN Tryz.prog 3 w' b2 m (locksF T q T.length) ∧ Below w.heap.size w w'
theorem storeOf_bad (A : Option Addr) (c B : Nat) (T : TL) (w : World) (hs : TFit T) (hB : B ≤ w.heap.size) (h : TAt w B A T) (hT : tabOk T = false) :
    Calls Tryz.prog 144 #[.agg #[.slice A T.length c]] w fun e w' => e = .returned (.agg #[.map none, .map none]) ∧ Below w.heap.size w w' := by
  have HT := Lib.hid hT
  clear hT
  go_enter Tryz.func144, Tryz.ntmps144
  go_wp2_with fail
  have b0 := ((Below.refl w.heap.size w).alloc (Nat.le_refl _) (.cells #[.slice A T.length c] 37)).alloc (by simp) (.cells #[.map none, .map none] 208)
  have R := Box.new (w := w.alloc (.cells #[.slice A T.length c] 37)) (b := w.heap.size + 1) (c := #[.map none, .map none]) (t := 208) (by simp)
  generalize (w.alloc (.cells #[.slice A T.length c] 37)).alloc (.cells #[.map none, .map none] 208) = w0 at b0 R ⊢
  refine (implTabOk_any A c B T _ hs (Nat.le_trans hB b0.size) (h.keep b0 hB)).mono ?_; rintro e w1 ⟨rfl, hb1⟩
  rw [HT.out]
  have R := R.next hb1
  have b1 := b0.trans (hb1.mono b0.size)
  obtain ⟨r0, r1, rf⟩ := R.c2
  clear hb1 b0
  go_wp2
  exact bodyPost_ret (v := .agg #[.map none, .map none]) (by simp [results, Tryz.results144, go_sem, r0, r1]) rfl ⟨rfl, (b1.setCell (p := ⟨w.heap.size + 1, 0, none⟩) (by simp) _).setCell (p := ⟨w.heap.size + 1, 1, none⟩) (by simp) _⟩
set_option maxHeartbeats 3200000 in
set_option maxRecDepth 100000 in
theorem storeOf_ok (b off c B : Nat) (T : TL) (q : Nat → Pl) (w : World) (hs : TFit T) (hB : B ≤ w.heap.size) (h : TCl w B b off T q) (hT : tabOk T = true) :
    Calls Tryz.prog 144 #[.agg #[.slice (some ⟨b, off, none⟩) T.length c]] w (StOk w T q) := by
  have HT := Lib.hid hT
  have hl8 := tabOk_len hT
  clear hT
  go_enter Tryz.func144, Tryz.ntmps144
  go_wp2_with fail
  have b0 := ((Below.refl w.heap.size w).alloc (Nat.le_refl _) (.cells #[.slice (some ⟨b, off, none⟩) T.length c] 37)).alloc (by simp) (.cells #[.map none, .map none] 208)
  have X := (Box.new (w := w) (c := #[.slice (some ⟨b, off, none⟩) T.length c]) (t := 37) rfl).alloc (.cells #[.map none, .map none] 208)
  have R := Box.new (w := w.alloc (.cells #[.slice (some ⟨b, off, none⟩) T.length c] 37)) (b := w.heap.size + 1) (c := #[.map none, .map none]) (t := 208) (by simp)
  generalize (w.alloc (.cells #[.slice (some ⟨b, off, none⟩) T.length c] 37)).alloc (.cells #[.map none, .map none] 208) = w0 at b0 X R ⊢
  refine (implTabOk_any _ c B T _ hs (Nat.le_trans hB b0.size) (h.at_.keep b0 hB)).mono ?_; rintro e w1 ⟨rfl, hb1⟩
  rw [HT.out]
  have X := X.next hb1
  have R := R.next hb1
  have b1 := b0.trans (hb1.mono b0.size)
  obtain ⟨x0, xf⟩ := X.c1
  have xl := X.lt
  have hs1 := b1.size
  clear hb1 b0 xf
  have hmm := @run_makeMap Tryz.prog
  have xl1 : w.heap.size < w1.heap.size + 1 := by omega
  have xl2 : w.heap.size < w1.heap.size + 1 + 1 := by omega
  go_wp2_with fail
  clear hmm x0 xl1 xl2
  have M1 := ((MapN.made Tryz.prog 3 w1).next ((Below.refl _ _).alloc (Nat.le_refl _) (.map #[] 0))).next ((Below.refl _ _).alloc (Nat.le_refl _) (.cells #[.map (some w1.heap.size), .map (some (w1.heap.size + 1))] 208))
  have M2 := (MapN.made Tryz.prog 3 (w1.alloc (.map #[] 0))).next ((Below.refl _ _).alloc (Nat.le_refl _) (.cells #[.map (some w1.heap.size), .map (some (w1.heap.size + 1))] 208))
  have hbm := (((Below.refl w1.heap.size w1).alloc (Nat.le_refl _) (.map #[] 0)).alloc (by simp) (.map #[] 0)).alloc (by simp; omega) (.cells #[.map (some w1.heap.size), .map (some (w1.heap.size + 1))] 208)
  have S := Box.new (w := (w1.alloc (.map #[] 0)).alloc (.map #[] 0)) (b := w1.heap.size + 1 + 1) (c := #[.map (some w1.heap.size), .map (some (w1.heap.size + 1))]) (t := 208) (by simp)
  have hse : (w1.alloc (.map #[] 0)).heap.size = w1.heap.size + 1 := by simp
  rw [hse] at M2
  clear hse
  generalize ((w1.alloc (.map #[] 0)).alloc (.map #[] 0)).alloc (.cells #[.map (some w1.heap.size), .map (some (w1.heap.size + 1))] 208) = w2 at M1 M2 hbm S ⊢
  have rl : w.heap.size + 1 < w1.heap.size := R.lt
  have R := R.below hbm R.lt
  have bw := b1.trans (hbm.mono hs1)
  clear hbm X xl b1
  have hok := Lib.hid (fun k (hk : k < T.length) => cellOk_parts (tabOk_at HT.out hk))
  go_loopw [16] (fun i wr => ∃ k : Nat, k ≤ T.length ∧ i = .int .i64 k ∧ Below w.heap.size w wr ∧ MapN Tryz.prog 3 wr w1.heap.size k (slotsF T k) ∧ (∃ m, m ≤ k ∧ MapN Tryz.prog 3 wr (w1.heap.size + 1) m (locksF T q k)) ∧ Box wr (w1.heap.size + 1 + 1) [.map (some w1.heap.size), .map (some (w1.heap.size + 1))] ∧ Box wr (w.heap.size + 1) [.map none, .map none]) (fun i _ => T.length - (intOf i).toNat)
  case atStart => exact ⟨0, Nat.zero_le _, rfl, bw, M1.congr (fun j => by unfold slotsF; rw [if_neg (by omega)]), ⟨0, Nat.le_refl _, M2.congr (fun j => by unfold locksF; rw [if_neg (by omega)])⟩, S, R⟩
  case round =>
    clear M1 M2 S R bw
    obtain ⟨k, hk, rfl, hb, M1, ⟨m, hm, M2⟩, S, R⟩ := hrel
    have hsz := hb.size
    by_cases hkn : k < T.length
    · have hkz : (k : Int) < T.length := by omega
      have hlk := hs.at_ hkn
      obtain ⟨a0, a1, a2, a3, a4, a5⟩ := (h.2 k hkn).1.below hb (show b < w.heap.size by have := h.1; omega)
      have i1 : LsAt wr B (cd T k) (q k) := LAt.keep (h.2 k hkn).2 hb hB
      obtain ⟨x0, x1, xf⟩ := S.c2
      have sl := S.lt
      clear xf
      go_wp2_with fail
      clear a0 a1 a2 a3 a4 a5 x0 x1 sl
      obtain ⟨_, hwo, hlo, hhw⟩ := hok.out k hkn
      have HWo := Lib.hid (wordOk_iff.1 hwo)
      have HW := Lib.hid hwo
      have HH := Lib.hid hhw
      clear hwo hlo hhw
      have hbd := (Below.refl wr.heap.size wr).alloc (Nat.le_refl _) (.cells #[.int .i64 (cd T k).v, .int .i64 (cd T k).e, .int .i64 (cd T k).s, .bool (cd T k).h, .slice (q k).G (cd T k).hs.length (q k).c, .slice (q k).G' (cd T k).ws.length (q k).c'] 67)
      have D := Box.new (w := wr) (c := #[.int .i64 (cd T k).v, .int .i64 (cd T k).e, .int .i64 (cd T k).s, .bool (cd T k).h, .slice (q k).G (cd T k).hs.length (q k).c, .slice (q k).G' (cd T k).ws.length (q k).c']) (t := 67) rfl
      have sl := S.lt
      have S := S.next hbd
      have R := R.next hbd
      have M1 := M1.next hbd
      have M2 := M2.next hbd
      have i1 : LsAt _ B (cd T k) (q k) := LAt.keep i1 hbd (by omega)
      have hb := hb.trans (hbd.mono hsz)
      generalize wr.alloc (.cells #[.int .i64 (cd T k).v, .int .i64 (cd T k).e, .int .i64 (cd T k).s, .bool (cd T k).h, .slice (q k).G (cd T k).hs.length (q k).c, .slice (q k).G' (cd T k).ws.length (q k).c'] 67) = w3 at hbd D S R M1 M2 i1 hb ⊢
      have hs3 := hbd.size
      have HD := Lib.hid D.drew
      have HS := Lib.hid S.drew
      have HR := Lib.hid R.drew
      have HM1 := Lib.hid (M1.block (w' := w3.drew) rfl)
      have HM2 := Lib.hid (M2.block (w' := w3.drew) rfl)
      have HI := Lib.hid (LAt.keep i1 (Below.refl w3.heap.size w3).drew (Nat.le_trans hB hb.size))
      have HB := Lib.hid hb.drew
      have hS0 := Lib.hid (And.intro S.drew.c2.1 D.drew.c6.1)
      clear D S R M1 M2 i1 hb hbd
      have n1 : slotsF T k k = none := by unfold slotsF; rw [if_neg (by omega)]
      have HN1 := Lib.hid n1
      clear n1
      go_region_held3 (fun W => W.cell? ⟨w1.heap.size + 1 + 1, 0, none⟩ = some (.map (some w1.heap.size)) ∧ W.cell? ⟨wr.heap.size, 0, none⟩ = some (.int .i64 (cd T k).v) ∧ W.cell? ⟨wr.heap.size, 1, none⟩ = some (.int .i64 (cd T k).e) ∧ W.cell? ⟨wr.heap.size, 2, none⟩ = some (.int .i64 (cd T k).s) ∧ W.cell? ⟨wr.heap.size, 3, none⟩ = some (.bool (cd T k).h) ∧ W.cell? ⟨wr.heap.size, 4, none⟩ = some (.slice (q k).G (cd T k).hs.length (q k).c) ∧ W.cell? ⟨wr.heap.size, 5, none⟩ = some (.slice (q k).G' (cd T k).ws.length (q k).c')) (first | exact hS0.out | exact hS5.out | exact hS6.out) ((go_at_call 192; refine (packedOf_any (cd T k).e (cd T k).s (cd T k).h HWo.out.1.1 HWo.out.1.2 HWo.out.2.1 HWo.out.2.2 _).mono ?_; rintro o w5 ⟨rfl, hb5⟩; obtain ⟨w6, hrun, M6, hT6⟩ := (HM1.out.next hb5).store keyI Tryz.underlying205 (by unfold maxLen; omega) (x := (k : Int)) (keyI_of (by omega) (by omega)) (.agg #[.int .i64 (pk (cd T k).e (cd T k).s (cd T k).h), .int .i64 (cd T k).v]); have hU := But2.of_turn1 (b2 := w1.heap.size + 1) hT6; have hS5 := Lib.hid (And.intro (HS.out.next hb5).c2.1 (HD.out.next hb5).c6.1); have HS6 := Lib.hid ((HS.out.next hb5).but hU (by omega) (by omega)); have HD6 := Lib.hid ((HD.out.next hb5).but hU (by omega) (by omega)); have HR6 := Lib.hid ((HR.out.next hb5).but hU (by omega) (by omega)); have hS6 := Lib.hid (And.intro HS6.out.c2.1 HD6.out.c6.1); have HM6 := Lib.hid M6; have HM26 := Lib.hid ((HM2.out.next hb5).kept hT6.grown (fun e => by injection e with e; omega)); have HB6 := Lib.hid ((HB.out.trans (hb5.mono HB.out.size)).trans (hU.below (L := w.heap.size) (by omega) (by omega) (Nat.le_trans HB.out.size hb5.size))); have HI6 := Lib.hid (LAt.below (LAt.keep HI.out hb5 (Nat.le_trans hB HB.out.size)) (hU.below (L := B) (by omega) (by omega) (Nat.le_trans hB (Nat.le_trans HB.out.size hb5.size))) (Nat.le_refl _)); clear hb5 hU M6 hT6))
      rename_i hS
      clear hS
      have M6 := HM6.out
      rw [HN1.out] at M6
      have M6 : MapN Tryz.prog 3 w6 w1.heap.size (k + 1) _ := M6
      have M6 := Lib.hid M6
      obtain ⟨x0, x1, xf⟩ := HS6.out.c2
      obtain ⟨⟨_, _, _, _, a4, a5⟩, _⟩ := HD6.out.c6
      clear hS0 hS5 hS6 hrun xf HM6 HD HS HR HM1 HM2 HI HB HWo
      go_wp2_with fail
      clear x0 x1 a4 a5
      refine (setLock_any w1.heap.size (w1.heap.size + 1) (k + 1) m B _ (locksF T q k) k (cd T k).v (cd T k).e (cd T k).s (cd T k).h (q k).G (q k).G' (q k).c (q k).c' (cd T k).hs (cd T k).ws _ (by omega) (by omega) hlk.1 (by omega) (by unfold upd; rw [if_pos rfl]; rfl) HW.out (by omega) (by omega) M6.out HM26.out (Nat.le_trans hB HB6.out.size) HI6.out).mono ?_; rintro o w7 ⟨rfl, M17, ⟨m', hm', M27⟩, hU⟩
      have HB7 := Lib.hid (HB6.out.trans (hU.below (L := w.heap.size) (by omega) (by omega) HB6.out.size))
      have HS7 := Lib.hid (HS6.out.but hU (by omega) (by omega))
      have HR7 := Lib.hid (HR6.out.but hU (by omega) (by omega))
      have HM17 := Lib.hid (M17.congr (fun j => slotsF_step (u := .agg #[.int .i64 (pk (cd T k).e (cd T k).s (cd T k).h), .int .i64 (cd T k).v]) HH.out j))
      have HM27 := Lib.hid (M27.congr (fun j => locksF_step j))
      clear M17 M27 hU M6
      go_wp2
      exact ⟨⟨k + 1, by omega, by go_num, HB7.out, HM17.out, ⟨m', by omega, HM27.out⟩, HS7.out, HR7.out⟩, by simp [intOf]; omega⟩
    · obtain rfl : k = T.length := by omega
      obtain ⟨x0, x1, xf⟩ := S.c2
      obtain ⟨r0, r1, rf⟩ := R.c2
      have HM1 := Lib.hid M1
      have HM2 := Lib.hid M2
      have HB := Lib.hid hb
      clear M1 M2 hb h
      go_wp2
      have hlt1 := HM1.out.lt
      have hlt2 := HM2.out.lt
      have t := ((Onlys.refl (w.heap.size + 1) (w.heap.size + 1 + 1) wr).setCell (p := ⟨w.heap.size + 1, 0, none⟩) (Nat.le_refl _) (Nat.lt_succ_self _) (.map (some w1.heap.size))).setCell (p := ⟨w.heap.size + 1, 1, none⟩) (Nat.le_refl _) (Nat.lt_succ_self _) (.map (some (w1.heap.size + 1)))
      exact bodyPost_ret (v := .agg #[.map (some w1.heap.size), .map (some (w1.heap.size + 1))]) (by simp [results, Tryz.results144, go_sem, r0, r1]) rfl ⟨w1.heap.size, w1.heap.size + 1, m, rfl, by omega, hs1, by omega, HM1.out.block (t.block _ (.inr (by omega))), hm, HM2.out.block (t.block _ (.inr (by omega))), HB.out.trans (t.below (Nat.le_succ _))⟩
end Go.Proofs.YtkpkjcmoldkmmaaGreat
