/- The laws' marking and looking again: cells of a table. -/
import Derived.Test.YtkpkjcmoldkmmaaGreatGb
import Derived.Test.YtkpkjcmoldkmmaaGreatGe
import Derived.Test.YtkpkjcmoldkmmaaGreatGd
namespace Go.Proofs.YtkpkjcmoldkmmaaGreat
open Go.RowKit


/-! lists marked by counting -/
def mkl {α : Type} (mk : α → Int → α) (ad : α → Int) : List α → Int → List α
  | [], _ => []
  | a :: l, k => mk a k :: mkl mk ad l (k + ad a)
def adl {α : Type} (ad : α → Int) (l : List α) : Int := (l.map ad).sum
def adk {α : Type} (ad : α → Int) (l : List α) (k : Nat) : Int := adl ad (l.take k)
section
variable {α : Type} {mk : α → Int → α} {ad : α → Int}
theorem mkl_len : ∀ (l : List α) (k : Int), (mkl mk ad l k).length = l.length
  | [], _ => rfl
  | a :: l, k => by rw [mkl, List.length_cons, List.length_cons, mkl_len l]
theorem adl_cons (a : α) (l : List α) : adl ad (a :: l) = ad a + adl ad l := by simp [adl]
theorem adk_zero (l : List α) : adk ad l 0 = 0 := by simp [adk, adl]
theorem adk_all (l : List α) : adk ad l l.length = adl ad l := by unfold adk; rw [List.take_length]
theorem adk_succ {l : List α} {j : Nat} {a : α} (h : l[j]? = some a) : adk ad l (j + 1) = adk ad l j + ad a := by
  unfold adk adl
  rw [List.take_add_one, h]
  simp
theorem mkl_get : ∀ (l : List α) (k : Int) (j : Nat) (a : α), l[j]? = some a → (mkl mk ad l k)[j]? = some (mk a (k + adk ad l j))
  | [], _, _, _, h => by simp at h
  | b :: l, k, 0, a, h => by
    simp at h
    subst h
    rw [mkl, adk_zero]
    simp
  | b :: l, k, j + 1, a, h => by
    rw [mkl, List.getElem?_cons_succ, mkl_get l _ j a (by simpa using h)]
    unfold adk
    rw [List.take_succ_cons, adl_cons, Int.add_assoc]
theorem adl_pos (h : ∀ a, 0 ≤ ad a) : ∀ l : List α, 0 ≤ adl ad l
  | [] => by simp [adl]
  | a :: l => by
    rw [adl_cons]
    have := h a
    have := adl_pos h l
    omega
theorem adk_pos (h : ∀ a, 0 ≤ ad a) (l : List α) (k : Nat) : 0 ≤ adk ad l k := adl_pos h _
theorem adk_le (h : ∀ a, 0 ≤ ad a) (l : List α) (k : Nat) : adk ad l k ≤ adl ad l := by
  have h1 : adl ad l = adk ad l k + adl ad (l.drop k) := by
    unfold adk adl
    rw [← List.sum_append, ← List.map_append, List.take_append_drop]
  have := adl_pos h (l.drop k)
  omega
theorem adl_ub {F : Fm α} (h : ∀ a, ad a ≤ 16 * (F.cnt a : Int) + 16) : ∀ l : List α, adl ad l ≤ 16 * ((rowF F).cnt l : Int)
  | [] => by
    show (0 : Int) ≤ _
    omega
  | a :: l => by
    rw [adl_cons]
    have := h a
    have := adl_ub h l
    have e : (rowF F).cnt (a :: l) = (rowF F).cnt l + F.cnt a + 1 := by
      show (a :: l).length + ((a :: l).map F.cnt).sum = l.length + (l.map F.cnt).sum + F.cnt a + 1
      simp
      omega
    omega
end
theorem RAt.onlys {α : Type} {F : Fm α} {w w' : World} {B lo' B' : Nat} {A : Option Addr} {l : List α} (h : RAt F w B A l) (ho : Onlys lo' B' w w') (hd : B ≤ lo') : RAt F w' B A l := h.same (fun k hk => ho.block k (.inl (by omega)))
theorem int_eq {a b : Int} (h : a = b) : Value.int .i64 a = .int .i64 b := by rw [h]

/-! a record in the making: only the cells from o on in block b, and the blocks from L on and below H, have turned -/
structure Chg (w0 w : World) (b o : Nat) (vs : List Value) (lo B L H : Nat) : Prop where
  only : Onlys lo B w0 w
  cell : RCells w b o vs
  far : ∀ p, (p < o ∨ o + vs.length ≤ p) → w.cell? ⟨b, p, none⟩ = w0.cell? ⟨b, p, none⟩
  oth : ∀ x, ¬ x = b → (x < L ∨ H ≤ x) → w.heap[x]? = w0.heap[x]?
  free : ∀ p, w.frozen? ⟨b, p, none⟩ = false
section
variable {w0 w w' : World} {b o lo B L H : Nat} {vs : List Value}
theorem Chg.set (h : Chg w0 w b o vs lo B L H) (i : Nat) (v : Value) (hi : i < vs.length) (h1 : lo ≤ b) (h2 : b < B) : Chg w0 (w.setCell ⟨b, o + i, none⟩ v) b o (vs.set i v) lo B L H := by
  refine ⟨h.only.setCell h1 h2 _, fun j u hu => ?_, fun p hp => ?_, fun x h3 h4 => (Below.heap_setCell _ _ _ _ h3).trans (h.oth x h3 h4), fun p => by rw [World.frozen?_setCell]; exact h.free p⟩
  · by_cases e : j = i
    · subst e
      rw [List.getElem?_set_self hi] at hu
      injection hu with hu
      subst hu
      exact World.cell?_setCell_same _ _ _ (h.cell j _ (List.getElem?_eq_getElem hi))
    · rw [List.getElem?_set_ne (by omega)] at hu
      rw [World.cell?_setCell_other _ _ _ _ (by intro h'; injection h' with _ h' _; omega)]
      exact h.cell j u hu
  · rw [List.length_set] at hp
    rw [World.cell?_setCell_other _ _ _ _ (by intro h'; injection h' with _ h' _; omega)]
    exact h.far p hp
theorem Chg.call {L' H' : Nat} (h : Chg w0 w b o vs lo B L H) (ho : Onlys L' H' w w') (hb : b < L' ∨ H' ≤ b) (h1 : lo ≤ L') (h2 : H' ≤ B) (h3 : L ≤ L') (h4 : H' ≤ H) : Chg w0 w' b o vs lo B L H := by
  have hk := ho.block b hb
  exact ⟨h.only.trans ⟨ho.os, ho.tape, ho.output, ho.size, fun k hk => ho.block k (by omega)⟩, h.cell.block hk, fun p hp => (World.cell?_of_block (a := ⟨b, p, none⟩) hk).trans (h.far p hp), fun x h5 h6 => (ho.block x (by omega)).trans (h.oth x h5 h6), fun p => (World.frozen?_of_block (a := ⟨b, p, none⟩) hk).trans (h.free p)⟩
theorem Chg.cast {us : List Value} (h : Chg w0 w b o vs lo B L H) (e : vs = us) : Chg w0 w b o us lo B L H := e ▸ h
end
section
variable {α : Type} {F : Fm α} {w w' : World} {lo B b off : Nat} {l : List α} {vs : Nat → List Value} {L H : Nat → Nat}
theorem RRow.chg (h : RRow F w lo B b off l vs L H) {j : Nat} (hj : j < l.length) : Chg w w b (off + j * F.n) (vs j) lo B (L j) (H j) :=
  ⟨Onlys.refl _ _ _, h.cell j hj, fun _ _ => rfl, fun _ _ _ => rfl, h.free⟩
theorem RRow.put (h : RRow F w lo B b off l vs L H) {j : Nat} {a : α} {v : List Value} (hj : j < l.length) (hc : Chg w w' b (off + j * F.n) v lo B (L j) (H j)) (hv : v.length = F.n) (hown : F.Own w' (L j) (H j) a v) :
    RRow F w' lo B b off (l.set j a) (fun i => if i = j then v else vs i) L H := by
  refine ⟨h.rlo, h.rhi, hc.free, fun i hi => h.span i (by simpa using hi), fun i i' hi hi' => h.part i i' (by simpa using hi) (by simpa using hi'), fun i hi => ?_, fun i a' ha' => ?_⟩
  · have hi : i < l.length := by simpa using hi
    by_cases e : i = j
    · subst e
      rw [if_pos rfl]
      exact hc.cell
    · rw [if_neg e]
      intro x u hu
      have hx : x < F.n := by
        have h1 := (List.getElem?_eq_some_iff.1 hu).1
        have h2 := F.len (F.own_at (h.own i _ (List.getElem?_eq_getElem hi)))
        omega
      rw [hc.far _ (by
        rw [hv]
        rcases Nat.lt_or_gt_of_ne e with hlt | hgt
        · have : (i + 1) * F.n ≤ j * F.n := Nat.mul_le_mul_right _ (by omega)
          rw [Nat.succ_mul] at this
          exact .inl (by omega)
        · have : (j + 1) * F.n ≤ i * F.n := Nat.mul_le_mul_right _ (by omega)
          rw [Nat.succ_mul] at this
          exact .inr (by omega))]
      exact h.cell i hi x u hu
  · by_cases e : i = j
    · subst e
      rw [List.getElem?_set_self hj] at ha'
      injection ha' with ha'
      subst ha'
      simp only [if_true]
      exact hown
    · rw [List.getElem?_set_ne (by omega)] at ha'
      have hi := get_lt ha'
      simp only [if_neg e]
      have s1 := h.span i hi
      have s2 := h.span j hj
      have p := h.part i j hi hj e
      exact F.own_same (h.own i a' ha') (fun x h1 h2 => hc.oth x (by omega) (by omega))
/-- marked up to k -/
structure Mix (l m l' : List α) (k : Nat) : Prop where
  len : l'.length = l.length
  old : ∀ i, k ≤ i → l'[i]? = l[i]?
  new : ∀ i, i < k → l'[i]? = m[i]?
theorem Mix.start {m : List α} : Mix l m l 0 := ⟨rfl, fun _ _ => rfl, fun _ h => absurd h (by omega)⟩
theorem Mix.step {m l' : List α} {k : Nat} {a : α} (h : Mix l m l' k) (hk : k < l.length) (hm : m[k]? = some a) : Mix l m (l'.set k a) (k + 1) :=
  ⟨by rw [List.length_set]; exact h.len, fun i hi => by rw [List.getElem?_set_ne (by omega)]; exact h.old i (by omega), fun i hi => by
    by_cases e : i = k
    · subst e
      rw [List.getElem?_set_self (by rw [h.len]; exact hk), hm]
    · rw [List.getElem?_set_ne (by omega)]
      exact h.new i (by omega)⟩
theorem Mix.done {m l' : List α} (h : Mix l m l' l.length) (hm : m.length = l.length) : l' = m := by
  apply List.ext_getElem?
  intro i
  by_cases hi : i < l.length
  · exact h.new i hi
  · rw [List.getElem?_eq_none (by have := h.len; omega), List.getElem?_eq_none (by omega)]
end
end Go.Proofs.YtkpkjcmoldkmmaaGreat

namespace Go.Proofs.YtkpkjcmoldkmmaaGreat
open Go.RowKit

def ad_Int (_d : Int) : Int := 1
def mkd_Int (_d : Int) (k : Int) : Int := k
theorem pos_Int (d : Int) : 0 ≤ ad_Int d := by
  unfold ad_Int
  omega
theorem ub_Int (d : Int) : ad_Int d ≤ 16 * (intF.cnt d : Int) + 16 := by
  unfold ad_Int
  omega
theorem adl_Int : ∀ l : List Int, adl ad_Int l = l.length
  | [] => rfl
  | a :: l => by
    rw [adl_cons, adl_Int l, List.length_cons]
    unfold ad_Int
    omega
def ad_Act (_d : DAct) : Int := 3
def mkd_Act (_d : DAct) (k : Int) : DAct := (k, k + 1, k + 2)
theorem pos_Act (d : DAct) : 0 ≤ ad_Act d := by
  unfold ad_Act
  omega
theorem ub_Act (d : DAct) : ad_Act d ≤ 16 * (fAct.cnt d : Int) + 16 := by
  unfold ad_Act
  omega
theorem upd_Act {w : World} {lo B : Nat} {d : DAct} {vs : List Value} (h : fAct.Own w lo B d vs) : vs = [.int .i64 d.1, .int .i64 d.2.1, .int .i64 d.2.2] ∧ ∀ (w' : World) (d' : DAct), fAct.Own w' lo B d' [.int .i64 d'.1, .int .i64 d'.2.1, .int .i64 d'.2.2] := by
  obtain ⟨x0, y0, P0, Q0, M0, N0, rfl, hd0, h0, x1, y1, P1, Q1, M1, N1, rfl, hd1, h1, h2⟩ := h
  cases h0
  cases h1
  cases h2
  exact ⟨rfl, fun w' d' => ⟨[.int .i64 d'.1], _, P0, Q0, M0, N0, rfl, hd0, rfl, ⟨[.int .i64 d'.2.1], _, P1, Q1, M1, N1, rfl, hd1, rfl, rfl⟩⟩⟩
def ad_Put (_d : DPut) : Int := 2
def mkd_Put (_d : DPut) (k : Int) : DPut := (k, k + 1)
theorem pos_Put (d : DPut) : 0 ≤ ad_Put d := by
  unfold ad_Put
  omega
theorem ub_Put (d : DPut) : ad_Put d ≤ 16 * (fPut.cnt d : Int) + 16 := by
  unfold ad_Put
  omega
theorem upd_Put {w : World} {lo B : Nat} {d : DPut} {vs : List Value} (h : fPut.Own w lo B d vs) : vs = [.int .i64 d.1, .int .i64 d.2] ∧ ∀ (w' : World) (d' : DPut), fPut.Own w' lo B d' [.int .i64 d'.1, .int .i64 d'.2] := by
  obtain ⟨x0, y0, P0, Q0, M0, N0, rfl, hd0, h0, h1⟩ := h
  cases h0
  cases h1
  exact ⟨rfl, fun w' d' => ⟨[.int .i64 d'.1], _, P0, Q0, M0, N0, rfl, hd0, rfl, rfl⟩⟩
set_option maxHeartbeats 1600000 in
set_option maxRecDepth 100000 in
theorem mark_IntS (A : Option Addr) (c lo B : Nat) (l : List Int) (k0 : Int) (w : World) (h0 : 0 ≤ k0) (h1 : k0 + adl ad_Int l ≤ 1099511627776) (h : ROwn intF w lo B A l) :
    Calls Tryz.prog 20 #[.slice A l.length c, .int .i64 k0] w fun e w' => e = .returned (.int .i64 (k0 + adl ad_Int l)) ∧ Onlys lo B w w' ∧ ROwn intF w' lo B A (mkl mkd_Int ad_Int l k0) := by
  have hmx := h.1
  unfold maxLen at hmx
  rcases Nat.eq_zero_or_pos l.length with hz | hpos
  · obtain rfl := List.eq_nil_of_length_eq_zero hz
    clear hz hmx
    go_enter Tryz.func20, Tryz.ntmps20
    go_wp2
    refine wp_loop_rounds 1 ?_; rw [rounds_succ]
    go_wp2
    go_ret
    exact ⟨ret_intG (by simp [adl]), Onlys.refl _ _ _, ROwn.nil⟩
  obtain ⟨b, off, rfl, vs0, L, H, hr0⟩ := h.2 hpos
  clear h
  have blo := hr0.rlo
  have bhi := hr0.rhi
  go_enter Tryz.func20, Tryz.ntmps20
  go_wp2
  go_loopw [1, 5] (fun s i wr => ∃ k : Nat, k ≤ l.length ∧ i = .int .i64 k ∧ s = .int .i64 (k0 + adk ad_Int l k) ∧ Onlys lo B w wr ∧ ∃ l' vs, Mix l (mkl mkd_Int ad_Int l k0) l' k ∧ RRow intF wr lo B b off l' vs L H) (fun _ i _ => l.length - (intOf i).toNat)
  case atStart => exact ⟨0, Nat.zero_le _, rfl, int_eq (by rw [adk_zero]; omega), Onlys.refl _ _ _, _, _, Mix.start, hr0⟩
  case round =>
    clear hr0
    obtain ⟨k, hk, rfl, rfl, ho, l', vs, hmix, hr⟩ := hrel
    by_cases hkn : k < l.length
    · have hkz : (k : Int) < l.length := by omega
      have hget : l[k]? = some l[k] := List.getElem?_eq_getElem hkn
      have hk' : k < l'.length := by rw [hmix.len]; exact hkn
      have hmk := mkl_get (mk := mkd_Int) (ad := ad_Int) l k0 k _ hget
      have hs := adk_succ (ad := ad_Int) hget
      have hle := adk_le (ad := ad_Int) pos_Int l (k + 1)
      have hp := adk_pos (ad := ad_Int) pos_Int l k
      have hown := hr.own k _ (by rw [hmix.old k (Nat.le_refl _)]; exact hget)
      have C := hr.chg hk'
      have spn := hr.span k hk'
      rw [show intF.n = 1 from rfl] at C
      have HR := Lib.hid hr
      have HM := Lib.hid hmix
      have HK := Lib.hid hmk
      clear hr hmix hk' hmk
      generalize l[k] = d at hget hs hown HK
      generalize hL : L k = Lk at C spn hown
      generalize hH : H k = Hk at C spn hown
      generalize hv : vs k = v at C hown
      have HL := Lib.hid hL
      have HH := Lib.hid hH
      clear hL hH hv
      cases hown
      have had : ad_Int d = 1 := rfl
      rw [had] at hs
      generalize hx : adk ad_Int l k = x at hs hle hp HK ⊢
      generalize hy : adk ad_Int l (k + 1) = y at hs hle
      have HY := Lib.hid hy
      clear hy hx
      rw [Nat.mul_one] at C
      have a0 := C.cell.c1
      have f0 := C.free
      have HC := Lib.hid C
      clear C
      go_wp2
      refine ⟨⟨k + 1, by omega, by go_num, int_eq (by rw [HY.out]; omega), ?_, _, _, HM.out.step hkn HK.out, RRow.put HR.out (v := [.int .i64 (k0 + x)]) (by rw [HM.out.len]; exact hkn) ?_ rfl ?_⟩, by simp [intOf]; omega⟩
      · exact ho.trans ((HC.out).set 0 _ (by simp) (by omega) (by omega)).only
      · rw [HL.out, HH.out]
        rw [show intF.n = 1 from rfl, Nat.mul_one]
        refine Chg.cast ((HC.out).set 0 _ (by simp) (by omega) (by omega)) ?_
        simp [List.set]
        all_goals (try (repeat' apply And.intro))
        all_goals (first | omega | (rw [Bool.eq_iff_iff]; simp; done) | (rw [Bool.eq_iff_iff]; simp; omega))
      · rw [HL.out, HH.out]
        exact rfl
    · obtain rfl : k = l.length := by omega
      have HD := Lib.hid (hmix.done (mkl_len _ _))
      have HR := Lib.hid hr
      have HA := Lib.hid (adk_all (ad := ad_Int) l)
      clear hr hmix
      go_wp2
      go_ret
      refine ⟨ret_intG (by rw [HA.out]), ho, ?_⟩
      have hr := HR.out
      rw [HD.out] at hr
      exact ⟨by rw [mkl_len]; unfold maxLen; omega, fun _ => ⟨b, off, rfl, _, _, _, hr⟩⟩
set_option maxHeartbeats 1600000 in
set_option maxRecDepth 100000 in
theorem held_IntS (A : Option Addr) (c B : Nat) (l : List Int) (k0 : Int) (w : World) (h0 : 0 ≤ k0) (h1 : k0 + adl ad_Int l ≤ 1099511627776) (h : RAt intF w B A (mkl mkd_Int ad_Int l k0)) :
    Calls Tryz.prog 21 #[.slice A l.length c, .int .i64 k0] w fun e w' => e = .returned (.int .i64 (k0 + adl ad_Int l)) ∧ w = w' := by
  obtain ⟨hmx, hc0⟩ := h
  rw [mkl_len] at hmx hc0
  unfold maxLen at hmx
  have HC := Lib.hid hc0
  clear hc0
  go_enter Tryz.func21, Tryz.ntmps21
  go_wp2
  go_loop [1, 5] (fun s i => ∃ k : Nat, k ≤ l.length ∧ i = .int .i64 k ∧ s = .int .i64 (k0 + adk ad_Int l k)) (fun _ i => l.length - (intOf i).toNat)
  case atStart => exact ⟨0, Nat.zero_le _, rfl, int_eq (by rw [adk_zero]; omega)⟩
  case round =>
    obtain ⟨k, hk, rfl, rfl⟩ := hrel
    by_cases hkn : k < l.length
    · obtain ⟨b, off, rfl, hbB, hc⟩ := HC.out (by omega)
      have hkz : (k : Int) < l.length := by omega
      have hget : l[k]? = some l[k] := List.getElem?_eq_getElem hkn
      obtain ⟨v, hv, hat⟩ := hc k _ (mkl_get (mk := mkd_Int) (ad := ad_Int) l k0 k _ hget)
      rw [show intF.n = 1 from rfl] at hv
      have hs := adk_succ (ad := ad_Int) hget
      have hle := adk_le (ad := ad_Int) pos_Int l (k + 1)
      have hp := adk_pos (ad := ad_Int) pos_Int l k
      clear hc
      generalize l[k] = d at hget hs hat
      have had : ad_Int d = 1 := rfl
      rw [had] at hs
      clear had
      generalize hx : adk ad_Int l k = x at hs hle hp hat ⊢
      generalize hy : adk ad_Int l (k + 1) = y at hs hle
      have HY := Lib.hid hy
      clear hy hx
      have hat : v = [.int .i64 (k0 + x)] := hat
      subst hat
      have a0 := hv.c1
      rw [Nat.mul_one] at a0
      clear hv hget
      go_wp2
      exact ⟨⟨k + 1, by omega, by go_num, int_eq (by rw [HY.out]; omega)⟩, by simp [intOf]; omega⟩
    · obtain rfl : k = l.length := by omega
      have HA := Lib.hid (adk_all (ad := ad_Int) l)
      go_wp2
      go_ret
      exact ⟨ret_intG (by rw [HA.out]), rfl⟩
set_option maxHeartbeats 1600000 in
set_option maxRecDepth 100000 in
theorem mark_ActS (A : Option Addr) (c lo B : Nat) (l : List DAct) (k0 : Int) (w : World) (h0 : 0 ≤ k0) (h1 : k0 + adl ad_Act l ≤ 1099511627776) (h : ROwn fAct w lo B A l) :
    Calls Tryz.prog 161 #[.slice A l.length c, .int .i64 k0] w fun e w' => e = .returned (.int .i64 (k0 + adl ad_Act l)) ∧ Onlys lo B w w' ∧ ROwn fAct w' lo B A (mkl mkd_Act ad_Act l k0) := by
  have hmx := h.1
  unfold maxLen at hmx
  rcases Nat.eq_zero_or_pos l.length with hz | hpos
  · obtain rfl := List.eq_nil_of_length_eq_zero hz
    clear hz hmx
    go_enter Tryz.func161, Tryz.ntmps161
    go_wp2
    refine wp_loop_rounds 1 ?_; rw [rounds_succ]
    go_wp2
    go_ret
    exact ⟨ret_intG (by simp [adl]), Onlys.refl _ _ _, ROwn.nil⟩
  obtain ⟨b, off, rfl, vs0, L, H, hr0⟩ := h.2 hpos
  clear h
  have blo := hr0.rlo
  have bhi := hr0.rhi
  go_enter Tryz.func161, Tryz.ntmps161
  go_wp2
  go_loopw [1, 5] (fun s i wr => ∃ k : Nat, k ≤ l.length ∧ i = .int .i64 k ∧ s = .int .i64 (k0 + adk ad_Act l k) ∧ Onlys lo B w wr ∧ ∃ l' vs, Mix l (mkl mkd_Act ad_Act l k0) l' k ∧ RRow fAct wr lo B b off l' vs L H) (fun _ i _ => l.length - (intOf i).toNat)
  case atStart => exact ⟨0, Nat.zero_le _, rfl, int_eq (by rw [adk_zero]; omega), Onlys.refl _ _ _, _, _, Mix.start, hr0⟩
  case round =>
    clear hr0
    obtain ⟨k, hk, rfl, rfl, ho, l', vs, hmix, hr⟩ := hrel
    by_cases hkn : k < l.length
    · have hkz : (k : Int) < l.length := by omega
      have hget : l[k]? = some l[k] := List.getElem?_eq_getElem hkn
      have hk' : k < l'.length := by rw [hmix.len]; exact hkn
      have hmk := mkl_get (mk := mkd_Act) (ad := ad_Act) l k0 k _ hget
      have hs := adk_succ (ad := ad_Act) hget
      have hle := adk_le (ad := ad_Act) pos_Act l (k + 1)
      have hp := adk_pos (ad := ad_Act) pos_Act l k
      have hown := hr.own k _ (by rw [hmix.old k (Nat.le_refl _)]; exact hget)
      have C := hr.chg hk'
      have spn := hr.span k hk'
      rw [show fAct.n = 3 from rfl] at C
      have HR := Lib.hid hr
      have HM := Lib.hid hmix
      have HK := Lib.hid hmk
      clear hr hmix hk' hmk
      generalize l[k] = d at hget hs hown HK
      generalize hL : L k = Lk at C spn hown
      generalize hH : H k = Hk at C spn hown
      generalize hv : vs k = v at C hown
      have HL := Lib.hid hL
      have HH := Lib.hid hH
      clear hL hH hv
      obtain ⟨rfl, clo⟩ := upd_Act hown
      have CLO := Lib.hid clo
      clear clo
      have had : ad_Act d = 3 := rfl
      rw [had] at hs
      generalize hx : adk ad_Act l k = x at hs hle hp HK ⊢
      generalize hy : adk ad_Act l (k + 1) = y at hs hle
      have HY := Lib.hid hy
      clear hy hx
      obtain ⟨a0, a1, a2⟩ := C.cell.c3
      have f0 := C.free
      have HC := Lib.hid C
      clear C
      go_wp2
      refine ⟨⟨k + 1, by omega, by go_num, int_eq (by rw [HY.out]; omega), ?_, _, _, HM.out.step hkn HK.out, RRow.put HR.out (v := [.int .i64 (mkd_Act d (k0 + x)).1, .int .i64 (mkd_Act d (k0 + x)).2.1, .int .i64 (mkd_Act d (k0 + x)).2.2]) (by rw [HM.out.len]; exact hkn) ?_ rfl ?_⟩, by simp [intOf]; omega⟩
      · exact ho.trans ((((HC.out).set 0 _ (by simp) (by omega) (by omega)).set 1 _ (by simp) (by omega) (by omega)).set 2 _ (by simp) (by omega) (by omega)).only
      · rw [HL.out, HH.out]
        rw [show fAct.n = 3 from rfl]
        refine Chg.cast ((((HC.out).set 0 _ (by simp) (by omega) (by omega)).set 1 _ (by simp) (by omega) (by omega)).set 2 _ (by simp) (by omega) (by omega)) ?_
        simp [List.set, mkd_Act]
        all_goals (try (repeat' apply And.intro))
        all_goals (first | omega | (rw [Bool.eq_iff_iff]; simp; done) | (rw [Bool.eq_iff_iff]; simp; omega))
      · rw [HL.out, HH.out]
        exact CLO.out _ (mkd_Act d (k0 + x)) 
    · obtain rfl : k = l.length := by omega
      have HD := Lib.hid (hmix.done (mkl_len _ _))
      have HR := Lib.hid hr
      have HA := Lib.hid (adk_all (ad := ad_Act) l)
      clear hr hmix
      go_wp2
      go_ret
      refine ⟨ret_intG (by rw [HA.out]), ho, ?_⟩
      have hr := HR.out
      rw [HD.out] at hr
      exact ⟨by rw [mkl_len]; unfold maxLen; omega, fun _ => ⟨b, off, rfl, _, _, _, hr⟩⟩
set_option maxHeartbeats 1600000 in
set_option maxRecDepth 100000 in
theorem mark_PutS (A : Option Addr) (c lo B : Nat) (l : List DPut) (k0 : Int) (w : World) (h0 : 0 ≤ k0) (h1 : k0 + adl ad_Put l ≤ 1099511627776) (h : ROwn fPut w lo B A l) :
    Calls Tryz.prog 104 #[.slice A l.length c, .int .i64 k0] w fun e w' => e = .returned (.int .i64 (k0 + adl ad_Put l)) ∧ Onlys lo B w w' ∧ ROwn fPut w' lo B A (mkl mkd_Put ad_Put l k0) := by
  have hmx := h.1
  unfold maxLen at hmx
  rcases Nat.eq_zero_or_pos l.length with hz | hpos
  · obtain rfl := List.eq_nil_of_length_eq_zero hz
    clear hz hmx
    go_enter Tryz.func104, Tryz.ntmps104
    go_wp2
    refine wp_loop_rounds 1 ?_; rw [rounds_succ]
    go_wp2
    go_ret
    exact ⟨ret_intG (by simp [adl]), Onlys.refl _ _ _, ROwn.nil⟩
  obtain ⟨b, off, rfl, vs0, L, H, hr0⟩ := h.2 hpos
  clear h
  have blo := hr0.rlo
  have bhi := hr0.rhi
  go_enter Tryz.func104, Tryz.ntmps104
  go_wp2
  go_loopw [1, 5] (fun s i wr => ∃ k : Nat, k ≤ l.length ∧ i = .int .i64 k ∧ s = .int .i64 (k0 + adk ad_Put l k) ∧ Onlys lo B w wr ∧ ∃ l' vs, Mix l (mkl mkd_Put ad_Put l k0) l' k ∧ RRow fPut wr lo B b off l' vs L H) (fun _ i _ => l.length - (intOf i).toNat)
  case atStart => exact ⟨0, Nat.zero_le _, rfl, int_eq (by rw [adk_zero]; omega), Onlys.refl _ _ _, _, _, Mix.start, hr0⟩
  case round =>
    clear hr0
    obtain ⟨k, hk, rfl, rfl, ho, l', vs, hmix, hr⟩ := hrel
    by_cases hkn : k < l.length
    · have hkz : (k : Int) < l.length := by omega
      have hget : l[k]? = some l[k] := List.getElem?_eq_getElem hkn
      have hk' : k < l'.length := by rw [hmix.len]; exact hkn
      have hmk := mkl_get (mk := mkd_Put) (ad := ad_Put) l k0 k _ hget
      have hs := adk_succ (ad := ad_Put) hget
      have hle := adk_le (ad := ad_Put) pos_Put l (k + 1)
      have hp := adk_pos (ad := ad_Put) pos_Put l k
      have hown := hr.own k _ (by rw [hmix.old k (Nat.le_refl _)]; exact hget)
      have C := hr.chg hk'
      have spn := hr.span k hk'
      rw [show fPut.n = 2 from rfl] at C
      have HR := Lib.hid hr
      have HM := Lib.hid hmix
      have HK := Lib.hid hmk
      clear hr hmix hk' hmk
      generalize l[k] = d at hget hs hown HK
      generalize hL : L k = Lk at C spn hown
      generalize hH : H k = Hk at C spn hown
      generalize hv : vs k = v at C hown
      have HL := Lib.hid hL
      have HH := Lib.hid hH
      clear hL hH hv
      obtain ⟨rfl, clo⟩ := upd_Put hown
      have CLO := Lib.hid clo
      clear clo
      have had : ad_Put d = 2 := rfl
      rw [had] at hs
      generalize hx : adk ad_Put l k = x at hs hle hp HK ⊢
      generalize hy : adk ad_Put l (k + 1) = y at hs hle
      have HY := Lib.hid hy
      clear hy hx
      obtain ⟨a0, a1⟩ := C.cell.c2
      have f0 := C.free
      have HC := Lib.hid C
      clear C
      go_wp2
      refine ⟨⟨k + 1, by omega, by go_num, int_eq (by rw [HY.out]; omega), ?_, _, _, HM.out.step hkn HK.out, RRow.put HR.out (v := [.int .i64 (mkd_Put d (k0 + x)).1, .int .i64 (mkd_Put d (k0 + x)).2]) (by rw [HM.out.len]; exact hkn) ?_ rfl ?_⟩, by simp [intOf]; omega⟩
      · exact ho.trans (((HC.out).set 0 _ (by simp) (by omega) (by omega)).set 1 _ (by simp) (by omega) (by omega)).only
      · rw [HL.out, HH.out]
        rw [show fPut.n = 2 from rfl]
        refine Chg.cast (((HC.out).set 0 _ (by simp) (by omega) (by omega)).set 1 _ (by simp) (by omega) (by omega)) ?_
        simp [List.set, mkd_Put]
        all_goals (try (repeat' apply And.intro))
        all_goals (first | omega | (rw [Bool.eq_iff_iff]; simp; done) | (rw [Bool.eq_iff_iff]; simp; omega))
      · rw [HL.out, HH.out]
        exact CLO.out _ (mkd_Put d (k0 + x)) 
    · obtain rfl : k = l.length := by omega
      have HD := Lib.hid (hmix.done (mkl_len _ _))
      have HR := Lib.hid hr
      have HA := Lib.hid (adk_all (ad := ad_Put) l)
      clear hr hmix
      go_wp2
      go_ret
      refine ⟨ret_intG (by rw [HA.out]), ho, ?_⟩
      have hr := HR.out
      rw [HD.out] at hr
      exact ⟨by rw [mkl_len]; unfold maxLen; omega, fun _ => ⟨b, off, rfl, _, _, _, hr⟩⟩
end Go.Proofs.YtkpkjcmoldkmmaaGreat

namespace Go.Proofs.YtkpkjcmoldkmmaaGreat
open Go.RowKit

def ad_Commit (d : DCommit) : Int := 4 + adl ad_Int d.2.2.2.2.1 + adl ad_Put d.2.2.2.2.2
def mkd_Commit (d : DCommit) (k : Int) : DCommit := (k, k + 1, k + 2, k + 3, mkl mkd_Int ad_Int d.2.2.2.2.1 (k + 4), mkl mkd_Put ad_Put d.2.2.2.2.2 (k + adl ad_Int d.2.2.2.2.1 + 4))
theorem pos_Commit (d : DCommit) : 0 ≤ ad_Commit d := by
  have := adl_pos pos_Int d.2.2.2.2.1
  have := adl_pos pos_Put d.2.2.2.2.2
  unfold ad_Commit
  omega
theorem ub_Commit (d : DCommit) : ad_Commit d ≤ 16 * (fCommit.cnt d : Int) + 16 := by
  have := adl_ub (F := intF) ub_Int d.2.2.2.2.1
  have := adl_ub (F := fPut) ub_Put d.2.2.2.2.2
  have e0 := cnt_Commit d
  unfold ad_Commit
  omega
theorem upd_Commit {w : World} {lo B : Nat} {d : DCommit} {vs : List Value} (h : fCommit.Own w lo B d vs) : ∃ (A4 : Option Addr) (c4 L4 H4 : Nat) (A5 : Option Addr) (c5 L5 H5 : Nat), vs = [.int .i64 d.1, .int .i64 d.2.1, .int .i64 d.2.2.1, .int .i64 d.2.2.2.1, .slice A4 (d.2.2.2.2.1).length c4, .slice A5 (d.2.2.2.2.2).length c5] ∧ (lo ≤ L4 ∧ H4 ≤ B) ∧ (lo ≤ L5 ∧ H5 ≤ B) ∧ (H4 ≤ L5 ∨ H5 ≤ L4) ∧ ROwn intF w L4 H4 A4 d.2.2.2.2.1 ∧ ROwn fPut w L5 H5 A5 d.2.2.2.2.2 ∧ ∀ (w' : World) (d' : DCommit), ROwn intF w' L4 H4 A4 d'.2.2.2.2.1 → ROwn fPut w' L5 H5 A5 d'.2.2.2.2.2 → fCommit.Own w' lo B d' [.int .i64 d'.1, .int .i64 d'.2.1, .int .i64 d'.2.2.1, .int .i64 d'.2.2.2.1, .slice A4 (d'.2.2.2.2.1).length c4, .slice A5 (d'.2.2.2.2.2).length c5] := by
  obtain ⟨x0, y0, P0, Q0, M0, N0, rfl, hd0, h0, x1, y1, P1, Q1, M1, N1, rfl, hd1, h1, x2, y2, P2, Q2, M2, N2, rfl, hd2, h2, x3, y3, P3, Q3, M3, N3, rfl, hd3, h3, x4, y4, P4, Q4, M4, N4, rfl, hd4, h4, h5⟩ := h
  cases h0
  cases h1
  cases h2
  cases h3
  obtain ⟨A4, c4, rfl, r4⟩ := h4
  obtain ⟨A5, c5, rfl, r5⟩ := h5
  exact ⟨A4, c4, P4, Q4, A5, c5, M4, N4, rfl, by omega, by omega, by omega, r4, r5, fun w' d' q4 q5 => ⟨[.int .i64 d'.1], _, P0, Q0, M0, N0, rfl, hd0, rfl, ⟨[.int .i64 d'.2.1], _, P1, Q1, M1, N1, rfl, hd1, rfl, ⟨[.int .i64 d'.2.2.1], _, P2, Q2, M2, N2, rfl, hd2, rfl, ⟨[.int .i64 d'.2.2.2.1], _, P3, Q3, M3, N3, rfl, hd3, rfl, ⟨[.slice A4 (d'.2.2.2.2.1).length c4], _, P4, Q4, M4, N4, rfl, hd4, ⟨A4, c4, rfl, q4⟩, ⟨A5, c5, rfl, q5⟩⟩⟩⟩⟩⟩⟩
set_option maxHeartbeats 1600000 in
set_option maxRecDepth 100000 in
theorem mark_CommitS (A : Option Addr) (c lo B : Nat) (l : List DCommit) (k0 : Int) (w : World) (h0 : 0 ≤ k0) (h1 : k0 + adl ad_Commit l ≤ 1099511627776) (h : ROwn fCommit w lo B A l) :
    Calls Tryz.prog 54 #[.slice A l.length c, .int .i64 k0] w fun e w' => e = .returned (.int .i64 (k0 + adl ad_Commit l)) ∧ Onlys lo B w w' ∧ ROwn fCommit w' lo B A (mkl mkd_Commit ad_Commit l k0) := by
  have hmx := h.1
  unfold maxLen at hmx
  rcases Nat.eq_zero_or_pos l.length with hz | hpos
  · obtain rfl := List.eq_nil_of_length_eq_zero hz
    clear hz hmx
    go_enter Tryz.func54, Tryz.ntmps54
    go_wp2
    refine wp_loop_rounds 1 ?_; rw [rounds_succ]
    go_wp2
    go_ret
    exact ⟨ret_intG (by simp [adl]), Onlys.refl _ _ _, ROwn.nil⟩
  obtain ⟨b, off, rfl, vs0, L, H, hr0⟩ := h.2 hpos
  clear h
  have blo := hr0.rlo
  have bhi := hr0.rhi
  go_enter Tryz.func54, Tryz.ntmps54
  go_wp2
  go_loopw [1, 5] (fun s i wr => ∃ k : Nat, k ≤ l.length ∧ i = .int .i64 k ∧ s = .int .i64 (k0 + adk ad_Commit l k) ∧ Onlys lo B w wr ∧ ∃ l' vs, Mix l (mkl mkd_Commit ad_Commit l k0) l' k ∧ RRow fCommit wr lo B b off l' vs L H) (fun _ i _ => l.length - (intOf i).toNat)
  case atStart => exact ⟨0, Nat.zero_le _, rfl, int_eq (by rw [adk_zero]; omega), Onlys.refl _ _ _, _, _, Mix.start, hr0⟩
  case round =>
    clear hr0
    obtain ⟨k, hk, rfl, rfl, ho, l', vs, hmix, hr⟩ := hrel
    by_cases hkn : k < l.length
    · have hkz : (k : Int) < l.length := by omega
      have hget : l[k]? = some l[k] := List.getElem?_eq_getElem hkn
      have hk' : k < l'.length := by rw [hmix.len]; exact hkn
      have hmk := mkl_get (mk := mkd_Commit) (ad := ad_Commit) l k0 k _ hget
      have hs := adk_succ (ad := ad_Commit) hget
      have hle := adk_le (ad := ad_Commit) pos_Commit l (k + 1)
      have hp := adk_pos (ad := ad_Commit) pos_Commit l k
      have hown := hr.own k _ (by rw [hmix.old k (Nat.le_refl _)]; exact hget)
      have C := hr.chg hk'
      have spn := hr.span k hk'
      rw [show fCommit.n = 6 from rfl] at C
      have HR := Lib.hid hr
      have HM := Lib.hid hmix
      have HK := Lib.hid hmk
      clear hr hmix hk' hmk
      generalize l[k] = d at hget hs hown HK
      generalize hL : L k = Lk at C spn hown
      generalize hH : H k = Hk at C spn hown
      generalize hv : vs k = v at C hown
      have HL := Lib.hid hL
      have HH := Lib.hid hH
      clear hL hH hv
      obtain ⟨A4, c4, L4, H4, A5, c5, L5, H5, rfl, bd4, bd5, dj0, r4, r5, clo⟩ := upd_Commit hown
      have CLO := Lib.hid clo
      clear clo
      have hps0 := adl_pos pos_Int d.2.2.2.2.1
      have hps1 := adl_pos pos_Put d.2.2.2.2.2
      have had : ad_Commit d = 4 + adl ad_Int d.2.2.2.2.1 + adl ad_Put d.2.2.2.2.2 := rfl
      rw [had] at hs
      generalize hx : adk ad_Commit l k = x at hs hle hp HK ⊢
      generalize hy : adk ad_Commit l (k + 1) = y at hs hle
      have HY := Lib.hid hy
      clear hy hx
      obtain ⟨a0, a1, a2, a3, a4, a5⟩ := C.cell.c6
      have f0 := C.free
      go_wp2_with fail
      clear a0 a1 a2 a3 a4 a5 f0
      refine (mark_IntS A4 c4 L4 H4 d.2.2.2.2.1 (k0 + x + 1 + 1 + 1 + 1) _ (by omega) (by omega) (ROwn.far (ROwn.far (ROwn.far (ROwn.far r4 _ (by show b < _ ∨ _ ≤ b; omega)) _ (by show b < _ ∨ _ ≤ b; omega)) _ (by show b < _ ∨ _ ≤ b; omega)) _ (by show b < _ ∨ _ ≤ b; omega))).mono ?_; rintro o w4 ⟨rfl, ho4, q4⟩
      have C := Chg.call (((((C).set 0 _ (by simp) (by omega) (by omega)).set 1 _ (by simp) (by omega) (by omega)).set 2 _ (by simp) (by omega) (by omega)).set 3 _ (by simp) (by omega) (by omega)) ho4 (by omega) (by omega) (by omega) (by omega) (by omega)
      have r5 := ROwn.only (ROwn.far (ROwn.far (ROwn.far (ROwn.far r5 _ (by show b < _ ∨ _ ≤ b; omega)) _ (by show b < _ ∨ _ ≤ b; omega)) _ (by show b < _ ∨ _ ≤ b; omega)) _ (by show b < _ ∨ _ ≤ b; omega)) ho4 (by omega)
      clear ho4 r4
      have cc4 := C.cell
      simp only [List.set] at cc4
      obtain ⟨a0, a1, a2, a3, a4, a5⟩ := RCells.c6 cc4
      clear cc4
      have f0 := C.free
      go_wp2_with fail
      clear a0 a1 a2 a3 a4 a5 f0
      refine (mark_PutS A5 c5 L5 H5 d.2.2.2.2.2 (k0 + x + 1 + 1 + 1 + 1 + adl ad_Int d.2.2.2.2.1) _ (by omega) (by omega) r5).mono ?_; rintro o w5 ⟨rfl, ho5, q5⟩
      have C := Chg.call (C) ho5 (by omega) (by omega) (by omega) (by omega) (by omega)
      have q4 := ROwn.only q4 ho5 (by omega)
      clear ho5 r5
      have cc5 := C.cell
      simp only [List.set] at cc5
      obtain ⟨a0, a1, a2, a3, a4, a5⟩ := RCells.c6 cc5
      clear cc5
      have f0 := C.free
      have HC := Lib.hid C
      clear C
      rw [show k0 + x + 1 + 1 + 1 + 1 = k0 + x + 4 by omega] at q4
      have Q4 := Lib.hid q4
      rw [show k0 + x + 1 + 1 + 1 + 1 + adl ad_Int d.2.2.2.2.1 = k0 + x + adl ad_Int d.2.2.2.2.1 + 4 by omega] at q5
      have Q5 := Lib.hid q5
      clear q4 q5
      go_wp2
      refine ⟨⟨k + 1, by omega, by go_num, int_eq (by rw [HY.out]; omega), ?_, _, _, HM.out.step hkn HK.out, RRow.put HR.out (v := [.int .i64 (mkd_Commit d (k0 + x)).1, .int .i64 (mkd_Commit d (k0 + x)).2.1, .int .i64 (mkd_Commit d (k0 + x)).2.2.1, .int .i64 (mkd_Commit d (k0 + x)).2.2.2.1, .slice A4 ((mkd_Commit d (k0 + x)).2.2.2.2.1).length c4, .slice A5 ((mkd_Commit d (k0 + x)).2.2.2.2.2).length c5]) (by rw [HM.out.len]; exact hkn) ?_ rfl ?_⟩, by simp [intOf]; omega⟩
      · exact ho.trans (HC.out).only
      · rw [HL.out, HH.out]
        rw [show fCommit.n = 6 from rfl]
        refine Chg.cast (HC.out) ?_
        simp [mkl_len, List.set, mkd_Commit]
        all_goals (try (repeat' apply And.intro))
        all_goals (first | omega | (rw [Bool.eq_iff_iff]; simp; done) | (rw [Bool.eq_iff_iff]; simp; omega))
      · rw [HL.out, HH.out]
        exact CLO.out _ (mkd_Commit d (k0 + x)) Q4.out Q5.out
    · obtain rfl : k = l.length := by omega
      have HD := Lib.hid (hmix.done (mkl_len _ _))
      have HR := Lib.hid hr
      have HA := Lib.hid (adk_all (ad := ad_Commit) l)
      clear hr hmix
      go_wp2
      go_ret
      refine ⟨ret_intG (by rw [HA.out]), ho, ?_⟩
      have hr := HR.out
      rw [HD.out] at hr
      exact ⟨by rw [mkl_len]; unfold maxLen; omega, fun _ => ⟨b, off, rfl, _, _, _, hr⟩⟩
end Go.Proofs.YtkpkjcmoldkmmaaGreat

namespace Go.Proofs.YtkpkjcmoldkmmaaGreat
open Go.RowKit

abbrev mkd_ActS : (List DAct) → Int → (List DAct) := mkl mkd_Act ad_Act
abbrev ad_ActS : (List DAct) → Int := adl ad_Act
theorem pos_ActS (l : (List DAct)) : 0 ≤ ad_ActS l := adl_pos pos_Act l
theorem ub_ActS (l : (List DAct)) : ad_ActS l ≤ 16 * ((rowF fAct).cnt l : Int) + 16 := by
  have := adl_ub (F := fAct) ub_Act l
  show adl ad_Act l ≤ _
  omega
abbrev mkd_ActSS : (List (List DAct)) → Int → (List (List DAct)) := mkl mkd_ActS ad_ActS
abbrev ad_ActSS : (List (List DAct)) → Int := adl ad_ActS
theorem pos_ActSS (l : (List (List DAct))) : 0 ≤ ad_ActSS l := adl_pos pos_ActS l
theorem ub_ActSS (l : (List (List DAct))) : ad_ActSS l ≤ 16 * ((rowF (rowF fAct)).cnt l : Int) + 16 := by
  have := adl_ub (F := (rowF fAct)) ub_ActS l
  show adl ad_ActS l ≤ _
  omega
set_option maxHeartbeats 1600000 in
set_option maxRecDepth 100000 in
theorem mark_ActSS (A : Option Addr) (c lo B : Nat) (l : List (List DAct)) (k0 : Int) (w : World) (h0 : 0 ≤ k0) (h1 : k0 + adl ad_ActS l ≤ 1099511627776) (h : ROwn (rowF fAct) w lo B A l) :
    Calls Tryz.prog 101 #[.slice A l.length c, .int .i64 k0] w fun e w' => e = .returned (.int .i64 (k0 + adl ad_ActS l)) ∧ Onlys lo B w w' ∧ ROwn (rowF fAct) w' lo B A (mkl mkd_ActS ad_ActS l k0) := by
  have hmx := h.1
  unfold maxLen at hmx
  rcases Nat.eq_zero_or_pos l.length with hz | hpos
  · obtain rfl := List.eq_nil_of_length_eq_zero hz
    clear hz hmx
    go_enter Tryz.func101, Tryz.ntmps101
    go_wp2
    refine wp_loop_rounds 1 ?_; rw [rounds_succ]
    go_wp2
    go_ret
    exact ⟨ret_intG (by simp [adl]), Onlys.refl _ _ _, ROwn.nil⟩
  obtain ⟨b, off, rfl, vs0, L, H, hr0⟩ := h.2 hpos
  clear h
  have blo := hr0.rlo
  have bhi := hr0.rhi
  go_enter Tryz.func101, Tryz.ntmps101
  go_wp2
  go_loopw [1, 5] (fun s i wr => ∃ k : Nat, k ≤ l.length ∧ i = .int .i64 k ∧ s = .int .i64 (k0 + adk ad_ActS l k) ∧ Onlys lo B w wr ∧ ∃ l' vs, Mix l (mkl mkd_ActS ad_ActS l k0) l' k ∧ RRow (rowF fAct) wr lo B b off l' vs L H) (fun _ i _ => l.length - (intOf i).toNat)
  case atStart => exact ⟨0, Nat.zero_le _, rfl, int_eq (by rw [adk_zero]; omega), Onlys.refl _ _ _, _, _, Mix.start, hr0⟩
  case round =>
    clear hr0
    obtain ⟨k, hk, rfl, rfl, ho, l', vs, hmix, hr⟩ := hrel
    by_cases hkn : k < l.length
    · have hkz : (k : Int) < l.length := by omega
      have hget : l[k]? = some l[k] := List.getElem?_eq_getElem hkn
      have hk' : k < l'.length := by rw [hmix.len]; exact hkn
      have hmk := mkl_get (mk := mkd_ActS) (ad := ad_ActS) l k0 k _ hget
      have hs := adk_succ (ad := ad_ActS) hget
      have hle := adk_le (ad := ad_ActS) pos_ActS l (k + 1)
      have hp := adk_pos (ad := ad_ActS) pos_ActS l k
      have hown := hr.own k _ (by rw [hmix.old k (Nat.le_refl _)]; exact hget)
      have C := hr.chg hk'
      have spn := hr.span k hk'
      rw [show (rowF fAct).n = 1 from rfl] at C
      have HR := Lib.hid hr
      have HM := Lib.hid hmix
      have HK := Lib.hid hmk
      clear hr hmix hk' hmk
      generalize l[k] = d at hget hs hown HK
      generalize hL : L k = Lk at C spn hown
      generalize hH : H k = Hk at C spn hown
      generalize hv : vs k = v at C hown
      have HL := Lib.hid hL
      have HH := Lib.hid hH
      clear hL hH hv
      obtain ⟨A0, c0, rfl, r0⟩ := hown
      have hps := adl_pos pos_Act d
      have had : ad_ActS d = adl ad_Act d := rfl
      rw [had] at hs
      clear had
      generalize hx : adk ad_ActS l k = x at hs hle hp HK ⊢
      generalize hy : adk ad_ActS l (k + 1) = y at hs hle
      have HY := Lib.hid hy
      clear hy hx
      rw [Nat.mul_one] at C
      have a0 := C.cell.c1
      have f0 := C.free
      go_wp2_with fail
      clear a0 f0
      refine (mark_ActS A0 c0 Lk Hk d (k0 + x) _ (by omega) (by omega) r0).mono ?_; rintro o w0 ⟨rfl, ho0, q0⟩
      have C := Chg.call (C) ho0 (by omega) (by omega) (by omega) (by omega) (by omega)
      clear ho0 r0
      have cc0 := C.cell
      have a0 := RCells.c1 cc0
      clear cc0
      have f0 := C.free
      have HC := Lib.hid C
      clear C
      have Q0 := Lib.hid q0
      clear q0
      go_wp2
      refine ⟨⟨k + 1, by omega, by go_num, int_eq (by rw [HY.out]; omega), ?_, _, _, HM.out.step hkn HK.out, RRow.put HR.out (v := [.slice A0 (mkl mkd_Act ad_Act d (k0 + x)).length c0]) (by rw [HM.out.len]; exact hkn) ?_ rfl ?_⟩, by simp [intOf]; omega⟩
      · exact ho.trans (HC.out).only
      · rw [HL.out, HH.out]
        rw [show (rowF fAct).n = 1 from rfl, Nat.mul_one]
        refine Chg.cast (HC.out) ?_
        simp [mkl_len]
        all_goals (try (repeat' apply And.intro))
        all_goals (first | omega | (rw [Bool.eq_iff_iff]; simp; done) | (rw [Bool.eq_iff_iff]; simp; omega))
      · rw [HL.out, HH.out]
        exact ⟨A0, c0, rfl, Q0.out⟩
    · obtain rfl : k = l.length := by omega
      have HD := Lib.hid (hmix.done (mkl_len _ _))
      have HR := Lib.hid hr
      have HA := Lib.hid (adk_all (ad := ad_ActS) l)
      clear hr hmix
      go_wp2
      go_ret
      refine ⟨ret_intG (by rw [HA.out]), ho, ?_⟩
      have hr := HR.out
      rw [HD.out] at hr
      exact ⟨by rw [mkl_len]; unfold maxLen; omega, fun _ => ⟨b, off, rfl, _, _, _, hr⟩⟩
end Go.Proofs.YtkpkjcmoldkmmaaGreat

namespace Go.Proofs.YtkpkjcmoldkmmaaGreat
open Go.RowKit

theorem upd_Word {w : World} {lo B : Nat} {d : DWord} {vs : List Value} (h : fWord.Own w lo B d vs) : vs = [.int .i64 d.1, .int .i64 d.2.1, .bool d.2.2] ∧ ∀ (w' : World) (d' : DWord), fWord.Own w' lo B d' [.int .i64 d'.1, .int .i64 d'.2.1, .bool d'.2.2] := by
  obtain ⟨x0, y0, P0, Q0, M0, N0, rfl, hd0, h0, x1, y1, P1, Q1, M1, N1, rfl, hd1, h1, h2⟩ := h
  cases h0
  cases h1
  cases h2
  exact ⟨rfl, fun w' d' => ⟨[.int .i64 d'.1], _, P0, Q0, M0, N0, rfl, hd0, rfl, ⟨[.int .i64 d'.2.1], _, P1, Q1, M1, N1, rfl, hd1, rfl, rfl⟩⟩⟩
def ad_Hold (_d : DHold) : Int := 2
def mkd_Hold (_d : DHold) (k : Int) : DHold := (k, decide ((k + 1) % 3 = 0))
theorem pos_Hold (d : DHold) : 0 ≤ ad_Hold d := by
  unfold ad_Hold
  omega
theorem ub_Hold (d : DHold) : ad_Hold d ≤ 16 * (fHold.cnt d : Int) + 16 := by
  unfold ad_Hold
  omega
theorem upd_Hold {w : World} {lo B : Nat} {d : DHold} {vs : List Value} (h : fHold.Own w lo B d vs) : vs = [.int .i64 d.1, .bool d.2] ∧ ∀ (w' : World) (d' : DHold), fHold.Own w' lo B d' [.int .i64 d'.1, .bool d'.2] := by
  obtain ⟨x0, y0, P0, Q0, M0, N0, rfl, hd0, h0, h1⟩ := h
  cases h0
  cases h1
  exact ⟨rfl, fun w' d' => ⟨[.int .i64 d'.1], _, P0, Q0, M0, N0, rfl, hd0, rfl, rfl⟩⟩
def ad_Want (_d : DWant) : Int := 2
def mkd_Want (_d : DWant) (k : Int) : DWant := (k, decide ((k + 1) % 3 = 0))
theorem pos_Want (d : DWant) : 0 ≤ ad_Want d := by
  unfold ad_Want
  omega
theorem ub_Want (d : DWant) : ad_Want d ≤ 16 * (fWant.cnt d : Int) + 16 := by
  unfold ad_Want
  omega
theorem upd_Want {w : World} {lo B : Nat} {d : DWant} {vs : List Value} (h : fWant.Own w lo B d vs) : vs = [.int .i64 d.1, .bool d.2] ∧ ∀ (w' : World) (d' : DWant), fWant.Own w' lo B d' [.int .i64 d'.1, .bool d'.2] := by
  obtain ⟨x0, y0, P0, Q0, M0, N0, rfl, hd0, h0, h1⟩ := h
  cases h0
  cases h1
  exact ⟨rfl, fun w' d' => ⟨[.int .i64 d'.1], _, P0, Q0, M0, N0, rfl, hd0, rfl, rfl⟩⟩
def ad_Seen (_d : DSeen) : Int := 5
def mkd_Seen (_d : DSeen) (k : Int) : DSeen := (k, (k + 1, k + 2, decide ((k + 3) % 3 = 0)), k + 4)
theorem pos_Seen (d : DSeen) : 0 ≤ ad_Seen d := by
  unfold ad_Seen
  omega
theorem ub_Seen (d : DSeen) : ad_Seen d ≤ 16 * (fSeen.cnt d : Int) + 16 := by
  unfold ad_Seen
  omega
theorem upd_Seen {w : World} {lo B : Nat} {d : DSeen} {vs : List Value} (h : fSeen.Own w lo B d vs) : vs = [.int .i64 d.1, .int .i64 d.2.1.1, .int .i64 d.2.1.2.1, .bool d.2.1.2.2, .int .i64 d.2.2] ∧ ∀ (w' : World) (d' : DSeen), fSeen.Own w' lo B d' [.int .i64 d'.1, .int .i64 d'.2.1.1, .int .i64 d'.2.1.2.1, .bool d'.2.1.2.2, .int .i64 d'.2.2] := by
  obtain ⟨x0, y0, P0, Q0, M0, N0, rfl, hd0, h0, x1, y1, P1, Q1, M1, N1, rfl, hd1, h1, h2⟩ := h
  cases h0
  obtain ⟨rfl, clo1⟩ := upd_Word h1
  cases h2
  exact ⟨rfl, fun w' d' => ⟨[.int .i64 d'.1], _, P0, Q0, M0, N0, rfl, hd0, rfl, ⟨[.int .i64 d'.2.1.1, .int .i64 d'.2.1.2.1, .bool d'.2.1.2.2], _, P1, Q1, M1, N1, rfl, hd1, (clo1 w' d'.2.1), rfl⟩⟩⟩
set_option maxHeartbeats 1600000 in
set_option maxRecDepth 100000 in
theorem mark_HoldS (A : Option Addr) (c lo B : Nat) (l : List DHold) (k0 : Int) (w : World) (h0 : 0 ≤ k0) (h1 : k0 + adl ad_Hold l ≤ 1099511627776) (h : ROwn fHold w lo B A l) :
    Calls Tryz.prog 160 #[.slice A l.length c, .int .i64 k0] w fun e w' => e = .returned (.int .i64 (k0 + adl ad_Hold l)) ∧ Onlys lo B w w' ∧ ROwn fHold w' lo B A (mkl mkd_Hold ad_Hold l k0) := by
  have hmx := h.1
  unfold maxLen at hmx
  rcases Nat.eq_zero_or_pos l.length with hz | hpos
  · obtain rfl := List.eq_nil_of_length_eq_zero hz
    clear hz hmx
    go_enter Tryz.func160, Tryz.ntmps160
    go_wp2
    refine wp_loop_rounds 1 ?_; rw [rounds_succ]
    go_wp2
    go_ret
    exact ⟨ret_intG (by simp [adl]), Onlys.refl _ _ _, ROwn.nil⟩
  obtain ⟨b, off, rfl, vs0, L, H, hr0⟩ := h.2 hpos
  clear h
  have blo := hr0.rlo
  have bhi := hr0.rhi
  go_enter Tryz.func160, Tryz.ntmps160
  go_wp2
  go_loopw [1, 5] (fun s i wr => ∃ k : Nat, k ≤ l.length ∧ i = .int .i64 k ∧ s = .int .i64 (k0 + adk ad_Hold l k) ∧ Onlys lo B w wr ∧ ∃ l' vs, Mix l (mkl mkd_Hold ad_Hold l k0) l' k ∧ RRow fHold wr lo B b off l' vs L H) (fun _ i _ => l.length - (intOf i).toNat)
  case atStart => exact ⟨0, Nat.zero_le _, rfl, int_eq (by rw [adk_zero]; omega), Onlys.refl _ _ _, _, _, Mix.start, hr0⟩
  case round =>
    clear hr0
    obtain ⟨k, hk, rfl, rfl, ho, l', vs, hmix, hr⟩ := hrel
    by_cases hkn : k < l.length
    · have hkz : (k : Int) < l.length := by omega
      have hget : l[k]? = some l[k] := List.getElem?_eq_getElem hkn
      have hk' : k < l'.length := by rw [hmix.len]; exact hkn
      have hmk := mkl_get (mk := mkd_Hold) (ad := ad_Hold) l k0 k _ hget
      have hs := adk_succ (ad := ad_Hold) hget
      have hle := adk_le (ad := ad_Hold) pos_Hold l (k + 1)
      have hp := adk_pos (ad := ad_Hold) pos_Hold l k
      have hown := hr.own k _ (by rw [hmix.old k (Nat.le_refl _)]; exact hget)
      have C := hr.chg hk'
      have spn := hr.span k hk'
      rw [show fHold.n = 2 from rfl] at C
      have HR := Lib.hid hr
      have HM := Lib.hid hmix
      have HK := Lib.hid hmk
      clear hr hmix hk' hmk
      generalize l[k] = d at hget hs hown HK
      generalize hL : L k = Lk at C spn hown
      generalize hH : H k = Hk at C spn hown
      generalize hv : vs k = v at C hown
      have HL := Lib.hid hL
      have HH := Lib.hid hH
      clear hL hH hv
      obtain ⟨rfl, clo⟩ := upd_Hold hown
      have CLO := Lib.hid clo
      clear clo
      have had : ad_Hold d = 2 := rfl
      rw [had] at hs
      generalize hx : adk ad_Hold l k = x at hs hle hp HK ⊢
      generalize hy : adk ad_Hold l (k + 1) = y at hs hle
      have HY := Lib.hid hy
      clear hy hx
      obtain ⟨a0, a1⟩ := C.cell.c2
      have f0 := C.free
      have HC := Lib.hid C
      clear C
      go_wp2
      refine ⟨⟨k + 1, by omega, by go_num, int_eq (by rw [HY.out]; omega), ?_, _, _, HM.out.step hkn HK.out, RRow.put HR.out (v := [.int .i64 (mkd_Hold d (k0 + x)).1, .bool (mkd_Hold d (k0 + x)).2]) (by rw [HM.out.len]; exact hkn) ?_ rfl ?_⟩, by simp [intOf]; omega⟩
      · exact ho.trans (((HC.out).set 0 _ (by simp) (by omega) (by omega)).set 1 _ (by simp) (by omega) (by omega)).only
      · rw [HL.out, HH.out]
        rw [show fHold.n = 2 from rfl]
        refine Chg.cast (((HC.out).set 0 _ (by simp) (by omega) (by omega)).set 1 _ (by simp) (by omega) (by omega)) ?_
        simp [List.set, mkd_Hold]
        all_goals (try (repeat' apply And.intro))
        all_goals (first | omega | (rw [Bool.eq_iff_iff]; simp; done) | (rw [Bool.eq_iff_iff]; simp; omega))
      · rw [HL.out, HH.out]
        exact CLO.out _ (mkd_Hold d (k0 + x)) 
    · obtain rfl : k = l.length := by omega
      have HD := Lib.hid (hmix.done (mkl_len _ _))
      have HR := Lib.hid hr
      have HA := Lib.hid (adk_all (ad := ad_Hold) l)
      clear hr hmix
      go_wp2
      go_ret
      refine ⟨ret_intG (by rw [HA.out]), ho, ?_⟩
      have hr := HR.out
      rw [HD.out] at hr
      exact ⟨by rw [mkl_len]; unfold maxLen; omega, fun _ => ⟨b, off, rfl, _, _, _, hr⟩⟩
set_option maxHeartbeats 1600000 in
set_option maxRecDepth 100000 in
theorem mark_WantS (A : Option Addr) (c lo B : Nat) (l : List DWant) (k0 : Int) (w : World) (h0 : 0 ≤ k0) (h1 : k0 + adl ad_Want l ≤ 1099511627776) (h : ROwn fWant w lo B A l) :
    Calls Tryz.prog 102 #[.slice A l.length c, .int .i64 k0] w fun e w' => e = .returned (.int .i64 (k0 + adl ad_Want l)) ∧ Onlys lo B w w' ∧ ROwn fWant w' lo B A (mkl mkd_Want ad_Want l k0) := by
  have hmx := h.1
  unfold maxLen at hmx
  rcases Nat.eq_zero_or_pos l.length with hz | hpos
  · obtain rfl := List.eq_nil_of_length_eq_zero hz
    clear hz hmx
    go_enter Tryz.func102, Tryz.ntmps102
    go_wp2
    refine wp_loop_rounds 1 ?_; rw [rounds_succ]
    go_wp2
    go_ret
    exact ⟨ret_intG (by simp [adl]), Onlys.refl _ _ _, ROwn.nil⟩
  obtain ⟨b, off, rfl, vs0, L, H, hr0⟩ := h.2 hpos
  clear h
  have blo := hr0.rlo
  have bhi := hr0.rhi
  go_enter Tryz.func102, Tryz.ntmps102
  go_wp2
  go_loopw [1, 5] (fun s i wr => ∃ k : Nat, k ≤ l.length ∧ i = .int .i64 k ∧ s = .int .i64 (k0 + adk ad_Want l k) ∧ Onlys lo B w wr ∧ ∃ l' vs, Mix l (mkl mkd_Want ad_Want l k0) l' k ∧ RRow fWant wr lo B b off l' vs L H) (fun _ i _ => l.length - (intOf i).toNat)
  case atStart => exact ⟨0, Nat.zero_le _, rfl, int_eq (by rw [adk_zero]; omega), Onlys.refl _ _ _, _, _, Mix.start, hr0⟩
  case round =>
    clear hr0
    obtain ⟨k, hk, rfl, rfl, ho, l', vs, hmix, hr⟩ := hrel
    by_cases hkn : k < l.length
    · have hkz : (k : Int) < l.length := by omega
      have hget : l[k]? = some l[k] := List.getElem?_eq_getElem hkn
      have hk' : k < l'.length := by rw [hmix.len]; exact hkn
      have hmk := mkl_get (mk := mkd_Want) (ad := ad_Want) l k0 k _ hget
      have hs := adk_succ (ad := ad_Want) hget
      have hle := adk_le (ad := ad_Want) pos_Want l (k + 1)
      have hp := adk_pos (ad := ad_Want) pos_Want l k
      have hown := hr.own k _ (by rw [hmix.old k (Nat.le_refl _)]; exact hget)
      have C := hr.chg hk'
      have spn := hr.span k hk'
      rw [show fWant.n = 2 from rfl] at C
      have HR := Lib.hid hr
      have HM := Lib.hid hmix
      have HK := Lib.hid hmk
      clear hr hmix hk' hmk
      generalize l[k] = d at hget hs hown HK
      generalize hL : L k = Lk at C spn hown
      generalize hH : H k = Hk at C spn hown
      generalize hv : vs k = v at C hown
      have HL := Lib.hid hL
      have HH := Lib.hid hH
      clear hL hH hv
      obtain ⟨rfl, clo⟩ := upd_Want hown
      have CLO := Lib.hid clo
      clear clo
      have had : ad_Want d = 2 := rfl
      rw [had] at hs
      generalize hx : adk ad_Want l k = x at hs hle hp HK ⊢
      generalize hy : adk ad_Want l (k + 1) = y at hs hle
      have HY := Lib.hid hy
      clear hy hx
      obtain ⟨a0, a1⟩ := C.cell.c2
      have f0 := C.free
      have HC := Lib.hid C
      clear C
      go_wp2
      refine ⟨⟨k + 1, by omega, by go_num, int_eq (by rw [HY.out]; omega), ?_, _, _, HM.out.step hkn HK.out, RRow.put HR.out (v := [.int .i64 (mkd_Want d (k0 + x)).1, .bool (mkd_Want d (k0 + x)).2]) (by rw [HM.out.len]; exact hkn) ?_ rfl ?_⟩, by simp [intOf]; omega⟩
      · exact ho.trans (((HC.out).set 0 _ (by simp) (by omega) (by omega)).set 1 _ (by simp) (by omega) (by omega)).only
      · rw [HL.out, HH.out]
        rw [show fWant.n = 2 from rfl]
        refine Chg.cast (((HC.out).set 0 _ (by simp) (by omega) (by omega)).set 1 _ (by simp) (by omega) (by omega)) ?_
        simp [List.set, mkd_Want]
        all_goals (try (repeat' apply And.intro))
        all_goals (first | omega | (rw [Bool.eq_iff_iff]; simp; done) | (rw [Bool.eq_iff_iff]; simp; omega))
      · rw [HL.out, HH.out]
        exact CLO.out _ (mkd_Want d (k0 + x)) 
    · obtain rfl : k = l.length := by omega
      have HD := Lib.hid (hmix.done (mkl_len _ _))
      have HR := Lib.hid hr
      have HA := Lib.hid (adk_all (ad := ad_Want) l)
      clear hr hmix
      go_wp2
      go_ret
      refine ⟨ret_intG (by rw [HA.out]), ho, ?_⟩
      have hr := HR.out
      rw [HD.out] at hr
      exact ⟨by rw [mkl_len]; unfold maxLen; omega, fun _ => ⟨b, off, rfl, _, _, _, hr⟩⟩
set_option maxHeartbeats 1600000 in
set_option maxRecDepth 100000 in
theorem mark_SeenS (A : Option Addr) (c lo B : Nat) (l : List DSeen) (k0 : Int) (w : World) (h0 : 0 ≤ k0) (h1 : k0 + adl ad_Seen l ≤ 1099511627776) (h : ROwn fSeen w lo B A l) :
    Calls Tryz.prog 103 #[.slice A l.length c, .int .i64 k0] w fun e w' => e = .returned (.int .i64 (k0 + adl ad_Seen l)) ∧ Onlys lo B w w' ∧ ROwn fSeen w' lo B A (mkl mkd_Seen ad_Seen l k0) := by
  have hmx := h.1
  unfold maxLen at hmx
  rcases Nat.eq_zero_or_pos l.length with hz | hpos
  · obtain rfl := List.eq_nil_of_length_eq_zero hz
    clear hz hmx
    go_enter Tryz.func103, Tryz.ntmps103
    go_wp2
    refine wp_loop_rounds 1 ?_; rw [rounds_succ]
    go_wp2
    go_ret
    exact ⟨ret_intG (by simp [adl]), Onlys.refl _ _ _, ROwn.nil⟩
  obtain ⟨b, off, rfl, vs0, L, H, hr0⟩ := h.2 hpos
  clear h
  have blo := hr0.rlo
  have bhi := hr0.rhi
  go_enter Tryz.func103, Tryz.ntmps103
  go_wp2
  go_loopw [1, 5] (fun s i wr => ∃ k : Nat, k ≤ l.length ∧ i = .int .i64 k ∧ s = .int .i64 (k0 + adk ad_Seen l k) ∧ Onlys lo B w wr ∧ ∃ l' vs, Mix l (mkl mkd_Seen ad_Seen l k0) l' k ∧ RRow fSeen wr lo B b off l' vs L H) (fun _ i _ => l.length - (intOf i).toNat)
  case atStart => exact ⟨0, Nat.zero_le _, rfl, int_eq (by rw [adk_zero]; omega), Onlys.refl _ _ _, _, _, Mix.start, hr0⟩
  case round =>
    clear hr0
    obtain ⟨k, hk, rfl, rfl, ho, l', vs, hmix, hr⟩ := hrel
    by_cases hkn : k < l.length
    · have hkz : (k : Int) < l.length := by omega
      have hget : l[k]? = some l[k] := List.getElem?_eq_getElem hkn
      have hk' : k < l'.length := by rw [hmix.len]; exact hkn
      have hmk := mkl_get (mk := mkd_Seen) (ad := ad_Seen) l k0 k _ hget
      have hs := adk_succ (ad := ad_Seen) hget
      have hle := adk_le (ad := ad_Seen) pos_Seen l (k + 1)
      have hp := adk_pos (ad := ad_Seen) pos_Seen l k
      have hown := hr.own k _ (by rw [hmix.old k (Nat.le_refl _)]; exact hget)
      have C := hr.chg hk'
      have spn := hr.span k hk'
      rw [show fSeen.n = 5 from rfl] at C
      have HR := Lib.hid hr
      have HM := Lib.hid hmix
      have HK := Lib.hid hmk
      clear hr hmix hk' hmk
      generalize l[k] = d at hget hs hown HK
      generalize hL : L k = Lk at C spn hown
      generalize hH : H k = Hk at C spn hown
      generalize hv : vs k = v at C hown
      have HL := Lib.hid hL
      have HH := Lib.hid hH
      clear hL hH hv
      obtain ⟨rfl, clo⟩ := upd_Seen hown
      have CLO := Lib.hid clo
      clear clo
      have had : ad_Seen d = 5 := rfl
      rw [had] at hs
      generalize hx : adk ad_Seen l k = x at hs hle hp HK ⊢
      generalize hy : adk ad_Seen l (k + 1) = y at hs hle
      have HY := Lib.hid hy
      clear hy hx
      obtain ⟨a0, a1, a2, a3, a4⟩ := C.cell.c5
      have f0 := C.free
      have HC := Lib.hid C
      clear C
      go_wp2
      refine ⟨⟨k + 1, by omega, by go_num, int_eq (by rw [HY.out]; omega), ?_, _, _, HM.out.step hkn HK.out, RRow.put HR.out (v := [.int .i64 (mkd_Seen d (k0 + x)).1, .int .i64 (mkd_Seen d (k0 + x)).2.1.1, .int .i64 (mkd_Seen d (k0 + x)).2.1.2.1, .bool (mkd_Seen d (k0 + x)).2.1.2.2, .int .i64 (mkd_Seen d (k0 + x)).2.2]) (by rw [HM.out.len]; exact hkn) ?_ rfl ?_⟩, by simp [intOf]; omega⟩
      · exact ho.trans ((((((HC.out).set 0 _ (by simp) (by omega) (by omega)).set 1 _ (by simp) (by omega) (by omega)).set 2 _ (by simp) (by omega) (by omega)).set 3 _ (by simp) (by omega) (by omega)).set 4 _ (by simp) (by omega) (by omega)).only
      · rw [HL.out, HH.out]
        rw [show fSeen.n = 5 from rfl]
        refine Chg.cast ((((((HC.out).set 0 _ (by simp) (by omega) (by omega)).set 1 _ (by simp) (by omega) (by omega)).set 2 _ (by simp) (by omega) (by omega)).set 3 _ (by simp) (by omega) (by omega)).set 4 _ (by simp) (by omega) (by omega)) ?_
        simp [List.set, mkd_Seen]
        all_goals (try (repeat' apply And.intro))
        all_goals (first | omega | (rw [Bool.eq_iff_iff]; simp; done) | (rw [Bool.eq_iff_iff]; simp; omega))
      · rw [HL.out, HH.out]
        exact CLO.out _ (mkd_Seen d (k0 + x)) 
    · obtain rfl : k = l.length := by omega
      have HD := Lib.hid (hmix.done (mkl_len _ _))
      have HR := Lib.hid hr
      have HA := Lib.hid (adk_all (ad := ad_Seen) l)
      clear hr hmix
      go_wp2
      go_ret
      refine ⟨ret_intG (by rw [HA.out]), ho, ?_⟩
      have hr := HR.out
      rw [HD.out] at hr
      exact ⟨by rw [mkl_len]; unfold maxLen; omega, fun _ => ⟨b, off, rfl, _, _, _, hr⟩⟩
end Go.Proofs.YtkpkjcmoldkmmaaGreat

namespace Go.Proofs.YtkpkjcmoldkmmaaGreat
open Go.RowKit

theorem upd_Lock {w : World} {lo B : Nat} {d : DLock} {vs : List Value} (h : fLock.Own w lo B d vs) : ∃ (A0 : Option Addr) (c0 L0 H0 : Nat) (A1 : Option Addr) (c1 L1 H1 : Nat), vs = [.slice A0 (d.1).length c0, .slice A1 (d.2).length c1] ∧ (lo ≤ L0 ∧ H0 ≤ B) ∧ (lo ≤ L1 ∧ H1 ≤ B) ∧ (H0 ≤ L1 ∨ H1 ≤ L0) ∧ ROwn fHold w L0 H0 A0 d.1 ∧ ROwn fHold w L1 H1 A1 d.2 ∧ ∀ (w' : World) (d' : DLock), ROwn fHold w' L0 H0 A0 d'.1 → ROwn fHold w' L1 H1 A1 d'.2 → fLock.Own w' lo B d' [.slice A0 (d'.1).length c0, .slice A1 (d'.2).length c1] := by
  obtain ⟨x0, y0, P0, Q0, M0, N0, rfl, hd0, h0, h1⟩ := h
  obtain ⟨A0, c0, rfl, r0⟩ := h0
  obtain ⟨A1, c1, rfl, r1⟩ := h1
  exact ⟨A0, c0, P0, Q0, A1, c1, M0, N0, rfl, by omega, by omega, by omega, r0, r1, fun w' d' q0 q1 => ⟨[.slice A0 (d'.1).length c0], _, P0, Q0, M0, N0, rfl, hd0, ⟨A0, c0, rfl, q0⟩, ⟨A1, c1, rfl, q1⟩⟩⟩
def ad_Cell (d : DCell) : Int := 4 + adl ad_Hold d.2.2.1 + adl ad_Hold d.2.2.2
def mkd_Cell (d : DCell) (k : Int) : DCell := (k, (k + 1, k + 2, decide ((k + 3) % 3 = 0)), (mkl mkd_Hold ad_Hold d.2.2.1 (k + 4), mkl mkd_Hold ad_Hold d.2.2.2 (k + adl ad_Hold d.2.2.1 + 4)))
theorem pos_Cell (d : DCell) : 0 ≤ ad_Cell d := by
  have := adl_pos pos_Hold d.2.2.1
  have := adl_pos pos_Hold d.2.2.2
  unfold ad_Cell
  omega
theorem ub_Cell (d : DCell) : ad_Cell d ≤ 16 * (fCell.cnt d : Int) + 16 := by
  have := adl_ub (F := fHold) ub_Hold d.2.2.1
  have := adl_ub (F := fHold) ub_Hold d.2.2.2
  have e0 := cnt_Cell d
  have e_Lock := cnt_Lock d.2.2
  unfold ad_Cell
  omega
theorem upd_Cell {w : World} {lo B : Nat} {d : DCell} {vs : List Value} (h : fCell.Own w lo B d vs) : ∃ (A4 : Option Addr) (c4 L4 H4 : Nat) (A5 : Option Addr) (c5 L5 H5 : Nat), vs = [.int .i64 d.1, .int .i64 d.2.1.1, .int .i64 d.2.1.2.1, .bool d.2.1.2.2, .slice A4 (d.2.2.1).length c4, .slice A5 (d.2.2.2).length c5] ∧ (lo ≤ L4 ∧ H4 ≤ B) ∧ (lo ≤ L5 ∧ H5 ≤ B) ∧ (H4 ≤ L5 ∨ H5 ≤ L4) ∧ ROwn fHold w L4 H4 A4 d.2.2.1 ∧ ROwn fHold w L5 H5 A5 d.2.2.2 ∧ ∀ (w' : World) (d' : DCell), ROwn fHold w' L4 H4 A4 d'.2.2.1 → ROwn fHold w' L5 H5 A5 d'.2.2.2 → fCell.Own w' lo B d' [.int .i64 d'.1, .int .i64 d'.2.1.1, .int .i64 d'.2.1.2.1, .bool d'.2.1.2.2, .slice A4 (d'.2.2.1).length c4, .slice A5 (d'.2.2.2).length c5] := by
  obtain ⟨x0, y0, P0, Q0, M0, N0, rfl, hd0, h0, x1, y1, P1, Q1, M1, N1, rfl, hd1, h1, h2⟩ := h
  cases h0
  obtain ⟨rfl, clo1⟩ := upd_Word h1
  obtain ⟨A4, c4, L4, H4, A5, c5, L5, H5, rfl, bd4, bd5, dj2_0, r4, r5, clo2⟩ := upd_Lock h2
  exact ⟨A4, c4, L4, H4, A5, c5, L5, H5, rfl, by omega, by omega, by omega, r4, r5, fun w' d' q4 q5 => ⟨[.int .i64 d'.1], _, P0, Q0, M0, N0, rfl, hd0, rfl, ⟨[.int .i64 d'.2.1.1, .int .i64 d'.2.1.2.1, .bool d'.2.1.2.2], _, P1, Q1, M1, N1, rfl, hd1, (clo1 w' d'.2.1), (clo2 w' d'.2.2 q4 q5)⟩⟩⟩
set_option maxHeartbeats 1600000 in
set_option maxRecDepth 100000 in
theorem mark_CellS (A : Option Addr) (c lo B : Nat) (l : List DCell) (k0 : Int) (w : World) (h0 : 0 ≤ k0) (h1 : k0 + adl ad_Cell l ≤ 1099511627776) (h : ROwn fCell w lo B A l) :
    Calls Tryz.prog 100 #[.slice A l.length c, .int .i64 k0] w fun e w' => e = .returned (.int .i64 (k0 + adl ad_Cell l)) ∧ Onlys lo B w w' ∧ ROwn fCell w' lo B A (mkl mkd_Cell ad_Cell l k0) := by
  have hmx := h.1
  unfold maxLen at hmx
  rcases Nat.eq_zero_or_pos l.length with hz | hpos
  · obtain rfl := List.eq_nil_of_length_eq_zero hz
    clear hz hmx
    go_enter Tryz.func100, Tryz.ntmps100
    go_wp2
    refine wp_loop_rounds 1 ?_; rw [rounds_succ]
    go_wp2
    go_ret
    exact ⟨ret_intG (by simp [adl]), Onlys.refl _ _ _, ROwn.nil⟩
  obtain ⟨b, off, rfl, vs0, L, H, hr0⟩ := h.2 hpos
  clear h
  have blo := hr0.rlo
  have bhi := hr0.rhi
  go_enter Tryz.func100, Tryz.ntmps100
  go_wp2
  go_loopw [1, 5] (fun s i wr => ∃ k : Nat, k ≤ l.length ∧ i = .int .i64 k ∧ s = .int .i64 (k0 + adk ad_Cell l k) ∧ Onlys lo B w wr ∧ ∃ l' vs, Mix l (mkl mkd_Cell ad_Cell l k0) l' k ∧ RRow fCell wr lo B b off l' vs L H) (fun _ i _ => l.length - (intOf i).toNat)
  case atStart => exact ⟨0, Nat.zero_le _, rfl, int_eq (by rw [adk_zero]; omega), Onlys.refl _ _ _, _, _, Mix.start, hr0⟩
  case round =>
    clear hr0
    obtain ⟨k, hk, rfl, rfl, ho, l', vs, hmix, hr⟩ := hrel
    by_cases hkn : k < l.length
    · have hkz : (k : Int) < l.length := by omega
      have hget : l[k]? = some l[k] := List.getElem?_eq_getElem hkn
      have hk' : k < l'.length := by rw [hmix.len]; exact hkn
      have hmk := mkl_get (mk := mkd_Cell) (ad := ad_Cell) l k0 k _ hget
      have hs := adk_succ (ad := ad_Cell) hget
      have hle := adk_le (ad := ad_Cell) pos_Cell l (k + 1)
      have hp := adk_pos (ad := ad_Cell) pos_Cell l k
      have hown := hr.own k _ (by rw [hmix.old k (Nat.le_refl _)]; exact hget)
      have C := hr.chg hk'
      have spn := hr.span k hk'
      rw [show fCell.n = 6 from rfl] at C
      have HR := Lib.hid hr
      have HM := Lib.hid hmix
      have HK := Lib.hid hmk
      clear hr hmix hk' hmk
      generalize l[k] = d at hget hs hown HK
      generalize hL : L k = Lk at C spn hown
      generalize hH : H k = Hk at C spn hown
      generalize hv : vs k = v at C hown
      have HL := Lib.hid hL
      have HH := Lib.hid hH
      clear hL hH hv
      obtain ⟨A4, c4, L4, H4, A5, c5, L5, H5, rfl, bd4, bd5, dj0, r4, r5, clo⟩ := upd_Cell hown
      have CLO := Lib.hid clo
      clear clo
      have hps0 := adl_pos pos_Hold d.2.2.1
      have hps1 := adl_pos pos_Hold d.2.2.2
      have had : ad_Cell d = 4 + adl ad_Hold d.2.2.1 + adl ad_Hold d.2.2.2 := rfl
      rw [had] at hs
      generalize hx : adk ad_Cell l k = x at hs hle hp HK ⊢
      generalize hy : adk ad_Cell l (k + 1) = y at hs hle
      have HY := Lib.hid hy
      clear hy hx
      obtain ⟨a0, a1, a2, a3, a4, a5⟩ := C.cell.c6
      have f0 := C.free
      go_wp2_with fail
      clear a0 a1 a2 a3 a4 a5 f0
      refine (mark_HoldS A4 c4 L4 H4 d.2.2.1 (k0 + x + 1 + 1 + 1 + 1) _ (by omega) (by omega) (ROwn.far (ROwn.far (ROwn.far (ROwn.far r4 _ (by show b < _ ∨ _ ≤ b; omega)) _ (by show b < _ ∨ _ ≤ b; omega)) _ (by show b < _ ∨ _ ≤ b; omega)) _ (by show b < _ ∨ _ ≤ b; omega))).mono ?_; rintro o w4 ⟨rfl, ho4, q4⟩
      have C := Chg.call (((((C).set 0 _ (by simp) (by omega) (by omega)).set 1 _ (by simp) (by omega) (by omega)).set 2 _ (by simp) (by omega) (by omega)).set 3 _ (by simp) (by omega) (by omega)) ho4 (by omega) (by omega) (by omega) (by omega) (by omega)
      have r5 := ROwn.only (ROwn.far (ROwn.far (ROwn.far (ROwn.far r5 _ (by show b < _ ∨ _ ≤ b; omega)) _ (by show b < _ ∨ _ ≤ b; omega)) _ (by show b < _ ∨ _ ≤ b; omega)) _ (by show b < _ ∨ _ ≤ b; omega)) ho4 (by omega)
      clear ho4 r4
      have cc4 := C.cell
      simp only [List.set] at cc4
      obtain ⟨a0, a1, a2, a3, a4, a5⟩ := RCells.c6 cc4
      clear cc4
      have f0 := C.free
      go_wp2_with fail
      clear a0 a1 a2 a3 a4 a5 f0
      refine (mark_HoldS A5 c5 L5 H5 d.2.2.2 (k0 + x + 1 + 1 + 1 + 1 + adl ad_Hold d.2.2.1) _ (by omega) (by omega) r5).mono ?_; rintro o w5 ⟨rfl, ho5, q5⟩
      have C := Chg.call (C) ho5 (by omega) (by omega) (by omega) (by omega) (by omega)
      have q4 := ROwn.only q4 ho5 (by omega)
      clear ho5 r5
      have cc5 := C.cell
      simp only [List.set] at cc5
      obtain ⟨a0, a1, a2, a3, a4, a5⟩ := RCells.c6 cc5
      clear cc5
      have f0 := C.free
      have HC := Lib.hid C
      clear C
      rw [show k0 + x + 1 + 1 + 1 + 1 = k0 + x + 4 by omega] at q4
      have Q4 := Lib.hid q4
      rw [show k0 + x + 1 + 1 + 1 + 1 + adl ad_Hold d.2.2.1 = k0 + x + adl ad_Hold d.2.2.1 + 4 by omega] at q5
      have Q5 := Lib.hid q5
      clear q4 q5
      go_wp2
      refine ⟨⟨k + 1, by omega, by go_num, int_eq (by rw [HY.out]; omega), ?_, _, _, HM.out.step hkn HK.out, RRow.put HR.out (v := [.int .i64 (mkd_Cell d (k0 + x)).1, .int .i64 (mkd_Cell d (k0 + x)).2.1.1, .int .i64 (mkd_Cell d (k0 + x)).2.1.2.1, .bool (mkd_Cell d (k0 + x)).2.1.2.2, .slice A4 ((mkd_Cell d (k0 + x)).2.2.1).length c4, .slice A5 ((mkd_Cell d (k0 + x)).2.2.2).length c5]) (by rw [HM.out.len]; exact hkn) ?_ rfl ?_⟩, by simp [intOf]; omega⟩
      · exact ho.trans (HC.out).only
      · rw [HL.out, HH.out]
        rw [show fCell.n = 6 from rfl]
        refine Chg.cast (HC.out) ?_
        simp [mkl_len, List.set, mkd_Cell]
        all_goals (try (repeat' apply And.intro))
        all_goals (first | omega | (rw [Bool.eq_iff_iff]; simp; done) | (rw [Bool.eq_iff_iff]; simp; omega))
      · rw [HL.out, HH.out]
        exact CLO.out _ (mkd_Cell d (k0 + x)) Q4.out Q5.out
    · obtain rfl : k = l.length := by omega
      have HD := Lib.hid (hmix.done (mkl_len _ _))
      have HR := Lib.hid hr
      have HA := Lib.hid (adk_all (ad := ad_Cell) l)
      clear hr hmix
      go_wp2
      go_ret
      refine ⟨ret_intG (by rw [HA.out]), ho, ?_⟩
      have hr := HR.out
      rw [HD.out] at hr
      exact ⟨by rw [mkl_len]; unfold maxLen; omega, fun _ => ⟨b, off, rfl, _, _, _, hr⟩⟩
end Go.Proofs.YtkpkjcmoldkmmaaGreat
