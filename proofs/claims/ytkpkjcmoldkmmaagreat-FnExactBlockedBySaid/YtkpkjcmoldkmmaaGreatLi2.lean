/- The program's LockOk: tidsOk and LockOk. -/
import Derived.Test.YtkpkjcmoldkmmaaGreatLi1
namespace Go.Proofs.YtkpkjcmoldkmmaaGreat
open Go.RowKit

/-- the row of bools marks what is in S -/
def metF (S : List Int) (j : Nat) : Value := .bool (S.contains (j : Int))
theorem metF_add (S : List Int) (y j : Nat) : (if j = y then Value.bool true else metF S j) = metF (S ++ [(y : Int)]) j := by
  unfold metF
  by_cases e : j = y
  · subst e; simp
  · rw [if_neg e]
    congr 1
    rw [Bool.eq_iff_iff]
    simp only [List.contains_eq_mem, List.mem_append, List.mem_singleton, decide_eq_true_eq]
    exact ⟨.inl, fun h => h.elim id (fun h => absurd (by omega) e)⟩
/-- what is left to be tested -/
def TRest (all S R : List Int) : Prop := idsOk [] all = idsOk S R
theorem TRest.bad1 {all S R : List Int} {t : Int} (h : TRest all S (t :: R)) (ht : tidB t = false) : idsOk [] all = false := by
  unfold TRest at h; rw [h, idsOk, ht]; rfl
theorem TRest.bad2 {all S R : List Int} {t : Int} (h : TRest all S (t :: R)) (ht : S.contains t = true) : idsOk [] all = false := by
  unfold TRest at h; rw [h, idsOk, ht]; simp
theorem TRest.ok {all S R : List Int} {t : Int} (h : TRest all S (t :: R)) (h1 : tidB t = true) (ht : S.contains t = false) : TRest all (S ++ [t]) R := by
  unfold TRest at h ⊢; rw [h, idsOk, ht, h1]; rfl

def preL (hs ws : HL) (o : Nat) : List Int := if o = 0 then [] else if o = 1 then ids hs else ids hs ++ ids ws
def postL (hs ws : HL) (o : Nat) : List Int := if o = 0 then ids hs ++ ids ws else if o = 1 then ids ws else []

set_option maxHeartbeats 1600000 in
set_option maxRecDepth 100000 in
theorem tidsOk_any (A A' : Option Addr) (c c' B : Nat) (hs ws : HL) (w : World) (hn : hs.length ≤ 1048576) (hn' : ws.length ≤ 1048576) (h : LAt w B A A' (hs, ws)) :
    Calls Tryz.prog 210 #[.agg #[.slice A hs.length c, .slice A' ws.length c']] w fun e w' => e = .returned (.bool (idsOk [] (ids hs ++ ids ws))) ∧ Below w.heap.size w w' := by
  obtain ⟨h1, h2⟩ := h
  have h1 := h1.lt
  have h2 := h2.lt
  go_enter Tryz.func210, Tryz.ntmps210
  go_wp2
  go_loopw [14] (fun i wr => ∃ o : Nat, o ≤ 2 ∧ i = .int .i64 o ∧ Below w.heap.size w wr ∧ wr.rowIs (w.heap.size + 1) 288 9 (metF (preL hs ws o)) ∧ TRest (ids hs ++ ids ws) (preL hs ws o) (postL hs ws o) ∧ Box wr (w.heap.size + 1 + 1) [.slice A hs.length c, .slice A' ws.length c']) (fun i _ => 2 - (intOf i).toNat)
  case atStart =>
    refine ⟨0, Nat.zero_le _, rfl, ((((Below.refl w.heap.size w).alloc (Nat.le_refl _) _).alloc (by simp) _).alloc (by simp; omega) _), ?_, rfl, ?_⟩
    · have := (World.rowIs_alloc (w.alloc (.cells #[.slice A hs.length c, .slice A' ws.length c'] 65)) #[.bool false, .bool false, .bool false, .bool false, .bool false, .bool false, .bool false, .bool false, .bool false] 288 (metF (preL hs ws 0)) (fun i hi => by
        have h8 : i = 0 ∨ i = 1 ∨ i = 2 ∨ i = 3 ∨ i = 4 ∨ i = 5 ∨ i = 6 ∨ i = 7 ∨ i = 8 := by simp at hi; omega
        rcases h8 with rfl | rfl | rfl | rfl | rfl | rfl | rfl | rfl | rfl <;> simp [metF, preL])).alloc (.cells #[.slice A hs.length c, .slice A' ws.length c'] 63)
      simpa using this
    · exact Box.new (by simp)
  case round =>
    obtain ⟨o, ho, rfl, hb, hrow, hr, X⟩ := hrel
    obtain ⟨x0, x1, xf⟩ := X.c2
    have HR := Lib.hid hr
    have hsz := hb.size
    clear hr xf
    by_cases ho2 : o = 2
    · subst ho2
      have HE := Lib.hid (show idsOk [] (ids hs ++ ids ws) = true from HR.out)
      go_wp2
      go_ret
      exact ⟨ret_bool HE.out.symm, hb⟩
    · have hoz : (o : Int) < 2 := by omega
      have hcase : ∃ (G : Option Addr) (d : Nat) (l : HL) (R : List Int), wr.cell? ⟨w.heap.size + 1 + 1, o, none⟩ = some (.slice G l.length d) ∧ HAt w w.heap.size G l ∧ l.length ≤ 1048576 ∧ preL hs ws (o + 1) = preL hs ws o ++ ids l ∧ postL hs ws o = ids l ++ R ∧ R = postL hs ws (o + 1) := by
        have h01 : o = 0 ∨ o = 1 := by omega
        rcases h01 with rfl | rfl
        · exact ⟨A, c, hs, ids ws, x0, h1, hn, by simp [preL], by simp [postL], by simp [postL]⟩
        · exact ⟨A', c', ws, [], x1, h2, hn', by simp [preL], by simp [postL], by simp [postL]⟩
      obtain ⟨G, d, l, R, xo, hl, hln, e1, e2, e3⟩ := hcase
      have H1 := Lib.hid e1
      have H3 := Lib.hid e3
      rw [e2] at HR
      generalize preL hs ws o = S at hrow HR H1
      clear e1 e2 e3 x0 x1 h1 h2
      obtain ⟨wq, hwq⟩ : ∃ wq, wq = wr := ⟨_, rfl⟩
      rw [← hwq] at hb hrow X xo hsz ⊢
      clear hwq
      have Hrow := Lib.hid hrow
      have hg := hrow.lt
      clear hrow
      go_wp2
      go_loopw [20] (fun i wr => ∃ k : Nat, k ≤ l.length ∧ i = .int .i64 k ∧ Below w.heap.size w wr ∧ wr.rowIs (w.heap.size + 1) 288 9 (metF (S ++ ids (l.take k))) ∧ TRest (ids hs ++ ids ws) (S ++ ids (l.take k)) (ids (l.drop k) ++ R) ∧ Box wr (w.heap.size + 1 + 1) [.slice A hs.length c, .slice A' ws.length c']) (fun i _ => l.length - (intOf i).toNat)
      case atStart => exact ⟨0, Nat.zero_le _, rfl, hb, by simpa [ids] using Hrow.out, by simpa [ids] using HR.out, X⟩
      case round =>
        clear hb X xo hsz Hrow HR
        obtain ⟨k, hk, rfl, hb, hrow, hr, X⟩ := hrel
        have hsz := hb.size
        have hlt := X.lt
        by_cases hkn : k < l.length
        · obtain ⟨b, off, rfl, hB, hc⟩ := hl (by omega)
          have hkz : (k : Int) < l.length := by omega
          have d0 : wr.cell? ⟨b, off + k * 2, none⟩ = some (.int .i64 (hT l k)) := (hb.cell (p := ⟨b, off + k * 2, none⟩) hB).trans (hc k hkn).1
          have d1 : wr.cell? ⟨b, off + k * 2 + 1, none⟩ = some (.bool (hW l k)) := (hb.cell (p := ⟨b, off + k * 2 + 1, none⟩) hB).trans (hc k hkn).2
          rw [drop_ids hkn] at hr
          have HN := Lib.hid (take_ids hkn)
          have HR1 := Lib.hid hr.bad1
          have HR2 := Lib.hid hr.bad2
          have HR3 := Lib.hid hr.ok
          clear hc hl hr
          cases ht : tidB (hT l k) with
          | false =>
            have HE := Lib.hid (HR1.out ht)
            have HT := Lib.hid ht
            clear ht HR1 HR2 HR3
            go_wp2_with (go_at_call 223; refine (tidOk_any _ _).mono ?_; rintro e w' ⟨rfl, rfl⟩; rw [HT.out])
            go_ret
            exact ⟨ret_bool HE.out.symm, hb.alloc hsz _⟩
          | true =>
            have hr18 : 1 ≤ hT l k ∧ hT l k ≤ 8 := by simpa [tidB, inB] using ht
            have HT := Lib.hid ht
            obtain ⟨y, hy⟩ := Int.eq_ofNat_of_zero_le (show 0 ≤ hT l k by omega)
            rw [hy] at d0 HR2 HR3 HN
            have hy8 : (y : Int) < 9 := by omega
            have HTy : Hid (tidB (y : Int) = true) := Lib.hid (by rw [← hy]; exact ht)
            have e0 : ∀ o, (wr.alloc o).cell? ⟨w.heap.size + 1, y, none⟩ = some (.bool ((S ++ ids (l.take k)).contains (y : Int))) := fun o => (hrow.alloc o).cell (by omega)
            have e1 : ∀ o, (wr.alloc o).frozen? ⟨w.heap.size + 1, y, none⟩ = false := fun o => (hrow.alloc o).frozen _
            have RS := Lib.hid (fun o => (((hrow.alloc o).set y (.bool true)).congr (fun j _ => metF_add (S ++ ids (l.take k)) y j)))
            clear hrow ht hr18 hy HT
            cases hh : (S ++ ids (l.take k)).contains (y : Int) with
            | true =>
              rw [hh] at e0
              have HE := Lib.hid (HR2.out hh)
              clear hh HR1 HR2 HR3
              go_wp2_with (go_at_call 223; refine (tidOk_any _ _).mono ?_; rintro e w' ⟨rfl, rfl⟩; rw [HTy.out])
              go_ret
              exact ⟨ret_bool HE.out.symm, hb.alloc hsz _⟩
            | false =>
              rw [hh] at e0
              have HE := Lib.hid (HR3.out HTy.out hh)
              have X := Lib.hid X
              clear hh HR1 HR2 HR3
              go_wp2_with (go_at_call 223; refine (tidOk_any _ _).mono ?_; rintro e w' ⟨rfl, rfl⟩; rw [HTy.out])
              exact ⟨⟨k + 1, by omega, by go_num, (hb.alloc hsz _).setCell (by simp) _, by rw [HN.out, ← List.append_assoc]; exact RS.out _, by rw [HN.out, ← List.append_assoc]; exact HE.out, (X.out.alloc _).far _ (by simp)⟩, by simp [intOf]; omega⟩
        · obtain rfl : k = l.length := by omega
          go_wp2
          rw [List.take_length] at hrow hr
          rw [List.drop_length] at hr
          exact ⟨⟨o + 1, by omega, by go_num, hb, by rw [H1.out]; exact hrow, by rw [H1.out, ← H3.out]; simpa [ids] using hr, X⟩, by simp [intOf]; omega⟩

set_option maxRecDepth 100000 in
theorem implLockOk_any (A A' : Option Addr) (c c' B : Nat) (hs ws : HL) (w : World) (hn : hs.length ≤ 1048576) (hn' : ws.length ≤ 1048576) (h : LAt w B A A' (hs, ws)) :
    Calls Tryz.prog 187 #[.agg #[.slice A hs.length c, .slice A' ws.length c']] w fun e w' => e = .returned (.bool (lockOk hs ws)) ∧ Below w.heap.size w w' := by
  have hh : LAt w w.heap.size A A' (hs, ws) := ⟨h.1.lt, h.2.lt⟩
  have HL0 := Lib.hid (show lockOk hs ws = (idsOk [] (ids hs ++ ids ws) && (wrOk hs && ascOk hs) && blocked hs ws) from rfl)
  go_enter Tryz.func187, Tryz.ntmps187
  go_wp2_with fail
  have hb0 := (Below.refl w.heap.size w).alloc (Nat.le_refl _) (.cells #[.slice A hs.length c, .slice A' ws.length c'] 65)
  have X := Box.new (w := w) (c := #[.slice A hs.length c, .slice A' ws.length c']) (t := 65) rfl
  refine (tidsOk_any A A' c c' _ hs ws _ hn hn' (hh.below hb0 hb0.size)).mono ?_; rintro e w1 ⟨rfl, hb1⟩
  have X := X.next hb1
  have b1 := hb0.trans (hb1.mono hb0.size)
  obtain ⟨x0, x1, xf⟩ := X.c2
  clear hb0 hb1 xf
  cases ht : idsOk [] (ids hs ++ ids ws) with
  | false =>
    have HE := Lib.hid (show lockOk hs ws = false by rw [HL0.out, ht]; rfl)
    clear ht
    go_wp2
    go_ret
    exact ⟨ret_bool HE.out.symm, b1⟩
  | true =>
    have HT := Lib.hid ht
    clear ht
    go_wp2_with fail
    refine (holdersOk_any A c _ hs _ hn (hh.1.below b1 b1.size)).mono ?_; rintro e w2 ⟨rfl, hb2⟩
    have X := X.next hb2
    have b2 := b1.trans (hb2.mono b1.size)
    obtain ⟨y0, y1, yf⟩ := X.c2
    clear hb2 yf x0 x1
    cases ho : (wrOk hs && ascOk hs) with
    | false =>
      have HE := Lib.hid (show lockOk hs ws = false by rw [HL0.out, ho]; simp)
      clear ho
      go_wp2
      go_ret
      exact ⟨ret_bool HE.out.symm, b2⟩
    | true =>
      have HE := Lib.hid (show lockOk hs ws = blocked hs ws by rw [HL0.out, ho, HT.out]; rfl)
      clear ho
      have hh1 := hh.1.below b2 b2.size
      have hh2 := hh.2.below b2 b2.size
      by_cases hz : ws.length = 0
      · have HE := Lib.hid (show lockOk hs ws = true by rw [HE.out, List.length_eq_zero_iff.1 hz]; rfl)
        go_wp2_with fail
        go_quiet (fail)
        go_wp2
        go_ret
        exact ⟨ret_bool HE.out.symm, below_drewN b2 _⟩
      · obtain ⟨b', off', rfl, hb', hc'⟩ := hh2 (show 0 < ws.length by omega)
        have d0 : w2.cell? ⟨b', off', none⟩ = some (.int .i64 (hT ws 0)) := by have := (hc' 0 (show 0 < ws.length by omega)).1; simpa using this
        have d1 : w2.cell? ⟨b', off' + 1, none⟩ = some (.bool (hW ws 0)) := by have := (hc' 0 (show 0 < ws.length by omega)).2; simpa using this
        have HB := Lib.hid (show lockOk hs ws = !canJoin hs (hT ws 0, hW ws 0) by
          rw [HE.out]
          cases ws with
          | nil => exact absurd rfl hz
          | cons x l => rfl)
        have hpz : (ws.length == 0) = false := by simpa using hz
        have hp : decide ((ws.length : Int) = 0) = false := by simp; intro e; exact hz (by rw [e]; rfl)
        have hp' : (0 : Int) < ws.length := by omega
        have hq : ((ws.length : Int) == 0) = false := by simp; intro e; exact hz (by rw [e]; rfl)
        have hp2 : 0 < ws.length := by omega
        clear HE HL0 HT hc' hh2 h hh X
        go_wp2_with fail
        go_still_tail 11, (by kernel_rfl)
        change wpList _ _ _ _ _ w2.drew
        have hb3 := b2.drew
        have hh3 : HAt w2.drew w2.drew.heap.size A hs := hh1.below (Below.refl _ _).drew (Nat.le_refl _)
        clear d0 d1 y0 y1
        generalize w2.drew = w3 at hb3 hh3 ⊢
        go_wp2_with fail
        refine (canJoin_any A c _ hs (hT ws 0, hW ws 0) _ hn hh3).mono ?_; rintro e w4 ⟨rfl, hb4⟩
        cases hj : canJoin hs (hT ws 0, hW ws 0) with
        | true =>
          have HE := Lib.hid (show lockOk hs ws = false by rw [HB.out, hj]; rfl)
          clear hj
          go_wp2
          go_ret
          exact ⟨ret_bool HE.out.symm, hb3.trans (hb4.mono hb3.size)⟩
        | false =>
          have HE := Lib.hid (show lockOk hs ws = true by rw [HB.out, hj]; rfl)
          clear hj
          go_wp2
          go_ret
          exact ⟨ret_bool HE.out.symm, hb3.trans (hb4.mono hb3.size)⟩
end Go.Proofs.YtkpkjcmoldkmmaaGreat
