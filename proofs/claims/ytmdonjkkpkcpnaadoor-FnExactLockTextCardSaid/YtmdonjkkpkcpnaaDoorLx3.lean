/- The program's LockText, whole; the model's. -/
import Derived.Test.YtmdonjkkpkcpnaaDoorLx2
namespace Go.Proofs.YtmdonjkkpkcpnaaDoor
open Go.RowKit

theorem grownBy_reflS (w : World) (r : Option Nat) : w.grownBy w r := ⟨rfl, rfl, rfl, Nat.le_refl _, fun _ _ _ => rfl⟩
/-- append of a whole row of strings, empty or not, onto a row of the call's own -/
theorem wpList_appS {w : World} {ops : Array Oper} {rest : List Oper} {o : Oper} {a : Act} {Q : Exit → Act → World → Prop} (hgd : o.guard = none) (s x : Operand)
    (ho : o.op = .call { callee := .builtin .append, args := #[s, x], argTypes := #[37, 37] })
    (lo lo2 : Nat) (v u : Value) (xs ys : List ByteArray) (n m : Nat) (hn : n = xs.length) (hm : m = ys.length) (hs : a.eval s = v) (hrow : w.ownsRow lo 9 1 v n (xs.map .string)) (hx : a.eval x = u) (hsrc : w.ownsRow lo2 9 1 u m (ys.map .string))
    (hlen : n + m ≤ 2097152) (hlo : lo ≤ w.heap.size)
    (h : ∀ v' w', w'.ownsRow lo 9 1 v' (n + m) ((xs ++ ys).map .string) → w.grownBy w' v.ownBlock → wpList Tryd.prog ops Q rest (a.put o.dst v') w') : wpList Tryd.prog ops Q (o :: rest) a w := by
  obtain ⟨i0, hi, hz0, hz1, hz2⟩ := info_parts infoStr
  subst hn hm
  rcases hsrc.2 with ⟨rfl, e0⟩ | ⟨g, cap, cur, rfl, hb, hg, hnc, _⟩
  · have hys : ys = [] := List.length_eq_zero_iff.1 e0
    subst hys
    refine wpList_append_own_none hgd s x 37 ho lo 9 i0 1 Tryd.underlying37 hi v xs.length (xs.map .string) hs hrow hx ?_
    exact h v w (by simpa using hrow) (grownBy_reflS _ _)
  · have hadd : ∀ (k : Nat), (⟨g, 0, none⟩ : Addr).add k = ⟨g, k, none⟩ := fun k => by
      by_cases e : k = 0
      · subst e; simp [Addr.add]
      · simp [Addr.add, e]
    have hnews : ∀ j u, (ys.map Value.string)[j]? = some u → w.cell? ((⟨g, 0, none⟩ : Addr).add j) = some u := fun j u hj => by
      have hjl : j < ys.length := by
        have := (List.getElem?_eq_some_iff.1 hj).1
        simpa using this
      rw [hadd, hsrc.cellAt j (by omega)]
      exact hj
    refine wpList_append_own_at _ hgd s x 37 ho lo 9 i0 (.string ⟨#[]⟩) 1 16 Tryd.underlying37 hi hz0 hz1 hz2 rfl (by decide) v xs.length (xs.map .string) hs hrow ⟨g, 0, none⟩ ys.length cap (ys.map .string) hx (by simp) hnews (fun u hu => by obtain ⟨z, _, rfl⟩ := List.mem_map.1 hu; rfl) (by unfold maxLen; omega) (by omega) hlo ?_
    intro v' w' hown hgr _ _
    exact h v' w' (by rw [List.map_append]; exact hown) hgr

theorem join_strs (xs : List ByteArray) (T : List UInt8) (h1 : 0 < xs.length) (h20 : xs.length ≤ 20) (hT : Lib.join (xs.map (·.data.toList)) ((⟨#[32]⟩ : ByteArray).data.toList) = T) (hl : T.length ≤ 1000000) (n : Nat) (hn : n = xs.length) (u : Value) (lo : Nat) (w : World) (ho : w.ownsRow lo 9 1 u n (xs.map .string)) :
    Calls Tryd.prog 15 #[u, .string ⟨#[32]⟩] w fun e w' => e = .returned (.string ⟨T.toArray⟩) ∧ Below w.heap.size w w' := by
  subst hn
  rcases ho.2 with ⟨_, h0⟩ | ⟨g, cap, cur, rfl, hb, hg, hnc, _⟩
  · omega
  · have h := Tryd.strings_Join g 0 cap xs ⟨#[32]⟩ w (fun j x hj => by
        have hjn := (List.getElem?_eq_some_iff.1 hj).1
        rw [Nat.zero_add, ho.cellAt j (by omega), List.getElem?_map, hj]
        rfl) (Array.getElem?_eq_some_iff.1 hg).1 (by omega) hnc (by rw [hT]; omega)
    rw [hT] at h
    exact h
def partsB (hs ws : HL) : List ByteArray := txtB hs ++ [⟨#[124]⟩] ++ txtB ws
theorem partsB_len (hs ws : HL) : (partsB hs ws).length = hs.length + 1 + ws.length := by simp [partsB, txtB_len]; omega
theorem partsB_join {hs ws : HL} (h : lockOk hs ws = true) : Lib.join ((partsB hs ws).map (·.data.toList)) ((⟨#[32]⟩ : ByteArray).data.toList) = lockT hs ws := by
  have : (partsB hs ws).map (·.data.toList) = partsL hs ws := by
    have hb : ∀ l : HL, (txtB l).map (·.data.toList) = txtL l := fun l => by
      unfold txtB
      rw [List.map_map]
      exact (List.map_congr_left (fun l _ => by simp)).trans (List.map_id _)
    unfold partsB partsL
    rw [List.map_append, List.map_append, hb, hb]
    simp
  rw [this, lockT_yes h]
theorem namesT_len {l : HL} (hl : l.length ≤ 8) (ht : ∀ j, j < l.length → 1 ≤ hT l j ∧ hT l j ≤ 8) : (namesT l).length ≤ 200 := by
  have := namesTo_len ht l.length (Nat.le_refl _)
  rw [namesTo_all] at this
  omega
theorem lockT_len {hs ws : HL} (h : lockOk hs ws = true) (hl : hs.length + ws.length ≤ 8) : (lockT hs ws).length ≤ 1000 := by
  have ht := tids_of h
  have l1 := namesT_len (by omega) ht.1
  have l2 := namesT_len (by omega) ht.2
  rw [lockT_yes h]
  by_cases h1 : hs.length = 0
  · by_cases h2 : ws.length = 0
    · rw [parts_00 h1 h2]; simp
    · rw [parts_01 h1 (by omega)]; simp; omega
  · by_cases h2 : ws.length = 0
    · rw [parts_10 (by omega) h2]; simp; omega
    · rw [parts_11 (by omega) (by omega)]; simp; omega

set_option maxHeartbeats 1600000 in
set_option maxRecDepth 100000 in
theorem implLockText_any (A A' : Option Addr) (c c' B : Nat) (hs ws : HL) (w : World) (hn : hs.length ≤ 1048576) (hn' : ws.length ≤ 1048576) (h : LAt w B A A' (hs, ws)) :
    Calls Tryd.prog 7 #[.agg #[.slice A hs.length c, .slice A' ws.length c']] w fun e w' => e = .returned (.string ⟨(lockT hs ws).toArray⟩) ∧ Below w.heap.size w w' := by
  obtain ⟨h1, h2⟩ := h
  have h1 : HAt w w.heap.size A hs := h1.lt
  have h2 : HAt w w.heap.size A' ws := h2.lt
  obtain ⟨ii, hi, hz0, hz1, hz2⟩ := info_parts infoStr
  have Hi := Lib.hid hi
  have Hz0 := Lib.hid hz0
  have Hz1 := Lib.hid hz1
  have Hz2 := Lib.hid hz2
  clear hi hz0 hz1 hz2
  have b0 := (Below.refl w.heap.size w).alloc (Nat.le_refl _) (.cells #[.slice A hs.length c, .slice A' ws.length c'] 29)
  have X := Box.new (w := w) (c := #[.slice A hs.length c, .slice A' ws.length c']) (t := 29) rfl
  go_enter Tryd.func7, Tryd.ntmps7
  go_wp2_with fail
  refine (implLockOk_any _ _ _ _ _ hs ws _ hn hn' ⟨h1.below b0 b0.size, h2.below b0 b0.size⟩).mono ?_; rintro e w1 ⟨rfl, hb1⟩
  have X := X.next hb1
  have b1 := b0.trans (hb1.mono b0.size)
  have hlt := X.lt
  clear hb1 b0
  cases hl : lockOk hs ws with
  | false =>
    have HE := Lib.hid (lockT_no hl)
    clear hl
    go_wp2
    go_ret
    rw [HE.out]
    exact ⟨rfl, b1⟩
  | true =>
    have h8 : hs.length + ws.length ≤ 8 := ((lockOk_iff _ _).1 hl).1.len
    obtain ⟨t1, t2⟩ := tids_of hl
    have HJ := Lib.hid (partsB_join hl)
    have HLn := Lib.hid (lockT_len hl h8)
    clear hl
    obtain ⟨x0, x1, xf⟩ := X.c2
    go_wp2_with fail
    refine (holdTexts_any _ _ _ hs _ (by omega) t1 (h1.below b1 b1.size)).mono ?_; rintro e w2 ⟨v2, rfl, r2, hb2⟩
    rw [txtB_len] at r2
    have X := X.next hb2
    have b2 := b1.trans (hb2.mono b1.size)
    have hs2 := hb2.size
    have hs1 := b1.size
    clear hb2 x0 x1 xf
    obtain ⟨x0, x1, xf⟩ := X.c2
    go_wp2_with (at_builtin; refine wpList_append_own _ rfl _ _ 37 rfl w1.heap.size 9 ii (.string ⟨#[]⟩) 1 16 Tryd.underlying37 Hi.out Hz0.out Hz1.out Hz2.out rfl (by decide) _ _ _ rfl (r2.alloc _) ⟨w2.heap.size, 0, none⟩ 1 1 [.string ⟨#[124]⟩] rfl rfl ?c1 ?c2 ?c3 ?c4 ?c5 ?_)
    case c1 =>
      intro j u hj
      match j, hj with
      | 0, hj => simp at hj; subst hj; simp [Addr.add]
    case c2 => intro u hu; simp at hu; subst hu; rfl
    case c3 => unfold maxLen; omega
    case c4 => omega
    case c5 => simp; omega
    intro v3 w3 r3 hgr3 _
    have hb3 : Below w1.heap.size w2 w3 := ((Below.refl w1.heap.size w2).alloc hs2 (.cells #[.string (⟨#[124]⟩ : ByteArray)] 9)).grown hgr3 (by simp; omega) (fun q hq => (r2.lt q hq).1)
    have r3 : w3.ownsRow w1.heap.size 9 1 v3 (hs.length + 1) ((txtB hs ++ [(⟨#[124]⟩ : ByteArray)]).map .string) := by rw [List.map_append]; exact r3
    have X := X.below hb3 (by omega)
    have b3 := b2.trans (hb3.mono hs1)
    have hs3 := hb3.size
    clear hb3 hgr3 r2 x0 x1 xf
    obtain ⟨x0, x1, xf⟩ := X.c2
    have hlt3 := X.lt
    go_wp2_with fail
    refine (holdTexts_any _ _ _ ws _ (by omega) t2 (h2.below b3 b3.size)).mono ?_; rintro e w4 ⟨v4, rfl, r4, hb4⟩
    rw [txtB_len] at r4
    have r3 := ownsRow_block' r3 (fun k hk _ => hb4.block k hk)
    have b4 := b3.trans (hb4.mono b3.size)
    have hs4 := hb4.size
    clear hb4 x0 x1 xf X
    go_wp2_with (at_builtin; refine wpList_appS rfl _ _ rfl w1.heap.size w3.heap.size _ _ (txtB hs ++ [(⟨#[124]⟩ : ByteArray)]) (txtB ws) (hs.length + 1) ws.length (by simp [txtB_len]) (txtB_len ws).symm rfl r3 rfl r4 (by omega) (by omega) ?_)
    intro v5 w5 r5 hgr5
    have r5 : w5.ownsRow w1.heap.size 9 1 v5 (hs.length + 1 + ws.length) ((partsB hs ws).map .string) := by simpa [partsB] using r5
    have hb5 : Below w1.heap.size w4 w5 := (Below.refl w1.heap.size w4).grown hgr5 (by omega) (fun q hq => (r3.lt q hq).1)
    have b5 := Lib.hid (b4.trans (hb5.mono hs1))
    have r5 := Lib.hid r5
    clear r3 r4 hgr5 hb5 b4
    go_wp2_with fail
    refine (join_strs (partsB hs ws) (lockT hs ws) (by rw [partsB_len]; omega) (by rw [partsB_len]; omega) HJ.out (by have := HLn.out; omega) (hs.length + 1 + ws.length) (partsB_len hs ws).symm _ _ _ r5.out).mono ?_; rintro e w6 ⟨rfl, hb6⟩
    have b6 := Lib.hid (b5.out.trans (hb6.mono b5.out.size))
    clear hb6 r5 b5
    go_wp2
    go_ret
    exact ⟨rfl, b6.out⟩
end Go.Proofs.YtmdonjkkpkcpnaaDoor
