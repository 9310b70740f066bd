/- The program's granted. -/
import Derived.Test.YtcndmdglnohbcaaGreatDoorLi5
import Derived.Test.YtcndmdglnohbcaaGreatDoorLt
namespace Go.Proofs.YtcndmdglnohbcaaGreatDoor
open Go.RowKit

theorem QAt.keepQ {w w' : World} {lo q : Nat} {bs : List Nat} {l : HL} (h : QAt w lo q bs l) (hs : w.heap.size ≤ w'.heap.size) (k : ∀ b, (b = q ∨ b ∈ bs) → ∀ cs, Box w b cs → Box w' b cs) : QAt w' lo q bs l := by
  obtain ⟨z, hb, hz⟩ := h.box
  exact ⟨⟨z, k q (.inl rfl) _ hb, hz⟩, h.nodes.keep (fun b hm cs hc => k b (.inr hm) cs hc), h.nd, fun b hm => ⟨(h.far b hm).1, (h.far b hm).2.1, Nat.lt_of_lt_of_le (h.far b hm).2.2 hs⟩, h.lo⟩
theorem QAt.grown {w w' : World} {lo q m : Nat} {bs : List Nat} {l : HL} {r : Option Nat} (h : QAt w lo q bs l) (hg : w.grownBy w' r) (hr : ∀ g, r = some g → m ≤ g) (hq : q < m) (hbs : ∀ b ∈ bs, b < m) : QAt w' lo q bs l :=
  h.keepQ hg.size (fun b hb cs hc => hc.grown hg (fun g e => by
    have h1 := hr g e
    rcases hb with rfl | hb
    · omega
    · have := hbs b hb; omega))
theorem below_grown {B : Nat} {w w' : World} {r : Option Nat} (hg : w.grownBy w' r) (hr : ∀ g, r = some g → B ≤ g) (hB : B ≤ w.heap.size) : Below B w w' :=
  ⟨hg.os, hg.tape, hg.output, hg.size, fun k hk => hg.block k (by omega) (fun e => by have := hr k e.symm; omega)⟩

/-- what granting answers -/
def Granted (lo : Nat) (p : HL × HL) (w : World) (e : Ending) (w' : World) : Prop := ∃ A c A' c', e = .returned (.agg #[.slice A p.1.length c, .slice A' p.2.length c']) ∧ LOwn w' w.heap.size w'.heap.size A A' p ∧ Below lo w w'
/-- what its loop carries -/
def GrR (lo q : Nat) (hs ws : HL) (w : World) (v : Value) (gk : Nat) (wr : World) : Prop := ∃ (own rest : HL) (bs2 : List Nat), rest.length = gk ∧ joinI own rest = joinI hs ws ∧ own.length + rest.length = hs.length + ws.length ∧ OwnH wr (w.heap.size + 1) v own ∧ QAt wr lo q bs2 rest ∧ (∀ b ∈ bs2, b < w.heap.size) ∧ Below lo w wr ∧ Box wr w.heap.size [.slice none 0 0, .slice none 0 0]
theorem join_end {own hs ws : HL} {x : Int × Bool} {r : HL} (h : joinI own (x :: r) = joinI hs ws) (hj : canJoin own x = false) : joinI hs ws = (own, x :: r) := by rw [← h, joinI, hj]; rfl
theorem join_on {own hs ws : HL} {x : Int × Bool} {r : HL} (h : joinI own (x :: r) = joinI hs ws) (hj : canJoin own x = true) : joinI (own ++ [x]) r = joinI hs ws := by rw [← h, joinI, hj]; rfl

set_option maxHeartbeats 3200000 in
set_option maxRecDepth 100000 in
theorem granted_any (A : Option Addr) (c B lo q : Nat) (bs : List Nat) (hs ws : HL) (w : World) (hp : PreG hs ws) (hq : QAt w lo q bs ws) (h : HAt w B A hs) :
    Calls Tryz.prog 52 #[.slice A hs.length c, .pointer (some ⟨q, 0, none⟩)] w (Granted lo (grantS hs ws) w) := by
  have h := h.lt
  have hl8 := hp.len
  have hlo := hq.lo
  have hqlt := hq.lt
  have hbs : ∀ b ∈ bs, b < w.heap.size := fun b hb => (hq.far b hb).2.2
  obtain ⟨i0, hi, hz0, hz1, hz2⟩ := info_parts infoHold
  have Hi := Lib.hid hi
  have Hz0 := Lib.hid hz0
  have Hz1 := Lib.hid hz1
  have Hz2 := Lib.hid hz2
  have Hp := Lib.hid hp
  have Hbs := Lib.hid hbs
  have hne := neNil
  clear hi hz0 hz1 hz2 hp hbs
  go_enter Tryz.func52, Tryz.ntmps52
  go_wp2_with fail
  have hA := (Below.refl w.heap.size w).alloc (Nat.le_refl _) (.cells #[.slice none 0 0, .slice none 0 0] 40)
  have R := Box.new (w := w) (c := #[.slice none 0 0, .slice none 0 0]) (t := 40) rfl
  refine (copied_any A c _ hs _ (by omega) (h.below hA hA.size)).mono ?_; rintro e w1 ⟨v, rfl, ho, hb1⟩
  have hb := hA.trans (hb1.mono hA.size)
  have R := R.next hb1
  have hq1 := hq.next hb
  have ho : OwnH w1 (w.heap.size + 1) v hs := ho.less (by simp)
  have hbl := hb.mono (B' := lo) (by omega)
  clear hA hb1 hq hb h
  go_wp2
  go_loopg [5] ws.length (fun gk v wr => GrR lo q hs ws w v gk wr)
  case atStart => exact ⟨hs, ws, bs, rfl, rfl, rfl, ho, hq1, Hbs.out, hbl, R⟩
  case round =>
    clear ho hq1 hbl R
    obtain ⟨own, rest, bs2, hgk, hj, hlen, ho, hq, hb2, hb, R⟩ := hrel
    have Hgk := Lib.hid hgk
    have Hj := Lib.hid hj
    have hlq := hq.lt
    have hsz := hb.size
    have hltR := R.lt
    obtain ⟨A4, c4, rfl, hown⟩ := ho.own
    obtain ⟨z, hbx, _⟩ := hq.box
    obtain ⟨q0', q1, qf⟩ := hbx.c2
    have HB2 := Lib.hid hb2
    clear hgk hj q1 hbx hb2
    cases bs2 with
    | nil =>
      have hr := hq.nodes.nil
      subst hr
      have HE := Lib.hid (show joinI hs ws = (own, []) from by rw [← Hj.out]; rfl)
      have q0 : wr.cell? ⟨q, 0, none⟩ = some (.pointer none) := q0'
      clear q0' qf
      go_wp2_with fail
      (with_reducible refine (sort_any A4 c4 (w.heap.size + 1) own _ ho (by omega)).mono ?_); rintro e w5 ⟨rfl, d, hperm, hasc, hd, rr, hg5, hrr⟩
      have hj := grant_join ws (List.Perm.refl hs) Hp.out.wr
      have e1 : d = (grantS hs ws).1 := grant_sorted Hp.out (by rw [HE.out]; exact hperm) hasc
      have e2 : ([] : HL) = (grantS hs ws).2 := by rw [hj.2.1, HE.out]
      have dl := hperm.length_eq
      have Q5 := hq.grown hg5 hrr (by omega) (fun b hb => by have := HB2.out b hb; omega)
      have R5 := R.grown hg5 (fun g e => by have := hrr g e; omega)
      have b5 := hb.trans (below_grown hg5 (fun g e => by have := hrr g e; omega) (by omega))
      have s5 := hg5.size
      have HD := Lib.hid e1
      have HR := Lib.hid e2
      have DL := Lib.hid dl
      clear hperm hasc hj e1 e2 dl hg5 hrr ho hq R hb hown
      go_wp2_with fail
      (with_reducible refine (items_any lo q _ ([] : HL) _ (by simp only [List.length_nil] at hlen ⊢; omega) Q5).mono ?_); rintro e w6 ⟨v6, rfl, o6, hb6⟩
      obtain ⟨A6, c6, rfl, h6⟩ := o6.own
      have R6 := R5.next hb6
      have b6 := b5.trans (hb6.mono (by omega))
      have hd6 := hd.below hb6 (Nat.le_refl _)
      have s6 := hb6.size
      obtain ⟨r0, r1, rf⟩ := R6.c2
      have hltR6 := R6.lt
      have f1 := (hd6.far (a := ⟨w.heap.size, 0, none⟩) (.slice A4 own.length c4) (.inl (Nat.lt_succ_self _))).far (a := ⟨w.heap.size, 1, none⟩) (.slice A6 ([] : HL).length c6) (.inl (Nat.lt_succ_self _))
      have f2 := (h6.far (a := ⟨w.heap.size, 0, none⟩) (.slice A4 own.length c4) (.inl (by show w.heap.size < w5.heap.size; omega))).far (a := ⟨w.heap.size, 1, none⟩) (.slice A6 ([] : HL).length c6) (.inl (by show w.heap.size < w5.heap.size; omega))
      have F := Lib.hid ((LOwn.two f1 f2 (by omega) s6).more (lo' := w.heap.size) (Nat.le_succ _) (Nat.le_refl _))
      have FB := Lib.hid ((b6.setCell (p := ⟨w.heap.size, 0, none⟩) (by show lo ≤ w.heap.size; omega) (.slice A4 own.length c4)).setCell (p := ⟨w.heap.size, 1, none⟩) (by show lo ≤ w.heap.size; omega) (.slice A6 ([] : HL).length c6))
      clear f1 f2 h6 hd6 hd R5 R6 b5 b6 o6 hb6 Q5
      go_wp2
      refine bodyPost_ret (v := .agg #[.slice A4 own.length c4, .slice A6 ([] : HL).length c6]) (by simp [results, Tryz.results52, go_sem, r0, r1]) rfl ⟨A4, c4, A6, c6, ?_, ?_, FB.out⟩
      · rw [← HD.out, ← HR.out, DL.out]
      · have e : grantS hs ws = (d, ([] : HL)) := by rw [HD.out, HR.out]
        rw [e]
        exact F.out.more (Nat.le_refl _) (by simp)
    | cons b bs3 =>
      obtain ⟨x, r, e, hnb, hnd⟩ := hq.nodes.cons
      subst e
      have q0 : wr.cell? ⟨q, 0, none⟩ = some (.pointer (some ⟨b, 0, none⟩)) := q0'
      obtain ⟨n0, n1, _, nf⟩ := hnb.c3
      have hblt := hnb.lt
      have hol : own.length ≤ 8 := by omega
      clear q0' qf nf hnb hnd
      go_wp2_with fail
      refine (canJoin_any A4 c4 _ own x _ (by omega) hown.at_).mono ?_; rintro e w2 ⟨rfl, hb3⟩
      have ho := ho.next hb3
      have hq := hq.next hb3
      have R := R.next hb3
      have hb := hb.trans (hb3.mono (by omega))
      have hown := hown.below hb3 (Nat.le_refl _)
      have hsz := hb.size
      have hltR := R.lt
      have hlq := hq.lt
      clear q0 n0 n1 hb3
      cases hjo : canJoin own x with
      | false =>
        have HE := Lib.hid (join_end Hj.out hjo)
        clear hjo
        go_wp2_with fail
        (with_reducible refine (sort_any A4 c4 (w.heap.size + 1) own _ ho (by omega)).mono ?_); rintro e w5 ⟨rfl, d, hperm, hasc, hd, rr, hg5, hrr⟩
        have hj := grant_join ws (List.Perm.refl hs) Hp.out.wr
        have e1 : d = (grantS hs ws).1 := grant_sorted Hp.out (by rw [HE.out]; exact hperm) hasc
        have e2 : (x :: r) = (grantS hs ws).2 := by rw [hj.2.1, HE.out]
        have dl := hperm.length_eq
        have Q5 := hq.grown hg5 hrr (by omega) (fun b hb => by have := HB2.out b hb; omega)
        have R5 := R.grown hg5 (fun g e => by have := hrr g e; omega)
        have b5 := hb.trans (below_grown hg5 (fun g e => by have := hrr g e; omega) (by omega))
        have s5 := hg5.size
        have HD := Lib.hid e1
        have HR := Lib.hid e2
        have DL := Lib.hid dl
        clear hperm hasc hj e1 e2 dl hg5 hrr ho hq R hb hown
        go_wp2_with fail
        (with_reducible refine (items_any lo q _ (x :: r) _ (by simp only [List.length_cons] at hlen ⊢; omega) Q5).mono ?_); rintro e w6 ⟨v6, rfl, o6, hb6⟩
        obtain ⟨A6, c6, rfl, h6⟩ := o6.own
        have R6 := R5.next hb6
        have b6 := b5.trans (hb6.mono (by omega))
        have hd6 := hd.below hb6 (Nat.le_refl _)
        have s6 := hb6.size
        obtain ⟨r0, r1, rf⟩ := R6.c2
        have hltR6 := R6.lt
        have f1 := (hd6.far (a := ⟨w.heap.size, 0, none⟩) (.slice A4 own.length c4) (.inl (Nat.lt_succ_self _))).far (a := ⟨w.heap.size, 1, none⟩) (.slice A6 ((x :: r)).length c6) (.inl (Nat.lt_succ_self _))
        have f2 := (h6.far (a := ⟨w.heap.size, 0, none⟩) (.slice A4 own.length c4) (.inl (by show w.heap.size < w5.heap.size; omega))).far (a := ⟨w.heap.size, 1, none⟩) (.slice A6 ((x :: r)).length c6) (.inl (by show w.heap.size < w5.heap.size; omega))
        have F := Lib.hid ((LOwn.two f1 f2 (by omega) s6).more (lo' := w.heap.size) (Nat.le_succ _) (Nat.le_refl _))
        have FB := Lib.hid ((b6.setCell (p := ⟨w.heap.size, 0, none⟩) (by show lo ≤ w.heap.size; omega) (.slice A4 own.length c4)).setCell (p := ⟨w.heap.size, 1, none⟩) (by show lo ≤ w.heap.size; omega) (.slice A6 ((x :: r)).length c6))
        clear f1 f2 h6 hd6 hd R5 R6 b5 b6 o6 hb6 Q5
        go_wp2
        refine bodyPost_ret (v := .agg #[.slice A4 own.length c4, .slice A6 ((x :: r)).length c6]) (by simp [results, Tryz.results52, go_sem, r0, r1]) rfl ⟨A4, c4, A6, c6, ?_, ?_, FB.out⟩
        · rw [← HD.out, ← HR.out, DL.out]
        · have e : grantS hs ws = (d, (x :: r)) := by rw [HD.out, HR.out]
          rw [e]
          exact F.out.more (Nat.le_refl _) (by simp)
      | true =>
        have HJ := Lib.hid (join_on Hj.out hjo)
        clear hjo hown
        go_wp2_with fail
        refine (takeFirst_any lo q b bs3 r x _ hq).mono ?_; rintro e w3 ⟨rfl, hq3, hg3⟩
        have ho : OwnH w3 (w.heap.size + 1) (.slice A4 own.length c4) own := ho.block (fun k hk hlk => hg3.block k hk (fun e => by injection e with e; omega))
        have R := R.grown hg3 (fun g e => by injection e with e; omega)
        have hb := hb.trans (below_grown hg3 (fun g e => by injection e with e; omega) (by omega))
        have hsz3 := hb.size
        have hltR := R.lt
        have hbs3 : ∀ b ∈ bs3, b < w.heap.size := fun c hc => HB2.out c (by simp [hc])
        have HBS := Lib.hid hbs3
        clear hg3 hq hbs3
        go_wp2_with (at_builtin; refine wpList_append_own _ rfl _ _ 38 rfl (w.heap.size + 1) 77 i0 (.agg #[.int .i64 0, .bool false]) 2 16 Tryz.underlying38 Hi.out Hz0.out Hz1.out Hz2.out rfl (by decide) _ _ _ rfl (World.ownsRow.alloc ho _) ⟨w3.heap.size, 0, none⟩ 1 1 [.int .i64 x.1, .bool x.2] rfl rfl ?c1 ?c2 ?c3 ?c4 ?c5 ?_)
        try
          case c1 =>
            intro j u hj
            match j, hj with
            | 0, hj => simp at hj; subst hj; simp [Addr.add]
            | 1, hj => simp at hj; subst hj; simp [Addr.add]
        case c2 =>
          first
          | exact ⟨rfl, rfl⟩
          | (intro u hu; simp at hu; rcases hu with rfl | rfl <;> rfl)
        case c3 => unfold maxLen; omega
        case c4 => omega
        case c5 => first | omega | (simp; omega)
        intro v' w4 hown' hgrow _
        have row : ∀ g, (Value.slice A4 own.length c4).ownBlock = some g → w.heap.size + 1 ≤ g := fun g hg => (World.ownsRow.lt ho g hg).1
        have hq4 := (hq3.next ((Below.refl w3.heap.size w3).alloc (Nat.le_refl _) (.cells #[.int .i64 x.1, .bool x.2] 77))).grown hgrow row (by omega) (fun b hb => by have := HBS.out b hb; omega)
        have hb4 := (hb.alloc (by omega) (.cells #[.int .i64 x.1, .bool x.2] 77)).grown hgrow (by simp; omega) (fun g hg => by have := row g hg; omega)
        have R := (R.alloc (.cells #[.int .i64 x.1, .bool x.2] 77)).grown hgrow (fun g hg => by have := row g hg; omega)
        have F := Lib.hid (show GrR lo q hs ws w v' r.length w4 from ⟨own ++ [x], r, bs3, rfl, HJ.out, by simp at hlen ⊢; omega, OwnH.more (x := x) hown', hq4, HBS.out, hb4, R⟩)
        clear hown' hgrow ho hq3 hq4 hb hb4 R row
        go_wp2
        go_roundg r.length
        case measure => have := Hgk.out; simp at this; omega
        case rel => exact F.out
end Go.Proofs.YtcndmdglnohbcaaGreatDoor

