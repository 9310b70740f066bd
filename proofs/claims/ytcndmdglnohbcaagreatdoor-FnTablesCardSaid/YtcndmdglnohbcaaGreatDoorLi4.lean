/- The program's copies: copied, copiedLock. -/
import Derived.Test.YtcndmdglnohbcaaGreatDoorLs4
import Derived.Test.YtcndmdglnohbcaaGreatDoorLi3
import Derived.Laws.CopyOwn
namespace Go.Proofs.YtcndmdglnohbcaaGreatDoor
open Go.RowKit

section
variable {P : Program}
/-- the builtin copy into a row of the call's own, at elements of sz cells -/
theorem run_copy_rows (w : World) (dT sT ty elem : TypeId) (sz g dLen dCap : Nat) (a : Addr) (sLen sCap : Nat) (cur : Array Value) (t : TypeId) (cs : List Value)
    (hu : P.underlying dT = some (.slice elem)) (hs : (P.info? elem).map (·.size) = some sz)
    (hg : w.heap[g]? = some (.cells cur t (0, 0))) (hn : cs.length = Nat.min sLen dLen * sz)
    (hsrc : ∀ j v, cs[j]? = some v → w.cell? (a.add j) = some v) (hfit : 0 + cs.length ≤ cur.size) (h1 : ∀ v ∈ cs, v.oneCell' = true) :
    (Builtin.copy_ #[dT, sT] ty #[.slice (some ⟨g, 0, none⟩) dLen dCap, .slice (some a) sLen sCap]).run P w =
      .ok (goInt (Nat.min sLen dLen)) (w.setRow g (cur.toList.take 0 ++ cs ++ cur.toList.drop (0 + cs.length)).toArray) := by
  have hl := run_loadCells_list (P := P) w a cs hsrc
  have hst := run_storeCells_at P g 0 t cs 0 cur w hg (by simpa using hfit) h1
  cases hq : P.info? elem with
  | none => simp [hq] at hs
  | some i =>
    have hi : i.size = sz := by simpa [hq] using hs
    simp [Builtin.copy_, run_underlying hu, Builtin.lenOf, Builtin.firstCells, sizeOf, typeInfo, hq, hi, ← hn, hl, hst]
theorem wpList_copy_rows {w : World} {ops : Array Oper} {rest : List Oper} {o : Oper} {a : Act} {Q : Exit → Act → World → Prop} (hgd : o.guard = none) (d s : Operand) (dT sT : TypeId)
    (ho : o.op = .call { callee := .builtin .copy, args := #[d, s], argTypes := #[dT, sT] }) (elem : TypeId) (sz : Nat) (hu : P.underlying dT = some (.slice elem)) (hsz : (P.info? elem).map (·.size) = some sz)
    (g dLen dCap : Nat) (ad : Addr) (sLen sCap : Nat) (hd : a.eval d = .slice (some ⟨g, 0, none⟩) dLen dCap) (hs : a.eval s = .slice (some ad) sLen sCap)
    (cur : Array Value) (t : TypeId) (hg : w.heap[g]? = some (.cells cur t (0, 0))) (cs : List Value) (hn : cs.length = Nat.min sLen dLen * sz)
    (hsrc : ∀ j v, cs[j]? = some v → w.cell? (ad.add j) = some v) (hfit : 0 + cs.length ≤ cur.size) (h1 : ∀ v ∈ cs, v.oneCell' = true)
    (h : ∀ w', Hid (w'.heap[g]? = some (.cells (cs ++ cur.toList.drop cs.length).toArray t (0, 0))) → Below g w w' → wpList P ops Q rest (a.put o.dst (goInt (Nat.min sLen dLen))) w') : wpList P ops Q (o :: rest) a w := by
  refine wpList_plain hgd fun K hK => ?_
  have hrun := run_copy_rows (P := P) w dT sT o.type elem sz g dLen dCap ad sLen sCap cur t cs hu hsz hg hn hsrc hfit h1
  unfold Oper.wp
  simp [execOp, ho, resolve, invoke, builtin, hd, hs, hrun, Result.andThen]
  exact hK _ _ (h _ (show _ = _ from setRow_heap w g _ _ t _ hg) (below_setRow (Below.refl g w) (Nat.le_refl _) _))
end

theorem hcs_one (l : HL) : ∀ v ∈ hcs l, v.oneCell' = true := by
  induction l with
  | nil => intro v hv; cases hv
  | cons x l ih =>
    intro v hv
    simp only [hcs, List.mem_cons] at hv
    rcases hv with rfl | rfl | hv
    · rfl
    · rfl
    · exact ih v hv
theorem hcs_at {w : World} {B : Nat} {A : Option Addr} {l : HL} (h : HAt w B A l) (hl : 0 < l.length) : ∃ b off, A = some ⟨b, off, none⟩ ∧ b < B ∧ ∀ j u, (hcs l)[j]? = some u → w.cell? ((⟨b, off, none⟩ : Addr).add j) = some u := by
  obtain ⟨b, off, e, hb, hc⟩ := h hl
  refine ⟨b, off, e, hb, fun j u hu => ?_⟩
  have hj : j < l.length * 2 := by
    have := (List.getElem?_eq_some_iff.1 hu).1
    rwa [hcs_length] at this
  have hadd : (⟨b, off, none⟩ : Addr).add j = ⟨b, off + j, none⟩ := by
    by_cases e : j = 0
    · subst e; simp [Addr.add]
    · simp [Addr.add, e]
  rw [hadd]
  have hk : j / 2 < l.length := by omega
  have h2 := hcs_get hk
  rcases (by omega : j = j / 2 * 2 ∨ j = j / 2 * 2 + 1) with e | e
  · rw [e] at hu; rw [h2.1] at hu; injection hu with hu; subst hu
    have := (hc _ hk).1; rwa [← e] at this
  · rw [e] at hu; rw [h2.2] at hu; injection hu with hu; subst hu
    have := (hc _ hk).2; rw [Nat.add_assoc, ← e] at this; exact this

set_option maxHeartbeats 800000 in
set_option maxRecDepth 100000 in
theorem copied_any (A : Option Addr) (c B : Nat) (l : HL) (w : World) (hn : l.length ≤ 1048576) (h : HAt w B A l) :
    Calls Tryz.prog 73 #[.slice A l.length c] w fun e w' => ∃ v, e = .returned v ∧ OwnH w' w.heap.size v l ∧ Below w.heap.size w w' := by
  have h := h.lt
  rcases Nat.eq_zero_or_pos l.length with hz | hpos
  · have hl := List.length_eq_zero_iff.1 hz
    subst hl
    go_enter Tryz.func73, Tryz.ntmps73
    go_wp2
    go_ret
    exact ⟨_, rfl, OwnH.nil _ _, Below.refl _ _⟩
  · have hmk := run_make_holds l.length hn
    obtain ⟨b, off, rfl, hb, hc⟩ := hcs_at h hpos
    have hp1 : (l.length == 0) = false := by simp; intro e; rw [e] at hpos; exact absurd hpos (by simp)
    have hp2 : ((l.length : Int) == 0) = false := by simp; intro e; rw [e] at hpos; exact absurd hpos (by simp)
    have hp3 : ¬ ((l.length : Int) = 0) := by omega
    have hsz : (Tryz.prog.info? 77).map (·.size) = some 2 := by kernel_rfl
    have Hsz := Lib.hid hsz
    have HL := Lib.hid (hcs_length l)
    have HC := Lib.hid hc
    have hnew := Lib.hid (heap_alloc_new w (.cells (madeCells #[.int .i64 0, .bool false] (l.length * 2)) 77))
    clear hsz h hc
    go_enter Tryz.func73, Tryz.ntmps73
    go_wp2_with (with_reducible refine wpList_copy_rows rfl _ _ 38 38 rfl 77 2 Tryz.underlying38 Hsz.out w.heap.size l.length l.length ⟨b, off, none⟩ l.length c rfl rfl (madeCells #[.int .i64 0, .bool false] (l.length * 2)) 77 hnew.out (hcs l) ?h1 ?h2 ?h3 (hcs_one l) ?_)
    case h1 => rw [HL.out]; simp
    case h2 =>
      intro j u hu
      have := HC.out j u hu
      exact (World.cell?_alloc_lt _ _ _ (by by_cases e : j = 0 <;> simp [Addr.add, e] <;> exact hb)).trans this
    case h3 => rw [HL.out, size_madeCells]; omega
    intro w1 hrow hb1
    clear hmk
    go_wp2
    go_ret
    have hd : (hcs l ++ (madeCells #[.int .i64 0, .bool false] (l.length * 2)).toList.drop (hcs l).length) = hcs l := by
      rw [HL.out, List.drop_eq_nil_of_le (by rw [Array.length_toList, size_madeCells]; omega), List.append_nil]
    have hr := hrow.out
    rw [hd] at hr
    refine ⟨_, rfl, ⟨HL.out, .inr ⟨w.heap.size, l.length, (hcs l).toArray, rfl, Nat.le_refl _, hr, Nat.le_refl _, by unfold maxLen; omega, by simp [HL.out], by rw [List.take_of_length_le (by simp [HL.out])]⟩⟩, ((Below.refl _ _).alloc (Nat.le_refl _) _).trans hb1⟩

set_option maxHeartbeats 800000 in
set_option maxRecDepth 100000 in
theorem implCopy_any (A A' : Option Addr) (c c' B : Nat) (hs ws : HL) (w : World) (hn : hs.length ≤ 1048576) (hn' : ws.length ≤ 1048576) (h : LAt w B A A' (hs, ws)) :
    Calls Tryz.prog 48 #[.agg #[.slice A hs.length c, .slice A' ws.length c']] w (RetOwn w (hs, ws) fun v => v) := by
  have h : LAt w w.heap.size A A' (hs, ws) := ⟨h.1.lt, h.2.lt⟩
  go_enter Tryz.func48, Tryz.ntmps48
  go_wp2_with fail
  have b := (((Below.refl w.heap.size w).alloc (Nat.le_refl _) (.cells #[.slice A hs.length c, .slice A' ws.length c'] 40)).alloc (by simp) (.cells #[.slice none 0 0, .slice none 0 0] 40))
  have X := ((Box.new (w := w) (c := #[.slice A hs.length c, .slice A' ws.length c']) (t := 40) rfl).alloc (.cells #[.slice none 0 0, .slice none 0 0] 40))
  have Y := (Box.new (w := w.alloc (.cells #[.slice A hs.length c, .slice A' ws.length c'] 40)) (b := w.heap.size + 1) (c := #[.slice none 0 0, .slice none 0 0]) (t := 40) (by simp))
  have hs0 : w.heap.size + 1 < ((w.alloc (.cells #[.slice A hs.length c, .slice A' ws.length c'] 40)).alloc (.cells #[.slice none 0 0, .slice none 0 0] 40)).heap.size := by simp
  generalize (w.alloc (.cells #[.slice A hs.length c, .slice A' ws.length c'] 40)).alloc (.cells #[.slice none 0 0, .slice none 0 0] 40) = w0 at b X Y hs0 ⊢
  have hd := Lib.hid (h.below b.drew b.size)
  have Xd := Lib.hid X.drew
  have Yd := Lib.hid Y.drew
  have bd := Lib.hid b.drew
  obtain ⟨x0, x1, xf⟩ := X.c2
  obtain ⟨y0, y1, yf⟩ := Y.c2
  have hlt0 : w.heap.size < w0.heap.size := by omega
  clear X Y b h xf
  go_region_law (first | (go_simp; go_at_call_of 73 (Value.slice A hs.length c); refine (copied_any A c _ hs _ hn hd.out.1).mono ?_; rintro o w1 ⟨v1, rfl, o1, hb1⟩; obtain ⟨A3, c3, rfl, _⟩ := o1.own; obtain ⟨p0, p1, pf⟩ := (Xd.out.next hb1).c2; obtain ⟨q0, q1, qf⟩ := (Yd.out.next hb1).c2) | (go_simp; go_at_call_of 73 (Value.slice A' ws.length c'); refine (copied_any A' c' _ ws _ hn' (hd.out.2.below hb1 (Nat.le_refl _))).mono ?_; rintro o w2 ⟨v2, rfl, o2, hb2⟩; obtain ⟨A4, c4, rfl, _⟩ := o2.own; obtain ⟨r0, r1, rf⟩ := ((Yd.out.next hb1).next hb2).c2; have hz2 : w.heap.size + 1 < w2.heap.size := Nat.lt_of_lt_of_le hs0 (Nat.le_trans hb1.size hb2.size)))
  all_goals
    have hz0 : w0.drew.heap.size = w0.heap.size := rfl
    have hz1 : w0.heap.size ≤ w1.heap.size := hb1.size
    have hm : ∀ k, (Value.slice A3 hs.length c3).ownBlock = some k → k < w1.heap.size := fun k hk => (o1.lt k hk).2
    have O1 := Lib.hid (((o1.next hb2).far (a := ⟨w.heap.size + 1, 0, none⟩) (.slice A3 hs.length c3) hs0).far (a := ⟨w.heap.size + 1, 1, none⟩) (.slice A4 ws.length c4) hs0)
    have O2 := Lib.hid ((o2.far (a := ⟨w.heap.size + 1, 0, none⟩) (.slice A3 hs.length c3) (Nat.lt_of_lt_of_le hs0 hz1)).far (a := ⟨w.heap.size + 1, 1, none⟩) (.slice A4 ws.length c4) (Nat.lt_of_lt_of_le hs0 hz1))
    have HM := Lib.hid hm
    have HB := Lib.hid ((((bd.out.trans (hb1.mono bd.out.size)).trans (hb2.mono (Nat.le_trans (Nat.le_of_lt hlt0) hz1))).setCell (p := ⟨w.heap.size + 1, 0, none⟩) (Nat.le_succ _) (.slice A3 hs.length c3)).setCell (p := ⟨w.heap.size + 1, 1, none⟩) (Nat.le_succ _) (.slice A4 ws.length c4))
    clear hm o1 o2 hb1 hb2 p0 p1 pf q0 q1 qf x0 x1 y0 y1 yf hz0
    go_wp2
    exact bodyPost_ret (v := .agg #[.slice A3 hs.length c3, .slice A4 ws.length c4]) (by simp [results, Tryz.results48, go_sem, r0, r1]) rfl ⟨_, _, rfl, (OwnL.two (O1.out) HM.out O2.out (Nat.le_trans (Nat.le_refl _) hz1)).less (Nat.le_of_lt hlt0), HB.out⟩
end Go.Proofs.YtcndmdglnohbcaaGreatDoor
