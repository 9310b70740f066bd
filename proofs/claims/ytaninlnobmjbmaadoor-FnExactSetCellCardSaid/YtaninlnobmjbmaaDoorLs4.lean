/- The model's copies: l03Holds, l03Copy. -/
import Derived.Test.YtaninlnobmjbmaaDoorLk3
import Derived.Test.YtaninlnobmjbmaaDoorLs3
namespace Go.Proofs.YtaninlnobmjbmaaDoor
open Go.RowKit

theorem hcs_take {l : HL} {k : Nat} (h : k < l.length) : hcs (l.take (k + 1)) = hcs (l.take k) ++ [.int .i64 (hT l k), .bool (hW l k)] := by
  rw [List.take_succ_eq_append_getElem h, hcs_append, ← hT_get h]; rfl
/-- one list of the call's own -/
def OwnH (w : World) (lo : Nat) (v : Value) (l : HL) : Prop := w.ownsRow lo 120 2 v l.length (hcs l)
theorem OwnH.block {w w' : World} {lo : Nat} {v : Value} {l : HL} (h : OwnH w lo v l) (hb : ∀ k, k < w.heap.size → lo ≤ k → w'.heap[k]? = w.heap[k]?) : OwnH w' lo v l := ownsRow_block' h hb
theorem OwnH.next {w w' : World} {lo : Nat} {v : Value} {l : HL} (h : OwnH w lo v l) (hb : Below w.heap.size w w') : OwnH w' lo v l := h.block fun k hk _ => hb.block k hk
theorem OwnH.less {w : World} {lo lo' : Nat} {v : Value} {l : HL} (h : OwnH w lo v l) (hl : lo' ≤ lo) : OwnH w lo' v l := by
  refine ⟨h.1, ?_⟩
  rcases h.2 with h' | ⟨g, cap, cur, h1, h2, h3⟩
  · exact .inl h'
  · exact .inr ⟨g, cap, cur, h1, by omega, h3⟩
theorem OwnH.own {w : World} {lo : Nat} {v : Value} {l : HL} (h : OwnH w lo v l) : ∃ A cap, v = .slice A l.length cap ∧ HOwn w lo w.heap.size A l := by
  obtain ⟨A, cap, e, _, ho⟩ := HOwn.of_owns h
  exact ⟨A, cap, e, ho⟩
theorem OwnH.far {w : World} {lo : Nat} {v : Value} {l : HL} {a : Addr} (h : OwnH w lo v l) (u : Value) (hd : a.block < lo) : OwnH (w.setCell a u) lo v l :=
  h.block fun k _ hk => Below.heap_setCell _ _ _ _ (by omega)
theorem OwnH.nil (w : World) (lo : Nat) : OwnH w lo (.slice none 0 0) [] := World.ownsRow_nil _ _ _ _

set_option maxHeartbeats 800000 in
set_option maxRecDepth 100000 in
theorem specHoldsCopy_any (A : Option Addr) (c B : Nat) (l : HL) (w : World) (hn : l.length ≤ 1048576) (h : HAt w B A l) :
    Calls Tryd.prog 93 #[.slice A l.length c] w fun e w' => ∃ v, e = .returned v ∧ OwnH w' w.heap.size v l ∧ Below w.heap.size w w' := by
  have h := h.lt
  obtain ⟨i0, hi, hz0, hz1, hz2⟩ := info_parts infoHold
  have Hi := Lib.hid hi
  have Hz0 := Lib.hid hz0
  have Hz1 := Lib.hid hz1
  have Hz2 := Lib.hid hz2
  clear hi hz0 hz1 hz2
  go_enter Tryd.func93, Tryd.ntmps93
  go_wp2
  go_loopw [3, 4] (fun v i wr => ∃ k : Nat, k ≤ l.length ∧ i = .int .i64 k ∧ OwnH wr w.heap.size v (l.take k) ∧ Below w.heap.size w wr) (fun _ i _ => l.length - (intOf i).toNat)
  case atStart => exact ⟨0, Nat.zero_le _, rfl, World.ownsRow_made w #[] 0 (Nat.le_refl _) (Nat.zero_le _) rfl, (Below.refl _ _).alloc (Nat.le_refl _) _⟩
  case round =>
    obtain ⟨k, hk, rfl, hown, hb⟩ := hrel
    have hsz := hb.size
    by_cases hkn : k < l.length
    · obtain ⟨b, off, rfl, hB, hc⟩ := h (by omega)
      have hkz : (k : Int) < l.length := by omega
      have d0 : wr.cell? ⟨b, off + k * 2, none⟩ = some (.int .i64 (hT l k)) := (hb.cell (p := ⟨b, off + k * 2, none⟩) hB).trans (hc k hkn).1
      have d1 : wr.cell? ⟨b, off + k * 2 + 1, none⟩ = some (.bool (hW l k)) := (hb.cell (p := ⟨b, off + k * 2 + 1, none⟩) hB).trans (hc k hkn).2
      have hl2 : (l.take k).length = k := by rw [List.length_take]; omega
      have hl3 : (l.take (k + 1)).length = k + 1 := by rw [List.length_take]; omega
      unfold OwnH at hown
      rw [hl2] at hown
      have HN := Lib.hid (hcs_take hkn)
      have HL3 := Lib.hid hl3
      clear hc h hl2 hl3
      generalize hcs (l.take k) = L at hown HN
      go_wp2_with (at_builtin; refine wpList_append_own _ rfl _ _ 68 rfl w.heap.size 120 i0 (.agg #[.int .i64 0, .bool false]) 2 16 Tryd.underlying68 Hi.out Hz0.out Hz1.out Hz2.out rfl (by decide) _ _ _ rfl (hown.alloc _) ⟨wr.heap.size, 0, none⟩ 1 1 [.int .i64 (hT l k), .bool (hW l k)] rfl rfl ?c1 ?c2 ?c3 ?c4 ?c5 ?_)
      case c1 =>
        intro j u hj
        match j, hj with
        | 0, hj => simp at hj; subst hj; simp [Addr.add]
        | 1, hj => simp at hj; subst hj; simp [Addr.add]
      case c2 =>
        intro u hu
        simp at hu
        rcases hu with rfl | rfl <;> rfl
      case c3 => unfold maxLen; omega
      case c4 => omega
      case c5 => simp; omega
      intro v' w3 hown' hgrow _
      have hb3 := (hb.alloc hsz (.cells #[.int .i64 (hT l k), .bool (hW l k)] 120)).grown hgrow (by simp; omega) (fun q hq => (hown.lt q hq).1)
      have hown3 : OwnH w3 w.heap.size v' (l.take (k + 1)) := by unfold OwnH; rw [HN.out, HL3.out]; exact hown'
      clear hown' hgrow hown hb d0 d1
      go_wp2
      exact ⟨⟨k + 1, by omega, by go_num, hown3, hb3⟩, by simp [intOf]; omega⟩
    · obtain rfl : k = l.length := by omega
      rw [List.take_length] at hown
      go_wp2
      go_ret
      exact ⟨_, rfl, hown, hb⟩

/-- a lock's two lists, the call's own, in two blocks -/
def OwnL (w : World) (lo : Nat) (v1 v2 : Value) (p : HL × HL) : Prop := OwnH w lo v1 p.1 ∧ OwnH w lo v2 p.2 ∧ ∀ k, v1.ownBlock = some k → ¬ v2.ownBlock = some k
theorem OwnL.next {w w' : World} {lo : Nat} {v1 v2 : Value} {p : HL × HL} (h : OwnL w lo v1 v2 p) (hb : Below w.heap.size w w') : OwnL w' lo v1 v2 p := ⟨h.1.next hb, h.2.1.next hb, h.2.2⟩
theorem OwnL.less {w : World} {lo lo' : Nat} {v1 v2 : Value} {p : HL × HL} (h : OwnL w lo v1 v2 p) (hl : lo' ≤ lo) : OwnL w lo' v1 v2 p := ⟨h.1.less hl, h.2.1.less hl, h.2.2⟩
theorem OwnL.far {w : World} {lo : Nat} {v1 v2 : Value} {p : HL × HL} {a : Addr} (h : OwnL w lo v1 v2 p) (u : Value) (hd : a.block < lo) : OwnL (w.setCell a u) lo v1 v2 p := ⟨h.1.far u hd, h.2.1.far u hd, h.2.2⟩
/-- two lists, each laid behind a mark -/
theorem OwnL.two {w : World} {lo m : Nat} {v1 v2 : Value} {p : HL × HL} (h1 : OwnH w lo v1 p.1) (hm : ∀ k, v1.ownBlock = some k → k < m) (h2 : OwnH w m v2 p.2) (hl : lo ≤ m) : OwnL w lo v1 v2 p :=
  ⟨h1, h2.less hl, fun k hk hk' => by have := hm k hk; have := (h2.lt k hk').1; omega⟩
theorem OwnL.two' {w : World} {lo m : Nat} {v1 v2 : Value} {p : HL × HL} (h1 : OwnH w m v1 p.1) (h2 : OwnH w lo v2 p.2) (hm : ∀ k, v2.ownBlock = some k → k < m) (hl : lo ≤ m) : OwnL w lo v1 v2 p :=
  ⟨h1.less hl, h2, fun k hk hk' => by have := hm k hk'; have := (h1.lt k hk).1; omega⟩
theorem OwnL.lock {w : World} {lo : Nat} {v1 v2 : Value} {p : HL × HL} (h : OwnL w lo v1 v2 p) : ∃ A c A' c', v1 = .slice A p.1.length c ∧ v2 = .slice A' p.2.length c' ∧ LOwn w lo w.heap.size A A' p := by
  obtain ⟨A, c, rfl, h1⟩ := h.1.own
  obtain ⟨A', c', rfl, h2⟩ := h.2.1.own
  exact ⟨A, c, A', c', rfl, rfl, h1, h2, fun _ _ a a' e1 e2 => by
    subst e1 e2
    intro e
    exact h.2.2 a.block rfl (by rw [e]; rfl)⟩
/-- an answer that is a lock of the call's own, as rows -/
def RetOwn (w : World) (p : HL × HL) (f : Value → Value) (e : Ending) (w' : World) : Prop := ∃ v1 v2, e = .returned (f (.agg #[v1, v2])) ∧ OwnL w' w.heap.size v1 v2 p ∧ Below w.heap.size w w'
theorem RetOwn.lock {w w' : World} {p : HL × HL} {f : Value → Value} {e : Ending} (h : RetOwn w p f e w') : RetLock w p f e w' := by
  obtain ⟨v1, v2, e, ho, hb⟩ := h
  obtain ⟨A, c, A', c', rfl, rfl, hl⟩ := ho.lock
  exact ⟨A, c, A', c', e, hl, hb⟩

/-- a block of another type than holds -/
def BoxT (w : World) (b : Nat) : Prop := ∃ N f, w.rowIs b 70 N f
section
variable {w w' : World} {b : Nat}
theorem BoxT.new {c : Array Value} (h : b = w.heap.size) : BoxT (w.alloc (.cells c 70)) b := by
  subst h
  exact ⟨c.size, fun i => c[i]?.getD (.bool false), World.rowIs_alloc w c _ _ (fun i hi => by simp [hi])⟩
theorem BoxT.lt (h : BoxT w b) : b < w.heap.size := by obtain ⟨N, f, h⟩ := h; exact h.lt
theorem BoxT.alloc (h : BoxT w b) (o : Obj) : BoxT (w.alloc o) b := by obtain ⟨N, f, h⟩ := h; exact ⟨N, f, h.alloc o⟩
theorem BoxT.next (h : BoxT w b) (hb : Below w.heap.size w w') : BoxT w' b := by obtain ⟨N, f, h⟩ := h; exact ⟨N, f, h.of_block (hb.block b h.lt)⟩
theorem BoxT.grown {row : Option Nat} (h : BoxT w b) (hg : w.grownBy w' row) (hne : ∀ q, row = some q → ¬ q = b) : BoxT w' b := by
  obtain ⟨N, f, h⟩ := h
  exact ⟨N, f, h.of_block (hg.block b h.lt (fun e => hne b e.symm rfl))⟩
theorem BoxT.set (h : BoxT w b) (j : Nat) (v : Value) : BoxT (w.setCell ⟨b, j, none⟩ v) b := by obtain ⟨N, f, h⟩ := h; exact ⟨N, _, h.set j v⟩
theorem BoxT.far (h : BoxT w b) {a : Addr} (v : Value) (hne : ¬ a.block = b) : BoxT (w.setCell a v) b := by
  obtain ⟨N, f, h⟩ := h
  exact ⟨N, f, h.of_block (Below.heap_setCell _ _ _ _ (fun e => hne e.symm))⟩
theorem BoxT.ne {lo : Nat} {v : Value} {l : HL} (h : BoxT w b) (o : OwnH w lo v l) : ∀ k, v.ownBlock = some k → ¬ b = k := by
  intro k hk e
  subst e
  obtain ⟨N, f, c, hc, _⟩ := h
  rcases o.2 with ⟨rfl, _⟩ | ⟨g, cap, cur, rfl, _, hh, _⟩
  · cases hk
  · injection hk with hk
    simp only at hk
    subst hk
    have := hc.symm.trans hh
    injection this with this
    injection this with _ e1 _
    exact absurd e1 (by decide)
end

set_option maxHeartbeats 800000 in
set_option maxRecDepth 100000 in
theorem specCopy_any (A A' : Option Addr) (c c' B : Nat) (hs ws : HL) (w : World) (hn : hs.length ≤ 1048576) (hn' : ws.length ≤ 1048576) (h : LAt w B A A' (hs, ws)) :
    Calls Tryd.prog 59 #[.agg #[.slice A hs.length c, .slice A' ws.length c']] w (RetOwn w (hs, ws) fun v => v) := by
  have h : LAt w w.heap.size A A' (hs, ws) := ⟨h.1.lt, h.2.lt⟩
  go_enter Tryd.func59, Tryd.ntmps59
  go_wp2_with fail
  have b := (((Below.refl w.heap.size w).alloc (Nat.le_refl _) (.cells #[.slice A hs.length c, .slice A' ws.length c'] 70)).alloc (by simp) (.cells #[.slice none 0 0, .slice none 0 0] 70))
  have X := ((Box.new (w := w) (c := #[.slice A hs.length c, .slice A' ws.length c']) (t := 70) rfl).alloc (.cells #[.slice none 0 0, .slice none 0 0] 70))
  have Y := (Box.new (w := w.alloc (.cells #[.slice A hs.length c, .slice A' ws.length c'] 70)) (b := w.heap.size + 1) (c := #[.slice none 0 0, .slice none 0 0]) (t := 70) (by simp))
  have hs0 : w.heap.size + 1 < ((w.alloc (.cells #[.slice A hs.length c, .slice A' ws.length c'] 70)).alloc (.cells #[.slice none 0 0, .slice none 0 0] 70)).heap.size := by simp
  generalize (w.alloc (.cells #[.slice A hs.length c, .slice A' ws.length c'] 70)).alloc (.cells #[.slice none 0 0, .slice none 0 0] 70) = w0 at b X Y hs0 ⊢
  have hd := Lib.hid (h.below b.drew b.size)
  have Xd := Lib.hid X.drew
  have Yd := Lib.hid Y.drew
  have bd := Lib.hid b.drew
  obtain ⟨x0, x1, xf⟩ := X.c2
  obtain ⟨y0, y1, yf⟩ := Y.c2
  have hlt0 : w.heap.size < w0.heap.size := by omega
  clear X Y b h xf
  go_region_law (first | (go_simp; go_at_call_of 93 (Value.slice A hs.length c); refine (specHoldsCopy_any A c _ hs _ hn hd.out.1).mono ?_; rintro o w1 ⟨v1, rfl, o1, hb1⟩; obtain ⟨A3, c3, rfl, _⟩ := o1.own; obtain ⟨p0, p1, pf⟩ := (Xd.out.next hb1).c2; obtain ⟨q0, q1, qf⟩ := (Yd.out.next hb1).c2) | (go_simp; go_at_call_of 93 (Value.slice A' ws.length c'); refine (specHoldsCopy_any A' c' _ ws _ hn' (hd.out.2.below hb1 (Nat.le_refl _))).mono ?_; rintro o w2 ⟨v2, rfl, o2, hb2⟩; obtain ⟨A4, c4, rfl, _⟩ := o2.own; obtain ⟨r0, r1, rf⟩ := ((Yd.out.next hb1).next hb2).c2; have hz2 : w.heap.size + 1 < w2.heap.size := Nat.lt_of_lt_of_le hs0 (Nat.le_trans hb1.size hb2.size)))
  all_goals
    have hz0 : w0.drew.heap.size = w0.heap.size := rfl
    have hz1 : w0.heap.size ≤ w1.heap.size := hb1.size
    have hm : ∀ k, (Value.slice A3 hs.length c3).ownBlock = some k → k < w1.heap.size := fun k hk => (o1.lt k hk).2
    have O1 := Lib.hid (((o1.next hb2).far (a := ⟨w.heap.size + 1, 0, none⟩) (.slice A3 hs.length c3) hs0).far (a := ⟨w.heap.size + 1, 1, none⟩) (.slice A4 ws.length c4) hs0)
    have O2 := Lib.hid ((o2.far (a := ⟨w.heap.size + 1, 0, none⟩) (.slice A3 hs.length c3) (Nat.lt_of_lt_of_le hs0 hz1)).far (a := ⟨w.heap.size + 1, 1, none⟩) (.slice A4 ws.length c4) (Nat.lt_of_lt_of_le hs0 hz1))
    have HM := Lib.hid hm
    have HB := Lib.hid ((((bd.out.trans (hb1.mono bd.out.size)).trans (hb2.mono (Nat.le_trans (Nat.le_of_lt hlt0) hz1))).setCell (p := ⟨w.heap.size + 1, 0, none⟩) (Nat.le_succ _) (.slice A3 hs.length c3)).setCell (p := ⟨w.heap.size + 1, 1, none⟩) (Nat.le_succ _) (.slice A4 ws.length c4))
    clear hm o1 o2 hb1 hb2 p0 p1 pf q0 q1 qf x0 x1 y0 y1 yf hz0
    go_wp2
    exact bodyPost_ret (v := .agg #[.slice A3 hs.length c3, .slice A4 ws.length c4]) (by simp [results, Tryd.results59, go_sem, r0, r1]) rfl ⟨_, _, rfl, (OwnL.two (O1.out) HM.out O2.out (Nat.le_trans (Nat.le_refl _) hz1)).less (Nat.le_of_lt hlt0), HB.out⟩
end Go.Proofs.YtaninlnobmjbmaaDoor
