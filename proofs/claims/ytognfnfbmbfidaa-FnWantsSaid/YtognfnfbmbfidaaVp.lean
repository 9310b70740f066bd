/- Is a number in a list (l01Has, slices.Index, slices.Contains); NextWant of the model and of the program. -/
import Derived.Test.YtognfnfbmbfidaaVn
namespace Go.Proofs.Ytognfnfbmbfidaa
open Go.RowKit

def hasB (n : Nat) (f : Nat → Int) (x : Int) : Bool := (List.range n).any fun j => f j == x
theorem hasB_yes {n k : Nat} {f : Nat → Int} {x : Int} (hk : k < n) (h : f k = x) : hasB n f x = true := by
  simp only [hasB, List.any_eq_true, List.mem_range, beq_iff_eq]
  exact ⟨k, hk, h⟩
theorem hasB_no {n : Nat} {f : Nat → Int} {x : Int} (h : ∀ j, j < n → ¬ f j = x) : hasB n f x = false := by
  rw [Bool.eq_false_iff]
  intro hp
  simp only [hasB, List.any_eq_true, List.mem_range, beq_iff_eq] at hp
  obtain ⟨j, hj, e⟩ := hp
  exact h j hj e
def NotTo (f : Nat → Int) (x : Int) (k : Nat) : Prop := ∀ j, j < k → ¬ f j = x
theorem NotTo.next {f : Nat → Int} {x : Int} {k : Nat} (h : NotTo f x k) (e : ¬ f k = x) : NotTo f x (k + 1) := fun j hj => by
  by_cases ej : j = k
  · subst ej; exact e
  · exact h j (by omega)

theorem hasS_any (A : Option Addr) (n cap B : Nat) (f : Nat → Int) (x : Int) (w : World) (hn : n ≤ 1048576) (h : IntsAt w B A n f) :
    Calls Try.prog 75 #[.slice A n cap, .int .i64 x] w fun e w' => e = .returned (.bool (hasB n f x)) ∧ w = w' := by
  go_enter Try.func75, Try.ntmps75
  go_wp2
  go_loop [5] (fun i => ∃ k : Nat, k ≤ n ∧ i = .int .i64 k ∧ NotTo f x k) (fun i => n - (intOf i).toNat)
  case atStart => exact ⟨0, Nat.zero_le _, rfl, fun j hj => absurd hj (by omega)⟩
  case round =>
    obtain ⟨k, hk, rfl, hall⟩ := hrel
    have Hall := Lib.hid hall
    clear hall
    by_cases hkn : k < n
    · obtain ⟨b, off, rfl, _, hc⟩ := h (by omega)
      have hkz : (k : Int) < n := by omega
      have d0 : w.cell? ⟨b, off + k, none⟩ = some (.int .i64 (f k)) := hc k hkn
      clear hc h
      have HN := Lib.hid (fun e : ¬ f k = x => Hall.out.next e)
      have HY := Lib.hid (fun e : f k = x => hasB_yes hkn e)
      generalize f k = y at d0 HN HY
      by_cases e : y = x
      · have HY2 := Lib.hid (HY.out e)
        clear HN HY
        subst e
        go_wp2
        go_ret
        exact ⟨ret_bool HY2.out.symm, rfl⟩
      · have e' : (y == x) = false := by simpa using e
        go_wp2
        exact ⟨⟨k + 1, by omega, by go_num, HN.out e⟩, by simp [intOf]; omega⟩
    · obtain rfl : k = n := by omega
      go_wp2
      go_ret
      exact ⟨ret_bool (hasB_no Hall.out).symm, rfl⟩

theorem index_any (A : Option Addr) (n cap B : Nat) (f : Nat → Int) (x : Int) (w : World) (hn : n ≤ 1048576) (h : IntsAt w B A n f) :
    Calls Try.prog 89 #[.slice A n cap, .int .i64 x] w fun e w' => (∃ v : Int, e = .returned (.int .i64 v) ∧ hasB n f x = decide (0 ≤ v)) ∧ w = w' := by
  go_enter Try.func89, Try.ntmps89
  go_wp2
  go_loop [8] (fun i => ∃ k : Nat, k ≤ n ∧ i = .int .i64 k ∧ NotTo f x k) (fun i => n - (intOf i).toNat)
  case atStart => exact ⟨0, Nat.zero_le _, rfl, fun j hj => absurd hj (by omega)⟩
  case round =>
    obtain ⟨k, hk, rfl, hall⟩ := hrel
    have Hall := Lib.hid hall
    clear hall
    by_cases hkn : k < n
    · obtain ⟨b, off, rfl, _, hc⟩ := h (by omega)
      have hkz : (k : Int) < n := by omega
      have d0 : w.cell? ⟨b, off + k, none⟩ = some (.int .i64 (f k)) := hc k hkn
      clear hc h
      have HN := Lib.hid (fun e : ¬ f k = x => Hall.out.next e)
      have HY := Lib.hid (fun e : f k = x => hasB_yes hkn e)
      generalize f k = y at d0 HN HY
      by_cases e : y = x
      · have HY2 := Lib.hid (HY.out e)
        clear HN HY
        subst e
        go_wp2
        go_ret
        exact ⟨⟨_, rfl, by rw [HY2.out]; simp⟩, rfl⟩
      · have e' : (x == y) = false := by simp; exact fun h => e h.symm
        go_wp2
        exact ⟨⟨k + 1, by omega, by go_num, HN.out e⟩, by simp [intOf]; omega⟩
    · obtain rfl : k = n := by omega
      go_wp2
      go_ret
      exact ⟨⟨_, rfl, by rw [hasB_no Hall.out]; simp⟩, rfl⟩

theorem contains_any (A : Option Addr) (n cap B : Nat) (f : Nat → Int) (x : Int) (w : World) (hn : n ≤ 1048576) (h : IntsAt w B A n f) :
    Calls Try.prog 79 #[.slice A n cap, .int .i64 x] w fun e w' => e = .returned (.bool (hasB n f x)) ∧ w = w' := by
  go_enter Try.func79, Try.ntmps79
  go_wp2_with fail
  refine (index_any A n cap B f x _ hn h).mono ?_; rintro e w1 ⟨⟨v, rfl, hv⟩, rfl⟩
  have HV := Lib.hid hv
  clear hv
  by_cases e : 0 ≤ v
  · go_wp2
    go_ret
    exact ⟨ret_bool (by first | (simp [HV.out]; done) | (simp [HV.out, e]; done)), rfl⟩
  · go_wp2
    go_ret
    exact ⟨ret_bool (by first | (simp [HV.out]; done) | (simp [HV.out, e]; done)), rfl⟩

/-- the first want whose key is not held -/
def nextW (l : HL) (n : Nat) (f : Nat → Int) : (Int × Bool) × Bool :=
  match l.find? (fun z => !hasB n f z.1) with
  | some z => (z, true)
  | none => ((0, false), false)
def nextO (l : HL) (n : Nat) (f : Nat → Int) : (Int × Bool) × Bool := if wantsB l = true then nextW l n f else ((0, false), false)
def HeldTo (l : HL) (n : Nat) (f : Nat → Int) (k : Nat) : Prop := ∀ j, j < k → hasB n f (hT l j) = true
theorem HeldTo.next {l : HL} {n : Nat} {f : Nat → Int} {k : Nat} (h : HeldTo l n f k) (e : hasB n f (hT l k) = true) : HeldTo l n f (k + 1) := fun j hj => by
  by_cases ej : j = k
  · subst ej; exact e
  · exact h j (by omega)
theorem hT_at {l : HL} {k : Nat} (h : k < l.length) : (l[k]).1 = hT l k := by rw [← hT_get h]
theorem nextW_hit {l : HL} {n : Nat} {f : Nat → Int} {k : Nat} (hk : k < l.length) (h : HeldTo l n f k) (e : hasB n f (hT l k) = false) : nextW l n f = ((hT l k, hW l k), true) := by
  have : l.find? (fun z => !hasB n f z.1) = some (hT l k, hW l k) := by
    rw [List.find?_eq_some_iff_getElem]
    refine ⟨by simp [e], k, hk, (hT_get hk).symm, fun j hj => ?_⟩
    have := h j hj
    rw [hT_at (by omega), this]; rfl
  rw [nextW, this]
theorem nextW_none {l : HL} {n : Nat} {f : Nat → Int} (h : HeldTo l n f l.length) : nextW l n f = ((0, false), false) := by
  have : l.find? (fun z => !hasB n f z.1) = none := by
    rw [List.find?_eq_none]
    intro z hz
    obtain ⟨j, hj, rfl⟩ := List.getElem_of_mem hz
    have := h j hj
    rw [hT_at hj, this]; simp
  rw [nextW, this]
/-- the answer of NextWant -/
def Next (r : (Int × Bool) × Bool) (e : Ending) : Prop := e = .returned (.tuple #[.agg #[.int .i64 r.1.1, .bool r.1.2], .bool r.2])
theorem Next.of {r : (Int × Bool) × Bool} {x : Int} {y z : Bool} (h : r = ((x, y), z)) : Next r (.returned (.tuple #[.agg #[.int .i64 x, .bool y], .bool z])) := by subst h; rfl

set_option maxHeartbeats 800000 in
set_option maxRecDepth 100000 in
theorem specNext_any (A A' : Option Addr) (c n c' B : Nat) (l : HL) (f : Nat → Int) (w : World) (hn : l.length ≤ 1048576) (hn' : n ≤ 1048576) (hBw : B ≤ w.heap.size) (h : HAt w B A l) (h' : IntsAt w B A' n f) :
    Calls Try.prog 49 #[.slice A l.length c, .slice A' n c'] w fun e w' => Next (nextO l n f) e ∧ Below w.heap.size w w' := by
  have h := h.lt
  have h' := h'.below (Below.refl B w) hBw
  have Z := Box.new (w := w) (c := #[.int .i64 0, .bool false]) (t := 32) rfl
  have b0 := (Below.refl w.heap.size w).alloc (Nat.le_refl _) (.cells #[.int .i64 0, .bool false] 32)
  go_enter Try.func49, Try.ntmps49
  go_wp2_with fail
  generalize w.alloc (.cells #[.int .i64 0, .bool false] 32) = w0 at Z b0 ⊢
  refine (specWantsOk_any A c _ l _ hn (h.below b0 b0.size)).mono ?_; rintro e w1 ⟨rfl, hb1⟩
  have Z := Z.next hb1
  have b1 := b0.trans (hb1.mono b0.size)
  clear hb1 b0
  cases hw : wantsB l with
  | false =>
    have HO := Lib.hid (show nextO l n f = ((0, false), false) by simp [nextO, hw])
    obtain ⟨z0, z1, zf⟩ := Z.c2
    clear hw Z
    go_wp2
    exact bodyPost_ret (v := .tuple #[.agg #[.int .i64 0, .bool false], .bool false]) (by simp [results, Try.results49, go_sem, z0, z1]) rfl ⟨Next.of HO.out, by (repeat' (refine Below.setCell ?_ (by simp) _)); exact b1⟩
  | true =>
    have HO := Lib.hid (show nextO l n f = nextW l n f by simp [nextO, hw])
    have hs1 := b1.size
    clear hw
    go_wp2
    go_loopw [6] (fun i wr => ∃ k : Nat, k ≤ l.length ∧ i = .int .i64 k ∧ Below w.heap.size w wr ∧ HeldTo l n f k ∧ Box wr w.heap.size [.int .i64 0, .bool false]) (fun i _ => l.length - (intOf i).toNat)
    case atStart => exact ⟨0, Nat.zero_le _, rfl, b1, fun j hj => absurd hj (by omega), Z⟩
    case round =>
      obtain ⟨k, hk, rfl, hb, hall, Z⟩ := hrel
      have Hall := Lib.hid hall
      have hsz := hb.size
      clear hall b1
      by_cases hkn : k < l.length
      · obtain ⟨b, off, rfl, hB, hc⟩ := h (by omega)
        have hkz : (k : Int) < l.length := by omega
        have hltb : b < wr.heap.size := by omega
        have d0 : wr.cell? ⟨b, off + k * 2, none⟩ = some (.int .i64 (hT l k)) := (hb.cell (p := ⟨b, off + k * 2, none⟩) hB).trans (hc k hkn).1
        have d1 : wr.cell? ⟨b, off + k * 2 + 1, none⟩ = some (.bool (hW l k)) := (hb.cell (p := ⟨b, off + k * 2 + 1, none⟩) hB).trans (hc k hkn).2
        have HN := Lib.hid (fun e : hasB n f (hT l k) = true => Hall.out.next e)
        have HH := Lib.hid (fun e : hasB n f (hT l k) = false => nextW_hit hkn Hall.out e)
        generalize hT l k = x at d0 HN HH
        generalize hW l k = y at d1 HH
        clear hc h
        go_wp2_with fail
        refine (hasS_any A' n c' _ f x _ hn' (h'.below hb (Nat.le_refl _))).mono ?_; rintro e w' ⟨rfl, rfl⟩
        obtain ⟨z0, z1, zf⟩ := Z.c2
        cases hh : hasB n f x with
        | true =>
          have HN := Lib.hid (HN.out hh)
          clear HH hh z0 z1 zf
          go_wp2
          exact ⟨⟨k + 1, by omega, by go_num, hb, HN.out, Z⟩, by simp [intOf]; omega⟩
        | false =>
          have HH := Lib.hid (HO.out.trans (HH.out hh))
          clear HN hh
          go_wp2
          exact bodyPost_ret (v := .tuple #[.agg #[.int .i64 x, .bool y], .bool true]) (by simp [results, Try.results49, go_sem, z0, z1]) rfl ⟨Next.of HH.out, by (repeat' (refine Below.setCell ?_ (by simp) _)); exact hb⟩
      · obtain rfl : k = l.length := by omega
        have HH := Lib.hid (HO.out.trans (nextW_none Hall.out))
        obtain ⟨z0, z1, zf⟩ := Z.c2
        go_wp2
        exact bodyPost_ret (v := .tuple #[.agg #[.int .i64 0, .bool false], .bool false]) (by simp [results, Try.results49, go_sem, z0, z1]) rfl ⟨Next.of HH.out, by (repeat' (refine Below.setCell ?_ (by simp) _)); exact hb⟩

set_option maxHeartbeats 800000 in
set_option maxRecDepth 100000 in
theorem implNext_any (A A' : Option Addr) (c n c' B : Nat) (l : HL) (f : Nat → Int) (w : World) (hn : l.length ≤ 1048576) (hn' : n ≤ 1048576) (hBw : B ≤ w.heap.size) (h : HAt w B A l) (h' : IntsAt w B A' n f) :
    Calls Try.prog 50 #[.slice A l.length c, .slice A' n c'] w fun e w' => Next (nextO l n f) e ∧ Below w.heap.size w w' := by
  have h := h.lt
  have h' := h'.below (Below.refl B w) hBw
  have Z := Box.new (w := w) (c := #[.int .i64 0, .bool false]) (t := 32) rfl
  have b0 := (Below.refl w.heap.size w).alloc (Nat.le_refl _) (.cells #[.int .i64 0, .bool false] 32)
  go_enter Try.func50, Try.ntmps50
  go_wp2_with fail
  generalize w.alloc (.cells #[.int .i64 0, .bool false] 32) = w0 at Z b0 ⊢
  refine (implWantsOk_any A c _ l _ hn (h.below b0 b0.size)).mono ?_; rintro e w1 ⟨rfl, hb1⟩
  have Z := Z.next hb1
  have b1 := b0.trans (hb1.mono b0.size)
  clear hb1 b0
  cases hw : wantsB l with
  | false =>
    have HO := Lib.hid (show nextO l n f = ((0, false), false) by simp [nextO, hw])
    obtain ⟨z0, z1, zf⟩ := Z.c2
    clear hw Z
    go_wp2
    exact bodyPost_ret (v := .tuple #[.agg #[.int .i64 0, .bool false], .bool false]) (by simp [results, Try.results50, go_sem, z0, z1]) rfl ⟨Next.of HO.out, by (repeat' (refine Below.setCell ?_ (by simp) _)); exact b1⟩
  | true =>
    have HO := Lib.hid (show nextO l n f = nextW l n f by simp [nextO, hw])
    have hs1 := b1.size
    clear hw
    go_wp2
    go_loopw [14] (fun i wr => ∃ k : Nat, k ≤ l.length ∧ i = .int .i64 k ∧ Below w.heap.size w wr ∧ HeldTo l n f k ∧ Box wr w.heap.size [.int .i64 0, .bool false]) (fun i _ => l.length - (intOf i).toNat)
    case atStart => exact ⟨0, Nat.zero_le _, rfl, b1, fun j hj => absurd hj (by omega), Z⟩
    case round =>
      obtain ⟨k, hk, rfl, hb, hall, Z⟩ := hrel
      have Hall := Lib.hid hall
      have hsz := hb.size
      clear hall b1
      by_cases hkn : k < l.length
      · obtain ⟨b, off, rfl, hB, hc⟩ := h (by omega)
        have hkz : (k : Int) < l.length := by omega
        have hltb : b < wr.heap.size := by omega
        have d0 : wr.cell? ⟨b, off + k * 2, none⟩ = some (.int .i64 (hT l k)) := (hb.cell (p := ⟨b, off + k * 2, none⟩) hB).trans (hc k hkn).1
        have d1 : wr.cell? ⟨b, off + k * 2 + 1, none⟩ = some (.bool (hW l k)) := (hb.cell (p := ⟨b, off + k * 2 + 1, none⟩) hB).trans (hc k hkn).2
        have HN := Lib.hid (fun e : hasB n f (hT l k) = true => Hall.out.next e)
        have HH := Lib.hid (fun e : hasB n f (hT l k) = false => nextW_hit hkn Hall.out e)
        have hb2 := hb.alloc hsz (.cells #[.int .i64 (hT l k), .bool (hW l k)] 32)
        have Z2 := Z.alloc (.cells #[.int .i64 (hT l k), .bool (hW l k)] 32)
        have X2 := Box.new (w := wr) (c := #[.int .i64 (hT l k), .bool (hW l k)]) (t := 32) rfl
        generalize hT l k = x at d0 HN HH hb2 Z2 X2
        generalize hW l k = y at d1 HH hb2 Z2 X2
        clear hc h
        go_wp2_with fail
        obtain ⟨x0, x1, xf⟩ := X2.c2
        clear xf
        refine (contains_any A' n c' _ f x _ hn' (h'.below hb2 (Nat.le_refl _))).mono ?_; rintro e w' ⟨rfl, rfl⟩
        obtain ⟨z0, z1, zf⟩ := Z2.c2
        cases hh : hasB n f x with
        | true =>
          have HN := Lib.hid (HN.out hh)
          clear HH hh z0 z1 zf
          go_wp2
          exact ⟨⟨k + 1, by omega, by go_num, hb2, HN.out, Z2⟩, by simp [intOf]; omega⟩
        | false =>
          have HH := Lib.hid (HO.out.trans (HH.out hh))
          clear HN hh
          go_wp2
          exact bodyPost_ret (v := .tuple #[.agg #[.int .i64 x, .bool y], .bool true]) (by simp [results, Try.results50, go_sem, z0, z1]) rfl ⟨Next.of HH.out, by (repeat' (refine Below.setCell ?_ (by simp) _)); exact hb2⟩
      · obtain rfl : k = l.length := by omega
        have HH := Lib.hid (HO.out.trans (nextW_none Hall.out))
        obtain ⟨z0, z1, zf⟩ := Z.c2
        go_wp2
        exact bodyPost_ret (v := .tuple #[.agg #[.int .i64 0, .bool false], .bool false]) (by simp [results, Try.results50, go_sem, z0, z1]) rfl ⟨Next.of HH.out, by (repeat' (refine Below.setCell ?_ (by simp) _)); exact hb⟩
end Go.Proofs.Ytognfnfbmbfidaa
