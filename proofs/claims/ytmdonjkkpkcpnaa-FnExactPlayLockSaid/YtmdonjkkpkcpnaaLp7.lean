/- Copies of lists of lists; marks of a lock and of a row beside it. -/
import Derived.Test.YtmdonjkkpkcpnaaLp6
namespace Go.Proofs.Ytmdonjkkpkcpnaa
open Go.RowKit
theorem run_make_ints (n : Nat) (h : n ≤ 1048576) (w : World) : (Instr.makeSlice 29 (.int .i64 (n : Int)) (.int .i64 (n : Int))).run Try.prog w = .ok (.slice (some ⟨w.heap.size, 0, none⟩) n n) (w.alloc (.cells (madeCells #[.int .i64 0] n) 3)) :=
  run_make_row' (P := Try.prog) 29 3 (.int .i64 0) 8 Try.underlying29 infoInt rfl .i64 .i64 n (by omega) (by omega) w

set_option maxHeartbeats 400000 in
theorem toIntS_any (A : Option Addr) (n cap : Nat) (f : Nat → Int) (w : World) (hn : n ≤ 1048576) (hr : IntsAt w w.heap.size A n f) :
    Calls Try.prog 70 #[.slice A n cap] w fun e w' => e = .returned (.slice (some ⟨w.heap.size, 0, none⟩) n n) ∧ Below w.heap.size w w' ∧ w'.rowIs w.heap.size 3 n (fun j => .int .i64 (f j)) := by
  have hmk := run_make_ints n hn
  go_enter Try.func70, Try.ntmps70
  go_wp2
  clear hmk
  go_loopw [4] (fun i wr => ∃ k : Nat, k ≤ n ∧ i = .int .i64 k ∧ Below w.heap.size w wr ∧ wr.rowIs w.heap.size 3 n (fun j => .int .i64 (if j < k then f j else 0))) (fun i _ => n - (intOf i).toNat)
  case atStart => exact ⟨0, Nat.zero_le _, rfl, (Below.refl _ _).alloc (Nat.le_refl _) _, (World.rowIs_made w (.int .i64 0) n _).congr (fun j _ => by simp)⟩
  case round =>
    obtain ⟨k, hk, rfl, hb, hrow⟩ := hrel
    by_cases hkn : k < n
    · obtain ⟨b, off, rfl, hB, hc⟩ := hr (by omega)
      have hkz : (k : Int) < n := by omega
      have c0 : wr.cell? ⟨b, off + k, none⟩ = some (.int .i64 (f k)) := (hb.cell (p := ⟨b, off + k, none⟩) hB).trans (hc _ (by omega))
      have s0 : wr.cell? ⟨w.heap.size, k, none⟩ = some (.int .i64 0) := by rw [hrow.cell (by omega), if_neg (by omega)]
      have r0 : wr.frozen? ⟨w.heap.size, k, none⟩ = false := hrow.frozen _
      have Hrow1 := Lib.hid ((hrow.set k (.int .i64 (f k))).congr (g := fun j => .int .i64 (if j < k + 1 then f j else 0)) (fun j _ => by
        by_cases e : j = k
        · subst e; rw [if_pos rfl, if_pos (by omega)]
        · rw [if_neg e]
          by_cases hlt : j < k
          · rw [if_pos hlt, if_pos (by omega)]
          · rw [if_neg hlt, if_neg (by omega)]))
      clear hrow hc hr
      go_wp2
      exact ⟨⟨k + 1, by omega, by go_num, hb.setCell (Nat.le_refl _) _, Hrow1.out⟩, by simp [intOf]; omega⟩
    · obtain rfl : k = n := by omega
      go_wp2
      go_ret
      exact ⟨rfl, hb, hrow.congr (fun j hj => by simp [hj])⟩


theorem infoSl : (Try.prog.info? 29).map (fun i => (i.zero, i.size, i.bytes)) = some (some (.slice none 0 0), 1, 24) := by kernel_rfl
theorem run_make_slices (n : Nat) (h : n ≤ 1048576) (w : World) : (Instr.makeSlice 24 (.int .i64 (n : Int)) (.int .i64 (n : Int))).run Try.prog w = .ok (.slice (some ⟨w.heap.size, 0, none⟩) n n) (w.alloc (.cells (madeCells #[.slice none 0 0] n) 29)) :=
  run_make_row' (P := Try.prog) 24 29 (.slice none 0 0) 24 Try.underlying24 infoSl rfl .i64 .i64 n (by omega) (by omega) w
def rowV (ops : OL) (g : Nat → Nat) (k j : Nat) : Value := if j < k then .slice (some ⟨g j, 0, none⟩) (opAt ops j).length (opAt ops j).length else .slice none 0 0
/-- the first k rows are laid -/
structure RowsTo (w wr : World) (ops : OL) (k : Nat) (g : Nat → Nat) : Prop where
  row : wr.rowIs w.heap.size 29 ops.length (rowV ops g k)
  own : ∀ j, j < k → w.heap.size < g j ∧ g j < wr.heap.size ∧ OwnI wr (g j) (g j + 1) (some ⟨g j, 0, none⟩) (opAt ops j).length (opF ops j)
  inc : ∀ i j, i < j → j < k → g i < g j

set_option maxHeartbeats 800000 in
theorem toSS_any (A : Option Addr) (c B : Nat) (ops : OL) (w : World) (hs : ops.length + totP ops ops.length ≤ 1048576) (hB : B ≤ w.heap.size) (h : OpsAt w B A ops) :
    Calls Try.prog 36 #[.slice A ops.length c] w fun e w' => ∃ g, e = .returned (.slice (some ⟨g, 0, none⟩) ops.length ops.length) ∧ OpsOwn w' w.heap.size w'.heap.size (some ⟨g, 0, none⟩) ops ∧ Below w.heap.size w w' := by
  have hmk := run_make_slices ops.length (by omega)
  go_enter Try.func36, Try.ntmps36
  go_wp2
  clear hmk
  go_loopw [4] (fun i wr => ∃ k : Nat, k ≤ ops.length ∧ i = .int .i64 k ∧ Below w.heap.size w wr ∧ ∃ g, RowsTo w wr ops k g) (fun i _ => ops.length - (intOf i).toNat)
  case atStart => exact ⟨0, Nat.zero_le _, rfl, (Below.refl _ _).alloc (Nat.le_refl _) _, fun _ => 0, (World.rowIs_made w (.slice none 0 0) ops.length _).congr (fun j _ => by simp [rowV]), fun j hj => absurd hj (by omega), fun i j _ hj => absurd hj (by omega)⟩
  case round =>
    obtain ⟨k, hk, rfl, hb, g, hrow, hown, hinc⟩ := hrel
    by_cases hkn : k < ops.length
    · obtain ⟨b, off, rfl, hbB, hc⟩ := h (by omega)
      have hkz : (k : Int) < ops.length := by omega
      obtain ⟨O, co, d0, i0⟩ := hc k hkn
      have d0 : wr.cell? ⟨b, off + k, none⟩ = some (.slice O (opAt ops k).length co) := (hb.cell (p := ⟨b, off + k, none⟩) (by show b < w.heap.size; omega)).trans d0
      have i0 := i0.below (hb.mono hB) (Nat.le_refl _)
      have htl := totP_at ops hkn
      have hsz := hb.size
      have hlt := hrow.lt
      clear hc h
      go_wp2_with fail
      refine (toIntS_any O _ co (opF ops k) _ (by omega) (i0.below (Below.refl _ _) (by omega))).mono ?_; rintro e w1 ⟨rfl, hb1, hr1⟩
      have s1 := hr1.lt
      have hrow1 := rowIs_below hrow hb1 hlt
      have c0 : w1.cell? ⟨w.heap.size, k, none⟩ = some (.slice none 0 0) := by rw [hrow1.cell hkn, rowV, if_neg (by omega)]
      have r0 : w1.frozen? ⟨w.heap.size, k, none⟩ = false := hrow1.frozen _
      have O1 := OwnI.of_row hr1 (lo := wr.heap.size) (B := wr.heap.size + 1) (Nat.le_refl _) (Nat.lt_succ_self _)
      have R1 := Lib.hid (show RowsTo w (w1.setCell ⟨w.heap.size, k, none⟩ (.slice (some ⟨wr.heap.size, 0, none⟩) (opAt ops k).length (opAt ops k).length)) ops (k + 1) (fun j => if j = k then wr.heap.size else g j) from by
        refine ⟨(hrow1.set k _).congr (fun j _ => ?_), fun j hj => ?_, fun i j hij hj => ?_⟩
        · unfold rowV
          by_cases e : j = k
          · subst e; simp
          · by_cases hlt : j < k
            · have : j < k + 1 := by omega
              simp [e, hlt, this]
            · have : ¬ j < k + 1 := by omega
              simp [e, hlt, this]
        · by_cases e : j = k
          · subst e
            simp only [if_true]
            refine ⟨hlt, by simp [World.setCell]; omega, ?_⟩
            refine O1.onlys (lo' := w.heap.size) (B' := w.heap.size + 1) ((Onlys.refl w.heap.size (w.heap.size + 1) w1).setCell (p := ⟨w.heap.size, _, none⟩) (Nat.le_refl _) (Nat.lt_succ_self _) _) (.inr (by omega))
          · simp only [if_neg e]
            obtain ⟨q1, q2, q3⟩ := hown j (by omega)
            refine ⟨q1, by simp [World.setCell]; omega, ?_⟩
            exact (q3.below hb1 (by omega)).onlys (lo' := w.heap.size) (B' := w.heap.size + 1) ((Onlys.refl w.heap.size (w.heap.size + 1) w1).setCell (p := ⟨w.heap.size, _, none⟩) (Nat.le_refl _) (Nat.lt_succ_self _) _) (.inr (by omega))
        · have hi : ¬ i = k := by omega
          simp only [if_neg hi]
          by_cases e : j = k
          · simp only [if_pos e]
            exact (hown i (by omega)).2.1
          · simp only [if_neg e]
            exact hinc i j hij (by omega))
      have hb2 := (hb.trans (hb1.mono hsz)).setCell (p := ⟨w.heap.size, k, none⟩) (Nat.le_refl _) (.slice (some ⟨wr.heap.size, 0, none⟩) (opAt ops k).length (opAt ops k).length)
      clear hrow hrow1 hown hinc O1 hr1 hb hb1 i0 d0
      go_wp2
      exact ⟨⟨k + 1, by omega, by go_num, hb2, _, R1.out⟩, by simp [intOf]; omega⟩
    · obtain rfl : k = ops.length := by omega
      have HO := Lib.hid (show OpsOwn wr w.heap.size wr.heap.size (some ⟨w.heap.size, 0, none⟩) ops from fun _ => ⟨_, rfl, Nat.le_refl _, hrow.lt, g, fun j hj => ⟨by rw [hrow.cell hj, rowV, if_pos hj], (hown j hj).1, (hown j hj).2.1, (hown j hj).2.2⟩, hinc⟩)
      clear hrow hown hinc
      go_wp2
      go_ret
      exact ⟨_, rfl, HO.out, hb⟩

set_option maxHeartbeats 800000 in
theorem markSS_any (A : Option Addr) (c lo B : Nat) (ops : OL) (k0 : Int) (w : World) (hs : ops.length + totP ops ops.length ≤ 1048576) (h0 : 0 ≤ k0) (hk0 : k0 ≤ 1048576) (h : OpsOwn w lo B A ops) :
    Calls Try.prog 39 #[.slice A ops.length c, .int .i64 k0] w fun e w' => e = .returned (.int .i64 (k0 + totP ops ops.length)) ∧ Onlys lo B w w' := by
  rcases Nat.eq_zero_or_pos ops.length with hz | hpos
  · have ht : totP ops ops.length = 0 := by rw [hz]; rfl
    rw [ht, hz]
    go_enter Try.func39, Try.ntmps39
    go_wp2
    refine wp_loop_rounds 1 ?_; rw [rounds_succ]
    go_wp2
    go_ret
    exact ⟨by simp, Onlys.refl _ _ _⟩
  obtain ⟨b, rfl, hb1, hb2, g, hg, hinc⟩ := h hpos
  go_enter Try.func39, Try.ntmps39
  go_wp2
  go_loopw [1, 5] (fun s i wr => ∃ k : Nat, k ≤ ops.length ∧ i = .int .i64 k ∧ s = .int .i64 (k0 + totP ops k) ∧ Onlys lo B w wr ∧ (∀ j, j < ops.length → wr.cell? ⟨b, j, none⟩ = some (.slice (some ⟨g j, 0, none⟩) (opAt ops j).length (opAt ops j).length)) ∧ (∀ j, k ≤ j → j < ops.length → OwnI wr (g j) (g j + 1) (some ⟨g j, 0, none⟩) (opAt ops j).length (opF ops j))) (fun _ i _ => ops.length - (intOf i).toNat)
  case atStart => exact ⟨0, Nat.zero_le _, rfl, by simp [totP], Onlys.refl _ _ _, fun j hj => (hg j hj).1, fun j _ hj => (hg j hj).2.2.2⟩
  case round =>
    obtain ⟨k, hk, rfl, rfl, ho, hcell, hrows⟩ := hrel
    have ht := totP_mono ops hk
    by_cases hkn : k < ops.length
    · have hkz : (k : Int) < ops.length := by omega
      have d0 := hcell k hkn
      have O := hrows k (Nat.le_refl _) hkn
      have htl := totP_at ops hkn
      obtain ⟨_, g1, g2, _⟩ := hg k hkn
      have e : totP ops (k + 1) = totP ops k + (opAt ops k).length := rfl
      have HT := Lib.hid (show k0 + (totP ops k : Int) + ((opAt ops k).length : Int) = k0 + (totP ops (k + 1) : Int) by rw [e]; omega)
      have hkt : totP ops k ≤ 1048576 := by omega
      have Hcell := Lib.hid hcell
      have Hrows := Lib.hid hrows
      have Hg := Lib.hid hg
      have Hinc := Lib.hid hinc
      clear e hcell hrows hg hinc
      go_wp2_with fail
      refine (markIntS_int _ _ _ _ _ _ (k0 + (totP ops k : Int)) _ (by omega) (by omega) (by omega) O).mono ?_; rintro e w1 ⟨rfl, ho1, _⟩
      rw [HT.out]
      have Ho2 := Lib.hid (ho.trans (ho1.more (lo' := lo) (B' := B) (by omega) (by omega)))
      have HC2 := Lib.hid (show ∀ j, j < ops.length → w1.cell? ⟨b, j, none⟩ = some (.slice (some ⟨g j, 0, none⟩) (opAt ops j).length (opAt ops j).length) from fun j hj => (World.cell?_of_block (a := ⟨b, j, none⟩) (ho1.block b (.inl (by omega)))).trans (Hcell.out j hj))
      have HR2 := Lib.hid (show ∀ j, k + 1 ≤ j → j < ops.length → OwnI w1 (g j) (g j + 1) (some ⟨g j, 0, none⟩) (opAt ops j).length (opF ops j) from fun j hj hjn => (Hrows.out j (by omega) hjn).onlys ho1 (.inr (by have := Hinc.out k j (by omega) hjn; omega)))
      clear ho1 O d0 ho
      go_wp2
      exact ⟨⟨k + 1, by omega, by go_num, rfl, Ho2.out, HC2.out, HR2.out⟩, by simp [intOf]; omega⟩
    · obtain rfl : k = ops.length := by omega
      clear hcell hrows hg hinc
      go_wp2
      go_ret
      exact ⟨rfl, ho⟩

/-- what lies in a block that holds neither list -/
def KeepOff (A A' : Option Addr) (p : HL × HL) (w w' : World) : Prop := ∀ (lo' B' N : Nat) (G : Option Addr) (f : Nat → Int), OwnI w lo' B' G N f → B' ≤ w.heap.size → (∀ a, G = some a → 0 < N → Off A A' p a.block) → OwnI w' lo' B' G N f
theorem OwnI.sameBlock {w w' : World} {lo B N : Nat} {G : Option Addr} {f : Nat → Int} (h : OwnI w lo B G N f) (hk : ∀ a, G = some a → 0 < N → w'.heap[a.block]? = w.heap[a.block]?) : OwnI w' lo B G N f := fun hn => by
  obtain ⟨b, off, e, h1, h2, hc⟩ := h hn
  have hk := hk _ e hn
  exact ⟨b, off, e, h1, h2, fun j hj => ⟨(World.cell?_of_block (a := ⟨b, off + j, Option.none⟩) hk).trans (hc j hj).1, (World.frozen?_of_block (a := ⟨b, off + j, Option.none⟩) hk).trans (hc j hj).2⟩⟩
/-- marking a list of holds turns its own block alone -/
theorem markHoldS_fine (A : Option Addr) (cap lo B : Nat) (l : HL) (k0 : Int) (w : World) (hn : l.length ≤ 1073741824) (h0 : 0 ≤ k0) (hk0 : k0 ≤ 1073741824) (h : HOwn w lo B A l) :
    Calls Try.prog 67 #[.slice A l.length cap, .int .i64 k0] w fun e w' => e = .returned (.int .i64 (k0 + l.length * 2)) ∧ Onlys lo B w w' ∧ HOwn w' lo B A (marks k0 l.length) ∧ ∀ q, (0 < l.length → ∀ a, A = some a → ¬ a.block = q) → w'.heap[q]? = w.heap[q]? := by
  rcases Nat.eq_zero_or_pos l.length with hz | hpos
  · refine (markHoldS_any A cap 0 0 l k0 w hn h0 hk0 (HOwn.none hz)).mono ?_
    rintro e w' ⟨h1, h2, h3⟩
    have ho : Onlys lo B w w' := ⟨h2.os, h2.tape, h2.output, h2.size, fun k _ => h2.block k (.inr (Nat.zero_le _))⟩
    exact ⟨h1, ho, HOwn.none (by rw [marks_len]; exact hz), fun q _ => h2.block q (.inr (Nat.zero_le _))⟩
  obtain ⟨a, ea, a1, a2, h1⟩ := h.one hpos
  refine (markHoldS_any A cap a.block (a.block + 1) l k0 w hn h0 hk0 h1).mono ?_
  rintro e w' ⟨h3, h4, h5⟩
  refine ⟨h3, h4.more a1 (by omega), h5.more a1 (by omega), fun q hq => h4.block q ?_⟩
  have := hq hpos a ea
  omega
theorem markLock_fine (A A' : Option Addr) (c c' lo B : Nat) (p : HL × HL) (k0 : Int) (w : World) (hn : p.1.length ≤ 10485760) (hn' : p.2.length ≤ 10485760) (h0 : 0 ≤ k0) (hk0 : k0 ≤ 10485760) (hB : B ≤ w.heap.size) (h : LOwn w lo B A A' p) :
    Calls Try.prog 29 #[.agg #[.slice A p.1.length c, .slice A' p.2.length c'], .int .i64 k0] w fun e w' => e = .returned (.int .i64 (k0 + p.1.length * 2 + p.2.length * 2)) ∧ (∃ o, Onlys lo B (w.alloc o) w') ∧ LOwn w' lo B A A' (marks k0 p.1.length, marks (k0 + p.1.length * 2) p.2.length) ∧ KeepOff A A' p w w' := by
  obtain ⟨l, l'⟩ := p
  obtain ⟨h1, h2, h3⟩ := h
  simp only at hn hn' h1 h2 ⊢
  have h3 : 0 < l.length → 0 < l'.length → ∀ a a', A = some a → A' = some a' → ¬ a.block = a'.block := h3
  go_enter Try.func29, Try.ntmps29
  go_wp2_with fail
  have X := Box.new (w := w) (c := #[.slice A l.length c, .slice A' l'.length c']) (t := 28) rfl
  have hb0 := (Below.refl w.heap.size w).alloc (Nat.le_refl _) (.cells #[.slice A l.length c, .slice A' l'.length c'] 28)
  refine (markHoldS_fine A c lo B l k0 _ (by omega) h0 (by omega) (h1.below hb0 hB)).mono ?_; rintro e w1 ⟨rfl, ho, g1, f1⟩
  have g2 : HOwn w1 lo B A' l' := fun hn => by
    obtain ⟨b, off, e, q1, q2, hc⟩ := (h2.below hb0 hB) hn
    have hk := f1 b (fun hl a ha => by have := h3 hl hn a _ ha e; exact this)
    exact ⟨b, off, e, q1, q2, fun j hj => ⟨⟨(World.cell?_of_block (a := ⟨b, _, none⟩) hk).trans (hc j hj).1.1, (World.cell?_of_block (a := ⟨b, _, none⟩) hk).trans (hc j hj).1.2⟩, fun o => (World.frozen?_of_block (a := ⟨b, o, none⟩) hk).trans ((hc j hj).2 o)⟩⟩
  have X : Box w1 w.heap.size [.slice A l.length c, .slice A' l'.length c'] := by
    have hk := ho.block w.heap.size (.inr hB)
    have hs := ho.size
    exact ⟨by rw [hs]; exact X.lt, fun j u hu => (World.cell?_of_block (a := ⟨_, j, none⟩) hk).trans (X.cell j u hu), fun o => (World.frozen?_of_block (a := ⟨_, o, none⟩) hk).trans (X.free o)⟩
  obtain ⟨x0, x1, xf⟩ := X.c2
  have Hb0 := Lib.hid hb0
  have F1 := Lib.hid f1
  clear hb0 xf f1
  go_wp2_with fail
  refine (markHoldS_fine A' c' lo B l' (k0 + l.length * 2) _ (by omega) (by omega) (by omega) g2).mono ?_; rintro e w2 ⟨rfl, ho2, g3, f2⟩
  have g4 : HOwn w2 lo B A (marks k0 l.length) := fun hn => by
    obtain ⟨b, off, e, q1, q2, hc⟩ := g1 hn
    have hn' : 0 < l.length := by rw [marks_len] at hn; exact hn
    have hk := f2 b (fun hl a ha eb => h3 hn' hl _ a e ha eb.symm)
    exact ⟨b, off, e, q1, q2, fun j hj => ⟨⟨(World.cell?_of_block (a := ⟨b, _, none⟩) hk).trans (hc j hj).1.1, (World.cell?_of_block (a := ⟨b, _, none⟩) hk).trans (hc j hj).1.2⟩, fun o => (World.frozen?_of_block (a := ⟨b, o, none⟩) hk).trans ((hc j hj).2 o)⟩⟩
  have F2 := Lib.hid f2
  clear f2
  go_wp2
  go_ret
  refine ⟨rfl, ⟨_, ho.trans ho2⟩, ⟨g4, g3, fun q1 q2 => h3 (by rw [marks_len] at q1; exact q1) (by rw [marks_len] at q2; exact q2)⟩, fun lo' B' N G f hO hB' hoff => ?_⟩
  refine (hO.below Hb0.out hB').sameBlock (fun a ha hN => ?_)
  have := hoff a ha hN
  exact (F2.out _ this.2).trans (F1.out _ this.1)
/-- marking a row of numbers turns its own block alone -/
theorem markIntS_fine (G : Option Addr) (n cap lo B : Nat) (f : Nat → Int) (k0 : Int) (w : World) (hn : n ≤ 1073741824) (h0 : 0 ≤ k0) (hk0 : k0 ≤ 1073741824) (h : OwnI w lo B G n f) :
    Calls Try.prog 40 #[.slice G n cap, .int .i64 k0] w fun e w' => e = .returned (.int .i64 (k0 + n)) ∧ Onlys lo B w w' ∧ OwnI w' lo B G n (fun j => k0 + j) ∧ ∀ lo' B' A A' p, LOwn w lo' B' A A' p → (∀ a, G = some a → 0 < n → Off A A' p a.block) → LOwn w' lo' B' A A' p := by
  rcases Nat.eq_zero_or_pos n with rfl | hpos
  · refine (markIntS_int G 0 cap 0 0 f k0 w hn h0 hk0 (fun h => absurd h (by omega))).mono ?_
    rintro e w' ⟨h1, h2, h3⟩
    have hk : ∀ q, w'.heap[q]? = w.heap[q]? := fun q => h2.block q (.inr (Nat.zero_le _))
    have ho : Onlys lo B w w' := ⟨h2.os, h2.tape, h2.output, h2.size, fun k _ => hk k⟩
    exact ⟨h1, ho, fun h => absurd h (by omega), fun lo' B' A A' p hL _ => hL.onlys h2 (.inr (Nat.zero_le _))⟩
  obtain ⟨b, off, e, h1, h2, hc⟩ := h hpos
  have h' : OwnI w b (b + 1) G n f := fun _ => ⟨b, off, e, Nat.le_refl _, Nat.lt_succ_self _, hc⟩
  refine (markIntS_int G n cap b (b + 1) f k0 w hn h0 hk0 h').mono ?_
  rintro e' w' ⟨h3, h4, h5⟩
  refine ⟨h3, h4.more h1 (by omega), fun hn => ?_, fun lo' B' A A' p hL hoff => ?_⟩
  · obtain ⟨b', off', e'', _, _, hc'⟩ := h5 hn
    rw [e] at e''; injection e'' with e''; injection e'' with q1 q2 _
    subst q1 q2
    exact ⟨b, off, e, h1, h2, hc'⟩
  · have hO := hoff _ e hpos
    refine ⟨?_, ?_, hL.2.2⟩
    · intro hl
      obtain ⟨x, ox, ex, x1, x2, hx⟩ := hL.1 hl
      have hne : ¬ x = b := hO.1 hl _ ex
      have hk := h4.block x (by omega)
      exact ⟨x, ox, ex, x1, x2, fun j hj => ⟨⟨(World.cell?_of_block (a := ⟨x, _, Option.none⟩) hk).trans (hx j hj).1.1, (World.cell?_of_block (a := ⟨x, _, Option.none⟩) hk).trans (hx j hj).1.2⟩, fun o => (World.frozen?_of_block (a := ⟨x, o, Option.none⟩) hk).trans ((hx j hj).2 o)⟩⟩
    · intro hl
      obtain ⟨x, ox, ex, x1, x2, hx⟩ := hL.2.1 hl
      have hne : ¬ x = b := hO.2 hl _ ex
      have hk := h4.block x (by omega)
      exact ⟨x, ox, ex, x1, x2, fun j hj => ⟨⟨(World.cell?_of_block (a := ⟨x, _, Option.none⟩) hk).trans (hx j hj).1.1, (World.cell?_of_block (a := ⟨x, _, Option.none⟩) hk).trans (hx j hj).1.2⟩, fun o => (World.frozen?_of_block (a := ⟨x, o, Option.none⟩) hk).trans ((hx j hj).2 o)⟩⟩
end Go.Proofs.Ytmdonjkkpkcpnaa
