/- The program's copies of a table: the rows. -/
import Derived.Test.YtcndmdglnohbcaaGreatDoorTy
import Derived.Test.YtcndmdglnohbcaaGreatDoorTe
import Derived.Test.YtcndmdglnohbcaaGreatDoorTb
import Derived.Test.YtcndmdglnohbcaaGreatDoorLi5
import Derived.Test.YtcndmdglnohbcaaGreatDoorLs5
import Derived.Test.YtcndmdglnohbcaaGreatDoorTd
namespace Go.Proofs.YtcndmdglnohbcaaGreatDoor
open Go.RowKit

theorem ccs_cells {w : World} {b off : Nat} {T : TL} {q : Nat → Pl} {n : Nat} (h : ∀ j, j < n → CCells w b (off + j * 6) (cd T j) (q j)) : ∀ j u, (ccs T q n)[j]? = some u → w.cell? ((⟨b, off, none⟩ : Addr).add j) = some u := by
  intro j u hj
  have hlt : j < n * 6 := by
    have := (List.getElem?_eq_some_iff.1 hj).1
    rw [ccs_len] at this; exact this
  have hd : j / 6 < n := by omega
  have e := ccs_get T q hd (Nat.mod_lt j (by decide : 0 < 6))
  rw [show j / 6 * 6 + j % 6 = j by omega, hj] at e
  have hc := h (j / 6) hd
  rw [addr_add, show off + j = off + j / 6 * 6 + j % 6 by omega]
  have hm : j % 6 < 6 := Nat.mod_lt j (by decide)
  generalize j % 6 = i at e hm ⊢
  match i, hm, e with
  | 0, _, e => simp [cvs] at e; subst e; exact hc.c0
  | 1, _, e => simp [cvs] at e; subst e; exact hc.c1
  | 2, _, e => simp [cvs] at e; subst e; exact hc.c2
  | 3, _, e => simp [cvs] at e; subst e; exact hc.c3
  | 4, _, e => simp [cvs] at e; subst e; exact hc.c4
  | 5, _, e => simp [cvs] at e; subst e; exact hc.c5
theorem ccs_one (T : TL) (q : Nat → Pl) (n : Nat) : ∀ u ∈ ccs T q n, u.oneCell' = true := by
  induction n with
  | zero => intro u hu; cases hu
  | succ n ih =>
    intro u hu
    simp only [ccs, List.mem_append] at hu
    rcases hu with hu | hu
    · exact ih u hu
    · exact one_six _ _ u hu
/-- a table's cells in block g: those of D are done, their lists the call's own -/
structure CT (w : World) (lo g n : Nat) (D : Nat → Prop) (f : Nat → CD) (q : Nat → Pl) (L H : Nat → Nat) : Prop where
  low : lo ≤ g
  lt : g < w.heap.size
  free : ∀ o, w.frozen? ⟨g, o, none⟩ = false
  cell : ∀ j, j < n → CCells w g (j * 6) (f j) (q j)
  own : ∀ j, j < n → D j → g < L j ∧ H j ≤ w.heap.size ∧ LsOwn w (L j) (H j) (f j) (q j)
  part : ∀ i j, i < n → j < n → D i → D j → ¬ i = j → H i ≤ L j ∨ H j ≤ L i
  cap : ∀ j, j < n → D j → (f j).hs.length ≤ (q j).c ∧ (f j).ws.length ≤ (q j).c'
/-- the lists of the table's cells lie in slices with enough room -/
def TCapL (w : World) (A : Option Addr) (T : TL) : Prop := ∀ b off, A = some ⟨b, off, none⟩ → ∀ j, j < T.length → ∃ G c G' c', (w.cell? ⟨b, off + j * 6 + 4, none⟩ = some (.slice G (cd T j).hs.length c) ∧ w.cell? ⟨b, off + j * 6 + 5, none⟩ = some (.slice G' (cd T j).ws.length c')) ∧ (cd T j).hs.length ≤ c ∧ (cd T j).ws.length ≤ c'
theorem TCapL.far {w : World} {b off : Nat} {T : TL} (h : TCapL w (some ⟨b, off, none⟩) T) {a : Addr} (v : Value) (hne : ¬ a.block = b) : TCapL (w.setCell a v) (some ⟨b, off, none⟩) T := fun b' off' e j hj => by
  obtain ⟨G, c, G', c', h1, h2⟩ := h b' off' e j hj
  injection e with e
  injection e with e1 e2 _
  subst e1 e2
  exact ⟨G, c, G', c', ⟨by rw [World.cell?_setCell_other _ _ _ _ (by intro e; exact hne (by rw [e]))]; exact h1.1, by rw [World.cell?_setCell_other _ _ _ _ (by intro e; exact hne (by rw [e]))]; exact h1.2⟩, h2⟩
theorem TCapL.below {w w' : World} {B b off : Nat} {T : TL} (h : TCapL w (some ⟨b, off, none⟩) T) (hb : Below B w w') (hB : b < B) : TCapL w' (some ⟨b, off, none⟩) T := fun b' off' e j hj => by
  obtain ⟨G, c, G', c', h1, h2⟩ := h b' off' e j hj
  injection e with e
  injection e with e1 e2 _
  subst e1 e2
  exact ⟨G, c, G', c', ⟨(hb.cell (p := ⟨b, _, none⟩) hB).trans h1.1, (hb.cell (p := ⟨b, _, none⟩) hB).trans h1.2⟩, h2⟩
theorem retOwn_cap {w w' : World} {p : HL × HL} {f : Value → Value} {e : Ending} (h : RetOwn w p f e w') : ∃ A c A' c', e = .returned (f (.agg #[.slice A p.1.length c, .slice A' p.2.length c'])) ∧ (p.1.length ≤ c ∧ p.2.length ≤ c') ∧ LOwn w' w.heap.size w'.heap.size A A' p ∧ Below w.heap.size w w' := by
  obtain ⟨v1, v2, e, ho, hb⟩ := h
  obtain ⟨A, c, A', c', rfl, rfl, hl⟩ := ho.lock
  exact ⟨A, c, A', c', e, ⟨ho.1.cap.1, ho.2.1.cap.1⟩, hl, hb⟩
section
variable {w w' : World} {lo g n : Nat} {D : Nat → Prop} {f : Nat → CD} {q : Nat → Pl} {L H : Nat → Nat}
theorem CT.next (h : CT w lo g n D f q L H) (hb : Below w.heap.size w w') : CT w' lo g n D f q L H :=
  ⟨h.low, Nat.lt_of_lt_of_le h.lt hb.size, fun o => (hb.frozen (p := ⟨g, o, none⟩) h.lt).trans (h.free o), fun j hj => (h.cell j hj).below hb h.lt,
    fun j hj hd => ⟨(h.own j hj hd).1, Nat.le_trans (h.own j hj hd).2.1 hb.size, LOwn.below (h.own j hj hd).2.2 hb (h.own j hj hd).2.1⟩, h.part, h.cap⟩
theorem CT.all {T : TL} (h : CT w lo g T.length D (cd T) q L H) (hd : ∀ j, j < T.length → D j) : TOwn w lo w.heap.size (some ⟨g, 0, none⟩) T := fun _ =>
  ⟨g, 0, rfl, q, L, H, h.low, h.lt, h.free, fun j hj => by rw [Nat.zero_add]; exact h.cell j hj, fun j hj => by have := (h.own j hj (hd j hj)).1; have := h.low; omega, fun j hj => (h.own j hj (hd j hj)).2.1,
    fun j hj => .inl (h.own j hj (hd j hj)).1, fun j hj => (h.own j hj (hd j hj)).2.2, fun i j hi hj hne => h.part i j hi hj (hd i hi) (hd j hj) hne⟩
theorem CT.caps {T : TL} (h : CT w lo g T.length D (cd T) q L H) (hd : ∀ j, j < T.length → D j) : TCapL w (some ⟨g, 0, none⟩) T := fun b off e j hj => by
  injection e with e
  injection e with e1 e2 _
  subst e1 e2
  have hc := h.cell j hj
  have hp := h.cap j hj (hd j hj)
  exact ⟨_, _, _, _, ⟨by rw [Nat.zero_add]; exact hc.c4, by rw [Nat.zero_add]; exact hc.c5⟩, hp.1, hp.2⟩
theorem onlys_set (w : World) (g o : Nat) (u : Value) : Onlys g (g + 1) w (w.setCell ⟨g, o, none⟩ u) :=
  (Onlys.refl g (g + 1) w).setCell (p := ⟨g, o, none⟩) (by simp) (by simp) u
/-- cell k done: what the six cells are is given -/
theorem CT.step {w8 : World} {k : Nat} {c : CD} {P : Pl} {Lk Hk : Nat} (h : CT w lo g n D f q L H) (hD : ∀ j, j < n → D j → H j ≤ Lk) (hk : g < Lk) (hH : Hk ≤ w.heap.size) (hown : LsOwn w Lk Hk c P) (ho : Onlys g (g + 1) w w8)
    (hfr : ∀ o, w8.frozen? ⟨g, o, none⟩ = w.frozen? ⟨g, o, none⟩) (hck : CCells w8 g (k * 6) c P) (hcj : ∀ j, j < n → ¬ j = k → CCells w8 g (j * 6) (f j) (q j)) (hcp : c.hs.length ≤ P.c ∧ c.ws.length ≤ P.c') :
    CT w8 lo g n (fun j => j = k ∨ D j) (fun j => if j = k then c else f j) (fun j => if j = k then P else q j) (fun j => if j = k then Lk else L j) (fun j => if j = k then Hk else H j) := by
  refine ⟨h.low, Nat.lt_of_lt_of_le h.lt (Nat.le_of_eq ho.size.symm), fun o => (hfr o).trans (h.free o), fun j hj => ?_, fun j hj hd => ?_, fun i j hi hj hdi hdj hne => ?_, fun j hj hd => ?_⟩
  · by_cases e : j = k
    · subst e; simpa using hck
    · simp only [if_neg e]; exact hcj j hj e
  · by_cases e : j = k
    · subst e
      simp only [if_true]
      exact ⟨hk, Nat.le_trans hH (Nat.le_of_eq ho.size.symm), LOwn.onlys hown ho (.inr (by omega))⟩
    · simp only [if_neg e]
      have hd' : D j := by rcases hd with hd | hd; exact absurd hd e; exact hd
      have h1 := h.own j hj hd'
      exact ⟨h1.1, Nat.le_trans h1.2.1 (Nat.le_of_eq ho.size.symm), LOwn.onlys h1.2.2 ho (.inr (by omega))⟩
  · by_cases ei : i = k
    · subst ei
      have ej : ¬ j = i := fun e => hne e.symm
      simp only [if_true, if_neg ej]
      exact .inr (hD j hj (by rcases hdj with hd | hd; exact absurd hd ej; exact hd))
    · by_cases ej : j = k
      · subst ej
        simp only [if_true, if_neg ei]
        exact .inl (hD i hi (by rcases hdi with hd | hd; exact absurd hd ei; exact hd))
      · simp only [if_neg ei, if_neg ej]
        exact h.part i j hi hj (by rcases hdi with hd | hd; exact absurd hd ei; exact hd) (by rcases hdj with hd | hd; exact absurd hd ej; exact hd) hne
  · by_cases e : j = k
    · subst e; simpa using hcp
    · simp only [if_neg e]
      exact h.cap j hj (by rcases hd with hd | hd; exact absurd hd e; exact hd)
theorem CT.congr {f' : Nat → CD} {D' : Nat → Prop} (h : CT w lo g n D f q L H) (e : ∀ j, j < n → f j = f' j) (d : ∀ j, j < n → D' j → D j) : CT w lo g n D' f' q L H :=
  ⟨h.low, h.lt, h.free, fun j hj => (e j hj) ▸ h.cell j hj, fun j hj hd => (e j hj) ▸ h.own j hj (d j hj hd), fun i j hi hj hdi hdj => h.part i j hi hj (d i hi hdi) (d j hj hdj), fun j hj hd => (e j hj) ▸ h.cap j hj (d j hj hd)⟩
end
set_option maxHeartbeats 800000 in
set_option maxRecDepth 100000 in
theorem cloneCells_any (b off cap : Nat) (T : TL) (q : Nat → Pl) (w : World) (hn : T.length ≤ 1048576) (hc : ∀ j, j < T.length → CCells w b (off + j * 6) (cd T j) (q j)) :
    Calls Tryz.prog 47 #[.slice (some ⟨b, off, none⟩) T.length cap] w fun e w' => ∃ A' c', e = .returned (.slice A' T.length c') ∧ Below w.heap.size w w' ∧
      (0 < T.length → ∃ g, A' = some ⟨g, 0, none⟩ ∧ w.heap.size ≤ g ∧ g < w'.heap.size ∧ (∀ o, w'.frozen? ⟨g, o, none⟩ = false) ∧ ∀ j, j < T.length → CCells w' g (j * 6) (cd T j) (q j)) := by
  obtain ⟨i0, hi, hzz⟩ := Option.map_eq_some_iff.1 infoCell
  injection hzz with hz0 hz12
  injection hz12 with hz1 hz2
  have hown := World.ownsRow_made (base := w.heap.size) (size := 6) (e := 42) w #[] 0 (Nat.le_refl _) (Nat.zero_le _) rfl
  have hb0 := (Below.refl w.heap.size w).alloc (Nat.le_refl _) (.cells #[] 42)
  have HC := Lib.hid (ccs_cells (fun j hj => (hc j hj).below hb0 (hc j hj).lt))
  have HL := Lib.hid (ccs_len T q T.length)
  have HO := Lib.hid (ccs_one T q T.length)
  have Hi := Lib.hid hi
  have Hz0 := Lib.hid hz0
  have Hz1 := Lib.hid hz1
  have Hz2 := Lib.hid hz2
  have HW := Lib.hid hown
  have hnil := fun w => Lib.run_eql_slice_nil (P := Tryz.prog) w 24 42 (some ⟨b, off, none⟩) T.length cap 0 0 Tryz.underlying24
  clear hi hz0 hz1 hz2 hc hown
  go_enter Tryz.func47, Tryz.ntmps47
  go_wp2_with (at_builtin; refine wpList_append_own _ rfl _ _ 24 rfl w.heap.size 42 i0 (.agg #[.int .i64 0, .int .i64 0, .int .i64 0, .bool false, .slice none 0 0, .slice none 0 0]) 6 80 Tryz.underlying24 Hi.out Hz0.out Hz1.out Hz2.out rfl (by decide) _ _ _ rfl HW.out ⟨b, off, none⟩ T.length cap (ccs T q T.length) rfl HL.out HC.out HO.out ?c3 ?c4 ?c5 ?_)
  case c3 => unfold maxLen; omega
  case c4 => omega
  case c5 => simp
  intro v' w3 hown' hgrow _
  have hb3 := hb0.grown hgrow (by simp) (fun p hp => (HW.out.lt p hp).1)
  have HOW := Lib.hid hown'
  clear hown' hgrow hb0
  go_wp2
  go_ret
  have hown := HOW.out
  rcases hown.2 with ⟨rfl, e⟩ | ⟨g, cp, cur, rfl, hg, hh, hnn, hm, hsz, ht⟩
  · have hz : T.length = 0 := by
      have := hown.1
      rw [e] at this; simp at this; omega
    exact ⟨none, 0, by rw [hz]; rfl, hb3, fun h => absurd h (by omega)⟩
  · refine ⟨_, cp, rfl, hb3, fun _ => ⟨g, rfl, hg, (Array.getElem?_eq_some_iff.1 hh).1, fun o => hown.frozenAt o, fun j hj => ?_⟩⟩
    have e : ∀ i, i < 6 → w3.cell? ⟨g, j * 6 + i, none⟩ = (cvs (cd T j) (q j))[i]? := fun i hi => by
      rw [hown.cellAt _ (by omega), ccs_get T q hj hi]
    exact ⟨e 0 (by omega), e 1 (by omega), e 2 (by omega), e 3 (by omega), e 4 (by omega), e 5 (by omega)⟩
/-- a table of the call's own making, to be written -/
def RetTO (w : World) (T : TL) (F : Value → Value) (e : Ending) (w' : World) : Prop := ∃ A c, e = .returned (F (.agg #[.slice A T.length c])) ∧ TOwn w' w.heap.size w'.heap.size A T ∧ Below w.heap.size w w'
/-- .. its lists with enough room -/
def RetTOC (w : World) (T : TL) (F : Value → Value) (e : Ending) (w' : World) : Prop := ∃ A c, e = .returned (F (.agg #[.slice A T.length c])) ∧ TOwn w' w.heap.size w'.heap.size A T ∧ Below w.heap.size w w' ∧ TCapL w' A T
theorem RetTOC.less {w w' : World} {T : TL} {F : Value → Value} {e : Ending} (h : RetTOC w T F e w') : RetTO w T F e w' := by
  obtain ⟨A, c, h1, h2, h3, _⟩ := h
  exact ⟨A, c, h1, h2, h3⟩
theorem cc_two {w : World} {g k : Nat} {c : CD} {p P : Pl} {m : HL × HL} (h : CCells w g (k * 6) c p) (hm : m = c.p) :
    CCells ((w.setCell ⟨g, k * 6 + 4, none⟩ (.slice P.G m.1.length P.c)).setCell ⟨g, k * 6 + 5, none⟩ (.slice P.G' m.2.length P.c')) g (k * 6) c P := by
  subst hm
  exact ⟨(cc_other (j := 0) (by omega)).trans ((cc_other (j := 0) (by omega)).trans h.c0), (cc_other (by omega)).trans ((cc_other (by omega)).trans h.c1), (cc_other (by omega)).trans ((cc_other (by omega)).trans h.c2),
    (cc_other (by omega)).trans ((cc_other (by omega)).trans h.c3), (cc_other (by omega)).trans (cc_same h.c4), cc_same ((cc_other (by omega)).trans h.c5)⟩
set_option maxHeartbeats 1600000 in
set_option maxRecDepth 100000 in
theorem copiedTableC_any (b off c B : Nat) (T : TL) (w : World) (hs : TFit T) (hB : B ≤ w.heap.size) (h : TAt w B (some ⟨b, off, none⟩) T) :
    Calls Tryz.prog 25 #[.agg #[.slice (some ⟨b, off, none⟩) T.length c]] w (RetTOC w T fun v => v) := by
  have hlen := hs.len
  have hq : ∃ q : Nat → Pl, ∀ j, j < T.length → CCells w b (off + j * 6) (cd T j) (q j) ∧ LsAt w B (cd T j) (q j) := by
    by_cases hn : 0 < T.length
    · obtain ⟨b', off', e, _, q, hc⟩ := h hn
      injection e with e
      injection e with e1 e2 _
      subst e1 e2
      exact ⟨q, hc⟩
    · exact ⟨fun _ => ⟨none, 0, none, 0⟩, fun j hj => absurd hj (by omega)⟩
  obtain ⟨q0, hc⟩ := hq
  clear h
  go_enter Tryz.func25, Tryz.ntmps25
  go_wp2_with fail
  have bw := ((Below.refl w.heap.size w).alloc (Nat.le_refl _) (.cells #[.slice (some ⟨b, off, none⟩) T.length c] 26)).alloc (by simp) (.cells #[.slice none 0 0] 26)
  have R := Box.new (w := w.alloc (.cells #[.slice (some ⟨b, off, none⟩) T.length c] 26)) (b := w.heap.size + 1) (c := #[.slice none 0 0]) (t := 26) (by simp)
  have hs0 : w.heap.size + 2 ≤ ((w.alloc (.cells #[.slice (some ⟨b, off, none⟩) T.length c] 26)).alloc (.cells #[.slice none 0 0] 26)).heap.size := by simp
  generalize (w.alloc (.cells #[.slice (some ⟨b, off, none⟩) T.length c] 26)).alloc (.cells #[.slice none 0 0] 26) = w0 at bw R hs0 ⊢
  refine (cloneCells_any b off c T q0 _ hlen (fun j hj => (hc j hj).1.below bw (hc j hj).1.lt)).mono ?_; rintro o w1 ⟨A1, c1, rfl, hb, hcl⟩
  have R := R.next hb
  have hbw := bw.trans (hb.mono bw.size)
  have hs1 : w.heap.size + 2 ≤ w1.heap.size := Nat.le_trans hs0 hb.size
  have HL0 := Lib.hid (fun j (hj : j < T.length) => (hc j hj).2)
  clear hc hb bw
  by_cases hn : 0 < T.length
  · obtain ⟨g, rfl, hg, hg1, hfr, hcc⟩ := hcl hn
    have ct : CT w1 (w.heap.size + 2) g T.length (fun j => j < 0) (cd T) q0 (fun _ => 0) (fun _ => 0) := ⟨by omega, hg1, hfr, hcc, fun j _ hd => absurd hd (by omega), fun i j _ _ hd => absurd hd (by omega), fun j _ hd => absurd hd (by omega)⟩
    clear hcl hfr hcc
    go_wp2_with fail
    go_loopw [10] (fun i wr => ∃ (k : Nat) (q : Nat → Pl) (L H : Nat → Nat), k ≤ T.length ∧ i = .int .i64 k ∧ CT wr (w.heap.size + 2) g T.length (fun j => j < k) (cd T) q L H ∧ (∀ j, k ≤ j → q j = q0 j) ∧ Box wr (w.heap.size + 1) [.slice none 0 0] ∧ Below w.heap.size w wr) (fun i _ => T.length - (intOf i).toNat)
    case atStart => exact ⟨0, q0, _, _, Nat.zero_le _, rfl, ct, fun _ _ => rfl, R, hbw⟩
    case round =>
      clear ct R hbw
      obtain ⟨k, q, L, H, hk, rfl, ct, hq, R, hb⟩ := hrel
      by_cases hkn : k < T.length
      · have hkz : (k : Int) < T.length := by omega
        have hlk := hs.at_ hkn
        have hcc := ct.cell k hkn
        have c4 := hcc.c4
        have c5 := hcc.c5
        have cf := ct.free
        have cl := ct.lt
        have i1 : LAt wr B (q k).G (q k).G' ((cd T k).hs, (cd T k).ws) := by
          have := HL0.out k hkn
          rw [← hq k (Nat.le_refl _)] at this
          exact LAt.keep this hb hB
        have HQ := Lib.hid hq
        clear hcc hq
        go_wp2_with fail
        refine (implCopy_any _ _ _ _ B (cd T k).hs (cd T k).ws _ hlk.1 hlk.2 i1).mono ?_; rintro o w5 hret
        obtain ⟨G1, d1, G2, d2, rfl, hcp, hown, hb5⟩ := retOwn_cap hret
        have HCP := Lib.hid hcp
        clear hcp
        have ct5 := ct.next hb5
        have R := R.next hb5
        have b5 := hb.trans (hb5.mono hb.size)
        have cc5 := ct5.cell k hkn
        have c4 := cc5.c4
        have c5 := cc5.c5
        have cf := ct5.free
        have cl5 := ct5.lt
        have hgl := ct5.low
        have hst := CT.step (k := k) (c := cd T k) (P := ⟨G1, d1, G2, d2⟩) (Lk := wr.heap.size) (Hk := w5.heap.size) ct5 (fun j hj hd => (ct.own j hj hd).2.1) cl (Nat.le_refl _) hown
          (((Onlys.refl g (g + 1) w5).setCell (p := ⟨g, k * 6 + 4, none⟩) (by simp) (by simp) (.slice G1 (cd T k).hs.length d1)).setCell (p := ⟨g, k * 6 + 5, none⟩) (by simp) (by simp) (.slice G2 (cd T k).ws.length d2))
          (fun o => by rw [World.frozen?_setCell, World.frozen?_setCell]) (cc_two (P := ⟨G1, d1, G2, d2⟩) (m := ((cd T k).hs, (cd T k).ws)) cc5 rfl)
          (fun j hj hne => ((ct5.cell j hj).far _ (fun i hi e' => by injection e' with _ e' _; omega)).far _ (fun i hi e' => by injection e' with _ e' _; omega)) HCP.out
        have HS := Lib.hid (hst.congr (f' := cd T) (D' := fun j => j < k + 1) (fun j _ => by
          by_cases e : j = k
          · simp [e]
          · simp [e]) (fun j _ hj => by omega))
        have HR := Lib.hid ((R.far (a := ⟨g, k * 6 + 4, none⟩) (.slice G1 (cd T k).hs.length d1) (show ¬ g = w.heap.size + 1 by omega)).far (a := ⟨g, k * 6 + 5, none⟩) (.slice G2 (cd T k).ws.length d2) (show ¬ g = w.heap.size + 1 by omega))
        have HB := Lib.hid ((b5.setCell (p := ⟨g, k * 6 + 4, none⟩) (show w.heap.size ≤ g by omega) (.slice G1 (cd T k).hs.length d1)).setCell (p := ⟨g, k * 6 + 5, none⟩) (show w.heap.size ≤ g by omega) (.slice G2 (cd T k).ws.length d2))
        have HQ2 := Lib.hid (show ∀ j, k + 1 ≤ j → (if j = k then (⟨G1, d1, G2, d2⟩ : Pl) else q j) = q0 j from fun j hj => by rw [if_neg (by omega)]; exact HQ.out j (by omega))
        clear ct ct5 R hb b5 cc5 hst i1 hown hret hb5
        go_wp2
        exact ⟨⟨k + 1, _, _, _, by omega, by go_num, HS.out, HQ2.out, HR.out, HB.out⟩, by simp [intOf]; omega⟩
      · obtain rfl : k = T.length := by omega
        obtain ⟨r0, rf⟩ := R.c1
        have Rl := R.lt
        have hgl := ct.low
        have HC := Lib.hid ((ct.caps (fun j hj => hj)).far (a := ⟨w.heap.size + 1, 0, none⟩) (.slice (some ⟨g, 0, none⟩) T.length c1) (show ¬ w.heap.size + 1 = g by omega))
        have ct8 := (ct.next ((Below.refl wr.heap.size wr))).all (fun j hj => hj)
        have HO := Lib.hid ((ct8.onlys (onlys_set wr (w.heap.size + 1) 0 (.slice (some ⟨g, 0, none⟩) T.length c1)) (.inr (by omega))).more (lo' := w.heap.size) (B' := (wr.setCell ⟨w.heap.size + 1, 0, none⟩ (.slice (some ⟨g, 0, none⟩) T.length c1)).heap.size) (by omega) (by simp))
        have HB := Lib.hid (hb.setCell (p := ⟨w.heap.size + 1, 0, none⟩) (by simp) (.slice (some ⟨g, 0, none⟩) T.length c1))
        clear ct ct8 R hq hb
        go_wp2
        exact bodyPost_ret (v := .agg #[.slice (some ⟨g, 0, none⟩) T.length c1]) (by simp [results, Tryz.results25, go_sem, r0]) rfl ⟨_, c1, rfl, HO.out, HB.out, HC.out⟩
  · have hz : T.length = 0 := by omega
    obtain ⟨r0, rf⟩ := R.c1
    have Rl := R.lt
    have HB := Lib.hid (hbw.setCell (p := ⟨w.heap.size + 1, 0, none⟩) (by simp) (.slice A1 T.length c1))
    have hz2 : ¬ (0 : Int) < (T.length : Int) := by omega
    have HN := Lib.hid hn
    clear hcl R hbw hz hn
    go_wp2_with fail
    go_loopw [10] (fun i wr => i = .int .i64 0 ∧ wr = w1) (fun _ _ => 0)
    case atStart => exact ⟨rfl, rfl⟩
    case round =>
      obtain ⟨rfl, rfl⟩ := hrel
      go_wp2
      exact bodyPost_ret (v := .agg #[.slice A1 T.length c1]) (by simp [results, Tryz.results25, go_sem, r0]) rfl ⟨A1, c1, rfl, fun h => absurd h HN.out, HB.out, fun _ _ _ j hj => absurd hj (by have := HN.out; omega)⟩
theorem copiedTable_any (b off c B : Nat) (T : TL) (w : World) (hs : TFit T) (hB : B ≤ w.heap.size) (h : TAt w B (some ⟨b, off, none⟩) T) :
    Calls Tryz.prog 25 #[.agg #[.slice (some ⟨b, off, none⟩) T.length c]] w (RetTO w T fun v => v) :=
  (copiedTableC_any b off c B T w hs hB h).mono fun _ _ h => h.less
end Go.Proofs.YtcndmdglnohbcaaGreatDoor
