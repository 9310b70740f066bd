/- FnExactLeaveAll: for every argument the program's function answers as the model's, its answer owns its memory, and the argument reads as before. No condition. -/
import Derived.Test.YtaninlnobmjbmaaGreatUb
import Derived.Test.YtaninlnobmjbmaaGreatTq
import Derived.Test.YtaninlnobmjbmaaGreatTv
import Derived.Test.YtaninlnobmjbmaaGreatLv5
import Derived.Deep.RegionHeld3
import Derived.Test.YtaninlnobmjbmaaGreatLs2
import Derived.Test.YtaninlnobmjbmaaGreatTt
import Derived.Test.YtaninlnobmjbmaaGreatLi3
import Derived.Test.YtaninlnobmjbmaaGreatLq
import Derived.Test.YtaninlnobmjbmaaGreatTw
import Derived.Test.YtaninlnobmjbmaaGreatTk
import Derived.Deep.RegionLaw
namespace Go.Proofs.YtaninlnobmjbmaaGreat
open Go.RowKit
open Go.Maps (Keyed)


/-- a list of holds in a block from lo on, apart from block g -/
def HG (w : World) (lo g : Nat) (A : Option Addr) (l : HL) : Prop :=
  0 < l.length → ∃ b off, A = some ⟨b, off, none⟩ ∧ lo ≤ b ∧ b < w.heap.size ∧ ¬ b = g ∧ ∀ j, j < l.length → w.cell? ⟨b, off + j * 2, none⟩ = some (.int .i64 (hT l j)) ∧ w.cell? ⟨b, off + j * 2 + 1, none⟩ = some (.bool (hW l j))
section
variable {w w' : World} {lo g n : Nat} {A : Option Addr} {l : HL} {f : Nat → CD} {q : Nat → Pl}
theorem HG.next (h : HG w lo g A l) (hb : Below w.heap.size w w') : HG w' lo g A l := fun hn => by
  obtain ⟨b, off, e, h0, h1, h2, hc⟩ := h hn
  exact ⟨b, off, e, h0, Nat.lt_of_lt_of_le h1 hb.size, h2, fun j hj => ⟨(hb.cell (p := ⟨b, _, none⟩) h1).trans (hc j hj).1, (hb.cell (p := ⟨b, _, none⟩) h1).trans (hc j hj).2⟩⟩
theorem HG.far {a : Addr} (h : HG w lo g A l) (u : Value) (ha : a.block < lo ∨ a.block = g) : HG (w.setCell a u) lo g A l := fun hn => by
  obtain ⟨b, off, e, h0, h1, h2, hc⟩ := h hn
  have hne : ∀ p : Nat, ¬ a = ⟨b, p, none⟩ := fun p e => by
    have : a.block = b := by rw [e]
    omega
  exact ⟨b, off, e, h0, by simpa [World.setCell] using h1, h2, fun j hj => ⟨by rw [World.cell?_setCell_other _ _ _ _ (hne _)]; exact (hc j hj).1, by rw [World.cell?_setCell_other _ _ _ _ (hne _)]; exact (hc j hj).2⟩⟩
theorem HG.at_ (h : HG w lo g A l) : HAt w w.heap.size A l := fun hn => by
  obtain ⟨b, off, e, _, h1, _, hc⟩ := h hn
  exact ⟨b, off, e, h1, hc⟩
theorem HG.of_own {lo' : Nat} (h : HOwn w lo' w.heap.size A l) (hlo : g < lo') (hl : lo ≤ lo') : HG w lo g A l := fun hn => by
  obtain ⟨b, off, e, h1, h2, hc⟩ := h hn
  exact ⟨b, off, e, by omega, h2, by omega, fun j hj => (hc j hj).1⟩
/-- a table's cells in block g, its lists apart from it -/
structure TG (w : World) (lo g n : Nat) (f : Nat → CD) (q : Nat → Pl) : Prop where
  low : lo ≤ g
  lt : g < w.heap.size
  free : ∀ o, w.frozen? ⟨g, o, none⟩ = false
  cell : ∀ j, j < n → CCells w g (j * 6) (f j) (q j)
  hs : ∀ j, j < n → HG w lo g (q j).G (f j).hs
  ws : ∀ j, j < n → HG w lo g (q j).G' (f j).ws
theorem TG.next (h : TG w lo g n f q) (hb : Below w.heap.size w w') : TG w' lo g n f q :=
  ⟨h.low, Nat.lt_of_lt_of_le h.lt hb.size, fun o => (hb.frozen (p := ⟨g, o, none⟩) h.lt).trans (h.free o), fun j hj => (h.cell j hj).below hb h.lt, fun j hj => (h.hs j hj).next hb, fun j hj => (h.ws j hj).next hb⟩
theorem TG.at_ {T : TL} (h : TG w lo g T.length (cd T) q) : TAt w w.heap.size (some ⟨g, 0, none⟩) T := fun _ =>
  ⟨g, 0, rfl, h.lt, q, fun j hj => ⟨by rw [Nat.zero_add]; exact h.cell j hj, (h.hs j hj).at_, (h.ws j hj).at_⟩⟩
theorem TG.congr {f' : Nat → CD} (h : TG w lo g n f q) (e : ∀ j, j < n → f j = f' j) : TG w lo g n f' q :=
  ⟨h.low, h.lt, h.free, fun j hj => (e j hj) ▸ h.cell j hj, fun j hj => (e j hj) ▸ h.hs j hj, fun j hj => (e j hj) ▸ h.ws j hj⟩
theorem TG.far {a : Addr} (h : TG w lo g n f q) (u : Value) (ha : a.block < lo) : TG (w.setCell a u) lo g n f q :=
  ⟨h.low, by simpa [World.setCell] using h.lt, fun o => by rw [World.frozen?_setCell]; exact h.free o, fun j hj => (h.cell j hj).far u (fun i _ e => absurd (show a.block = g by rw [e]) (by have := h.low; omega)), fun j hj => (h.hs j hj).far u (.inl ha), fun j hj => (h.ws j hj).far u (.inl ha)⟩
theorem CCells.lock {b o : Nat} {c : CD} {p P : Pl} (h : CCells w b o c p) (m : HL × HL) :
    CCells ((w.setCell ⟨b, o + 4, none⟩ (.slice P.G m.1.length P.c)).setCell ⟨b, o + 5, none⟩ (.slice P.G' m.2.length P.c')) b o ⟨c.v, c.e, c.s, c.h, m.1, m.2⟩ P :=
  ⟨(cc_other (j := 0) (by omega)).trans ((cc_other (j := 0) (by omega)).trans h.c0), (cc_other (by omega)).trans ((cc_other (by omega)).trans h.c1), (cc_other (by omega)).trans ((cc_other (by omega)).trans h.c2),
    (cc_other (by omega)).trans ((cc_other (by omega)).trans h.c3), (cc_other (by omega)).trans (cc_same h.c4), cc_same ((cc_other (by omega)).trans h.c5)⟩
/-- a new lock in cell k -/
theorem TG.lock (h : TG w lo g n f q) {k : Nat} (P : Pl) {m : HL × HL} (h1 : HG w lo g P.G m.1) (h2 : HG w lo g P.G' m.2) :
    TG ((w.setCell ⟨g, k * 6 + 4, none⟩ (.slice P.G m.1.length P.c)).setCell ⟨g, k * 6 + 5, none⟩ (.slice P.G' m.2.length P.c')) lo g n (fun j => if j = k then ⟨(f k).v, (f k).e, (f k).s, (f k).h, m.1, m.2⟩ else f j) (fun j => if j = k then P else q j) := by
  refine ⟨h.low, by simpa [World.setCell] using h.lt, fun o => by rw [World.frozen?_setCell, World.frozen?_setCell]; exact h.free o, fun j hj => ?_, fun j hj => ?_, fun j hj => ?_⟩
  · by_cases e : j = k
    · subst e
      simp only [if_true]
      exact (h.cell j hj).lock m
    · simp only [if_neg e]
      exact ((h.cell j hj).far _ (fun i hi e' => by injection e' with _ e' _; omega)).far _ (fun i hi e' => by injection e' with _ e' _; omega)
  · by_cases e : j = k
    · subst e; simp only [if_true]; exact (h1.far _ (.inr rfl)).far _ (.inr rfl)
    · simp only [if_neg e]; exact ((h.hs j hj).far _ (.inr rfl)).far _ (.inr rfl)
  · by_cases e : j = k
    · subst e; simp only [if_true]; exact (h2.far _ (.inr rfl)).far _ (.inr rfl)
    · simp only [if_neg e]; exact ((h.ws j hj).far _ (.inr rfl)).far _ (.inr rfl)
theorem TG.held (h : TG w lo g n f q) {k : Nat} (z : Bool) :
    TG (w.setCell ⟨g, k * 6 + 3, none⟩ (.bool z)) lo g n (fun j => if j = k then ⟨(f k).v, (f k).e, (f k).s, z, (f k).hs, (f k).ws⟩ else f j) q := by
  refine ⟨h.low, by simpa [World.setCell] using h.lt, fun o => by rw [World.frozen?_setCell]; exact h.free o, fun j hj => ?_, fun j hj => ?_, fun j hj => ?_⟩
  · by_cases e : j = k
    · subst e
      simp only [if_true]
      exact (h.cell j hj).seth z
    · simp only [if_neg e]
      exact (h.cell j hj).far _ (fun i hi e' => by injection e' with _ e' _; omega)
  · by_cases e : j = k
    · subst e; simp only [if_true]; exact (h.hs j hj).far _ (.inr rfl)
    · simp only [if_neg e]; exact (h.hs j hj).far _ (.inr rfl)
  · by_cases e : j = k
    · subst e; simp only [if_true]; exact (h.ws j hj).far _ (.inr rfl)
    · simp only [if_neg e]; exact (h.ws j hj).far _ (.inr rfl)
end
/-- the copy of a table that is not empty -/
theorem CopyTo.tg {wr : World} {lo : Nat} {T : TL} {v : Value} {q : Nat → Pl} (h : CopyTo wr lo T T.length v q) (hn : 0 < T.length) : ∃ g cap, v = .slice (some ⟨g, 0, none⟩) T.length cap ∧ TG wr lo g T.length (cd T) q := by
  rcases h.row.2 with ⟨rfl, e⟩ | ⟨g, cap, cur, rfl, hg, hh, hnn, hm, hs, ht⟩
  · have := h.row.1
    rw [e] at this; simp at this; omega
  · have hlt : g < wr.heap.size := (Array.getElem?_eq_some_iff.1 hh).1
    have hG : ∀ {A : Option Addr} {l : HL} {c : Nat}, OwnH wr lo (.slice A l.length c) l → HG wr lo g A l := fun {A l c} ho hl => by
      obtain ⟨A', cap', e, h1⟩ := ho.own
      injection e with e1 _ _
      subst e1
      obtain ⟨b, off, e, h2, h3, hc⟩ := h1 hl
      refine ⟨b, off, e, h2, h3, fun e' => ?_, fun j hj => (hc j hj).1⟩
      exact ownsRow_ne (k := b) ho h.row (by decide) (by rw [e]; rfl) (by rw [e']; rfl)
    refine ⟨g, cap, rfl, hg, hlt, fun o => ?_, fun j hj => ?_, fun j hj => hG (h.own j hj).1, fun j hj => hG (h.own j hj).2⟩
    · simp [World.frozen?, hh]
    · have e : ∀ i, i < 6 → wr.cell? ⟨g, j * 6 + i, none⟩ = (cvs (cd T j) (q j))[i]? := fun i hi => by
        rw [h.row.cellAt _ (by omega), ccs_get T q hj hi]
      exact ⟨e 0 (by omega), e 1 (by omega), e 2 (by omega), e 3 (by omega), e 4 (by omega), e 5 (by omega)⟩
/-- cell k's lock renewed: the table behind it -/
theorem TG.put {w : World} {lo g : Nat} {T : TL} {q : Nat → Pl} {k : Nat} {m : HL × HL} (h : TG w lo g T.length (fun j => if j = k then ⟨(cd T k).v, (cd T k).e, (cd T k).s, wrote m.1, m.1, m.2⟩ else cd T j) q) :
    TG w lo g (putT T k (lockC (cd T k) m)).length (cd (putT T k (lockC (cd T k) m))) q := by
  rw [putT_len]
  exact h.congr fun j hj => by rw [putT_at _ _ _ _ hj]; rfl
theorem HG.less {w : World} {lo lo' g : Nat} {A : Option Addr} {l : HL} (h : HG w lo g A l) (hl : lo' ≤ lo) : HG w lo' g A l := fun hn => by
  obtain ⟨b, off, e, h0, h1⟩ := h hn
  exact ⟨b, off, e, by omega, h1⟩
theorem TG.less {w : World} {lo lo' g n : Nat} {f : Nat → CD} {q : Nat → Pl} (h : TG w lo g n f q) (hl : lo' ≤ lo) : TG w lo' g n f q :=
  ⟨by have := h.low; omega, h.lt, h.free, h.cell, fun j hj => (h.hs j hj).less hl, fun j hj => (h.ws j hj).less hl⟩
/-- a table in blocks from lo on -/
def TLo (w : World) (lo : Nat) (A : Option Addr) (T : TL) : Prop := 0 < T.length → ∃ g q, A = some ⟨g, 0, none⟩ ∧ TG w lo g T.length (cd T) q
section
variable {w w' : World} {lo lo' : Nat} {A : Option Addr} {T : TL}
theorem TLo.at_ (h : TLo w lo A T) : TAt w w.heap.size A T := fun hn => by
  obtain ⟨g, q, rfl, h1⟩ := h hn
  exact h1.at_ hn
theorem TLo.next (h : TLo w lo A T) (hb : Below w.heap.size w w') : TLo w' lo A T := fun hn => by
  obtain ⟨g, q, e, h1⟩ := h hn
  exact ⟨g, q, e, h1.next hb⟩
theorem TLo.far {a : Addr} (h : TLo w lo A T) (u : Value) (ha : a.block < lo) : TLo (w.setCell a u) lo A T := fun hn => by
  obtain ⟨g, q, e, h1⟩ := h hn
  exact ⟨g, q, e, h1.far u ha⟩
theorem TLo.less (h : TLo w lo A T) (hl : lo' ≤ lo) : TLo w lo' A T := fun hn => by
  obtain ⟨g, q, e, h1⟩ := h hn
  exact ⟨g, q, e, h1.less hl⟩
end
theorem TG.tlo {w : World} {lo g : Nat} {T : TL} {q : Nat → Pl} (h : TG w lo g T.length (cd T) q) : TLo w lo (some ⟨g, 0, none⟩) T := fun _ => ⟨g, q, rfl, h⟩
theorem CopyTo.tlo {wr : World} {lo : Nat} {T : TL} {A : Option Addr} {c : Nat} {q : Nat → Pl} (h : CopyTo wr lo T T.length (.slice A T.length c) q) : TLo wr lo A T := fun hn => by
  obtain ⟨g, cap, e, h1⟩ := h.tg hn
  injection e with e _ _
  exact ⟨g, q, e, h1⟩

/-- a table of the call's own making, to be read -/
def RetTA (w : World) (T : TL) (F : Value → Value) (e : Ending) (w' : World) : Prop := ∃ A c, e = .returned (F (.agg #[.slice A T.length c])) ∧ TLo w' w.heap.size A T ∧ Below w.heap.size w w'


theorem vc_not {T : TL} {key tid : Int} (h : thereB T key = false) : vcB T key tid = false ∧ vcT T key tid = T := by
  have h1 : vcB T key tid = false := by simp [vcB, h]
  exact ⟨h1, by simp [vcT, h1]⟩
theorem vc_yes {T : TL} {k : Nat} {tid : Int} (h : thereB T (k : Int) = true) : vcB T k tid = leaveB (cd T k).hs (cd T k).ws tid := by
  simp only [vcB, h, Bool.true_and]; rfl
theorem vcT_bad {T : TL} {key tid : Int} (h : vcB T key tid = false) : vcT T key tid = T := by simp [vcT, h]
theorem vcT_put {T : TL} {k : Nat} {tid : Int} (h : vcB T k tid = true) : vcT T k tid = putT T k (lockC (cd T k) (leaveL (cd T k).hs (cd T k).ws tid)) := by
  simp only [vcT, h, if_true]; rfl
set_option maxHeartbeats 1600000 in
set_option maxRecDepth 100000 in
theorem specLeaveCell_any (A : Option Addr) (c B : Nat) (T : TL) (key tid : Int) (w : World) (hs : TFit T) (hB : B ≤ w.heap.size) (h : TAt w B A T) :
    Calls Tryz.prog 20 #[.agg #[.slice A T.length c], .int .i64 key, .int .i64 tid] w (RetTA w (vcT T key tid) fun v => .tuple #[v, .bool (vcB T key tid)]) := by
  have hlen := hs.len
  go_enter Tryz.func20, Tryz.ntmps20
  go_wp2_with fail
  have b := ((Below.refl w.heap.size w).alloc (Nat.le_refl _) (.cells #[.slice A T.length c] 28)).alloc (by simp) (.cells #[.slice none 0 0] 28)
  have X := (Box.new (w := w) (c := #[.slice A T.length c]) (t := 28) rfl).alloc (.cells #[.slice none 0 0] 28)
  have R := Box.new (w := w.alloc (.cells #[.slice A T.length c] 28)) (b := w.heap.size + 1) (c := #[.slice none 0 0]) (t := 28) (by simp)
  have hs0 : w.heap.size + 2 ≤ ((w.alloc (.cells #[.slice A T.length c] 28)).alloc (.cells #[.slice none 0 0] 28)).heap.size := by simp
  generalize (w.alloc (.cells #[.slice A T.length c] 28)).alloc (.cells #[.slice none 0 0] 28) = w0 at b X R hs0 ⊢
  refine (l05Copy_any A c B T _ hs (Nat.le_trans hB b.size) (h.keep b hB)).mono ?_; rintro o w1 ⟨v, q, rfl, hcp, hb⟩
  have hcp := hcp.less hs0
  have X := X.next hb
  have R := R.next hb
  have b := b.trans (hb.mono b.size)
  have hs1 : w.heap.size + 2 ≤ w1.heap.size := Nat.le_trans hs0 hb.size
  obtain ⟨A2, c2, rfl, hA2⟩ := hcp.tab
  obtain ⟨x0, xf⟩ := X.c1
  have Xl := X.lt
  clear hb hs0 xf
  go_wp2_with fail
  have HC1 := Lib.hid hcp
  have hA := (Below.refl w1.heap.size w1).alloc (Nat.le_refl _) (.cells #[.slice A2 T.length c2] 28)
  have U := Box.new (w := w1) (c := #[.slice A2 T.length c2]) (t := 28) rfl
  have X := X.next hA
  have R := R.next hA
  have hcp := hcp.next hA
  have b := b.trans (hA.mono b.size)
  have hlu : w.heap.size + 2 ≤ w1.heap.size := hs1
  have hs2 : w1.heap.size < (w1.alloc (.cells #[.slice A2 T.length c2] 28)).heap.size := by simp
  clear x0 Xl hA2
  generalize w1.alloc (.cells #[.slice A2 T.length c2] 28) = w2 at X R U b hcp hs2 hA ⊢
  refine (specThere_any A c B T key _ hs (Nat.le_trans hB b.size) (h.keep b hB)).mono ?_; rintro o w3 ⟨rfl, hb⟩
  have X := X.next hb
  have R := R.next hb
  have U := U.next hb
  have hcp := hcp.next hb
  have b := b.trans (hb.mono b.size)
  have h13 := hA.trans (hb.mono hA.size)
  have hs3 : w1.heap.size < w3.heap.size := Nat.lt_of_lt_of_le hs2 hb.size
  clear hb hs2 hA
  cases hT : thereB T key with
  | false =>
    have HE := Lib.hid (vc_not (tid := tid) hT)
    obtain ⟨y0, yf⟩ := U.c1
    obtain ⟨r0, rf⟩ := R.c1
    have Rl := R.lt
    have Ul := U.lt
    have hb8 := b.setCell (p := ⟨w.heap.size + 1, 0, none⟩) (by simp) (.slice A2 T.length c2)
    have hcp := hcp.far (a := ⟨w.heap.size + 1, 0, none⟩) (.slice A2 T.length c2) (by simp)
    have HA := Lib.hid (hcp.tlo.less (lo' := w.heap.size) (by omega))
    have HB8 := Lib.hid hb8
    clear hT hcp yf hb8
    go_wp2
    exact bodyPost_ret (v := .tuple #[.agg #[.slice A2 T.length c2], .bool false]) (by simp [results, Tryz.results20, go_sem, r0]) rfl (by
      rw [HE.out.1, HE.out.2]
      exact ⟨A2, c2, rfl, HA.out, HB8.out⟩)
  | true =>
    obtain ⟨hto, hk0, hk1⟩ := there_iff.1 hT
    obtain ⟨k, rfl⟩ := Int.eq_ofNat_of_zero_le hk0
    have hkn : k < T.length := by simpa using hk1
    have hkz : (k : Int) < T.length := by omega
    have hlk := hs.at_ hkn
    obtain ⟨g, cap, e3, htg⟩ := HC1.out.tg (by omega)
    injection e3 with e3 _ e4
    subst e3 e4
    have hg0 := htg.lt
    have htg := htg.next h13
    obtain ⟨bb, off, rfl, hbB, qa, hc⟩ := h (by omega)
    obtain ⟨a0, a1, a2, a3, a4, a5⟩ := (hc k hkn).1.below b (show bb < w.heap.size by omega)
    have i1 : LAt w3 B (qa k).G (qa k).G' ((cd T k).hs, (cd T k).ws) := LAt.keep (hc k hkn).2 b hB
    obtain ⟨x0, xf⟩ := X.c1
    have Xl := X.lt
    have HCo := Lib.hid (vc_yes (tid := tid) hT)
    have HOk := Lib.hid (leave_ok (hs := (cd T k).hs) (ws := (cd T k).ws) tid (tabOk_lockOk hto hkn))
    clear hcp h hc hk1 hk0 xf hT hto
    go_wp2_with fail
    refine (specLeave_any _ _ _ _ B (cd T k).hs (cd T k).ws tid _ hlk.1 hlk.2 i1).mono ?_; rintro o w4 ⟨G1, d1, G2, d2, rfl, hown, hb⟩
    have X := X.next hb
    have R := R.next hb
    have U := U.next hb
    have hg1 : HG w4 (w.heap.size + 2) g G1 (leaveL (cd T k).hs (cd T k).ws tid).1 := HG.of_own hown.1 htg.lt (by omega)
    have hg2 : HG w4 (w.heap.size + 2) g G2 (leaveL (cd T k).hs (cd T k).ws tid).2 := HG.of_own hown.2.1 htg.lt (by omega)
    have htg := htg.next hb
    have b := b.trans (hb.mono b.size)
    have hs4 : w1.heap.size < w4.heap.size := Nat.lt_of_lt_of_le hs3 hb.size
    clear a0 a1 a2 a3 a4 a5 i1 x0 Xl hb hown hs3
    have HPut := Lib.hid (fun h => vcT_put (T := T) (k := k) (tid := tid) h)
    have HBad := Lib.hid (fun h => vcT_bad (T := T) (key := k) (tid := tid) h)
    rw [HCo.out] at HPut HBad
    generalize leaveB (cd T k).hs (cd T k).ws tid = code at HPut HBad HCo ⊢
    generalize leaveL (cd T k).hs (cd T k).ws tid = m at hg1 hg2 HOk HPut ⊢
    have hA := (Below.refl w4.heap.size w4).alloc (Nat.le_refl _) (.cells #[.slice G1 m.1.length d1, .slice G2 m.2.length d2] 109)
    have L := Box.new (w := w4) (c := #[.slice G1 m.1.length d1, .slice G2 m.2.length d2]) (t := 109) rfl
    have R := R.next hA
    have U := U.next hA
    have htg := htg.next hA
    have hg1 := hg1.next hA
    have hg2 := hg2.next hA
    have b := b.trans (hA.mono b.size)
    clear X hA
    go_upto_region 5 with (fail)
    generalize w4.alloc (.cells #[.slice G1 m.1.length d1, .slice G2 m.2.length d2] 109) = w5 at L R U htg hg1 hg2 b ⊢
    obtain ⟨y0, yf⟩ := U.c1
    obtain ⟨r0, rf⟩ := R.c1
    have Rl := R.lt
    have Ul := U.lt
    cases code with
    | false =>
      have HE := Lib.hid (HBad.out rfl)
      have hb8 := b.setCell (p := ⟨w.heap.size + 1, 0, none⟩) (by simp) (.slice (some ⟨g, 0, none⟩) T.length c2)
      have HA := Lib.hid ((htg.far (a := ⟨w.heap.size + 1, 0, none⟩) (.slice (some ⟨g, 0, none⟩) T.length c2) (by simp)).tlo.less (lo' := w.heap.size) (by omega))
      have HB8 := Lib.hid hb8
      clear htg hg1 hg2 L hb8 yf R U b
      go_wp2
      exact bodyPost_ret (v := .tuple #[.agg #[.slice (some ⟨g, 0, none⟩) T.length c2], .bool false]) (by simp [results, Tryz.results20, go_sem, r0]) rfl (by
        rw [HE.out, HCo.out]
        exact ⟨_, c2, rfl, HA.out, HB8.out⟩)
    | true =>
      have HE := Lib.hid (HPut.out rfl)
      have HW := Lib.hid (wrote_lock HOk.out)
      clear HPut HBad HOk
      have hgl : w.heap.size + 2 ≤ g := htg.low
      have c4 := (htg.cell k hkn).c4
      have c5 := (htg.cell k hkn).c5
      have cf := htg.free
      have cl := htg.lt
      obtain ⟨l0, l1, lf⟩ := L.c2
      have Ll := L.lt
      clear yf rf r0 Rl lf
      have htg1 := htg.lock (k := k) ⟨G1, d1, G2, d2⟩ hg1 hg2
      have hgu : ¬ g = w1.heap.size := by omega
      have hgw : ¬ g = w4.heap.size := by omega
      have U1 := (U.far (a := ⟨g, k * 6 + 4, none⟩) (.slice G1 m.1.length d1) hgu).far (a := ⟨g, k * 6 + 5, none⟩) (.slice G2 m.2.length d2) hgu
      have L1 := (L.far (a := ⟨g, k * 6 + 4, none⟩) (.slice G1 m.1.length d1) hgw).far (a := ⟨g, k * 6 + 5, none⟩) (.slice G2 m.2.length d2) hgw
      have R1 := (R.far (a := ⟨g, k * 6 + 4, none⟩) (.slice G1 m.1.length d1) (show ¬ g = w.heap.size + 1 by omega)).far (a := ⟨g, k * 6 + 5, none⟩) (.slice G2 m.2.length d2) (show ¬ g = w.heap.size + 1 by omega)
      have b1 := (b.setCell (p := ⟨g, k * 6 + 4, none⟩) (show w.heap.size ≤ g by omega) (.slice G1 m.1.length d1)).setCell (p := ⟨g, k * 6 + 5, none⟩) (show w.heap.size ≤ g by omega) (.slice G2 m.2.length d2)
      have hg1 := (hg1.far (a := ⟨g, k * 6 + 4, none⟩) (.slice G1 m.1.length d1) (.inr rfl)).far (a := ⟨g, k * 6 + 5, none⟩) (.slice G2 m.2.length d2) (.inr rfl)
      have hg2 := (hg2.far (a := ⟨g, k * 6 + 4, none⟩) (.slice G1 m.1.length d1) (.inr rfl)).far (a := ⟨g, k * 6 + 5, none⟩) (.slice G2 m.2.length d2) (.inr rfl)
      clear b U L R htg
      go_upto_region 8 with (fail)
      generalize (World.setCell (World.setCell _ _ _) _ _) = w6 at U1 L1 R1 b1 hg1 hg2 htg1 ⊢
      clear y0 Ul c4 c5 cf cl l0 l1 Ll
      obtain ⟨y0, yf⟩ := U1.c1
      obtain ⟨l0, l1, lf⟩ := L1.c2
      obtain ⟨r0, rf⟩ := R1.c1
      have Rl := R1.lt
      have Ul := U1.lt
      have Ll := L1.lt
      have HU := Lib.hid U1.drew
      have HL := Lib.hid L1.drew
      have HR := Lib.hid R1.drew
      have hD := (Below.refl w6.heap.size w6).drew
      have HB := Lib.hid b1.drew
      have HT := Lib.hid (htg1.next hD)
      have HLA := Lib.hid (show LAt w6.drew w6.drew.heap.size G1 G2 (m.1, m.2) from ⟨(hg1.next hD).at_, (hg2.next hD).at_⟩)
      have HS0 := Lib.hid (And.intro HU.out.c1.1 (And.intro HL.out.c2.1 HL.out.c2.2.1))
      have c3 := (HT.out.cell k hkn).c3
      have cf := htg1.free
      clear hD hg1 hg2 U1 L1 R1 b1 htg1 yf lf rf
      go_region_held3 (fun W => W.cell? ⟨w1.heap.size, 0, none⟩ = some (.slice (some ⟨g, 0, none⟩) T.length c2) ∧ W.cell? ⟨w4.heap.size, 0, none⟩ = some (.slice G1 m.1.length d1) ∧ W.cell? ⟨w4.heap.size, 1, none⟩ = some (.slice G2 m.2.length d2)) (first | exact HS0.out | exact HS7.out | exact HS8.out) (first
        | (go_at_call 56; refine (specWritten_any _ _ _ _ _ m.1 m.2 _ HLA.out).mono ?_; rintro o w7 ⟨rfl, hb⟩; have HU7 := Lib.hid (HU.out.next hb); have HL7 := Lib.hid (HL.out.next hb); have HR7 := Lib.hid (HR.out.next hb); have HT7 := Lib.hid (HT.out.next hb); have HB7 := Lib.hid (HB.out.trans (hb.mono HB.out.size)); have HS7 := Lib.hid (And.intro HU7.out.c1.1 (And.intro HL7.out.c2.1 HL7.out.c2.2.1)); have d3 := (HT7.out.cell k hkn).c3; have df := HT7.out.free; have dl := HT7.out.lt; have HU8 := HU7.out.far (a := ⟨g, k * 6 + 3, none⟩) (.bool (wroteS m.1)) hgu; have HL8 := HL7.out.far (a := ⟨g, k * 6 + 3, none⟩) (.bool (wroteS m.1)) hgw; have HS8 := Lib.hid (And.intro HU8.c1.1 (And.intro HL8.c2.1 HL8.c2.2.1)); have HU8 := Lib.hid HU8; clear HL8 hb))
      all_goals
        have HR8 := HR7.out.far (a := ⟨g, k * 6 + 3, none⟩) (.bool (wroteS m.1)) (show ¬ g = w.heap.size + 1 by omega)
        have HT8 := HT7.out.held (k := k) (wroteS m.1)
        have HT9 := (HT8.congr (f' := fun j => if j = k then ⟨(cd T k).v, (cd T k).e, (cd T k).s, wrote m.1, m.1, m.2⟩ else cd T j) (fun j _ => by
          by_cases e : j = k
          · simp only [e, if_true]; rw [HW.out]
          · simp only [e, if_false])).put
        have HT10 := HT9.far (a := ⟨w.heap.size + 1, 0, none⟩) (.slice (some ⟨g, 0, none⟩) T.length c2) (by simp)
        have HA := Lib.hid (HT10.tlo.less (lo' := w.heap.size) (by omega))
        have HB8 := Lib.hid ((HB7.out.setCell (p := ⟨g, k * 6 + 3, none⟩) (show w.heap.size ≤ g by omega) (.bool (wroteS m.1))).setCell (p := ⟨w.heap.size + 1, 0, none⟩) (by simp) (.slice (some ⟨g, 0, none⟩) T.length c2))
        obtain ⟨y8, yf8⟩ := HU8.out.c1
        obtain ⟨r8, rf8⟩ := HR8.c1
        have Rl8 := HR8.lt
        have Ul8 := HU8.out.lt
        clear HT8 HT9 HT10 HR8 c3 cf y0 l0 l1 r0 d3 df dl Rl Ul Ll yf8
        go_wp2
        exact bodyPost_ret (v := .tuple #[.agg #[.slice (some ⟨g, 0, none⟩) T.length c2], .bool true]) (by simp [results, Tryz.results20, go_sem, r8]) rfl (by
          rw [HE.out, HCo.out]
          exact ⟨_, c2, by rw [putT_len], HA.out, HB8.out⟩)


theorem cells_lens {T : TL} (h : tabOk T = true) (j : Nat) (hj : j < T.length) : (cd T j).hs.length + (cd T j).ws.length ≤ 8 := ((lockOk_iff _ _).1 (tabOk_lockOk h hj)).1.len
theorem tot_le {T : TL} {n : Nat} (h : ∀ j, j < n → (cd T j).hs.length + (cd T j).ws.length ≤ 8) : totT T n ≤ n * 8 := by
  induction n with
  | zero => exact Nat.le_refl _
  | succ n ih =>
    have h1 := ih (fun j hj => h j (by omega))
    have h2 := h n (by omega)
    rw [totT_succ]; omega
theorem tab_fit {T : TL} (h : tabOk T = true) : TFit T := by
  have h1 := tabOk_len h
  have h2 := tot_le (cells_lens h)
  unfold TFit; omega
/-- a valid lock in cell k: the table stays valid -/
theorem put_ok {T : TL} {k : Nat} {m : HL × HL} (h : tabOk T = true) (hk : k < T.length) (hm : lockOk m.1 m.2 = true) : tabOk (putT T k (lockC (cd T k) m)) = true := by
  have h1 := tabOk_len h
  unfold tabOk
  rw [Bool.and_eq_true]
  refine ⟨?_, all_yes (fun j hj => ?_)⟩
  · rw [putT_len]; unfold inB; simp; omega
  · rw [putT_len] at hj
    rw [putT_at _ _ _ _ hj]
    by_cases e : j = k
    · subst e
      rw [if_pos rfl]
      obtain ⟨p1, p2, p3, p4⟩ := cellOk_parts (tabOk_at h hj)
      unfold cellOk lockC
      simp [p1, p2, hm]
    · rw [if_neg e]; exact tabOk_at h hj
/-- the lock that the store has for cell k -/
def lkP (T : TL) (q : Nat → Pl) (j : Nat) : Pl := if (cd T j).hs.length = 0 then Pl.zero else q j
theorem lock_empty {hs ws : HL} (h : lockOk hs ws = true) (h0 : hs.length = 0) : hs = [] ∧ ws = [] := by
  have e : hs = [] := List.length_eq_zero_iff.1 h0
  have hb := ((lockOk_iff _ _).1 h).2
  rw [e] at hb
  refine ⟨e, ?_⟩
  cases hw : ws with
  | nil => rfl
  | cons a l => rw [hw] at hb; simp [blocked, canJoin] at hb
theorem locks_get {T : TL} {q : Nat → Pl} (h : tabOk T = true) {j : Nat} (hj : j < T.length) : (locksF T q T.length (j : Int)).getD (.agg #[.slice none 0 0, .slice none 0 0]) = lkq (cd T j) (lkP T q j) := by
  unfold locksF lkP
  by_cases h0 : (cd T j).hs.length = 0
  · have hc : ci T (j : Int) = cd T j := rfl
    rw [if_neg (by rw [hc]; omega), if_pos h0]
    obtain ⟨e1, e2⟩ := lock_empty (tabOk_lockOk h hj) h0
    simp [lkq, lkv, e1, e2, Pl.zero]
  · have hc : ci T (j : Int) = cd T j := rfl
    rw [if_pos ⟨by omega, by rw [hc]; exact h0⟩, if_neg h0]
    rfl
theorem locks_at {w : World} {B : Nat} {T : TL} {q : Nat → Pl} (h : tabOk T = true) {j : Nat} (hj : j < T.length) (hl : LsAt w B (cd T j) (q j)) : LsAt w B (cd T j) (lkP T q j) := by
  unfold lkP
  by_cases h0 : (cd T j).hs.length = 0
  · rw [if_pos h0]
    obtain ⟨e1, e2⟩ := lock_empty (tabOk_lockOk h hj) h0
    exact ⟨fun hn => absurd hn (by simp [CD.p, e1]), fun hn => absurd hn (by simp [CD.p, e2])⟩
  · rw [if_neg h0]; exact hl
/-- the two maps behind setLock are those of the new table -/
theorem slots_put {T : TL} {k : Nat} (hk : k < T.length) (m : HL × HL) (j : Int) : upd (slotsF T T.length) (k : Int) (some (sv (pk (cd T k).e (cd T k).s (wrote m.1)) (cd T k).v)) j = slotsF (putT T k (lockC (cd T k) m)) (putT T k (lockC (cd T k) m)).length j := by
  unfold upd slotsF
  rw [putT_len]
  by_cases hj : 0 ≤ j ∧ j < (T.length : Int)
  · obtain ⟨i, rfl⟩ := Int.eq_ofNat_of_zero_le hj.1
    have hi : i < T.length := by omega
    have hc : ci (putT T k (lockC (cd T k) m)) (i : Int) = if i = k then lockC (cd T k) m else cd T i := putT_at _ _ _ _ hi
    rw [if_pos hj, if_pos hj, hc]
    by_cases e : i = k
    · subst e; simp [lockC]
    · have e' : ¬ ((i : Int) = (k : Int)) := by omega
      rw [if_neg e', if_neg e]; rfl
  · have e' : ¬ (j = (k : Int)) := by omega
    rw [if_neg e', if_neg hj, if_neg hj]
def putP (T : TL) (q : Nat → Pl) (k : Nat) (m : HL × HL) (P : Pl) (j : Nat) : Pl := if j = k then (if m.1.length = 0 then Pl.zero else P) else lkP T q j
theorem locks_put {T : TL} {q : Nat → Pl} {k : Nat} (h : tabOk T = true) (m : HL × HL) (hm : lockOk m.1 m.2 = true) (P : Pl) {j : Nat} (hj : j < T.length) :
    (upd (locksF T q T.length) (k : Int) (if m.1.length = 0 then none else some (lkv P.G m.1.length P.c P.G' m.2.length P.c')) (j : Int)).getD (.agg #[.slice none 0 0, .slice none 0 0]) = lkq (cd (putT T k (lockC (cd T k) m)) j) (putP T q k m P j) := by
  rw [putT_at _ _ _ _ hj]
  unfold upd putP
  by_cases e : j = k
  · subst e
    rw [if_pos rfl, if_pos rfl, if_pos rfl]
    by_cases h0 : m.1.length = 0
    · rw [if_pos h0, if_pos h0]
      obtain ⟨e1, e2⟩ := lock_empty hm h0
      simp [lkq, lkv, lockC, e1, e2, Pl.zero]
    · rw [if_neg h0, if_neg h0]; rfl
  · have e' : ¬ ((j : Int) = (k : Int)) := by omega
    rw [if_neg e', if_neg e, if_neg e]
    exact locks_get h hj
theorem putP_at {w : World} {B : Nat} {T : TL} {q : Nat → Pl} {k : Nat} (h : tabOk T = true) {m : HL × HL} (hm : lockOk m.1 m.2 = true) {P : Pl} (hP : LAt w B P.G P.G' m) (hl : ∀ j, j < T.length → LsAt w B (cd T j) (q j)) {j : Nat} (hj : j < T.length) :
    LsAt w B (cd (putT T k (lockC (cd T k) m)) j) (putP T q k m P j) := by
  rw [putT_at _ _ _ _ hj]
  unfold putP
  by_cases e : j = k
  · rw [if_pos e, if_pos e]
    by_cases h0 : m.1.length = 0
    · rw [if_pos h0]
      obtain ⟨e1, e2⟩ := lock_empty hm h0
      exact ⟨fun hn => absurd hn (by simp [CD.p, lockC, e1]), fun hn => absurd hn (by simp [CD.p, lockC, e2])⟩
    · rw [if_neg h0]; exact hP
  · rw [if_neg e, if_neg e]
    exact locks_at h hj (hl j hj)
theorem hown_but2 {w w' : World} {b1 b2 lo B : Nat} {A : Option Addr} {l : HL} (h : HOwn w lo B A l) (hU : But2 b1 b2 w w') (h1 : b1 < lo) (h2 : b2 < lo) (hB : B ≤ w.heap.size) : HOwn w' lo B A l := fun hn => by
  obtain ⟨b, off, e, k1, k2, hc⟩ := h hn
  have hk := hU.block b (by omega) (by omega) (by omega)
  exact ⟨b, off, e, k1, k2, fun j hj => ⟨⟨(World.cell?_of_block (a := ⟨b, _, none⟩) hk).trans (hc j hj).1.1, (World.cell?_of_block (a := ⟨b, _, none⟩) hk).trans (hc j hj).1.2⟩, fun o => (World.frozen?_of_block (a := ⟨b, o, none⟩) hk).trans ((hc j hj).2 o)⟩⟩
theorem lown_but2 {w w' : World} {b1 b2 lo B : Nat} {A A' : Option Addr} {p : HL × HL} (h : LOwn w lo B A A' p) (hU : But2 b1 b2 w w') (h1 : b1 < lo) (h2 : b2 < lo) (hB : B ≤ w.heap.size) : LOwn w' lo B A A' p := ⟨hown_but2 h.1 hU h1 h2 hB, hown_but2 h.2.1 hU h1 h2 hB, h.2.2⟩
theorem TOwn.put {w : World} {lo B a : Nat} {A : Option Addr} {T : TL} (h : TOwn w lo B A T) (v : Value) (hl : a + 1 ≤ lo) : TOwn (w.setCell ⟨a, 0, none⟩ v) lo B A T := h.onlys (onlys_set w a 0 v) (.inr hl)
theorem fit_len {T : TL} (h : TFit T) : TLen T :=
  ⟨by have := h.len; unfold maxLen; omega, fun j hj => by have := h.at_ hj; unfold maxLen; omega⟩


/-- the lists of the table's cells have no more room than they need -/
def TCap (w : World) (A : Option Addr) (T : TL) : Prop := ∀ b off, A = some ⟨b, off, none⟩ → ∀ j, j < T.length → ∃ G G', w.cell? ⟨b, off + j * 6 + 4, none⟩ = some (.slice G (cd T j).hs.length (cd T j).hs.length) ∧ w.cell? ⟨b, off + j * 6 + 5, none⟩ = some (.slice G' (cd T j).ws.length (cd T j).ws.length)
set_option maxHeartbeats 800000 in
set_option maxRecDepth 100000 in
theorem toCellC_any (c : CD) (q : Pl) (w : World) (hn : c.hs.length ≤ 1048576) (hn' : c.ws.length ≤ 1048576) (hr : LsAt w w.heap.size c q) :
    Calls Tryz.prog 59 #[cval c q] w fun e w' => ∃ q', e = .returned (cval c q') ∧ Below w.heap.size w w' ∧ LsOwn w' w.heap.size w'.heap.size c q' ∧ q'.c = c.hs.length ∧ q'.c' = c.ws.length := by
  unfold cval
  generalize hx : (Value.slice q.G c.hs.length q.c) = x4
  generalize hy : (Value.slice q.G' c.ws.length q.c') = x5
  go_enter Tryz.func59, Tryz.ntmps59
  go_wp2_with fail
  have b := (((Below.refl w.heap.size w).alloc (Nat.le_refl _) (.cells #[.int .i64 c.v, .int .i64 c.e, .int .i64 c.s, .bool c.h, x4, x5] 106)).alloc (by simp) (.cells #[.int .i64 0, .int .i64 0, .int .i64 0, .bool false, .slice none 0 0, .slice none 0 0] 111)).alloc (by simp; omega) (.cells #[.int .i64 c.v, .int .i64 0, .int .i64 0, .bool false, .slice none 0 0, .slice none 0 0] 111)
  have X := ((Box.new (w := w) (c := #[.int .i64 c.v, .int .i64 c.e, .int .i64 c.s, .bool c.h, x4, x5]) (t := 106) rfl).alloc (.cells #[.int .i64 0, .int .i64 0, .int .i64 0, .bool false, .slice none 0 0, .slice none 0 0] 111)).alloc (.cells #[.int .i64 c.v, .int .i64 0, .int .i64 0, .bool false, .slice none 0 0, .slice none 0 0] 111)
  have Y := (Box.new (w := w.alloc (.cells #[.int .i64 c.v, .int .i64 c.e, .int .i64 c.s, .bool c.h, x4, x5] 106)) (b := w.heap.size + 1) (c := #[.int .i64 0, .int .i64 0, .int .i64 0, .bool false, .slice none 0 0, .slice none 0 0]) (t := 111) (by simp)).alloc (.cells #[.int .i64 c.v, .int .i64 0, .int .i64 0, .bool false, .slice none 0 0, .slice none 0 0] 111)
  have Z := Box.new (w := (w.alloc (.cells #[.int .i64 c.v, .int .i64 c.e, .int .i64 c.s, .bool c.h, x4, x5] 106)).alloc (.cells #[.int .i64 0, .int .i64 0, .int .i64 0, .bool false, .slice none 0 0, .slice none 0 0] 111)) (b := w.heap.size + 1 + 1) (c := #[.int .i64 c.v, .int .i64 0, .int .i64 0, .bool false, .slice none 0 0, .slice none 0 0]) (t := 111) (by simp)
  have hsz : w.heap.size + 1 + 1 < (((w.alloc (.cells #[.int .i64 c.v, .int .i64 c.e, .int .i64 c.s, .bool c.h, x4, x5] 106)).alloc (.cells #[.int .i64 0, .int .i64 0, .int .i64 0, .bool false, .slice none 0 0, .slice none 0 0] 111)).alloc (.cells #[.int .i64 c.v, .int .i64 0, .int .i64 0, .bool false, .slice none 0 0, .slice none 0 0] 111)).heap.size := by simp
  generalize ((w.alloc (.cells #[.int .i64 c.v, .int .i64 c.e, .int .i64 c.s, .bool c.h, x4, x5] 106)).alloc (.cells #[.int .i64 0, .int .i64 0, .int .i64 0, .bool false, .slice none 0 0, .slice none 0 0] 111)).alloc (.cells #[.int .i64 c.v, .int .i64 0, .int .i64 0, .bool false, .slice none 0 0, .slice none 0 0] 111) = w0 at b X Y Z hsz ⊢
  refine (toWord_any _ _ _ _).mono ?_; rintro e w1 ⟨rfl, hb1⟩
  have X := X.next hb1
  have Y := Y.next hb1
  have Z := Z.next hb1
  have b := b.trans (hb1.mono b.size)
  have hsz : w.heap.size + 1 + 1 < w1.heap.size := Nat.lt_of_lt_of_le hsz hb1.size
  subst hx hy
  obtain ⟨⟨_, _, _, _, x4, x5⟩, _⟩ := X.c6
  obtain ⟨⟨z0, z1, z2, z3, z4, z5⟩, zf⟩ := Z.c6
  clear hb1
  go_wp2_with fail
  clear x4 x5 z0 z1 z2 z3 z4 z5 zf
  have b := ((b.setCell (p := ⟨w.heap.size + 1 + 1, 1, none⟩) (by simp; omega) (.int .i64 c.e)).setCell (p := ⟨w.heap.size + 1 + 1, 2, none⟩) (by simp; omega) (.int .i64 c.s)).setCell (p := ⟨w.heap.size + 1 + 1, 3, none⟩) (by simp; omega) (.bool c.h)
  have Y := ((Y.far (a := ⟨w.heap.size + 1 + 1, 1, none⟩) (.int .i64 c.e) (by simp)).far (a := ⟨w.heap.size + 1 + 1, 2, none⟩) (.int .i64 c.s) (by simp)).far (a := ⟨w.heap.size + 1 + 1, 3, none⟩) (.bool c.h) (by simp)
  have Z := ((Z.set (j := 1) (.int .i64 c.e) (by simp)).set (j := 2) (.int .i64 c.s) (by simp)).set (j := 3) (.bool c.h) (by simp)
  have hsz : w.heap.size + 1 + 1 < (((w1.setCell ⟨w.heap.size + 1 + 1, 1, none⟩ (.int .i64 c.e)).setCell ⟨w.heap.size + 1 + 1, 2, none⟩ (.int .i64 c.s)).setCell ⟨w.heap.size + 1 + 1, 3, none⟩ (.bool c.h)).heap.size := by simpa [World.setCell] using hsz
  generalize ((w1.setCell ⟨w.heap.size + 1 + 1, 1, none⟩ (.int .i64 c.e)).setCell ⟨w.heap.size + 1 + 1, 2, none⟩ (.int .i64 c.s)).setCell ⟨w.heap.size + 1 + 1, 3, none⟩ (.bool c.h) = w2 at b Y Z hsz ⊢
  refine (toLockC_any _ _ _ _ c.hs c.ws _ hn hn' (LAt.below hr b b.size)).mono ?_; rintro e w3 ⟨G, G', rfl, hb3, ho⟩
  have Y := Y.next hb3
  have Z := Z.next hb3
  have b := b.trans (hb3.mono b.size)
  have hs3 := hb3.size
  obtain ⟨⟨y0, y1, y2, y3, y4, y5⟩, yf⟩ := Y.c6
  obtain ⟨⟨z0, z1, z2, z3, z4, z5⟩, zf⟩ := Z.c6
  clear hb3
  go_wp2
  have HB := Lib.hid ((((((((b.setCell (p := ⟨w.heap.size + 1 + 1, 4, none⟩) (by simp; omega) (.slice G c.hs.length c.hs.length)).setCell (p := ⟨w.heap.size + 1 + 1, 5, none⟩) (by simp; omega) (.slice G' c.ws.length c.ws.length)).setCell (p := ⟨w.heap.size + 1, 0, none⟩) (by simp) (.int .i64 c.v)).setCell (p := ⟨w.heap.size + 1, 1, none⟩) (by simp) (.int .i64 c.e)).setCell (p := ⟨w.heap.size + 1, 2, none⟩) (by simp) (.int .i64 c.s)).setCell (p := ⟨w.heap.size + 1, 3, none⟩) (by simp) (.bool c.h)).setCell (p := ⟨w.heap.size + 1, 4, none⟩) (by simp) (.slice G c.hs.length c.hs.length)).setCell (p := ⟨w.heap.size + 1, 5, none⟩) (by simp) (.slice G' c.ws.length c.ws.length))
  exact bodyPost_ret (v := cval c ⟨G, c.hs.length, G', c.ws.length⟩) (by simp [results, Tryz.results59, go_sem, y0, y1, y2, y3, y4, y5, cval]) rfl ⟨⟨G, c.hs.length, G', c.ws.length⟩, rfl, HB.out, (by
    have o1 := LOwn.more (lo' := w.heap.size + 1 + 1 + 1) (B' := w3.heap.size) ho (by omega) (Nat.le_refl _)
    refine LOwn.more (lo := w.heap.size + 1 + 1 + 1) (B := w3.heap.size) ?_ (by omega) (by simp [World.setCell])
    have far : ∀ {w'} (h : LOwn w' (w.heap.size + 1 + 1 + 1) w3.heap.size G G' (c.hs, c.ws)) (i j : Nat) (v : Value), i ≤ w.heap.size + 1 + 1 → LOwn (w'.setCell ⟨i, j, none⟩ v) (w.heap.size + 1 + 1 + 1) w3.heap.size G G' (c.hs, c.ws) := fun h i j v hi => ⟨h.1.far v (.inl (by show i < _; omega)), h.2.1.far v (.inl (by show i < _; omega)), h.2.2⟩
    exact far (far (far (far (far (far (far (far o1 _ _ _ (by omega)) _ _ _ (by omega)) _ _ _ (by omega)) _ _ _ (by omega)) _ _ _ (by omega)) _ _ _ (by omega)) _ _ _ (by omega)) _ _ _ (by omega)), rfl, rfl⟩
/-- the first k cells are laid -/
structure LaidToC (w wr : World) (T : TL) (k : Nat) (q : Nat → Pl) (L H : Nat → Nat) : Prop where
  row : wr.rowIs w.heap.size 111 (T.length * 6) (tval (ftoT T k) q)
  own : ∀ j, j < k → w.heap.size < L j ∧ H j ≤ wr.heap.size ∧ LsOwn wr (L j) (H j) (cd T j) (q j)
  part : ∀ i j, i < j → j < k → H i ≤ L j
  zer : ∀ j, k ≤ j → q j = Pl.zero
  cap : ∀ j, j < k → (q j).c = (cd T j).hs.length ∧ (q j).c' = (cd T j).ws.length

set_option maxHeartbeats 1600000 in
set_option maxRecDepth 100000 in
theorem toCellSC_any (A : Option Addr) (c B : Nat) (T : TL) (w : World) (hs : TFit T) (hB : B ≤ w.heap.size) (h : TAt w B A T) :
    Calls Tryz.prog 21 #[.slice A T.length c] w fun e w' => ∃ g, e = .returned (.slice (some ⟨g, 0, none⟩) T.length T.length) ∧ TOwn w' w.heap.size w'.heap.size (some ⟨g, 0, none⟩) T ∧ Below w.heap.size w w' ∧ TCap w' (some ⟨g, 0, none⟩) T := by
  have hmk := run_make_cells T.length hs.len
  have hlen := hs.len
  go_enter Tryz.func21, Tryz.ntmps21
  go_wp2
  clear hmk
  go_loopw [4] (fun i wr => ∃ k : Nat, k ≤ T.length ∧ i = .int .i64 k ∧ Below w.heap.size w wr ∧ ∃ q L H, LaidToC w wr T k q L H) (fun i _ => T.length - (intOf i).toNat)
  case atStart => exact ⟨0, Nat.zero_le _, rfl, (Below.refl _ _).alloc (Nat.le_refl _) _, fun _ => Pl.zero, fun _ => 0, fun _ => 0, (made_cells w T.length _).congr (fun j _ => by simp [ftoT, tval]), fun j hj => absurd hj (by omega), fun i j _ hj => absurd hj (by omega), fun j _ => rfl, fun j hj => absurd hj (by omega)⟩
  case round =>
    obtain ⟨k, hk, rfl, hb, q, L, H, hrow, hown, hpart, hzer, hcap⟩ := hrel
    by_cases hkn : k < T.length
    · obtain ⟨b, off, rfl, hbB, qa, hc⟩ := h (by omega)
      have hkz : (k : Int) < T.length := by omega
      obtain ⟨a0, a1, a2, a3, a4, a5⟩ := (hc k hkn).1.below hb (show b < w.heap.size by omega)
      have i0 : LsAt wr B (cd T k) (qa k) := LAt.keep (hc k hkn).2 hb hB
      have hl := hs.at_ hkn
      have hsz := hb.size
      have hlt := hrow.lt
      clear hc h
      go_wp2_with fail
      refine (toCellC_any (cd T k) (qa k) _ hl.1 hl.2 (LAt.up i0 (by omega))).mono ?_; rintro e w1 ⟨p, rfl, hb1, ho1, hpp⟩
      have HPp := Lib.hid hpp
      clear hpp
      unfold cval
      have s1 := hb1.size
      have hrow1 := rowIs_below hrow hb1 hlt
      have c0 : w1.cell? ⟨w.heap.size, k * 6, none⟩ = some (.int .i64 0) := by rw [hrow1.cell (by omega), tval_at0, ftoT, if_neg (by omega)]; rfl
      have c1 : w1.cell? ⟨w.heap.size, k * 6 + 1, none⟩ = some (.int .i64 0) := by rw [hrow1.cell (by omega), tval_at _ _ _ _ (by omega), ftoT, if_neg (by omega)]; rfl
      have c2 : w1.cell? ⟨w.heap.size, k * 6 + 2, none⟩ = some (.int .i64 0) := by rw [hrow1.cell (by omega), tval_at _ _ _ _ (by omega), ftoT, if_neg (by omega)]; rfl
      have c3 : w1.cell? ⟨w.heap.size, k * 6 + 3, none⟩ = some (.bool false) := by rw [hrow1.cell (by omega), tval_at _ _ _ _ (by omega), ftoT, if_neg (by omega)]; rfl
      have c4 : w1.cell? ⟨w.heap.size, k * 6 + 4, none⟩ = some (.slice none 0 0) := by rw [hrow1.cell (by omega), tval_at _ _ _ _ (by omega), ftoT, if_neg (by omega), hzer k (Nat.le_refl _)]; rfl
      have c5 : w1.cell? ⟨w.heap.size, k * 6 + 5, none⟩ = some (.slice none 0 0) := by rw [hrow1.cell (by omega), tval_at _ _ _ _ (by omega), ftoT, if_neg (by omega), hzer k (Nat.le_refl _)]; rfl
      have r0 : ∀ o, w1.frozen? ⟨w.heap.size, o, none⟩ = false := hrow1.frozen
      have hb2 := (((((hb.trans (hb1.mono hsz)).setCell (p := ⟨w.heap.size, k * 6, none⟩) (Nat.le_refl _) (tv (cd T k) p 0)).setCell (p := ⟨w.heap.size, k * 6 + 1, none⟩) (Nat.le_refl _) (tv (cd T k) p 1)).setCell (p := ⟨w.heap.size, k * 6 + 2, none⟩) (Nat.le_refl _) (tv (cd T k) p 2)).setCell (p := ⟨w.heap.size, k * 6 + 3, none⟩) (Nat.le_refl _) (tv (cd T k) p 3)).setCell (p := ⟨w.heap.size, k * 6 + 4, none⟩) (Nat.le_refl _) (tv (cd T k) p 4)
      have hb2 := hb2.setCell (p := ⟨w.heap.size, k * 6 + 5, none⟩) (Nat.le_refl _) (tv (cd T k) p 5)
      have ho2 := ((((((Onlys.refl w.heap.size (w.heap.size + 1) w1).setCell (p := ⟨w.heap.size, k * 6, none⟩) (Nat.le_refl _) (Nat.lt_succ_self _) (tv (cd T k) p 0)).setCell (p := ⟨w.heap.size, k * 6 + 1, none⟩) (Nat.le_refl _) (Nat.lt_succ_self _) (tv (cd T k) p 1)).setCell (p := ⟨w.heap.size, k * 6 + 2, none⟩) (Nat.le_refl _) (Nat.lt_succ_self _) (tv (cd T k) p 2)).setCell (p := ⟨w.heap.size, k * 6 + 3, none⟩) (Nat.le_refl _) (Nat.lt_succ_self _) (tv (cd T k) p 3)).setCell (p := ⟨w.heap.size, k * 6 + 4, none⟩) (Nat.le_refl _) (Nat.lt_succ_self _) (tv (cd T k) p 4)).setCell (p := ⟨w.heap.size, k * 6 + 5, none⟩) (Nat.le_refl _) (Nat.lt_succ_self _) (tv (cd T k) p 5)
      have R := ((((((hrow1.set (k * 6) (tv (cd T k) p 0)).set (k * 6 + 1) (tv (cd T k) p 1)).set (k * 6 + 2) (tv (cd T k) p 2)).set (k * 6 + 3) (tv (cd T k) p 3)).set (k * 6 + 4) (tv (cd T k) p 4)).set (k * 6 + 5) (tv (cd T k) p 5)).congr (fun j _ => tval_step (ftoT T k) q k (cd T k) p j)
      have HL := Lib.hid (show LaidToC w ((((((w1.setCell ⟨w.heap.size, k * 6, none⟩ (tv (cd T k) p 0)).setCell ⟨w.heap.size, k * 6 + 1, none⟩ (tv (cd T k) p 1)).setCell ⟨w.heap.size, k * 6 + 2, none⟩ (tv (cd T k) p 2)).setCell ⟨w.heap.size, k * 6 + 3, none⟩ (tv (cd T k) p 3)).setCell ⟨w.heap.size, k * 6 + 4, none⟩ (tv (cd T k) p 4)).setCell ⟨w.heap.size, k * 6 + 5, none⟩ (tv (cd T k) p 5)) T (k + 1) (fun i => if i = k then p else q i) (fun i => if i = k then wr.heap.size else L i) (fun i => if i = k then w1.heap.size else H i) from by
        generalize (((((w1.setCell ⟨w.heap.size, k * 6, none⟩ (tv (cd T k) p 0)).setCell ⟨w.heap.size, k * 6 + 1, none⟩ (tv (cd T k) p 1)).setCell ⟨w.heap.size, k * 6 + 2, none⟩ (tv (cd T k) p 2)).setCell ⟨w.heap.size, k * 6 + 3, none⟩ (tv (cd T k) p 3)).setCell ⟨w.heap.size, k * 6 + 4, none⟩ (tv (cd T k) p 4)).setCell ⟨w.heap.size, k * 6 + 5, none⟩ (tv (cd T k) p 5) = w2 at R hb2 ho2
        refine ⟨R.congr (fun j _ => ?_), fun j hj => ?_, fun i j hij hj => ?_, fun j hj => ?_, fun j hj => ?_⟩
        · unfold tval ftoT
          by_cases e : j / 6 = k
          · have : j / 6 < k + 1 := by omega
            simp [e]
          · by_cases h1 : j / 6 < k
            · have : j / 6 < k + 1 := by omega
              simp [e, h1, this]
            · have : ¬ j / 6 < k + 1 := by omega
              simp [e, h1, this]
        · have hz2 := ho2.size
          by_cases e : j = k
          · subst e
            simp only [if_true]
            exact ⟨hlt, by omega, LOwn.onlys ho1 ho2 (.inr (by omega))⟩
          · simp only [if_neg e]
            obtain ⟨u1, u2, u3⟩ := hown j (by omega)
            exact ⟨u1, by omega, LOwn.onlys (LOwn.below u3 hb1 u2) ho2 (.inr (by omega))⟩
        · have hi : ¬ i = k := by omega
          simp only [if_neg hi]
          by_cases e : j = k
          · subst e
            simp only [if_true]
            exact (hown i (by omega)).2.1
          · simp only [if_neg e]
            exact hpart i j hij (by omega)
        · have e : ¬ j = k := by omega
          simp only [if_neg e]
          exact hzer j (by omega)
        · by_cases e : j = k
          · subst e
            simp only [if_true]
            exact HPp.out
          · simp only [if_neg e]
            exact hcap j (by omega))
      have Hb2 := Lib.hid hb2
      clear hrow hrow1 hown hpart hzer hcap ho1 hb hb1 i0 R hb2 ho2
      go_wp2
      exact ⟨⟨k + 1, by omega, by go_num, Hb2.out, _, _, _, HL.out⟩, by simp [intOf]; omega⟩
    · obtain rfl : k = T.length := by omega
      have HO := Lib.hid (show TOwn wr w.heap.size wr.heap.size (some ⟨w.heap.size, 0, none⟩) T from fun _ => ⟨_, 0, rfl, q, L, H,
        (TRow.of_row hrow (Nat.le_refl _) hrow.lt (fun j hj => Nat.le_of_lt (hown j hj).1) (fun j hj => (hown j hj).2.1) (fun j hj => .inl (hown j hj).1) (fun j hj => by
          have := (hown j hj).2.2
          unfold ftoT
          rw [if_pos hj]; exact this) (fun i j hi hj hne => by
          rcases Nat.lt_or_gt_of_ne hne with h' | h'
          · exact .inl (hpart i j h' hj)
          · exact .inr (hpart j i h' hi))).congr (fun j hj => by unfold ftoT; rw [if_pos hj])⟩)
      have HCp := Lib.hid (show TCap wr (some ⟨w.heap.size, 0, none⟩) T from fun b off e j hj => by
        injection e with e
        injection e with e1 e2 _
        subst e1 e2
        refine ⟨(q j).G, (q j).G', ?_, ?_⟩
        · rw [Nat.zero_add, hrow.cell (by omega), tval_at _ _ _ _ (by omega), ftoT, if_pos hj]
          show some (Value.slice (q j).G (cd T j).hs.length (q j).c) = _
          rw [(hcap j hj).1]
        · rw [Nat.zero_add, hrow.cell (by omega), tval_at _ _ _ _ (by omega), ftoT, if_pos hj]
          show some (Value.slice (q j).G' (cd T j).ws.length (q j).c') = _
          rw [(hcap j hj).2])
      clear hrow hown hpart hzer hcap
      go_wp2
      go_ret
      exact ⟨_, rfl, HO.out, hb, HCp.out⟩

theorem toTableC_any (A : Option Addr) (c B : Nat) (T : TL) (w : World) (hs : TFit T) (hB : B ≤ w.heap.size) (h : TAt w B A T) :
    Calls Tryz.prog 7 #[.agg #[.slice A T.length c]] w fun e w' => ∃ g, e = .returned (.agg #[.slice (some ⟨g, 0, none⟩) T.length T.length]) ∧ TOwn w' w.heap.size w'.heap.size (some ⟨g, 0, none⟩) T ∧ Below w.heap.size w w' ∧ TCap w' (some ⟨g, 0, none⟩) T := by
  go_enter Tryz.func7, Tryz.ntmps7
  go_wp2_with fail
  have b := (((Below.refl w.heap.size w).alloc (Nat.le_refl _) (.cells #[.slice A T.length c] 24)).alloc (by simp) (.cells #[.slice none 0 0] 28)).alloc (by simp; omega) (.cells #[.slice none 0 0] 28)
  have Y := (Box.new (w := w.alloc (.cells #[.slice A T.length c] 24)) (b := w.heap.size + 1) (c := #[.slice none 0 0]) (t := 28) (by simp)).alloc (.cells #[.slice none 0 0] 28)
  have Z := Box.new (w := (w.alloc (.cells #[.slice A T.length c] 24)).alloc (.cells #[.slice none 0 0] 28)) (b := w.heap.size + 1 + 1) (c := #[.slice none 0 0]) (t := 28) (by simp)
  have hsz : w.heap.size + 1 + 1 < (((w.alloc (.cells #[.slice A T.length c] 24)).alloc (.cells #[.slice none 0 0] 28)).alloc (.cells #[.slice none 0 0] 28)).heap.size := by simp
  generalize ((w.alloc (.cells #[.slice A T.length c] 24)).alloc (.cells #[.slice none 0 0] 28)).alloc (.cells #[.slice none 0 0] 28) = w0 at b Y Z hsz ⊢
  refine (toCellSC_any A c B T _ hs (Nat.le_trans hB b.size) (h.keep b hB)).mono ?_; rintro e w1 ⟨g, rfl, ho, hb1, hcp⟩
  have Y := Y.next hb1
  have Z := Z.next hb1
  have b := b.trans (hb1.mono b.size)
  have hs1 := hb1.size
  obtain ⟨y0, yf⟩ := Y.c1
  obtain ⟨z0, zf⟩ := Z.c1
  clear hb1
  go_wp2
  have HB := Lib.hid ((b.setCell (p := ⟨w.heap.size + 1 + 1, 0, none⟩) (by simp; omega) (.slice (some ⟨g, 0, none⟩) T.length T.length)).setCell (p := ⟨w.heap.size + 1, 0, none⟩) (by simp) (.slice (some ⟨g, 0, none⟩) T.length T.length))
  have HO := Lib.hid ((ho.more (lo' := w.heap.size + 1 + 1 + 1) (B' := w1.heap.size) (by omega) (Nat.le_refl _)).onlys (((Onlys.refl (w.heap.size + 1) (w.heap.size + 1 + 1 + 1) w1).setCell (p := ⟨w.heap.size + 1 + 1, 0, none⟩) (by simp) (by simp) (.slice (some ⟨g, 0, none⟩) T.length T.length)).setCell (p := ⟨w.heap.size + 1, 0, none⟩) (by simp) (by simp) (.slice (some ⟨g, 0, none⟩) T.length T.length)) (.inr (Nat.le_refl _)))
  have hgl : 0 < T.length → w.heap.size + 1 + 1 < g := fun hn => by
    obtain ⟨b', off', e, _, _, _, hr⟩ := ho hn
    injection e with e
    injection e with e _ _
    have := hr.rlo
    omega
  have HC := Lib.hid (show TCap ((w1.setCell ⟨w.heap.size + 1 + 1, 0, none⟩ (.slice (some ⟨g, 0, none⟩) T.length T.length)).setCell ⟨w.heap.size + 1, 0, none⟩ (.slice (some ⟨g, 0, none⟩) T.length T.length)) (some ⟨g, 0, none⟩) T from fun b off e j hj => by
    obtain ⟨G, G', h4, h5⟩ := hcp b off e j hj
    injection e with e
    injection e with e1 e2 _
    have hg := hgl (by omega)
    refine ⟨G, G', ?_, ?_⟩
    · rw [World.cell?_setCell_other _ _ _ _ (by intro e'; injection e' with e' _ _; omega), World.cell?_setCell_other _ _ _ _ (by intro e'; injection e' with e' _ _; omega)]; exact h4
    · rw [World.cell?_setCell_other _ _ _ _ (by intro e'; injection e' with e' _ _; omega), World.cell?_setCell_other _ _ _ _ (by intro e'; injection e' with e' _ _; omega)]; exact h5)
  exact bodyPost_ret (v := .agg #[.slice (some ⟨g, 0, none⟩) T.length T.length]) (by simp [results, Tryz.results7, go_sem, y0]) rfl ⟨g, rfl, HO.out.more (by omega) (by simp [World.setCell]), HB.out, HC.out⟩
theorem TCap.next {w w' : World} {A : Option Addr} {T : TL} (h : TCap w A T) (hb : Below w.heap.size w w') : TCap w' A T := fun b off e j hj => by
  obtain ⟨G, G', h4, h5⟩ := h b off e j hj
  exact ⟨G, G', (hb.cell (p := ⟨b, _, none⟩) (World.block_lt_of_cell? w _ h4)).trans h4, (hb.cell (p := ⟨b, _, none⟩) (World.block_lt_of_cell? w _ h5)).trans h5⟩


set_option maxHeartbeats 3200000 in
set_option maxRecDepth 100000 in
theorem withoutC_any (A : Option Addr) (B c : Nat) (l : HL) (k : Nat) (w : World) (hn : l.length ≤ 1048576) (hk : k < l.length) (hc0 : l.length ≤ c) (h : HAt w B A l) :
    Calls Tryz.prog 105 #[.slice A l.length c, .int .i64 k] w fun e w' => ∃ A' c', e = .returned (.slice A' (l.eraseIdx k).length c') ∧ HAt w' w'.heap.size A' (l.eraseIdx k) ∧ Below w.heap.size w w' := by
  have h := h.lt
  obtain ⟨i0, hi, hz0, hz1, hz2⟩ := info_parts infoHold
  have Hi := Lib.hid hi
  have Hz0 := Lib.hid hz0
  have Hz1 := Lib.hid hz1
  have Hz2 := Lib.hid hz2
  clear hi hz0 hz1 hz2
  obtain ⟨g, off, rfl, hB, hcc⟩ := h (by omega)
  have hkz : (k : Int) < l.length := by omega
  have hkn : k ≤ l.length := by omega
  have hkc : k ≤ c := by omega
  have hlc : l.length ≤ c := hc0
  have hkcz : (k : Int) ≤ c := by omega
  have hlcz : (l.length : Int) ≤ c := by omega
  have h1c : (k : Int) + 1 ≤ c := by omega
  clear hc0
  have hle : (k : Int) ≤ (k : Int) + 1 := by omega
  have hwr : IntKind.i64.wrap ((k : Int) + 1) = (k : Int) + 1 := IntWalk.i64_in _ (by omega)
  have h01 : (0 : Int) ≤ (k : Int) + 1 := by omega
  have h1l : (k : Int) + 1 ≤ l.length := by omega
  by_cases hm : k + 1 < l.length
  · have hmz : ((k : Int) + 1) < l.length := by omega
    have hnl : ¬ l.length = k + 1 := by omega
    have hnc : ¬ c = k + 1 := by omega
    have dr := (Below.refl w.heap.size w).drew
    have hcc : ∀ j, j < l.length → w.drew.cell? ⟨g, off + j * 2, none⟩ = some (.int .i64 (hT l j)) ∧ w.drew.cell? ⟨g, off + j * 2 + 1, none⟩ = some (.bool (hW l j)) := fun j hj => ⟨(dr.cell (p := ⟨g, off + j * 2, none⟩) hB).trans (hcc j hj).1, (dr.cell (p := ⟨g, off + j * 2 + 1, none⟩) hB).trans (hcc j hj).2⟩
    have LO : Hid ((hcs (l.take k)).length = k * 2) := Lib.hid (by rw [hcs_length, List.length_take]; omega)
    have LN : Hid ((hcs (l.drop (k + 1))).length = (l.length - (k + 1)) * 2) := Lib.hid (by rw [hcs_length, List.length_drop])
    have HO : Hid (∀ b, (some (⟨g, off, none⟩ : Addr)) = some b → ∀ j u, (hcs (l.take k))[j]? = some u → w.drew.cell? (b.add j) = some u) := Lib.hid (fun b hb => by
      obtain rfl := Option.some.inj hb
      exact hcs_sub (n := 0) (P := []) (S := l.take k) (R := l.drop k) (by simp) hcc rfl)
    have HN : Hid (∀ j u, (hcs (l.drop (k + 1)))[j]? = some u → w.drew.cell? ((⟨g, off + (k + 1) * 2, none⟩ : Addr).add j) = some u) := Lib.hid (hcs_sub (n := k + 1) (P := l.take (k + 1)) (S := l.drop (k + 1)) (R := []) (by simp) hcc (by rw [List.length_take]; omega))
    clear hcc
    go_enter Tryz.func105, Tryz.ntmps105
    go_wp2_with fail
    go_region_law (refine step_append_grows rfl _ _ 107 rfl 162 i0 (.agg #[.int .i64 0, .bool false]) 2 16 Tryz.underlying107 Hi.out Hz0.out Hz1.out Hz2.out rfl (by decide) (some ⟨g, off, none⟩) k k (hcs (l.take k)) (by simp [Act.eval, Act.put]) (fun h => by cases h) LO.out HO.out ⟨g, off + (k + 1) * 2, none⟩ (l.length - (k + 1)) (c - (k + 1)) (hcs (l.drop (k + 1))) (by simp [Act.eval, Act.put]) LN.out HN.out (hcs_one _) (by omega) (by unfold maxLen; omega) (by omega) ?_; intro v' w' hown hgrow)
    all_goals
      have hE : hcs (l.eraseIdx k) = hcs (l.take k) ++ hcs (l.drop (k + 1)) := by rw [erase_eq, hcs_append]
      rw [← hE] at hown
      obtain ⟨A', c', rfl, hN, ho⟩ := HOwn.of_owns hown
      have hB' : Below w.heap.size w w' := dr.grown hgrow (Nat.le_refl _) (fun q hq => by cases hq)
      have HA := Lib.hid ho.at_
      clear hown hgrow ho hE LO HO LN HN
      go_wp2
      go_ret
      exact ⟨A', c', rfl, HA.out, hB'⟩
  · have hl : l.length = k + 1 := by omega
    have dr := (Below.refl w.heap.size w).drew
    have HE : l.eraseIdx k = l.take k := by rw [erase_eq, List.drop_eq_nil_of_le (by omega), List.append_nil]
    have hlen : (l.take k).length = k := by rw [List.length_take]; omega
    have HA : Hid (HAt w.drew w.drew.heap.size (some ⟨g, off, none⟩) (l.take k)) := Lib.hid (fun _ => ⟨g, off, rfl, hB, fun j hj => by
      have hj' : j < k := by rw [hlen] at hj; exact hj
      rw [hT_take, hW_take, if_pos hj', if_pos hj']
      exact ⟨(dr.cell (p := ⟨g, off + j * 2, none⟩) hB).trans (hcc j (by omega)).1, (dr.cell (p := ⟨g, off + j * 2 + 1, none⟩) hB).trans (hcc j (by omega)).2⟩⟩)
    rw [hl] at hlc hlcz
    rw [hl, HE]
    have HL := Lib.hid hlen
    clear hlen HE hcc h
    by_cases hck : c = k + 1
    · subst hck
      go_enter Tryz.func105, Tryz.ntmps105
      go_wp2_with fail
      go_region_law (fail)
      all_goals
        go_wp2
        go_ret
        exact ⟨some ⟨g, off, none⟩, k, by rw [HL.out]; rfl, HA.out, dr⟩
    · go_enter Tryz.func105, Tryz.ntmps105
      go_wp2_with fail
      go_region_law (fail)
      all_goals
        go_wp2
        go_ret
        exact ⟨some ⟨g, off, none⟩, k, by rw [HL.out]; rfl, HA.out, dr⟩


set_option maxHeartbeats 3200000 in
set_option maxRecDepth 100000 in
theorem implLeaveC_any (A A' : Option Addr) (c c' B : Nat) (hs ws : HL) (t : Int) (w : World) (hn : hs.length ≤ 1048576) (hn' : ws.length ≤ 1048576) (hc : hs.length ≤ c) (hc' : ws.length ≤ c') (h : LAt w B A A' (hs, ws)) :
    Calls Tryz.prog 67 #[.agg #[.slice A hs.length c, .slice A' ws.length c'], .int .i64 t] w (RetLock w (leaveL hs ws t) fun v => .tuple #[v, .bool (leaveB hs ws t)]) := by
  have hh : LAt w w.heap.size A A' (hs, ws) := ⟨h.1.lt, h.2.lt⟩
  clear h
  go_enter Tryz.func67, Tryz.ntmps67
  go_wp2_with fail
  have b := (((Below.refl w.heap.size w).alloc (Nat.le_refl _) (.cells #[.slice A hs.length c, .slice A' ws.length c'] 109)).alloc (by simp) (.cells #[.slice none 0 0, .slice none 0 0] 109))
  have X := ((Box.new (w := w) (c := #[.slice A hs.length c, .slice A' ws.length c']) (t := 109) rfl).alloc (.cells #[.slice none 0 0, .slice none 0 0] 109))
  have R := (Box.new (w := w.alloc (.cells #[.slice A hs.length c, .slice A' ws.length c'] 109)) (b := w.heap.size + 1) (c := #[.slice none 0 0, .slice none 0 0]) (t := 109) (by simp))
  refine (implLockOk_any _ _ _ _ _ hs ws _ hn hn' (hh.below b b.size)).mono ?_; rintro e w1 ⟨rfl, hb1⟩
  have hlo := R.lt
  have hs0 : w.heap.size + 2 ≤ w1.heap.size := by have := hb1.size; simp at this; omega
  have X := X.next hb1
  have R := R.next hb1
  have b := b.trans (hb1.mono b.size)
  clear hb1 hlo
  cases hl : lockOk hs ws with
  | false =>
    have HB := Lib.hid (leave_bad (t := t) hl)
    clear hl
    obtain ⟨x0, x1, xf⟩ := X.c2
    clear xf
    go_wp2_with fail
    refine (implCopy_any _ _ _ _ _ hs ws _ hn hn' (hh.below b b.size)).mono ?_; rintro e w9 ⟨v1, v2, rfl, ho, hb9⟩
    obtain ⟨A3, c3, A4, c4, rfl, rfl, _⟩ := ho.lock
    have hlR := R.lt
    have R := R.next hb9
    have b9 := b.trans (hb9.mono b.size)
    obtain ⟨r0, r1, rf⟩ := R.c2
    have hOB := Lib.hid (ho.far (a := ⟨w.heap.size + 1, 0, none⟩) (.slice A3 hs.length c3) (by simpa using hlR))
    have hOB := Lib.hid (hOB.out.far (a := ⟨w.heap.size + 1, 1, none⟩) (.slice A4 ws.length c4) (by simpa using hlR))
    have hltR : w.heap.size + 1 < w9.heap.size := R.lt
    clear x0 x1 hb9 X R ho hlR
    go_wp2
    exact bodyPost_ret (v := .tuple #[.agg #[.slice A3 hs.length c3, .slice A4 ws.length c4], .bool false]) (by simp [results, Tryz.results67, go_sem, r0, r1]) rfl (RetOwn.lock ⟨_, _, by rw [HB.out.2], by rw [HB.out.1]; exact hOB.out.less b.size, (b9.setCell (p := ⟨w.heap.size + 1, 0, none⟩) (by simp) _).setCell (p := ⟨w.heap.size + 1, 1, none⟩) (by simp) _⟩)
  | true =>
    have HLK := Lib.hid hl
    clear hl
    obtain ⟨x0, x1, xf⟩ := X.c2
    clear xf
    go_wp2_with fail
    refine (indexOf_any A _ _ hs t _ hn (hh.1.below b b.size)).mono ?_; rintro e w2 ⟨rfl, hb2⟩
    have X := X.next hb2
    have R := R.next hb2
    have s2 := hb2.size
    have b := b.trans (hb2.mono b.size)
    clear hb2 x0 x1
    obtain ⟨x0, x1, xf⟩ := X.c2
    have hltX := X.lt
    have Xk := Lib.hid X
    clear xf X
    rcases idxT_cases hs t with ⟨k, hk, he, hno, hi⟩ | ⟨hno, hi⟩
    · rw [hi]
      obtain ⟨e1, e2, e3⟩ := leave_hold HLK.out hk he hno
      have E1 := Lib.hid e1
      have E2 := Lib.hid e2
      have E3 := Lib.hid e3
      clear hi he hno e1 e2 e3
      have WW := Lib.hid (fun B w h => withoutC_any A B c hs k w hn hk hc h)
      generalize hs.eraseIdx k = P at E1 E3 WW
      have GA := Lib.hid (fun A c B lo q bs w hq h => granted_any A c B lo q bs P ws w E3.out hq h)
      generalize grantS P ws = G at E1 GA
      have HD := Lib.hid (hh.below b.drew b.size)
      have XD := Lib.hid Xk.out.drew
      have RD := Lib.hid R.drew
      go_wp2_with fail
      go_region_law (first
        | (go_simp; go_at_call 105; refine (WW.out _ _ HD.out.1).mono ?_; rintro o w3 ⟨A3, c3, rfl, hA3, hb3⟩; obtain ⟨z0, z1, zf⟩ := (XD.out.next hb3).c2)
        | (go_simp; go_at_call 106; refine (queueFrom_any A' _ _ ws _ hn' (HD.out.2.below hb3 hb3.size)).mono ?_; rintro o w4 ⟨q, bs, rfl, hq, hb4⟩)
        | (go_simp; go_at_call 104; refine (GA.out A3 c3 _ _ q bs _ hq (hA3.below hb4 hb4.size)).mono ?_; rintro o w5 ⟨A5, c5, A6, c6, rfl, hG, hb5⟩; have RR := ((RD.out.next hb3).next hb4).below hb5 (Nat.lt_of_lt_of_le R.lt hb3.size); obtain ⟨r0, r1, rf⟩ := RR.c2))
      all_goals
        have hz3 : w2.heap.size ≤ w3.heap.size := hb3.size
        have hz4 := hb4.size
        have b5 := ((b.drew.trans (hb3.mono (Nat.le_trans b.size (Nat.le_refl _)))).trans (hb4.mono (Nat.le_trans b.size hz3))).trans (hb5.mono (Nat.le_trans b.size hz3))
        have hz5 := hb5.size
        have hltR := RR.lt
        have hOB := Lib.hid (((hG.far (a := ⟨w.heap.size + 1, 0, none⟩) (.slice A5 G.1.length c5) (.inl (by show w.heap.size + 1 < w4.heap.size; omega))).far (a := ⟨w.heap.size + 1, 1, none⟩) (.slice A6 G.2.length c6) (.inl (by show w.heap.size + 1 < w4.heap.size; omega))).more (lo' := w.heap.size) (by omega) (B' := w5.heap.size) (by omega))
        clear hG hb3 hb4 hb5 hq hA3 RR Xk R XD RD HD WW GA z0 z1 zf x0 x1
        go_wp2
        exact bodyPost_ret (v := .tuple #[.agg #[.slice A5 G.1.length c5, .slice A6 G.2.length c6], .bool true]) (by simp [results, Tryz.results67, go_sem, r0, r1]) rfl ⟨A5, c5, A6, c6, by rw [E2.out, E1.out], by rw [E1.out]; exact hOB.out.more (Nat.le_refl _) (by simp), (b5.setCell (p := ⟨w.heap.size + 1, 0, none⟩) (by simp) _).setCell (p := ⟨w.heap.size + 1, 1, none⟩) (by simp) _⟩
    · rw [hi]
      have Hno := Lib.hid hno
      clear hi hno
      go_wp2_with fail
      refine (indexOf_any A' _ _ ws t _ hn' (hh.2.below b b.size)).mono ?_; rintro e w3 ⟨rfl, hb3⟩
      have X := Xk.out.next hb3
      have R := R.next hb3
      have s3 := hb3.size
      have b := b.trans (hb3.mono b.size)
      clear hb3 x0 x1 hltX Xk
      rcases idxT_cases ws t with ⟨k, hk, he, _, hi⟩ | ⟨hno2, hi⟩
      · rw [hi]
        obtain ⟨e1, e2, e3⟩ := leave_wait HLK.out Hno.out hk he
        have E1 := Lib.hid e1
        have E2 := Lib.hid e2
        have E3 := Lib.hid e3
        clear hi he e1 e2 e3
        obtain ⟨x0, x1, xf⟩ := X.c2
        have hltX := X.lt
        have Xk := Lib.hid X
        have WW := Lib.hid (fun B w h => withoutC_any A' B c' ws k w hn' hk hc' h)
        have PL : (ws.eraseIdx k).length ≤ 1048576 := by rw [List.length_eraseIdx]; split <;> omega
        generalize ws.eraseIdx k = P at E1 E3 WW PL
        have GA := Lib.hid (fun A c B lo q bs w hq h => granted_any A c B lo q bs hs P w E3.out hq h)
        generalize grantS hs P = G at E1 GA
        have HD := Lib.hid (hh.below b.drew b.size)
        have XD := Lib.hid Xk.out.drew
        have RD := Lib.hid R.drew
        clear xf X
        go_wp2_with fail
        go_region_law (first
          | (go_simp; go_at_call 105; refine (WW.out _ _ HD.out.2).mono ?_; rintro o w4 ⟨A3, c3, rfl, hA3, hb3⟩; obtain ⟨z0, z1, zf⟩ := (XD.out.next hb3).c2)
          | (go_simp; go_at_call 106; refine (queueFrom_any A3 c3 _ P _ PL hA3).mono ?_; rintro o w5 ⟨q, bs, rfl, hq, hb4⟩; obtain ⟨y0, y1, yf⟩ := ((XD.out.next hb3).next hb4).c2)
          | (go_simp; go_at_call 104; refine (GA.out A _ _ _ q bs _ hq ((HD.out.1.below hb3 hb3.size).below hb4 hb4.size)).mono ?_; rintro o w6 ⟨A5, c5, A6, c6, rfl, hG, hb5⟩; have RR := ((RD.out.next hb3).next hb4).below hb5 (Nat.lt_of_lt_of_le R.lt hb3.size); obtain ⟨r0, r1, rf⟩ := RR.c2))
        all_goals
          have hz3 : w3.heap.size ≤ w4.heap.size := hb3.size
          have hz4 := hb4.size
          have b5 := ((b.drew.trans (hb3.mono (Nat.le_trans b.size (Nat.le_refl _)))).trans (hb4.mono (Nat.le_trans b.size hz3))).trans (hb5.mono (Nat.le_trans b.size hz3))
          have hz5 := hb5.size
          have hltR := RR.lt
          have hOB := Lib.hid (((hG.far (a := ⟨w.heap.size + 1, 0, none⟩) (.slice A5 G.1.length c5) (.inl (by show w.heap.size + 1 < w5.heap.size; omega))).far (a := ⟨w.heap.size + 1, 1, none⟩) (.slice A6 G.2.length c6) (.inl (by show w.heap.size + 1 < w5.heap.size; omega))).more (lo' := w.heap.size) (by omega) (B' := w6.heap.size) (by omega))
          clear hG hb3 hb4 hb5 hq hA3 RR Xk R XD RD HD WW GA z0 z1 zf y0 y1 yf x0 x1
          go_wp2
          exact bodyPost_ret (v := .tuple #[.agg #[.slice A5 G.1.length c5, .slice A6 G.2.length c6], .bool true]) (by simp [results, Tryz.results67, go_sem, r0, r1]) rfl ⟨A5, c5, A6, c6, by rw [E2.out, E1.out], by rw [E1.out]; exact hOB.out.more (Nat.le_refl _) (by simp), (b5.setCell (p := ⟨w.heap.size + 1, 0, none⟩) (by simp) _).setCell (p := ⟨w.heap.size + 1, 1, none⟩) (by simp) _⟩
      · rw [hi]
        have HB := Lib.hid (leave_none Hno.out hno2)
        clear hi hno2
        obtain ⟨x0, x1, xf⟩ := X.c2
        clear xf
        go_wp2_with fail
        refine (implCopy_any _ _ _ _ _ hs ws _ hn hn' (hh.below b b.size)).mono ?_; rintro e w9 ⟨v1, v2, rfl, ho, hb9⟩
        obtain ⟨A3, c3, A4, c4, rfl, rfl, _⟩ := ho.lock
        have hlR := R.lt
        have R := R.next hb9
        have b9 := b.trans (hb9.mono b.size)
        obtain ⟨r0, r1, rf⟩ := R.c2
        have hOB := Lib.hid (ho.far (a := ⟨w.heap.size + 1, 0, none⟩) (.slice A3 hs.length c3) (by simpa using hlR))
        have hOB := Lib.hid (hOB.out.far (a := ⟨w.heap.size + 1, 1, none⟩) (.slice A4 ws.length c4) (by simpa using hlR))
        have hltR : w.heap.size + 1 < w9.heap.size := R.lt
        clear x0 x1 hb9 X R ho hlR
        go_wp2
        exact bodyPost_ret (v := .tuple #[.agg #[.slice A3 hs.length c3, .slice A4 ws.length c4], .bool false]) (by simp [results, Tryz.results67, go_sem, r0, r1]) rfl (RetOwn.lock ⟨_, _, by rw [HB.out.2], by rw [HB.out.1]; exact hOB.out.less b.size, (b9.setCell (p := ⟨w.heap.size + 1, 0, none⟩) (by simp) _).setCell (p := ⟨w.heap.size + 1, 1, none⟩) (by simp) _⟩)


theorem leave_empty (t : Int) : leaveL [] [] t = ([], []) ∧ leaveB [] [] t = false := leave_no (by
  unfold holdsL
  split
  · simp [holdsAt, ids]
  · rfl)
theorem implLeave_zero (tid : Int) (w : World) : Calls Tryz.prog 67 #[.agg #[.slice none 0 0, .slice none 0 0], .int .i64 tid] w fun e w' => ∃ G1 d1 G2 d2, e = .returned (.tuple #[.agg #[.slice G1 0 d1, .slice G2 0 d2], .bool false]) ∧ Below w.heap.size w w' := by
  have h := implLeaveC_any none none 0 0 0 [] [] tid w (by simp) (by simp) (by simp) (by simp) ⟨fun h => absurd h (by simp), fun h => absurd h (by simp)⟩
  rw [(leave_empty tid).1, (leave_empty tid).2] at h
  exact h.mono fun e w' ⟨A, c, A', c', e1, _, hb⟩ => ⟨A, c, A', c', e1, hb⟩
/-- a table's rooms, after a store below its memory -/
theorem capl_far {w : World} {lo B : Nat} {A : Option Addr} {T : TL} (ho : TOwn w lo B A T) (h : TCapL w A T) {a : Addr} (v : Value) (hd : a.block < lo) : TCapL (w.setCell a v) A T := fun b off e j hj => by
  subst e
  obtain ⟨b', off', e, q, L, H, hr⟩ := ho (by omega)
  injection e with e
  injection e with e1 _ _
  subst e1
  have := hr.rlo
  exact h.far v (by omega) b off rfl j hj
theorem capl_of {w : World} {A : Option Addr} {T : TL} (h : TCap w A T) : TCapL w A T := fun b off e j hj => by
  obtain ⟨G, G', h1, h2⟩ := h b off e j hj
  exact ⟨G, _, G', _, ⟨h1, h2⟩, Nat.le_refl _, Nat.le_refl _⟩
/-- the room that the store's lock has -/
theorem lkP_cap {w : World} {b off : Nat} {T : TL} {q : Nat → Pl} (hc : TCapL w (some ⟨b, off, none⟩) T) (hT : tabOk T = true) (h : ∀ j, j < T.length → CCells w b (off + j * 6) (cd T j) (q j)) {k : Nat} (hk : k < T.length) : (cd T k).hs.length ≤ (lkP T q k).c ∧ (cd T k).ws.length ≤ (lkP T q k).c' := by
  unfold lkP
  by_cases h0 : (cd T k).hs.length = 0
  · rw [if_pos h0]
    obtain ⟨e1, e2⟩ := lock_empty (tabOk_lockOk hT hk) h0
    simp [e1, e2]
  · rw [if_neg h0]
    obtain ⟨G, cc, G', cc', ⟨h4, h5⟩, h6, h7⟩ := hc b off rfl k hk
    have e4 := h4.symm.trans (h k hk).c4
    have e5 := h5.symm.trans (h k hk).c5
    injection e4 with e4
    injection e4 with _ _ e4
    injection e5 with e5
    injection e5 with _ _ e5
    omega
set_option maxHeartbeats 1600000 in
set_option maxRecDepth 100000 in
theorem implLeaveCellC_any (b off c B : Nat) (T : TL) (key tid : Int) (w : World) (hkey : keyOf Tryz.prog 3 (.int .i64 key) = some (.int .i64 key)) (hs : TFit T) (hB : B ≤ w.heap.size) (h : TAt w B (some ⟨b, off, none⟩) T) (hcap : TCapL w (some ⟨b, off, none⟩) T) :
    Calls Tryz.prog 25 #[.agg #[.slice (some ⟨b, off, none⟩) T.length c], .int .i64 key, .int .i64 tid] w (RetTOC w (vcT T key tid) fun v => .tuple #[v, .bool (vcB T key tid)]) := by
  go_enter Tryz.func25, Tryz.ntmps25
  go_wp2_with fail
  have b0 := ((Below.refl w.heap.size w).alloc (Nat.le_refl _) (.cells #[.slice (some ⟨b, off, none⟩) T.length c] 28)).alloc (by simp) (.cells #[.slice none 0 0] 28)
  have X := (Box.new (w := w) (c := #[.slice (some ⟨b, off, none⟩) T.length c]) (t := 28) rfl).alloc (.cells #[.slice none 0 0] 28)
  have R := Box.new (w := w.alloc (.cells #[.slice (some ⟨b, off, none⟩) T.length c] 28)) (b := w.heap.size + 1) (c := #[.slice none 0 0]) (t := 28) (by simp)
  have hz0 : w.heap.size + 2 ≤ ((w.alloc (.cells #[.slice (some ⟨b, off, none⟩) T.length c] 28)).alloc (.cells #[.slice none 0 0] 28)).heap.size := by simp
  generalize (w.alloc (.cells #[.slice (some ⟨b, off, none⟩) T.length c] 28)).alloc (.cells #[.slice none 0 0] 28) = w0 at b0 X R hz0 ⊢
  cases hT : tabOk T with
  | false =>
    have HE := Lib.hid (vc_not (tid := tid) (show thereB T key = false by simp [thereB, hT]))
    refine (storeOf_bad _ c B T _ hs (Nat.le_trans hB b0.size) (h.keep b0 hB) hT).mono ?_; rintro o w1 ⟨rfl, hb1⟩
    have hA := (Below.refl w1.heap.size w1).alloc (Nat.le_refl _) (.cells #[.map none, .map none] 60)
    have hbA := hb1.trans (hA.mono hb1.size)
    have X := X.next hbA
    have R := R.next hbA
    have b2 := b0.trans (hbA.mono b0.size)
    have hz2 := Nat.le_trans hz0 hbA.size
    have hlk := Go.Maps.look_nil (w := w1.alloc (.cells #[.map none, .map none] 60)) false keyI Tryz.underlying58 (zeroLock _) hkey
    clear hb1 hT hA hbA hcap
    go_wp2_with fail
    refine (implLeave_zero tid _).mono ?_; rintro o w4 ⟨G1, d1, G2, d2, rfl, hb4⟩
    have hA4 := (Below.refl w4.heap.size w4).alloc (Nat.le_refl _) (.cells #[.slice G1 0 d1, .slice G2 0 d2] 109)
    have hb4A := hb4.trans (hA4.mono hb4.size)
    have X := X.next hb4A
    have R := R.next hb4A
    have b2 := b2.trans (hb4A.mono b2.size)
    have hz5 := Nat.le_trans hz2 hb4A.size
    clear hb4 hA4 hb4A hlk
    go_upto_region 3 with (fail)
    generalize w4.alloc (.cells #[.slice G1 0 d1, .slice G2 0 d2] 109) = w5 at X R b2 hz5 ⊢
    obtain ⟨x0, xf⟩ := X.c1
    have Xl := X.lt
    clear X xf
    go_wp2_with fail
    refine (copiedTableC_any b off c B T _ hs (Nat.le_trans hB b2.size) (h.keep b2 hB)).mono ?_; rintro o w8 ⟨A8, c8, rfl, ht, hb8, hcx⟩
    have R8 := R.next hb8
    have b8 := b2.trans (hb8.mono b2.size)
    have HO := Lib.hid ((ht.put (a := w.heap.size + 1) (.slice A8 T.length c8) (by omega)).more (lo' := w.heap.size) (B' := (w8.setCell ⟨w.heap.size + 1, 0, none⟩ (.slice A8 T.length c8)).heap.size) (by omega) (by simp))
    have HB8 := Lib.hid (b8.setCell (p := ⟨w.heap.size + 1, 0, none⟩) (by simp) (.slice A8 T.length c8))
    have HCX := Lib.hid (capl_far ht hcx (a := ⟨w.heap.size + 1, 0, none⟩) (.slice A8 T.length c8) (by show w.heap.size + 1 < _; omega))
    obtain ⟨r8, rf8⟩ := R8.c1
    have Rl8 := R8.lt
    clear ht hcx hb8 R8 b8 R b2 x0 Xl
    go_wp2
    exact bodyPost_ret (v := .tuple #[.agg #[.slice A8 T.length c8], .bool false]) (by simp [results, Tryz.results25, go_sem, r8]) rfl (by
      rw [HE.out.1, HE.out.2]
      exact ⟨A8, c8, rfl, HO.out, HB8.out, HCX.out⟩)
  | true =>
    have hl8 := tabOk_len hT
    have hTE : thereB T key = decide (0 ≤ key ∧ key < (T.length : Int)) := by
      rw [Bool.eq_iff_iff, there_iff, decide_eq_true_eq]
      constructor
      · rintro ⟨_, h1, h2⟩; omega
      · rintro ⟨h1, h2⟩; exact ⟨hT, h1, by omega⟩
    have HT := Lib.hid hT
    obtain ⟨bb, off', e, hbB, q, hc⟩ := h (by omega)
    injection e with e
    injection e with e1 e2 _
    subst e1 e2
    have hcl0 : TCl w0 B b off T q := ⟨hbB, fun j hj => ⟨(hc j hj).1.below b0 (by omega), LAt.keep (hc j hj).2 b0 hB⟩⟩
    have HCap := Lib.hid (fun k (hk : k < T.length) => lkP_cap hcap hT (fun j hj => (hc j hj).1) hk)
    have q0H : ∃ q : Nat → Pl, ∀ j, j < T.length → CCells w b (off + j * 6) (cd T j) (q j) ∧ LsAt w B (cd T j) (q j) := ⟨q, hc⟩
    have HLs := Lib.hid (fun j (hj : j < T.length) => (hc j hj).2)
    refine (storeOf_ok b off c B T q _ hs (Nat.le_trans hB b0.size) hcl0 hT).mono ?_; rintro o w1 ⟨m1, m2, mm, rfl, hne, hm1, hm2, M1, hmm, M2, hb1⟩
    have X := X.next hb1
    have R := R.next hb1
    have b1 := b0.trans (hb1.mono b0.size)
    have hz1 := Nat.le_trans hz0 hb1.size
    have hm1l := M1.lt
    have hm2l := M2.lt
    have hA := (Below.refl w1.heap.size w1).alloc (Nat.le_refl _) (.cells #[.map (some m1), .map (some m2)] 60)
    have St := Box.new (w := w1) (c := #[.map (some m1), .map (some m2)]) (t := 60) rfl
    have M1 := M1.next hA
    have M2 := M2.next hA
    have X := X.next hA
    have R := R.next hA
    have b1 := b1.trans (hA.mono b1.size)
    have hz2 : w1.heap.size < (w1.alloc (.cells #[.map (some m1), .map (some m2)] 60)).heap.size := by simp
    clear hb1 hcl0 hc hT hA b0 hcap
    go_upto_region 2 with (fail)
    generalize w1.alloc (.cells #[.map (some m1), .map (some m2)] 60) = w2 at M1 M2 St X R b1 hz2 ⊢
    obtain ⟨t0, t1, tf⟩ := St.c2
    have Tl := St.lt
    have hfl := field_locks (some m1) (some m2) w2
    by_cases hk : 0 ≤ key ∧ key < (T.length : Int)
    · obtain ⟨k, rfl⟩ := Int.eq_ofNat_of_zero_le hk.1
      have hkn : k < T.length := by omega
      have hkk := hk
      have HCo := Lib.hid (vc_yes (tid := tid) (show thereB T (k : Int) = true by rw [hTE, decide_eq_true hk]))
      have hwo := tabOk_wordOk HT.out hkn
      have HSl := Lib.hid (show slotsF T T.length (k : Int) = some (.agg #[.int .i64 (pk (cd T k).e (cd T k).s (cd T k).h), .int .i64 (cd T k).v]) by unfold slotsF; rw [if_pos hk]; rfl)
      have HLk := Lib.hid (locks_get (q := q) HT.out hkn)
      have hlk := hs.at_ hkn
      clear hTE hk tf
      have b2 := b1
      have hOkk := leave_ok tid (tabOk_lockOk HT.out hkn)
      have HOk := Lib.hid hOkk
      clear hOkk
      obtain ⟨hcp1, hcp2⟩ := HCap.out k hkn
      have hLA : LAt w2 B (lkP T q k).G (lkP T q k).G' ((cd T k).hs, (cd T k).ws) := LAt.keep (locks_at HT.out hkn (HLs.out k hkn)) b2 hB
      go_wp2_with (first | (at_lookup; refine wp_look _ rfl _ _ rfl keyI Tryz.underlying58 (zeroLock _) rfl M2 (k : Int) rfl hkey (.agg #[.slice (lkP T q k).G (cd T k).hs.length (lkP T q k).c, .slice (lkP T q k).G' (cd T k).ws.length (lkP T q k).c']) (by rw [HLk.out]; rfl) ?_) | fail)
      refine (implLeaveC_any _ _ _ _ B (cd T k).hs (cd T k).ws tid _ hlk.1 hlk.2 hcp1 hcp2 hLA).mono ?_; rintro o w4 ⟨G1, d1, G2, d2, rfl, hown, hb⟩
      have X := X.next hb
      have R := R.next hb
      have St := St.next hb
      have M1 := M1.next hb
      have M2 := M2.next hb
      have b2 := b2.trans (hb.mono b2.size)
      have hz4 := Nat.lt_of_lt_of_le hz2 hb.size
      clear hb t0 t1 Tl hLA hfl
      have HPut := Lib.hid (fun h => vcT_put (T := T) (k := k) (tid := tid) h)
      have HBad := Lib.hid (fun h => vcT_bad (T := T) (key := k) (tid := tid) h)
      rw [HCo.out] at HPut HBad
      generalize leaveB (cd T k).hs (cd T k).ws tid = code at HPut HBad HCo ⊢
      generalize leaveL (cd T k).hs (cd T k).ws tid = m at hown HOk HPut ⊢
      have hA := (Below.refl w4.heap.size w4).alloc (Nat.le_refl _) (.cells #[.slice G1 m.1.length d1, .slice G2 m.2.length d2] 109)
      have L := Box.new (w := w4) (c := #[.slice G1 m.1.length d1, .slice G2 m.2.length d2]) (t := 109) rfl
      have X := X.next hA
      have R := R.next hA
      have St := St.next hA
      have M1 := M1.next hA
      have M2 := M2.next hA
      have b2 := b2.trans (hA.mono b2.size)
      have hown := LOwn.below hown hA (Nat.le_refl _)
      have hz5 : w4.heap.size < (w4.alloc (.cells #[.slice G1 m.1.length d1, .slice G2 m.2.length d2] 109)).heap.size := by simp
      clear hA
      go_upto_region 3 with (fail)
      generalize w4.alloc (.cells #[.slice G1 m.1.length d1, .slice G2 m.2.length d2] 109) = w5 at X R St M1 M2 b2 hown L hz5 ⊢
      have hz25 : w.heap.size + 2 ≤ w5.heap.size := by omega
      cases code with
      | false =>
        have HE := Lib.hid (And.intro HCo.out (HBad.out rfl))
        obtain ⟨x0, xf⟩ := X.c1
        have Xl := X.lt
        have h : TAt w B (some ⟨b, off, none⟩) T := fun _ => ⟨b, off, rfl, hbB, q0H⟩
        clear L hown M1 M2 St X xf HPut HBad HOk
        go_wp2_with fail
        refine (copiedTableC_any b off c B T _ hs (Nat.le_trans hB b2.size) (h.keep b2 hB)).mono ?_; rintro o w8 ⟨A8, c8, rfl, ht, hb8, hcx⟩
        have R8 := R.next hb8
        have b8 := b2.trans (hb8.mono b2.size)
        have HO := Lib.hid ((ht.put (a := w.heap.size + 1) (.slice A8 T.length c8) (by omega)).more (lo' := w.heap.size) (B' := (w8.setCell ⟨w.heap.size + 1, 0, none⟩ (.slice A8 T.length c8)).heap.size) (by omega) (by simp))
        have HB8 := Lib.hid (b8.setCell (p := ⟨w.heap.size + 1, 0, none⟩) (by simp) (.slice A8 T.length c8))
        have HCX := Lib.hid (capl_far ht hcx (a := ⟨w.heap.size + 1, 0, none⟩) (.slice A8 T.length c8) (by show w.heap.size + 1 < _; omega))
        obtain ⟨r8, rf8⟩ := R8.c1
        have Rl8 := R8.lt
        clear ht hcx hb8 R8 b8 R b2 x0 Xl
        go_wp2
        exact bodyPost_ret (v := .tuple #[.agg #[.slice A8 T.length c8], .bool false]) (by simp [results, Tryz.results25, go_sem, r8]) rfl (by
          rw [HE.out.1, HE.out.2]
          exact ⟨A8, c8, rfl, HO.out, HB8.out, HCX.out⟩)
      | true =>
        have HE := Lib.hid (And.intro HCo.out (HPut.out rfl))
        have hmo := HOk.out
        have hm8 := ((lockOk_iff _ _).1 hmo).1.len
        have HMO := Lib.hid hmo
        obtain ⟨t0, t1, tf⟩ := St.c2
        obtain ⟨l0, l1, lf⟩ := L.c2
        have Tl := St.lt
        have Ll := L.lt
        have hlt : LAt w5 w5.heap.size G1 G2 (m.1, m.2) := (LOwn.at_ hown).up (Nat.le_of_lt hz5)
        clear HPut HBad HOk tf lf X hmo
        go_wp2_with fail
        refine (setLock_any m1 m2 T.length mm w5.heap.size (slotsF T T.length) (locksF T q T.length) (k : Int) (cd T k).v (cd T k).e (cd T k).s (cd T k).h G1 G2 d1 d2 m.1 m.2 _ (by omega) (by omega) (by omega) hne HSl.out hwo (by omega) (by omega) M1 M2 (Nat.le_refl _) hlt).mono ?_; rintro o w6 ⟨rfl, N1, ⟨mm', hmm', N2⟩, hU⟩
        have St := St.but hU (by omega) (by omega)
        have R := R.but hU (by omega) (by omega)
        have b6 := b2.trans (hU.below (L := w.heap.size) (by omega) (by omega) b2.size)
        have hz6 := hU.size
        have hnew : LAt w6 w6.heap.size G1 G2 m := (LOwn.at_ (lown_but2 hown hU (by omega) (by omega) (Nat.le_of_lt hz5))).up (by omega)
        have hto := put_ok HT.out hkn HMO.out
        have N1 := N1.congr (slots_put hkn m)
        rw [← putT_len T k (lockC (cd T k) m)] at N1
        obtain ⟨t0, t1, tf⟩ := St.c2
        have Tl := St.lt
        clear l0 l1 Ll M1 M2 hown hlt b2 L hU St tf
        go_wp2_with fail
        refine (tableC_any m1 m2 mm' w6.heap.size (putT T k (lockC (cd T k) m)) (putP T q k m ⟨G1, d1, G2, d2⟩) _ _ (tab_fit hto) (Nat.le_refl _) (fun j hj => tabOk_wordOk hto hj) N1 N2 (fun j hj => locks_put HT.out m HMO.out ⟨G1, d1, G2, d2⟩ (by rw [putT_len] at hj; exact hj)) (fun j hj => putP_at HT.out HMO.out (P := ⟨G1, d1, G2, d2⟩) hnew (fun i hi => (LAt.keep (HLs.out i hi) b6 hB).up (Nat.le_trans hB b6.size)) (by rw [putT_len] at hj; exact hj))).mono ?_; rintro o w8 ⟨A8, c8, rfl, ht, hb8, hcx⟩
        have R8 := R.next hb8
        have b8 := b6.trans (hb8.mono b6.size)
        generalize putT T k (lockC (cd T k) m) = T8 at HE ht hcx
        have HO := Lib.hid ((ht.put (a := w.heap.size + 1) (.slice A8 T8.length c8) (by omega)).more (lo' := w.heap.size) (B' := (w8.setCell ⟨w.heap.size + 1, 0, none⟩ (.slice A8 T8.length c8)).heap.size) (by omega) (by simp))
        have HB8 := Lib.hid (b8.setCell (p := ⟨w.heap.size + 1, 0, none⟩) (by simp) (.slice A8 T8.length c8))
        have HCX := Lib.hid (capl_far ht hcx (a := ⟨w.heap.size + 1, 0, none⟩) (.slice A8 T8.length c8) (by show w.heap.size + 1 < _; omega))
        obtain ⟨r8, rf8⟩ := R8.c1
        have Rl8 := R8.lt
        clear ht hcx hb8 R8 b8 R t0 t1 Tl N1 N2 b6 hnew hto
        go_wp2
        exact bodyPost_ret (v := .tuple #[.agg #[.slice A8 T8.length c8], .bool true]) (by simp [results, Tryz.results25, go_sem, r8]) rfl (by
          rw [HE.out.1, HE.out.2]
          exact ⟨A8, c8, rfl, HO.out, HB8.out, HCX.out⟩)
    · have HE := Lib.hid (vc_not (tid := tid) (show thereB T key = false by rw [hTE, decide_eq_false hk]))
      have HSl := Lib.hid (show locksF T q T.length key = none by unfold locksF; rw [if_neg (fun h => hk h.1)])
      have hz2 : w.heap.size + 2 ≤ w2.heap.size := by omega
      have b2 := b1
      have h : TAt w B (some ⟨b, off, none⟩) T := fun _ => ⟨b, off, rfl, hbB, q0H⟩
      clear hTE hk b1 tf
      go_wp2_with (first | (at_lookup; refine wp_look _ rfl _ _ rfl keyI Tryz.underlying58 (zeroLock _) rfl M2 key rfl hkey (.agg #[.slice none 0 0, .slice none 0 0]) (by rw [HSl.out]; rfl) ?_) | fail)
      refine (implLeave_zero tid _).mono ?_; rintro o w4 ⟨G1, d1, G2, d2, rfl, hb4⟩
      have hA4 := (Below.refl w4.heap.size w4).alloc (Nat.le_refl _) (.cells #[.slice G1 0 d1, .slice G2 0 d2] 109)
      have hb4A := hb4.trans (hA4.mono hb4.size)
      have X := X.next hb4A
      have R := R.next hb4A
      have b2 := b2.trans (hb4A.mono b2.size)
      have hz5 := Nat.le_trans hz2 hb4A.size
      clear hb4 hA4 hb4A t0 t1 Tl hfl
      go_upto_region 3 with (fail)
      generalize w4.alloc (.cells #[.slice G1 0 d1, .slice G2 0 d2] 109) = w5 at X R b2 hz5 ⊢
      obtain ⟨x0, xf⟩ := X.c1
      have Xl := X.lt
      clear X xf
      go_wp2_with fail
      refine (copiedTableC_any b off c B T _ hs (Nat.le_trans hB b2.size) (h.keep b2 hB)).mono ?_; rintro o w8 ⟨A8, c8, rfl, ht, hb8, hcx⟩
      have R8 := R.next hb8
      have b8 := b2.trans (hb8.mono b2.size)
      have HO := Lib.hid ((ht.put (a := w.heap.size + 1) (.slice A8 T.length c8) (by omega)).more (lo' := w.heap.size) (B' := (w8.setCell ⟨w.heap.size + 1, 0, none⟩ (.slice A8 T.length c8)).heap.size) (by omega) (by simp))
      have HB8 := Lib.hid (b8.setCell (p := ⟨w.heap.size + 1, 0, none⟩) (by simp) (.slice A8 T.length c8))
      have HCX := Lib.hid (capl_far ht hcx (a := ⟨w.heap.size + 1, 0, none⟩) (.slice A8 T.length c8) (by show w.heap.size + 1 < _; omega))
      obtain ⟨r8, rf8⟩ := R8.c1
      have Rl8 := R8.lt
      clear ht hcx hb8 R8 b8 R b2 x0 Xl
      go_wp2
      exact bodyPost_ret (v := .tuple #[.agg #[.slice A8 T.length c8], .bool false]) (by simp [results, Tryz.results25, go_sem, r8]) rfl (by
        rw [HE.out.1, HE.out.2]
        exact ⟨A8, c8, rfl, HO.out, HB8.out, HCX.out⟩)
theorem implLeaveCell_any (b off c B : Nat) (T : TL) (key tid : Int) (w : World) (hkey : keyOf Tryz.prog 3 (.int .i64 key) = some (.int .i64 key)) (hs : TFit T) (hB : B ≤ w.heap.size) (h : TAt w B (some ⟨b, off, none⟩) T) (hcap : TCap w (some ⟨b, off, none⟩) T) :
    Calls Tryz.prog 25 #[.agg #[.slice (some ⟨b, off, none⟩) T.length c], .int .i64 key, .int .i64 tid] w (RetTO w (vcT T key tid) fun v => .tuple #[v, .bool (vcB T key tid)]) :=
  (implLeaveCellC_any b off c B T key tid w hkey hs hB h (capl_of hcap)).mono fun _ _ h => h.less
theorem vcT_fit {T : TL} {key tid : Int} (h : TFit T) : TFit (vcT T key tid) := by
  unfold vcT
  split
  · rename_i h2
    have ht : thereB T key = true := by
      cases hh : thereB T key with
      | true => rfl
      | false => simp [vcB, hh] at h2
    obtain ⟨h1, _, h4⟩ := there_iff.1 ht
    exact tab_fit (put_ok h1 h4 (leave_ok tid (tabOk_lockOk h1 h4)))
  · exact h
end Go.Proofs.YtaninlnobmjbmaaGreat

namespace Go.Proofs.YtaninlnobmjbmaaGreat
open Go.RowKit

/-- the marked keys below m, ascending -/
def keysUp (M : Nat → Bool) (m : Nat) : List Int := ((List.range m).filter M).map Int.ofNat
theorem keysUp_yes {M : Nat → Bool} {m : Nat} (h : M m = true) : keysUp M (m + 1) = keysUp M m ++ [(m : Int)] := by simp [keysUp, List.range_succ, List.filter_append, h]
theorem keysUp_no {M : Nat → Bool} {m : Nat} (h : M m = false) : keysUp M (m + 1) = keysUp M m := by simp [keysUp, List.range_succ, List.filter_append, h]
theorem keysUp_le (M : Nat → Bool) (m : Nat) : (keysUp M m).length ≤ m := by
  have := List.length_filter_le M (List.range m)
  simpa [keysUp] using this

/-- the answer is a slice of the call's own that holds l; nothing that was there has turned -/
def OwnsOut (w : World) (l : List Int) (e : Ending) (w' : World) : Prop :=
  ∃ v, e = .returned v ∧ w'.ownsRow w.heap.size 3 1 v l.length (l.map (.int .i64)) ∧ Below w.heap.size w w'

theorem ownsRow_base {w : World} {base base' size n : Nat} {e : TypeId} {v : Value} {xs : List Value} (h : w.ownsRow base' e size v n xs) (hb : base ≤ base') : w.ownsRow base e size v n xs := by
  refine ⟨h.1, ?_⟩
  rcases h.2 with h' | ⟨g, cap, cur, h1, h2, h3⟩
  · exact .inl h'
  · exact .inr ⟨g, cap, cur, h1, by omega, h3⟩



set_option maxHeartbeats 400000 in
theorem markedKeys_any (M : Nat → Bool) (w : World) :
    Calls Tryz.prog 66 #[.agg #[.bool (M 0), .bool (M 1), .bool (M 2), .bool (M 3), .bool (M 4), .bool (M 5), .bool (M 6), .bool (M 7)]] w (OwnsOut w (keysUp M 8)) := by
  obtain ⟨i0, hi, hz0, hz1, hz2⟩ := info_parts infoInt
  go_enter Tryz.func66, Tryz.ntmps66
  go_wp2
  go_loopw [3, 7] (fun v i wr => ∃ k : Nat, k ≤ 8 ∧ i = .int .i64 k ∧ wr.ownsRow w.heap.size 3 1 v (keysUp M k).length ((keysUp M k).map (.int .i64)) ∧ Below w.heap.size w wr) (fun _ i _ => 8 - (intOf i).toNat)
  case atStart => exact ⟨0, Nat.zero_le _, rfl, World.ownsRow_nil _ _ _ _, (Below.refl _ _).alloc (Nat.le_refl _) _⟩
  case round =>
    obtain ⟨k, hk, rfl, hown, hb⟩ := hrel
    by_cases hkn : k < 8
    · have hkz : (k : Int) < 8 := by omega
      have hle := keysUp_le M k
      have hs := hb.size
      have hidx : ∀ w, (Instr.index 125 (.agg #[.bool (M 0), .bool (M 1), .bool (M 2), .bool (M 3), .bool (M 4), .bool (M 5), .bool (M 6), .bool (M 7)]) (.int .i64 (k : Int))).run Tryz.prog w = .ok (.bool (M k)) w := by
        have h8 : k = 0 ∨ k = 1 ∨ k = 2 ∨ k = 3 ∨ k = 4 ∨ k = 5 ∨ k = 6 ∨ k = 7 := by omega
        rcases h8 with rfl | rfl | rfl | rfl | rfl | rfl | rfl | rfl <;> (intro w; kernel_rfl)
      cases hM : M k with
      | true =>
        rw [hM] at hidx
        have Hy := Lib.hid (keysUp_yes hM)
        clear hM
        go_wp2_with (at_builtin; refine wpList_append_own _ rfl _ _ 38 rfl w.heap.size 3 i0 (.int .i64 0) 1 8 Tryz.underlying38 hi hz0 hz1 hz2 rfl (by decide) _ _ _ rfl (hown.alloc _) ⟨wr.heap.size, 0, none⟩ 1 1 [.int .i64 k] rfl rfl ?c1 ?c2 ?c3 ?c4 ?c5 ?_)
        case c1 =>
          intro j u hj
          match j, hj with
          | 0, hj => simp at hj; subst hj; simp [Addr.add]
        case c2 => intro u hu; simp at hu; subst hu; rfl
        case c3 => unfold maxLen; omega
        case c4 => omega
        case c5 => simp; omega
        intro v' w1 hown' hgrow _
        have hb' := (hb.alloc hs _).grown hgrow (by simp; omega) (fun q hq => (hown.lt q hq).1)
        have hown2 : w1.ownsRow w.heap.size 3 1 v' (keysUp M (k + 1)).length ((keysUp M (k + 1)).map (.int .i64)) := by rw [Hy.out]; simpa using hown'
        clear hown' hgrow hown hb hidx hi hz0 hz1 hz2
        go_wp2
        exact ⟨⟨k + 1, by omega, by go_num, hown2, hb'⟩, by simp [intOf]; omega⟩
      | false =>
        rw [hM] at hidx
        have hown2 := hown
        rw [← keysUp_no hM] at hown2
        clear hM hown hi hz0 hz1 hz2
        go_wp2
        exact ⟨⟨k + 1, by omega, by go_num, hown2, hb⟩, by simp [intOf]; omega⟩
    · obtain rfl : k = 8 := by omega
      go_wp2
      go_ret
      exact ⟨_, rfl, hown, hb⟩
end Go.Proofs.YtaninlnobmjbmaaGreat

namespace Go.Proofs.YtaninlnobmjbmaaGreat
open Go.RowKit
open Go.Maps (Keyed)

def IdxI (w : World) (l : List Int) (x : Int) (e : Ending) (w' : World) : Prop := ∃ z : Int, e = .returned (.int .i64 z) ∧ decide (0 ≤ z) = l.contains x ∧ w = w'
theorem index_any (A : Option Addr) (c B : Nat) (l : List Int) (x : Int) (w : World) (hn : l.length ≤ 1048576) (h : IntsAt w B A l.length (fun i => l.getD i 0)) :
    Calls Tryz.prog 101 #[.slice A l.length c, .int .i64 x] w (IdxI w l x) := by
  go_enter Tryz.func101, Tryz.ntmps101
  go_wp2
  go_loop [8] (fun i => ∃ k : Nat, k ≤ l.length ∧ i = .int .i64 k ∧ (∀ j, j < k → ¬ l.getD j 0 = x)) (fun i => l.length - (intOf i).toNat)
  case atStart => exact ⟨0, Nat.zero_le _, rfl, fun j hj => absurd hj (by omega)⟩
  case round =>
    obtain ⟨k, hk, rfl, hno⟩ := hrel
    have Hno := Lib.hid hno
    clear hno
    by_cases hkn : k < l.length
    · obtain ⟨b, off, rfl, hB, hc⟩ := h (by omega)
      have hkz : (k : Int) < l.length := by omega
      have d0 : w.cell? ⟨b, off + k, none⟩ = some (.int .i64 (l.getD k 0)) := hc k hkn
      clear hc h
      by_cases e : x = l.getD k 0
      · have HE := Lib.hid (show l.contains x = true by
          rw [List.contains_eq_mem, decide_eq_true_eq, e, List.getD_eq_getElem?_getD, List.getElem?_eq_getElem hkn]
          exact List.getElem_mem hkn)
        have e' : (x == l.getD k 0) = true := by simpa using e
        clear e
        generalize l.getD k 0 = y at d0 e'
        go_wp2
        go_ret
        exact ⟨k, rfl, by rw [HE.out]; simp, rfl⟩
      · have HN := Lib.hid (show ∀ j, j < k + 1 → ¬ l.getD j 0 = x from fun j hj => by
          by_cases ej : j = k
          · subst ej; exact fun h => e h.symm
          · exact Hno.out j (by omega))
        have e' : (x == l.getD k 0) = false := by simpa using e
        clear e
        generalize l.getD k 0 = y at d0 e'
        go_wp2
        exact ⟨⟨k + 1, by omega, by go_num, HN.out⟩, by simp [intOf]; omega⟩
    · obtain rfl : k = l.length := by omega
      have HE := Lib.hid (show l.contains x = false by
        rw [List.contains_eq_mem, decide_eq_false_iff_not]
        intro hm
        obtain ⟨j, hj, e⟩ := List.getElem_of_mem hm
        exact Hno.out j hj (by rw [List.getD_eq_getElem?_getD, List.getElem?_eq_getElem hj]; exact e))
      clear h
      go_wp2
      go_ret
      exact ⟨-1, rfl, by rw [HE.out]; simp, rfl⟩
theorem contains_any (A : Option Addr) (c B : Nat) (l : List Int) (x : Int) (w : World) (hn : l.length ≤ 1048576) (h : IntsAt w B A l.length (fun i => l.getD i 0)) :
    Calls Tryz.prog 64 #[.slice A l.length c, .int .i64 x] w fun e w' => e = .returned (.bool (l.contains x)) ∧ w = w' := by
  go_enter Tryz.func64, Tryz.ntmps64
  go_wp2_with fail
  refine (index_any A c B l x _ hn h).mono ?_; rintro e w1 ⟨z, rfl, hz, rfl⟩
  cases hw : l.contains x with
  | true =>
    rw [hw] at hz
    have HW := Lib.hid hw
    clear hw
    go_wp2
    go_ret
    exact ⟨ret_bool HW.out.symm, rfl⟩
  | false =>
    rw [hw] at hz
    have HW := Lib.hid hw
    clear hw
    go_wp2
    go_ret
    exact ⟨ret_bool HW.out.symm, rfl⟩
/-- the keys marked in the end -/
def whereB (T : TL) (ss : List Int) (tid : Int) (j : Nat) : Bool := decide (j < T.length ∧ ¬ (cd T j).hs.length = 0) && ss.contains (stands T tid j)
theorem locksF_some {T : TL} {q : Nat → Pl} {x : Int} {v : Value} (h : locksF T q T.length x = some v) : ∃ k : Nat, x = k ∧ k < T.length ∧ ¬ (cd T k).hs.length = 0 ∧ v = lkq (cd T k) (q k) := by
  unfold locksF at h
  by_cases hc : (0 ≤ x ∧ x < (T.length : Int)) ∧ ¬ (ci T x).hs.length = 0
  · rw [if_pos hc] at h
    exact ⟨x.toNat, by omega, by omega, hc.2, by injection h with h; exact h.symm⟩
  · rw [if_neg hc] at h; cases h
theorem locksF_is {T : TL} {q : Nat → Pl} (k : Nat) : (locksF T q T.length k).isSome = decide (k < T.length ∧ ¬ (cd T k).hs.length = 0) := by
  unfold locksF
  have h2 : ci T (k : Int) = cd T k := by simp [ci]
  rw [h2]
  by_cases hc : k < T.length ∧ ¬ (cd T k).hs.length = 0
  · rw [if_pos (by omega), decide_eq_true hc]; rfl
  · rw [if_neg (by omega), decide_eq_false hc]; rfl
set_option maxHeartbeats 1600000 in
set_option maxRecDepth 100000 in
theorem keysWhere_any (m1 m2 m B : Nat) (T : TL) (q : Nat → Pl) (A : Option Addr) (c : Nat) (ss : List Int) (tid : Int) (w : World) (hs : TFit T) (h8 : T.length ≤ 8) (hB : B ≤ w.heap.size) (hL : ∀ j, j < T.length → LsAt w B (cd T j) (q j)) (M2 : MapN Tryz.prog 3 w m2 m (locksF T q T.length))
    (hn : ss.length ≤ 1048576) (hi : IntsAt w w.heap.size A ss.length (fun i => ss.getD i 0)) :
    Calls Tryz.prog 24 #[.agg #[.map (some m1), .map (some m2)], .int .i64 tid, .slice A ss.length c] w (OwnsOut w (keysUp (whereB T ss tid) 8)) := by
  go_enter Tryz.func24, Tryz.ntmps24
  go_wp2_with (first | (at_range; refine wp_range _ rfl _ rfl keyI Tryz.underlying58 rfl ((M2.next ((Below.refl _ _).alloc (Nat.le_refl _) _)).next ((Below.refl _ _).alloc (Nat.le_refl _) _)) ?_; intro w0 hR0 hg0 hs0) | fail)
  go_frame
  have hr1 : ((w.alloc (.cells #[.map (some m1), .map (some m2)] 60)).alloc (.cells #[.bool false, .bool false, .bool false, .bool false, .bool false, .bool false, .bool false, .bool false] 125)).heap.size = w.heap.size + 1 + 1 := by simp
  have hb0 := ((Below.refl w.heap.size w).alloc (Nat.le_refl _) (.cells #[.map (some m1), .map (some m2)] 60)).alloc (by simp) (.cells #[.bool false, .bool false, .bool false, .bool false, .bool false, .bool false, .bool false, .bool false] 125)
  have row0 : ((w.alloc (.cells #[.map (some m1), .map (some m2)] 60)).alloc (.cells #[.bool false, .bool false, .bool false, .bool false, .bool false, .bool false, .bool false, .bool false] 125)).rowIs (w.heap.size + 1) 125 8 (fun _ => .bool false) := by
    have := World.rowIs_alloc (w.alloc (.cells #[.map (some m1), .map (some m2)] 60)) #[.bool false, .bool false, .bool false, .bool false, .bool false, .bool false, .bool false, .bool false] 125 (fun _ => .bool false) (fun i hi => by
      have h8 : i = 0 ∨ i = 1 ∨ i = 2 ∨ i = 3 ∨ i = 4 ∨ i = 5 ∨ i = 6 ∨ i = 7 := by simp at hi; omega
      rcases h8 with rfl | rfl | rfl | rfl | rfl | rfl | rfl | rfl <;> rfl)
    simpa using this
  rw [hr1] at hR0 ⊢
  generalize (w.alloc (.cells #[.map (some m1), .map (some m2)] 60)).alloc (.cells #[.bool false, .bool false, .bool false, .bool false, .bool false, .bool false, .bool false, .bool false] 125) = wa at hb0 row0 hg0 hs0 hr1
  have hbw : Below w.heap.size w w0 := hb0.trans ⟨hg0.os, hg0.tape, hg0.output, hg0.size, fun k hk => hg0.block k (by omega) (by simp)⟩
  have row0 : w0.rowIs (w.heap.size + 1) 125 8 (fun j => .bool (whereB T ss tid j && !(locksF T q T.length (j : Int)).isSome)) := (row0.of_block (hg0.block _ (by omega) (by simp))).congr (fun j _ => by
    rw [locksF_is]
    unfold whereB
    generalize decide (j < T.length ∧ ¬ (cd T j).hs.length = 0) = d
    cases d <;> simp)
  clear hb0 hg0 hr1 hs0
  have hm2 := M2.lt
  have HL := Lib.hid hL
  clear hL M2
  go_loopw [8] (fun _ wr => ∃ left cnt, RanN Tryz.prog 3 wr m2 (w.heap.size + 1 + 1) m (locksF T q T.length) left cnt ∧ wr.rowIs (w.heap.size + 1) 125 8 (fun j => .bool (whereB T ss tid j && !left (j : Int))) ∧ Below w.heap.size w wr) (fun _ wr => wr.rangeLeft m2 (w.heap.size + 1 + 1))
  case atStart => exact ⟨_, _, hR0, row0, hbw⟩
  case round =>
    clear hR0 row0 hbw
    obtain ⟨left, cnt, hR, hrow, hb⟩ := hrel
    have hsz := hb.size
    have hlr := hrow.lt
    go_wp2_with (first | (at_next; refine wp_next _ rfl _ rfl keyI Tryz.underlying3 (fun x => .agg #[.slice (q x.toNat).G (cd T x.toNat).hs.length (q x.toNat).c, .slice (q x.toNat).G' (cd T x.toNat).ws.length (q x.toNat).c']) (fun j v hv => by obtain ⟨k, rfl, _, _, rfl⟩ := locksF_some hv; rfl) rfl hR ?c1 ?c2) | fail)
    case c1 =>
      intro _ hl0
      have hrow := hrow.congr (g := fun j => .bool (whereB T ss tid j)) (fun j _ => by rw [hl0]; simp)
      have e0 := hrow.cell (i := 0) (by omega)
      have e1 := hrow.cell (i := 1) (by omega)
      have e2 := hrow.cell (i := 2) (by omega)
      have e3 := hrow.cell (i := 3) (by omega)
      have e4 := hrow.cell (i := 4) (by omega)
      have e5 := hrow.cell (i := 5) (by omega)
      have e6 := hrow.cell (i := 6) (by omega)
      have e7 := hrow.cell (i := 7) (by omega)
      have HL0 := Lib.hid hl0
      clear hl0 hR hrow
      go_wp2_with fail
      refine (markedKeys_any (whereB T ss tid) _).mono ?_; rintro e w2 ⟨v, rfl, hown, hb2⟩
      have HO := Lib.hid (ownsRow_base hown hsz)
      have hb3 := hb.trans (hb2.mono hsz)
      clear hown hb2 e0 e1 e2 e3 e4 e5 e6 e7
      go_wp2
      go_ret
      exact ⟨_, rfl, HO.out, hb3⟩
    case c2 =>
      intro x w1 cnt1 hlx hfx hwf hR1 hlt hg1 hs1 hen
      obtain ⟨k, rfl, hkT, hk0, _⟩ := locksF_some hfx
      have hk3 : ((k : Int)).toNat = k := by simp
      simp only [hk3] at hen ⊢
      have hfc := Lib.hid hfx
      have hlh := hs.at_ hkT
      have hb1 : Below w.heap.size w w1 := hb.trans ⟨hg1.os, hg1.tape, hg1.output, hg1.size, fun j hj => hg1.block j (by omega) (fun e => by injection e with e; omega)⟩
      have hrow1 := hrow.of_block (hg1.block _ hlr (fun e => by injection e with e; omega))
      have hz1 : wr.heap.size ≤ w1.heap.size := by omega
      have hle := Lib.hid (show w1.rangeLeft m2 (w.heap.size + 1 + 1) < wr.rangeLeft m2 (w.heap.size + 1 + 1) by rw [hR1.left_eq, hR.left_eq]; exact hlt)
      have hrl1 := hR1.lt.1
      have Hc := Lib.hid hR1.left_eq
      clear hfx hwf hk0 hg1 hlx hrow hb hR hlt hk3
      go_wp2_with fail
      have hA := (Below.refl w1.heap.size w1).alloc (Nat.le_refl _) (.cells #[.slice (q k).G (cd T k).hs.length (q k).c, .slice (q k).G' (cd T k).ws.length (q k).c'] 109)
      have hbA := hb1.trans (hA.mono (Nat.le_trans hsz hz1))
      have hIL : LAt _ B (q k).G (q k).G' ((cd T k).hs, (cd T k).ws) := LAt.keep (HL.out k hkT) hbA hB
      generalize w1.alloc (.cells #[.slice (q k).G (cd T k).hs.length (q k).c, .slice (q k).G' (cd T k).ws.length (q k).c'] 109) = w2 at hA hbA hIL ⊢
      refine (implHolds_any _ _ _ _ B (cd T k).hs (cd T k).ws tid _ hlh.1 hlh.2 hIL).mono ?_; rintro e w3 ⟨rfl, hb3⟩
      have hb13 := hA.trans (hb3.mono hA.size)
      have hbw := hb1.trans (hb13.mono (Nat.le_trans hsz hz1))
      clear hA hbA hb3 hIL hb1 hen
      have Hst := Lib.hid (show holdsL (cd T k).hs (cd T k).ws tid = stands T tid k from rfl)
      rw [Hst.out]
      have HW := Lib.hid (show whereB T ss tid k = ss.contains (stands T tid k) by
        unfold whereB
        rw [← locksF_is (q := q), hfc.out]; rfl)
      generalize stands T tid k = z at HW ⊢
      go_wp2_with fail
      refine (contains_any A c _ ss z _ hn (hi.below hbw (Nat.le_refl _))).mono ?_; rintro e w4 ⟨rfl, rfl⟩
      have hrow3 := hrow1.of_block (hb13.block _ (by omega))
      have hR3 := hR1.below hb13 (by omega) (by omega)
      have hk8 : k < 8 := by omega
      have hkz : (k : Int) < 8 := by omega
      have d0 := hrow3.cell (i := k) hk8
      have f0 : w3.frozen? ⟨w.heap.size + 1, k, none⟩ = false := hrow3.frozen _
      have hl3 : w.heap.size + 1 < w3.heap.size := hrow3.lt
      rw [HW.out] at d0
      have HR := Lib.hid hrow3
      have HRan := Lib.hid hR3
      have HBw := Lib.hid hbw
      clear hrow1 hrow3 hR1 hR3 hb13 hbw hfc
      generalize ss.contains z = v at HW d0 ⊢
      generalize (v && !left (k : Int)) = u at d0
      go_wp2
      have t := (Onlys.refl (w.heap.size + 1) (w.heap.size + 1 + 1) w3).setCell (p := ⟨w.heap.size + 1, k, none⟩) (Nat.le_refl _) (Nat.lt_succ_self _) (.bool v)
      refine ⟨⟨_, _, HRan.out.block (t.block _ (.inl (by omega))) (t.block _ (.inr (Nat.le_refl _))), (HR.out.set k (.bool v)).congr (fun j _ => ?_), HBw.out.trans (t.below (Nat.le_succ _))⟩, ?_⟩
      · by_cases e : j = k
        · subst e; rw [if_pos rfl, HW.out]; simp
        · rw [if_neg e]
          have e' : ¬ ((j : Int) = (k : Int)) := by omega
          simp [e']
      · have h3 := (HRan.out.block (w' := w3.setCell ⟨w.heap.size + 1, k, none⟩ (.bool v)) (t.block _ (.inl (by omega))) (t.block _ (.inr (Nat.le_refl _)))).left_eq
        rw [h3, ← Hc.out]
        exact hle.out
end Go.Proofs.YtaninlnobmjbmaaGreat

namespace Go.Proofs.YtaninlnobmjbmaaGreat
open Go.RowKit
open Go.Maps (Keyed)

theorem keysUp_congr {M M' : Nat → Bool} : ∀ {m : Nat}, (∀ j, j < m → M j = M' j) → keysUp M m = keysUp M' m := by
  intro m
  induction m with
  | zero => intro _; rfl
  | succ m ih =>
    intro h
    have h1 := ih (fun j hj => h j (by omega))
    have h2 := h m (by omega)
    cases hM : M m with
    | true => rw [keysUp_yes hM, keysUp_yes (h2 ▸ hM), h1]
    | false => rw [keysUp_no hM, keysUp_no (h2 ▸ hM), h1]
theorem keysUp_cut {M : Nat → Bool} {n : Nat} (h : ∀ j, n ≤ j → M j = false) : ∀ d, keysUp M (n + d) = keysUp M n
  | 0 => rfl
  | d + 1 => by rw [show n + (d + 1) = (n + d) + 1 by omega, keysUp_no (h _ (by omega)), keysUp_cut h d]
theorem keysUp_none {M : Nat → Bool} {k : Nat} (h : ∀ j, j < k → M j = false) : keysUp M k = [] := by
  rw [keysUp_congr (M' := fun _ => false) h]
  simp [keysUp]
theorem keysUp_first {M : Nat → Bool} {k : Nat} (h : ∀ j, j < k → M j = false) (hk : M k = true) : ∀ d, (keysUp M (k + 1 + d)).head? = some (k : Int)
  | 0 => by rw [Nat.add_zero, keysUp_yes hk, keysUp_none h]; rfl
  | d + 1 => by
    have ih := keysUp_first h hk d
    rw [show k + 1 + (d + 1) = (k + 1 + d) + 1 by omega]
    cases hM : M (k + 1 + d) with
    | true =>
      rw [keysUp_yes hM]
      cases hl : keysUp M (k + 1 + d) with
      | nil => rw [hl] at ih; cases ih
      | cons a l => rw [hl] at ih; exact ih
    | false => rw [keysUp_no hM]; exact ih
/-- an empty valid lock: nobody stands there -/
theorem stands_empty {T : TL} (tid : Int) {j : Nat} (h : lockOk (cd T j).hs (cd T j).ws = true) (h0 : (cd T j).hs.length = 0) : stands T tid j = 0 := by
  have e : (cd T j).hs = [] := List.length_eq_zero_iff.1 h0
  have hb := ((lockOk_iff _ _).1 h).2
  rw [e] at hb
  have e2 : (cd T j).ws = [] := by
    cases hw : (cd T j).ws with
    | nil => rfl
    | cons a l => rw [hw] at hb; simp [blocked, canJoin] at hb
  unfold stands holdsL
  rw [e, e2]
  split <;> simp [holdsAt, ids]
def standB (T : TL) (ss : List Int) (tid : Int) (j : Nat) : Bool := ss.contains (stands T tid j)
theorem where_is {T : TL} (hT : tabOk T = true) (ss : List Int) (h0 : ss.contains 0 = false) (tid : Int) : keysUp (whereB T ss tid) 8 = keysUp (standB T ss tid) T.length := by
  have hl := tabOk_len hT
  have e := keysUp_cut (M := whereB T ss tid) (n := T.length) (fun j hj => by unfold whereB; rw [decide_eq_false (by omega)]; rfl) (8 - T.length)
  rw [show T.length + (8 - T.length) = 8 by omega] at e
  rw [e]
  refine keysUp_congr (fun j hj => ?_)
  unfold whereB standB
  by_cases hz : (cd T j).hs.length = 0
  · rw [decide_eq_false (by omega), stands_empty tid (tabOk_lockOk hT hj) hz, h0]; rfl
  · rw [decide_eq_true ⟨hj, hz⟩]; rfl
def heldL (T : TL) (tid : Int) : List Int := if tabOk T then keysUp (standB T [1, 2] tid) T.length else []
def waitL (T : TL) (tid : Int) : List Int := if tabOk T then keysUp (standB T [3] tid) T.length else []
def waitK (T : TL) (tid : Int) : Int := (waitL T tid).head?.getD (-1)
theorem heldL_len (T : TL) (tid : Int) : (heldL T tid).length ≤ 8 := by
  unfold heldL
  split
  · rename_i h; have := tabOk_len h; have := keysUp_le (standB T [1, 2] tid) T.length; omega
  · simp
theorem contains12 (z : Int) : ([1, 2] : List Int).contains z = inB z 1 2 := by
  rw [Bool.eq_iff_iff]
  simp [inB]; omega
theorem keysWhere_nil (A : Option Addr) (c : Nat) (n : Nat) (tid : Int) (w : World) :
    Calls Tryz.prog 24 #[.agg #[.map none, .map none], .int .i64 tid, .slice A n c] w (OwnsOut w []) := by
  have hrn := fun w => run_range_nilMap (P := Tryz.prog) w 58 3 109 Tryz.underlying58
  go_enter Tryz.func24, Tryz.ntmps24
  go_wp2_with fail
  have hnx := fun ty => run_next_nilMap (P := Tryz.prog) ((w.alloc (.cells #[.map none, .map none] 60)).alloc (.cells #[.bool false, .bool false, .bool false, .bool false, .bool false, .bool false, .bool false, .bool false] 125)) ty 0 0 #[]
  have hr1 : ((w.alloc (.cells #[.map none, .map none] 60)).alloc (.cells #[.bool false, .bool false, .bool false, .bool false, .bool false, .bool false, .bool false, .bool false] 125)).heap.size = w.heap.size + 1 + 1 := by simp
  rw [hr1] at hnx
  clear hrn hr1
  have hb := (((Below.refl w.heap.size w).alloc (Nat.le_refl _) (.cells #[.map none, .map none] 60)).alloc (by simp) (.cells #[.bool false, .bool false, .bool false, .bool false, .bool false, .bool false, .bool false, .bool false] 125)).alloc (by simp; omega) (.mapIter none 0 #[] 0)
  refine wp_loop_rounds 1 ?_; rw [rounds_succ]
  go_wp2_with fail
  refine (markedKeys_any (fun _ => false) _).mono ?_; rintro e w2 ⟨v, rfl, hown, hb2⟩
  have hk : keysUp (fun _ => false) 8 = [] := rfl
  rw [hk] at hown
  have HO := Lib.hid (ownsRow_base (base := w.heap.size) hown (by simp; omega))
  have hb3 := hb.trans (hb2.mono hb.size)
  clear hown hb2 hnx hk hb
  go_wp2
  go_ret
  exact ⟨_, rfl, HO.out, hb3⟩
end Go.Proofs.YtaninlnobmjbmaaGreat

namespace Go.Proofs.YtaninlnobmjbmaaGreat
open Go.RowKit
open Go.Maps (Keyed)

theorem vcT_len (T : TL) (x tid : Int) : (vcT T x tid).length = T.length := by
  unfold vcT
  split
  · rw [putT_len]
  · rfl
theorem vcT_ok {T : TL} {x tid : Int} (h : tabOk T = true) : tabOk (vcT T x tid) = true := by
  unfold vcT
  split
  · rename_i hv
    have ht : thereB T x = true := by unfold vcB at hv; rw [Bool.and_eq_true] at hv; exact hv.1
    obtain ⟨_, h0, h1⟩ := there_iff.1 ht
    unfold cAt
    exact put_ok h h1 (leave_ok tid (tabOk_lockOk h h1))
  · exact h
theorem vcT_at {T : TL} {x tid : Int} {j : Nat} (hj : j < T.length) (hne : ¬ (j : Int) = x) : cd (vcT T x tid) j = cd T j := by
  unfold vcT
  split
  · rename_i hv
    have ht : thereB T x = true := by unfold vcB at hv; rw [Bool.and_eq_true] at hv; exact hv.1
    obtain ⟨_, h0, h1⟩ := there_iff.1 ht
    rw [putT_at _ _ _ _ hj, if_neg (by omega)]
  · rfl
/-- the table after leaving these keys one after the other -/
def laF (T : TL) (tid : Int) (l : List Int) : TL := l.foldl (fun U x => vcT U x tid) T
theorem laF_snoc (T : TL) (tid : Int) (l : List Int) (x : Int) : laF T tid (l ++ [x]) = vcT (laF T tid l) x tid := by simp [laF]
theorem laF_inv {tid : Int} : ∀ (l : List Int) (T : TL), tabOk T = true → tabOk (laF T tid l) = true ∧ (laF T tid l).length = T.length ∧ ∀ j, j < T.length → (∀ x, x ∈ l → ¬ (j : Int) = x) → cd (laF T tid l) j = cd T j
  | [], T, h => ⟨h, rfl, fun _ _ _ => rfl⟩
  | x :: l, T, h => by
    obtain ⟨h1, h2, h3⟩ := laF_inv l (vcT T x tid) (vcT_ok h)
    refine ⟨h1, h2.trans (vcT_len T x tid), fun j hj hne => ?_⟩
    have e := h3 j (by rw [vcT_len]; exact hj) (fun y hy => hne y (List.mem_cons_of_mem _ hy))
    exact e.trans (vcT_at hj (hne x (List.mem_cons_self ..)))
theorem laF_leaves {T : TL} {tid : Int} {l : List Int} {k : Nat} (h : tabOk T = true) (hk : k < T.length) (hne : ∀ x, x ∈ l → ¬ (k : Int) = x) : vcB (laF T tid l) (k : Int) tid = !(stands T tid k == 0) := by
  obtain ⟨h1, h2, h3⟩ := laF_inv (tid := tid) l T h
  rw [vc_yes (there_nat h1 (by omega)), h3 k hk hne]
  rfl
theorem contains3 {z : Int} (h : 0 ≤ z ∧ z ≤ 3) : ([1, 2, 3] : List Int).contains z = !(z == 0) := by
  have : z = 0 ∨ z = 1 ∨ z = 2 ∨ z = 3 := by omega
  rcases this with rfl | rfl | rfl | rfl <;> decide
theorem holdsL_range (hs ws : HL) (t : Int) : 0 ≤ holdsL hs ws t ∧ holdsL hs ws t ≤ 3 := by
  unfold holdsL holdsAt
  repeat' split
  all_goals omega
theorem standB3 (T : TL) (tid : Int) (j : Nat) : standB T [1, 2, 3] tid j = !(stands T tid j == 0) := contains3 (holdsL_range _ _ _)
theorem keysUp_lt {M : Nat → Bool} {m : Nat} {x : Int} (h : x ∈ keysUp M m) : ∃ k : Nat, x = k ∧ k < m ∧ M k = true := by
  simp only [keysUp, List.mem_map, List.mem_filter, List.mem_range] at h
  obtain ⟨k, ⟨h1, h2⟩, rfl⟩ := h
  exact ⟨k, rfl, h1, h2⟩
/-- LeaveAll -/
def laK (T : TL) (tid : Int) : List Int := keysUp (standB T [1, 2, 3] tid) T.length
def laR (T : TL) (tid : Int) : TL := if tabOk T then laF T tid (laK T tid) else T
def laB (T : TL) (tid : Int) : Bool := tabOk T && decide (0 < (laK T tid).length)
theorem laR_no {T : TL} {tid : Int} (h : tabOk T = false) : laB T tid = false ∧ laR T tid = T := by simp [laB, laR, h]
theorem laR_yes {T : TL} {tid : Int} (h : tabOk T = true) : laB T tid = decide (0 < (laK T tid).length) ∧ laR T tid = laF T tid (laK T tid) := by simp [laB, laR, h]
theorem laR_len (T : TL) (tid : Int) : (laR T tid).length = T.length := by
  unfold laR
  split
  · rename_i h
    exact (laF_inv _ T h).2.1
  · rfl
theorem laR_fit {T : TL} {tid : Int} (h : TFit T) : TFit (laR T tid) := by
  unfold laR
  split
  · rename_i h2
    exact tab_fit (laF_inv _ T h2).1
  · exact h
/-- the keys ascend: the next one is not among those before -/
theorem keysUp_apart {M : Nat → Bool} : ∀ {m : Nat} {i : Nat} {x : Int}, (keysUp M m)[i]? = some x → ∀ y, y ∈ (keysUp M m).take i → y < x
  | 0, i, x, h => by simp [keysUp] at h
  | m + 1, i, x, h => by
    intro y hy
    cases hM : M m with
    | false =>
      rw [keysUp_no hM] at h hy
      exact keysUp_apart h y hy
    | true =>
      rw [keysUp_yes hM] at h hy
      by_cases hi : i < (keysUp M m).length
      · rw [List.getElem?_append_left hi] at h
        rw [List.take_append_of_le_length (by omega)] at hy
        exact keysUp_apart h y hy
      · rw [List.getElem?_append_right (by omega)] at h
        have hx : x = (m : Int) ∧ i = (keysUp M m).length := by
          rcases Nat.eq_zero_or_pos (i - (keysUp M m).length) with e | e
          · rw [e] at h
            simp at h
            exact ⟨h.symm, by omega⟩
          · rw [List.getElem?_eq_none (by simp; omega)] at h
            cases h
        obtain ⟨rfl, rfl⟩ := hx
        rw [List.take_append_of_le_length (Nat.le_refl _), List.take_length] at hy
        obtain ⟨k, rfl, hk, _⟩ := keysUp_lt hy
        omega
theorem laK_next {T : TL} {tid : Int} {m : Nat} {x : Int} (h : tabOk T = true) (hx : (laK T tid)[m]? = some x) : ∃ k : Nat, x = k ∧ k < T.length ∧ vcB (laF T tid ((laK T tid).take m)) (k : Int) tid = true := by
  have hmem := List.mem_of_getElem? hx
  obtain ⟨k, rfl, hk, hM⟩ := keysUp_lt hmem
  refine ⟨k, rfl, hk, ?_⟩
  rw [laF_leaves h hk (fun y hy => by have := keysUp_apart hx y hy; omega), ← standB3]
  exact hM
theorem laK_step {T : TL} {tid : Int} {k : Nat} (h : tabOk T = true) (hk : k < T.length) : vcB (laF T tid (keysUp (standB T [1, 2, 3] tid) k)) (k : Int) tid = standB T [1, 2, 3] tid k := by
  rw [laF_leaves h hk (fun y hy => by obtain ⟨j, rfl, hj, _⟩ := keysUp_lt hy; omega), standB3]
end Go.Proofs.YtaninlnobmjbmaaGreat

namespace Go.Proofs.YtaninlnobmjbmaaGreat
open Go.RowKit
open Go.Maps (Keyed)

set_option maxHeartbeats 1600000 in
set_option maxRecDepth 100000 in
theorem specLeaveAll_any (A : Option Addr) (c B : Nat) (T : TL) (tid : Int) (w : World) (hs : TFit T) (hB : B ≤ w.heap.size) (h : TAt w B A T) :
    Calls Tryz.prog 6 #[.agg #[.slice A T.length c], .int .i64 tid] w (RetTA w (laR T tid) fun v => .tuple #[v, .bool (laB T tid)]) := by
  have hlen := hs.len
  go_enter Tryz.func6, Tryz.ntmps6
  go_wp2_with fail
  have b := ((Below.refl w.heap.size w).alloc (Nat.le_refl _) (.cells #[.slice A T.length c] 28)).alloc (by simp) (.cells #[.slice none 0 0] 28)
  have X := (Box.new (w := w) (c := #[.slice A T.length c]) (t := 28) rfl).alloc (.cells #[.slice none 0 0] 28)
  have R := Box.new (w := w.alloc (.cells #[.slice A T.length c] 28)) (b := w.heap.size + 1) (c := #[.slice none 0 0]) (t := 28) (by simp)
  have hs0 : w.heap.size + 2 ≤ ((w.alloc (.cells #[.slice A T.length c] 28)).alloc (.cells #[.slice none 0 0] 28)).heap.size := by simp
  generalize (w.alloc (.cells #[.slice A T.length c] 28)).alloc (.cells #[.slice none 0 0] 28) = w0 at b X R hs0 ⊢
  refine (l05Copy_any A c B T _ hs (Nat.le_trans hB b.size) (h.keep b hB)).mono ?_; rintro o w1 ⟨v, q, rfl, hcp, hb⟩
  have hcp := hcp.less hs0
  have X := X.next hb
  have R := R.next hb
  have b := b.trans (hb.mono b.size)
  have hs1 : w.heap.size + 2 ≤ w1.heap.size := Nat.le_trans hs0 hb.size
  obtain ⟨A2, c2, rfl, hA2⟩ := hcp.tab
  have ht := hcp.tlo
  obtain ⟨x0, xf⟩ := X.c1
  have Xl := X.lt
  clear hb hs0 xf hcp hA2
  go_wp2_with fail
  have hA := (Below.refl w1.heap.size w1).alloc (Nat.le_refl _) (.cells #[.slice A2 T.length c2] 28)
  have U := Box.new (w := w1) (c := #[.slice A2 T.length c2]) (t := 28) rfl
  have X := X.next hA
  have R := R.next hA
  have ht := ht.next hA
  have b := b.trans (hA.mono b.size)
  have hs2 : w1.heap.size < (w1.alloc (.cells #[.slice A2 T.length c2] 28)).heap.size := by simp
  clear x0 Xl hA
  generalize w1.alloc (.cells #[.slice A2 T.length c2] 28) = w2 at X R U b ht hs2 ⊢
  refine (specTabOk_any A c B T _ hs (Nat.le_trans hB b.size) (h.keep b hB)).mono ?_; rintro o w3 ⟨rfl, hb⟩
  have X := X.next hb
  have R := R.next hb
  have U := U.next hb
  have ht := ht.next hb
  have b := b.trans (hb.mono b.size)
  have hs3 : w1.heap.size < w3.heap.size := Nat.lt_of_lt_of_le hs2 hb.size
  clear hb hs2
  cases hT : tabOk T with
  | false =>
    have HE := Lib.hid (laR_no (tid := tid) hT)
    obtain ⟨y0, yf⟩ := U.c1
    obtain ⟨r0, rf⟩ := R.c1
    have Rl := R.lt
    have Ul := U.lt
    have hb8 := b.setCell (p := ⟨w.heap.size + 1, 0, none⟩) (by simp) (.slice A2 T.length c2)
    have HA := Lib.hid ((ht.far (a := ⟨w.heap.size + 1, 0, none⟩) (.slice A2 T.length c2) (by simp)).less (lo' := w.heap.size) (by omega))
    have HB8 := Lib.hid hb8
    clear hT ht yf hb8 X U R b
    go_wp2
    exact bodyPost_ret (v := .tuple #[.agg #[.slice A2 T.length c2], .bool false]) (by simp [results, Tryz.results6, go_sem, r0]) rfl (by
      rw [HE.out.1, HE.out.2]
      exact ⟨A2, c2, rfl, HA.out, HB8.out⟩)
  | true =>
    have HE := Lib.hid (laR_yes (tid := tid) hT)
    have HT := Lib.hid hT
    have HM := Lib.hid (fun k => @laK_step T tid k hT)
    unfold laK at HE
    generalize hM : standB T [1, 2, 3] tid = M at HE HM
    have HI := Lib.hid (fun l => laF_inv (tid := tid) l T hT)
    clear hM hT
    go_wp2_with fail
    go_loopw [7, 8] (fun s i wr => ∃ (k : Nat) (A3 : Option Addr) (c3 : Nat), k ≤ T.length ∧ i = .int .i64 k ∧ s = .bool (decide (0 < (keysUp M k).length)) ∧ TLo wr (w.heap.size + 2) A3 (laF T tid (keysUp M k)) ∧ Box wr w.heap.size [.slice A T.length c] ∧ Box wr (w.heap.size + 1) [.slice none 0 0] ∧ Box wr w1.heap.size [.slice A3 T.length c3] ∧ Below w.heap.size w wr ∧ w1.heap.size < wr.heap.size) (fun _ i _ => T.length - (intOf i).toNat)
    case atStart => exact ⟨0, A2, c2, Nat.zero_le _, rfl, rfl, ht, X, R, U, b, hs3⟩
    case round =>
      clear ht X R U b hs3
      obtain ⟨k, A3, c3, hk, rfl, rfl, ht, X, R, U, b, hsr⟩ := hrel
      obtain ⟨x0, xf⟩ := X.c1
      obtain ⟨y0, yf⟩ := U.c1
      have Xl := X.lt
      have Ul := U.lt
      by_cases hkn : k < T.length
      · have hkz : (k : Int) < T.length := by omega
        have hI := HI.out (keysUp M k)
        have HST := Lib.hid (HM.out k hkn)
        generalize hTk : laF T tid (keysUp M k) = Tk at ht hI HST
        have HTk := Lib.hid hTk
        have hfit := tab_fit hI.1
        have hl := hI.2.1
        have HLn := Lib.hid hl
        clear hTk hI
        rw [← hl] at y0
        clear hl xf yf
        go_wp2_with fail
        refine (specLeaveCell_any A3 c3 wr.heap.size Tk (k : Int) tid _ hfit (Nat.le_refl _) ht.at_).mono ?_; rintro o w4 ⟨A4, c4, rfl, ho, hb⟩
        have HL4 := Lib.hid ((vcT_len Tk (k : Int) tid).trans HLn.out)
        rw [HST.out, HL4.out]
        have X := X.next hb
        have R := R.next hb
        have U := U.next hb
        have ht := ht.next hb
        have hs4 := hb.size
        have b := b.trans (hb.mono b.size)
        clear x0 y0 Xl Ul hb
        have hA := (Below.refl w4.heap.size w4).alloc (Nat.le_refl _) (.cells #[.slice A4 T.length c4] 28)
        have N := Box.new (w := w4) (c := #[.slice A4 T.length c4]) (t := 28) rfl
        have X := X.next hA
        have R := R.next hA
        have U := U.next hA
        have ht := ht.next hA
        have ho := ho.next hA
        have b := b.trans (hA.mono b.size)
        have hs5 : w4.heap.size < (w4.alloc (.cells #[.slice A4 T.length c4] 28)).heap.size := by simp
        clear hA
        have HV := Lib.hid (fun hm : M k = false => vcT_bad (T := Tk) (key := k) (tid := tid) (HST.out.trans hm))
        go_upto_region 9 with (fail)
        generalize w4.alloc (.cells #[.slice A4 T.length c4] 28) = w5 at ho X R U ht b N hs5 ⊢
        obtain ⟨n0, nf⟩ := N.c1
        obtain ⟨y0, yf⟩ := U.c1
        have Nl := N.lt
        have Ul := U.lt
        cases hm : M k with
        | false =>
          have HK := Lib.hid (show keysUp M (k + 1) = keysUp M k from keysUp_no hm)
          clear hm nf yf ho N
          go_wp2
          exact ⟨⟨k + 1, A3, c3, by omega, by go_num, by rw [HK.out], by rw [HK.out, HTk.out]; exact ht, X, R, U, b, by omega⟩, by simp [intOf]; omega⟩
        | true =>
          have HK := Lib.hid (show keysUp M (k + 1) = keysUp M k ++ [(k : Int)] from keysUp_yes hm)
          have HO := Lib.hid ((ho.far (a := ⟨w1.heap.size, 0, none⟩) (.slice A4 T.length c4) hsr).less (lo' := w.heap.size + 2) (by omega))
          have HX := Lib.hid (X.far (a := ⟨w1.heap.size, 0, none⟩) (.slice A4 T.length c4) (by show ¬ w1.heap.size = w.heap.size; omega))
          have HR := Lib.hid (R.far (a := ⟨w1.heap.size, 0, none⟩) (.slice A4 T.length c4) (by show ¬ w1.heap.size = w.heap.size + 1; omega))
          have HU := Lib.hid (U.set (j := 0) (.slice A4 T.length c4) (by simp))
          have HB := Lib.hid (b.setCell (p := ⟨w1.heap.size, 0, none⟩) (show w.heap.size ≤ w1.heap.size by omega) (.slice A4 T.length c4))
          have hz : w1.heap.size < (w5.setCell ⟨w1.heap.size, 0, none⟩ (.slice A4 T.length c4)).heap.size := by simpa [World.setCell] using Ul
          clear hm ho ht N X R U b
          go_wp2
          exact ⟨⟨k + 1, A4, c4, by omega, by go_num, by rw [HK.out]; simp, by rw [HK.out, laF_snoc, HTk.out]; exact HO.out, HX.out, HR.out, HU.out, HB.out, hz⟩, by simp [intOf]; omega⟩
      · obtain rfl : k = T.length := by omega
        obtain ⟨r0, rf⟩ := R.c1
        have Rl := R.lt
        have hb8 := b.setCell (p := ⟨w.heap.size + 1, 0, none⟩) (by simp) (.slice A3 T.length c3)
        have HA := Lib.hid ((ht.far (a := ⟨w.heap.size + 1, 0, none⟩) (.slice A3 T.length c3) (by simp)).less (lo' := w.heap.size) (by omega))
        have HB8 := Lib.hid hb8
        have HLn := Lib.hid (HI.out (keysUp M T.length)).2.1
        clear ht yf xf hb8 X U R b
        go_wp2
        exact bodyPost_ret (v := .tuple #[.agg #[.slice A3 T.length c3], .bool (decide (0 < (keysUp M T.length).length))]) (by simp [results, Tryz.results6, go_sem, r0]) rfl (by
          rw [HE.out.1, HE.out.2]
          exact ⟨A3, c3, by rw [HLn.out], HA.out, HB8.out⟩)
theorem TCapL.kept {w w' : World} {lo B : Nat} {A : Option Addr} {T : TL} (h : TCapL w A T) (hb : Below B w w') (ht : TOwn w lo B A T) : TCapL w' A T := fun b off e j hj => by
  subst e
  obtain ⟨b', off', e, q, L, H, hr⟩ := ht (by omega)
  injection e with e
  injection e with e1 _ _
  subst e1
  exact h.below hb hr.rhi b off rfl j hj
theorem intWf {k : Nat} (h : k ≤ 8) : keyOf Tryz.prog 3 (.int .i64 (k : Int)) = some (.int .i64 (k : Int)) :=
  Go.Maps.keyOf_int_mk (P := Tryz.prog) Tryz.underlying3 (by
    simp only [Lit.wf, Bool.and_eq_true, decide_eq_true_eq]
    have h1 : IntKind.i64.min = -9223372036854775808 := rfl
    have h2 : IntKind.i64.max = 9223372036854775807 := rfl
    omega)
theorem getD_of {l : List Int} {m : Nat} {x : Int} (h : l[m]? = some x) : l.getD m 0 = x := by simp [List.getD_eq_getElem?_getD, h]
set_option maxHeartbeats 1600000 in
set_option maxRecDepth 100000 in
theorem implLeaveAll_any (b off c B : Nat) (T : TL) (tid : Int) (w : World) (hs : TFit T) (hB : B ≤ w.heap.size) (h : TAt w B (some ⟨b, off, none⟩) T) :
    Calls Tryz.prog 8 #[.agg #[.slice (some ⟨b, off, none⟩) T.length c], .int .i64 tid] w (RetTOC w (laR T tid) fun v => .tuple #[v, .bool (laB T tid)]) := by
  have hlen := hs.len
  go_enter Tryz.func8, Tryz.ntmps8
  go_wp2_with fail
  have b0 := ((Below.refl w.heap.size w).alloc (Nat.le_refl _) (.cells #[.slice (some ⟨b, off, none⟩) T.length c] 28)).alloc (by simp) (.cells #[.slice none 0 0] 28)
  have X := (Box.new (w := w) (c := #[.slice (some ⟨b, off, none⟩) T.length c]) (t := 28) rfl).alloc (.cells #[.slice none 0 0] 28)
  have R := Box.new (w := w.alloc (.cells #[.slice (some ⟨b, off, none⟩) T.length c] 28)) (b := w.heap.size + 1) (c := #[.slice none 0 0]) (t := 28) (by simp)
  have hs0 : w.heap.size + 2 ≤ ((w.alloc (.cells #[.slice (some ⟨b, off, none⟩) T.length c] 28)).alloc (.cells #[.slice none 0 0] 28)).heap.size := by simp
  generalize (w.alloc (.cells #[.slice (some ⟨b, off, none⟩) T.length c] 28)).alloc (.cells #[.slice none 0 0] 28) = w0 at b0 X R hs0 ⊢
  refine (copiedTableC_any b off c B T _ hs (Nat.le_trans hB b0.size) (h.keep b0 hB)).mono ?_; rintro o w1 ⟨A2, c2, rfl, ht, hb, hcx⟩
  have X := X.next hb
  have R := R.next hb
  have b1 := b0.trans (hb.mono b0.size)
  have hs1 : w.heap.size + 2 ≤ w1.heap.size := Nat.le_trans hs0 hb.size
  have ht := ht.more (lo' := w.heap.size + 2) (B' := w1.heap.size) hs0 (Nat.le_refl _)
  obtain ⟨x0, xf⟩ := X.c1
  have Xl := X.lt
  clear hb hs0 xf b0
  go_wp2_with fail
  have hA := (Below.refl w1.heap.size w1).alloc (Nat.le_refl _) (.cells #[.slice A2 T.length c2] 28)
  have U := Box.new (w := w1) (c := #[.slice A2 T.length c2]) (t := 28) rfl
  have X := X.next hA
  have R := R.next hA
  have b2 := b1.trans (hA.mono b1.size)
  have hcx := hcx.kept hA ht
  have ht := ht.below hA (Nat.le_refl _)
  have hs2 : w1.heap.size < (w1.alloc (.cells #[.slice A2 T.length c2] 28)).heap.size := by simp
  clear x0 Xl hA b1
  generalize w1.alloc (.cells #[.slice A2 T.length c2] 28) = w2 at X R U b2 ht hcx hs2 ⊢
  cases hT : tabOk T with
  | false =>
    have HE := Lib.hid (laR_no (tid := tid) hT)
    refine (storeOf_bad _ c B T _ hs (Nat.le_trans hB b2.size) (h.keep b2 hB) hT).mono ?_; rintro o w3 ⟨rfl, hb⟩
    have R := R.next hb
    have U := U.next hb
    have hcx := hcx.kept hb (ht.more (Nat.le_refl _) (Nat.le_of_lt hs2))
    have ht := ht.below hb (Nat.le_of_lt hs2)
    have b3 := b2.trans (hb.mono b2.size)
    have hs3 : w1.heap.size < w3.heap.size := Nat.lt_of_lt_of_le hs2 hb.size
    clear hb b2 hs2 X hT
    go_wp2_with fail
    have hA := (Below.refl w3.heap.size w3).alloc (Nat.le_refl _) (.cells #[.int .i64 1, .int .i64 2, .int .i64 3] 3)
    refine (keysWhere_nil _ _ _ tid _).mono ?_; rintro o w4 ⟨v, rfl, hown, hb⟩
    have hb := hA.trans (hb.mono hA.size)
    obtain ⟨A5, c5, rfl, _, _⟩ := OwnI.of_owns (l := []) hown
    have R := R.next hb
    have U := U.next hb
    have hcx := hcx.kept hb (ht.more (Nat.le_refl _) (Nat.le_of_lt hs3))
    have ht := ht.below hb (Nat.le_of_lt hs3)
    have b4 := b3.trans (hb.mono b3.size)
    have hs4 : w1.heap.size < w4.heap.size := Nat.lt_of_lt_of_le hs3 hb.size
    obtain ⟨y0, yf⟩ := U.c1
    obtain ⟨r0, rf⟩ := R.c1
    have Rl := R.lt
    have Ul := U.lt
    have HO := Lib.hid ((ht.put (a := w.heap.size + 1) (.slice A2 T.length c2) (by omega)).more (lo' := w.heap.size) (B' := (w4.setCell ⟨w.heap.size + 1, 0, none⟩ (.slice A2 T.length c2)).heap.size) (by omega) (by simp [World.setCell]; omega))
    have HC := Lib.hid (capl_far ht hcx (a := ⟨w.heap.size + 1, 0, none⟩) (.slice A2 T.length c2) (by show w.heap.size + 1 < _; omega))
    have HB := Lib.hid (b4.setCell (p := ⟨w.heap.size + 1, 0, none⟩) (by simp) (.slice A2 T.length c2))
    clear hown hb hA ht hcx b3 b4 R U yf
    go_wp2_with fail
    go_loopw [7, 18] (fun s i wr => s = .bool false ∧ i = .int .i64 0 ∧ wr = w4) (fun _ _ _ => 0)
    case atStart => exact ⟨rfl, rfl, rfl⟩
    case round =>
      obtain ⟨rfl, rfl, rfl⟩ := hrel
      go_wp2
      exact bodyPost_ret (v := .tuple #[.agg #[.slice A2 T.length c2], .bool false]) (by simp [results, Tryz.results8, go_sem, r0]) rfl (by
        rw [HE.out.1, HE.out.2]
        exact ⟨A2, c2, rfl, HO.out, HB.out, HC.out⟩)
  | true =>
    have hl8 := tabOk_len hT
    have HE := Lib.hid (laR_yes (tid := tid) hT)
    have HW := Lib.hid (show keysUp (whereB T [1, 2, 3] tid) 8 = laK T tid from where_is hT _ rfl tid)
    have HN := Lib.hid (fun m x => @laK_next T tid m x hT)
    have HI := Lib.hid (fun l => laF_inv (tid := tid) l T hT)
    obtain ⟨bb, off', e, hbB, q, hc⟩ := h (by omega)
    injection e with e
    injection e with e1 e2 _
    subst e1 e2
    have hcl0 : TCl w2 B b off T q := ⟨hbB, fun j hj => ⟨(hc j hj).1.below b2 (by omega), LAt.keep (hc j hj).2 b2 hB⟩⟩
    refine (storeOf_ok b off c B T q _ hs (Nat.le_trans hB b2.size) hcl0 hT).mono ?_; rintro o w3 ⟨m1, m2, mm, rfl, hne, hm1, hm2, M1, hmm, M2, hb⟩
    have R := R.next hb
    have U := U.next hb
    have hcx := hcx.kept hb (ht.more (Nat.le_refl _) (Nat.le_of_lt hs2))
    have ht := ht.below hb (Nat.le_of_lt hs2)
    have b3 := b2.trans (hb.mono b2.size)
    have hs3 : w1.heap.size < w3.heap.size := Nat.lt_of_lt_of_le hs2 hb.size
    clear hb b2 hs2 X M1 hcl0
    go_wp2_with fail
    have hA := (Below.refl w3.heap.size w3).alloc (Nat.le_refl _) (.cells #[.int .i64 1, .int .i64 2, .int .i64 3] 3)
    have hI3 : IntsAt (w3.alloc (.cells #[.int .i64 1, .int .i64 2, .int .i64 3] 3)) (w3.alloc (.cells #[.int .i64 1, .int .i64 2, .int .i64 3] 3)).heap.size (some ⟨w3.heap.size, 0, none⟩) ([1, 2, 3] : List Int).length (fun i => ([1, 2, 3] : List Int).getD i 0) := fun _ => ⟨w3.heap.size, 0, rfl, by simp, fun j hj => by
      have h2 : j = 0 ∨ j = 1 ∨ j = 2 := by simp at hj; omega
      rcases h2 with rfl | rfl | rfl <;> simp⟩
    have b4 := b3.trans (hA.mono b3.size)
    have hL : ∀ j, j < T.length → LsAt (w3.alloc (.cells #[.int .i64 1, .int .i64 2, .int .i64 3] 3)) B (cd T j) (q j) := fun j hj => LAt.keep (hc j hj).2 b4 hB
    have M2 := M2.next hA
    refine (keysWhere_any m1 m2 mm B T q (some ⟨w3.heap.size, 0, none⟩) 3 [1, 2, 3] tid _ hs hl8.2 (Nat.le_trans hB b4.size) hL M2 (by simp) hI3).mono ?_; rintro o w4 ⟨v, rfl, hown, hb⟩
    rw [HW.out] at hown
    have hb := hA.trans (hb.mono hA.size)
    obtain ⟨A5, c5, rfl, hmx, hk5⟩ := OwnI.of_owns hown
    have hk5 := hk5.more (lo' := w1.heap.size + 1) (B' := w4.heap.size) (by simp; omega) (Nat.le_refl _)
    have R := R.next hb
    have U := U.next hb
    have hcx := hcx.kept hb (ht.more (Nat.le_refl _) (Nat.le_of_lt hs3))
    have ht := ht.below hb (Nat.le_of_lt hs3)
    have b4 := b3.trans (hb.mono b3.size)
    have hs4 : w1.heap.size < w4.heap.size := Nat.lt_of_lt_of_le hs3 hb.size
    have hkl : (laK T tid).length ≤ 8 := Nat.le_trans (keysUp_le _ _) hl8.2
    clear hown hb hA b3 M2 hL hI3 hc hmx
    generalize hL : laK T tid = L at HE HN hkl hk5 ⊢
    clear hL hT HW
    go_wp2_with fail
    go_loopw [7, 18] (fun s i wr => ∃ (m : Nat) (A3 : Option Addr) (c3 : Nat), m ≤ L.length ∧ i = .int .i64 m ∧ s = .bool (decide (0 < m)) ∧ TOwn wr (w.heap.size + 2) wr.heap.size A3 (laF T tid (L.take m)) ∧ TCapL wr A3 (laF T tid (L.take m)) ∧ Box wr (w.heap.size + 1) [.slice none 0 0] ∧ Box wr w1.heap.size [.slice A3 T.length c3] ∧ OwnI wr (w1.heap.size + 1) w4.heap.size A5 L.length (fun j => L.getD j 0) ∧ Below w.heap.size w wr ∧ w4.heap.size ≤ wr.heap.size) (fun _ i _ => L.length - (intOf i).toNat)
    case atStart => exact ⟨0, A2, c2, Nat.zero_le _, rfl, rfl, ht.more (Nat.le_refl _) (Nat.le_of_lt hs4), hcx, R, U, hk5, b4, Nat.le_refl _⟩
    case round =>
      clear ht hcx R U hk5 b4
      obtain ⟨m, A3, c3, hm, rfl, rfl, ht, hcx, R, U, hk, b, hsr⟩ := hrel
      by_cases hmn : m < L.length
      · have hmz : (m : Int) < L.length := by omega
        have hx := List.getElem?_eq_getElem hmn
        obtain ⟨k, hxk, hkT, hv⟩ := HN.out m _ hx
        obtain ⟨b5, off5, e5, _, hb5, hc5⟩ := id hk (by omega)
        have hcell : wr.cell? ⟨b5, off5 + m, none⟩ = some (.int .i64 (L.getD m 0)) := (hc5 m hmn).1
        rw [getD_of hx, hxk] at hcell
        subst e5
        have hI := HI.out (L.take m)
        have HTake := Lib.hid (show laF T tid (L.take (m + 1)) = vcT (laF T tid (L.take m)) (k : Int) tid by rw [List.take_add_one, hx, hxk]; exact laF_snoc _ _ _ _)
        obtain ⟨b3, o3, e3, _⟩ := id ht (by rw [hI.2.1]; omega)
        subst e3
        generalize laF T tid (L.take m) = Tk at ht hcx hI hv HTake
        have hfit := tab_fit hI.1
        have hl := hI.2.1
        have HLn := Lib.hid ((vcT_len Tk (k : Int) tid).trans hl)
        have HV := Lib.hid hv
        obtain ⟨y0, yf⟩ := U.c1
        have Ul := U.lt
        rw [← hl] at y0
        have hkey := intWf (k := k) (by omega)
        have HK := Lib.hid hk
        clear hl hI yf hx hxk hc5 hv hk
        go_wp2_with fail
        refine (implLeaveCellC_any b3 o3 c3 wr.heap.size Tk (k : Int) tid _ hkey hfit (Nat.le_refl _) ht.at_ hcx).mono ?_; rintro o w5 ⟨A8, c8, rfl, hto, hb, hcn⟩
        rw [HV.out, HLn.out]
        have R := R.next hb
        have U := U.next hb
        have hb5s := hb.size
        have b := b.trans (hb.mono b.size)
        have hK5 := HK.out.below (hb.mono hsr) (Nat.le_refl _)
        have hts := TOwn.put (a := w1.heap.size) hto (.slice A8 T.length c8) (by omega)
        have HO := Lib.hid (hts.more (lo' := w.heap.size + 2) (B' := (w5.setCell ⟨w1.heap.size, 0, none⟩ (.slice A8 T.length c8)).heap.size) (by omega) (by simp [World.setCell]))
        have HC := Lib.hid (capl_far hto hcn (a := ⟨w1.heap.size, 0, none⟩) (.slice A8 T.length c8) (by show w1.heap.size < _; omega))
        have HR := Lib.hid (R.far (a := ⟨w1.heap.size, 0, none⟩) (.slice A8 T.length c8) (by show ¬ w1.heap.size = w.heap.size + 1; omega))
        have HU := Lib.hid (U.set (j := 0) (.slice A8 T.length c8) (by simp))
        have HB := Lib.hid (b.setCell (p := ⟨w1.heap.size, 0, none⟩) (show w.heap.size ≤ w1.heap.size by omega) (.slice A8 T.length c8))
        obtain ⟨y0, yf⟩ := U.c1
        have HI5 := Lib.hid (hK5.onlys (onlys_set w5 w1.heap.size 0 (.slice A8 T.length c8)) (.inr (Nat.le_refl _)))
        have hz : w4.heap.size ≤ (w5.setCell ⟨w1.heap.size, 0, none⟩ (.slice A8 T.length c8)).heap.size := by simp [World.setCell]; omega
        clear ht hcx hto hcn hts R U b hb hcell HK Ul hK5
        go_wp2
        exact ⟨⟨m + 1, A8, c8, by omega, by go_num, by simp, by rw [HTake.out]; exact HO.out, by rw [HTake.out]; exact HC.out, HR.out, HU.out, HI5.out, HB.out, hz⟩, by simp [intOf]; omega⟩
      · obtain rfl : m = L.length := by omega
        rw [List.take_length] at ht hcx
        obtain ⟨y0, yf⟩ := U.c1
        obtain ⟨r0, rf⟩ := R.c1
        have Rl := R.lt
        have Ul := U.lt
        have HLn := Lib.hid (HI.out L).2.1
        have HO := Lib.hid ((ht.put (a := w.heap.size + 1) (.slice A3 T.length c3) (by omega)).more (lo' := w.heap.size) (B' := (wr.setCell ⟨w.heap.size + 1, 0, none⟩ (.slice A3 T.length c3)).heap.size) (by omega) (by simp [World.setCell]))
        have HC := Lib.hid (capl_far ht hcx (a := ⟨w.heap.size + 1, 0, none⟩) (.slice A3 T.length c3) (by show w.heap.size + 1 < _; omega))
        have HB := Lib.hid (b.setCell (p := ⟨w.heap.size + 1, 0, none⟩) (by simp) (.slice A3 T.length c3))
        clear ht hcx R U b yf hk
        go_wp2
        exact bodyPost_ret (v := .tuple #[.agg #[.slice A3 T.length c3], .bool (decide (0 < L.length))]) (by simp [results, Tryz.results8, go_sem, r0]) rfl (by
          rw [HE.out.1, HE.out.2]
          exact ⟨A3, c3, by rw [HLn.out], HO.out, HB.out, HC.out⟩)
theorem implLeaveAll_to (b off c B : Nat) (T : TL) (tid : Int) (w : World) (hs : TFit T) (hB : B ≤ w.heap.size) (h : TAt w B (some ⟨b, off, none⟩) T) :
    Calls Tryz.prog 8 #[.agg #[.slice (some ⟨b, off, none⟩) T.length c], .int .i64 tid] w (RetTO w (laR T tid) fun v => .tuple #[v, .bool (laB T tid)]) :=
  (implLeaveAll_any b off c B T tid w hs hB h).mono fun _ _ h => h.less
end Go.Proofs.YtaninlnobmjbmaaGreat

namespace Go.Proofs.YtaninlnobmjbmaaGreat
open Go.ChangeShapes Go.WideShapes Go.ChangeAt Go.RowKit Go.Joins

set_option maxHeartbeats 3200000 in
set_option maxRecDepth 100000 in
theorem fnExactLeaveAll_walk (A1 : Option Addr) (c1 : Nat) (T : TL) (z1 : Int) (w : World) (hm : TLen T) (hr : TAt w w.heap.size A1 T) :
    Calls Tryz.prog 3 #[.agg #[.slice A1 T.length c1], .int .i64 z1] w fun e w' => e = .returned (.bool true) ∧ Below w.heap.size w w' := by
  by_cases hs : TFit T
  · have hl1 := hs.len
    have b := Below.refl w.heap.size w
    have SA := fun A c B w hB h => specLeaveAll_any A c B T z1 w hs hB h
    have IA := fun k c B w hB h => implLeaveAll_to k 0 c B T z1 w hs hB h
    have hs8 := laR_fit (tid := z1) hs
    generalize laR T z1 = T8 at SA IA hs8
    generalize laB T z1 = Q at SA IA
    have SA := Lib.hid SA
    have IA := Lib.hid IA
    have hm8 := fit_len hs8
    have hl8 := hs8.len
    have hk0 : ¬ (kTo T 1 T.length < 0) := by have := kTo_range hs (Nat.le_refl _) (show (0 : Int) ≤ 1 by omega) (by omega); omega
    have hk8 : ¬ (kTo T8 1 T8.length < 0) := by have := kTo_range hs8 (Nat.le_refl _) (show (0 : Int) ≤ 1 by omega) (by omega); omega
    go_enter Tryz.func3, Tryz.ntmps3
    go_wp2_with fail
    have hA := (Below.refl w.heap.size w).alloc (Nat.le_refl _) (.cells #[.slice A1 T.length c1] 24)
    have X := Box.new (w := w) (c := #[.slice A1 T.length c1]) (t := 24) rfl
    have sz_w1 : w.heap.size < (w.alloc (.cells #[.slice A1 T.length c1] 24)).heap.size := by simp
    generalize w.alloc (.cells #[.slice A1 T.length c1] 24) = w1 at hA X sz_w1 ⊢
    have s_w1 : w.heap.size ≤ w1.heap.size := hA.size
    have b := b.trans (hA.mono b.size)
    clear hA
    (with_reducible refine (szTable_yes A1 c1 w.heap.size T _ hm hs b.size (hr.keep b (Nat.le_refl _))).mono ?_); rintro e w2 ⟨⟨z, rfl, hz⟩, hb⟩
    have hz : ¬ (z < 0) := by omega
    have s_w2 : w1.heap.size ≤ w2.heap.size := hb.size
    have X := X.next hb
    have b := b.trans (hb.mono b.size)
    clear hb
    obtain ⟨X0, Xf⟩ := X.c1
    have Xl := X.lt
    clear Xf
    go_wp2_with fail
    clear hz
    (with_reducible refine (toTable_any A1 c1 w.heap.size T _ hs b.size (hr.keep b (Nat.le_refl _))).mono ?_); rintro e w3 ⟨g, rfl, hg, hb⟩
    have s_w3 : w2.heap.size ≤ w3.heap.size := hb.size
    have X := X.next hb
    have b := b.trans (hb.mono b.size)
    clear hb
    clear X0 Xl
    go_wp2_with fail
    (with_reducible refine (SA.out _ _ _ _ (Nat.le_refl _) hg.at_).mono ?_); rintro e w4 ⟨A3, c3, rfl, o3, hb⟩
    have a3 := o3.at_
    clear hg o3
    have s_w4 : w3.heap.size ≤ w4.heap.size := hb.size
    have X := X.next hb
    have b := b.trans (hb.mono b.size)
    clear hb
    obtain ⟨X0, Xf⟩ := X.c1
    have Xl := X.lt
    clear Xf
    go_wp2_with fail
    clear X0 Xl
    have hA := (Below.refl w4.heap.size w4).alloc (Nat.le_refl _) (.cells #[.slice A3 T8.length c3] 28)
    have W := Box.new (w := w4) (c := #[.slice A3 T8.length c3]) (t := 28) rfl
    have sz_w5 : w4.heap.size < (w4.alloc (.cells #[.slice A3 T8.length c3] 28)).heap.size := by simp
    generalize w4.alloc (.cells #[.slice A3 T8.length c3] 28) = w5 at hA W sz_w5 ⊢
    have s_w5 : w4.heap.size ≤ w5.heap.size := hA.size
    have X := X.next hA
    have a3 := a3.keep hA (by omega)
    have b := b.trans (hA.mono b.size)
    clear hA
    (with_reducible refine (toTable_any A1 c1 w.heap.size T _ hs b.size (hr.keep b (Nat.le_refl _))).mono ?_); rintro e w6 ⟨k, rfl, hx, hb⟩
    have s_w6 : w5.heap.size ≤ w6.heap.size := hb.size
    have X := X.next hb
    have W := W.next hb
    have a3 := a3.keep hb (by omega)
    have b := b.trans (hb.mono b.size)
    clear hb
    go_wp2_with fail
    have hA := (Below.refl w6.heap.size w6).alloc (Nat.le_refl _) (.cells #[.slice (some ⟨k, 0, none⟩) T.length T.length] 28)
    have Y := Box.new (w := w6) (c := #[.slice (some ⟨k, 0, none⟩) T.length T.length]) (t := 28) rfl
    have sz_w7 : w6.heap.size < (w6.alloc (.cells #[.slice (some ⟨k, 0, none⟩) T.length T.length] 28)).heap.size := by simp
    generalize w6.alloc (.cells #[.slice (some ⟨k, 0, none⟩) T.length T.length] 28) = w7 at hA Y sz_w7 ⊢
    have s_w7 : w6.heap.size ≤ w7.heap.size := hA.size
    have X := X.next hA
    have W := W.next hA
    have hx := hx.below hA (by omega)
    have a3 := a3.keep hA (by omega)
    have b := b.trans (hA.mono b.size)
    clear hA
    (with_reducible refine (IA.out _ _ _ _ (by omega) hx.at_).mono ?_); rintro e w8 ⟨A5, c5, rfl, g5, hb⟩
    have s_w8 : w7.heap.size ≤ w8.heap.size := hb.size
    have X := X.next hb
    have W := W.next hb
    have Y := Y.next hb
    have hx := hx.below hb (by omega)
    have a3 := a3.keep hb (by omega)
    have b := b.trans (hb.mono b.size)
    clear hb
    obtain ⟨W0, Wf⟩ := W.c1
    have Wl := W.lt
    clear Wf
    go_wp2_with fail
    clear W0 Wl
    have hA := (Below.refl w8.heap.size w8).alloc (Nat.le_refl _) (.cells #[.slice A5 T8.length c5] 28)
    have V := Box.new (w := w8) (c := #[.slice A5 T8.length c5]) (t := 28) rfl
    have sz_w9 : w8.heap.size < (w8.alloc (.cells #[.slice A5 T8.length c5] 28)).heap.size := by simp
    generalize w8.alloc (.cells #[.slice A5 T8.length c5] 28) = w9 at hA V sz_w9 ⊢
    have s_w9 : w8.heap.size ≤ w9.heap.size := hA.size
    have X := X.next hA
    have W := W.next hA
    have Y := Y.next hA
    have hx := hx.below hA (by omega)
    have g5 := g5.below hA (by omega)
    have a3 := a3.keep hA (by omega)
    have b := b.trans (hA.mono b.size)
    clear hA
    (with_reducible refine (eqTable_same _ _ _ _ _ _ T8 _ hm8 g5.at_ a3 (by omega) (by omega)).mono ?_); rintro e w10 ⟨rfl, hb⟩
    have s_w10 : w9.heap.size ≤ w10.heap.size := hb.size
    have X := X.next hb
    have W := W.next hb
    have Y := Y.next hb
    have V := V.next hb
    have hx := hx.below hb (by omega)
    have g5 := g5.below hb (by omega)
    have a3 := a3.keep hb (by omega)
    have b := b.trans (hb.mono b.size)
    clear hb
    have hD := (Below.refl w10.heap.size w10).drew
    have Yd := Lib.hid Y.drew
    have hxd := Lib.hid (hx.below hD (by omega))
    have hrd := Lib.hid (hr.keep b.drew (Nat.le_refl _))
    have hbd := b.drew.size
    obtain ⟨X0, Xf⟩ := X.c1
    have Xl := X.lt
    clear Xf
    obtain ⟨Y0, Yf⟩ := Y.c1
    have Yl := Y.lt
    clear Yf
    go_wp2_with fail
    go_region_law (first | (go_simp; go_at_call 7; refine (toTable_any A1 c1 w.heap.size T _ hs hbd hrd.out).mono ?_; rintro o w11 ⟨g6, rfl, hy, hb6⟩; obtain ⟨z0, zf⟩ := (Yd.out.next hb6).c1) | (go_simp; go_at_call 9; refine (eqTable_same _ _ _ _ _ _ T _ hm (hxd.out.below hb6 (by show _ ≤ w10.heap.size; omega)).at_ hy.at_ (by have := hb6.size; show _ ≤ w11.heap.size; have : w10.drew.heap.size = w10.heap.size := rfl; omega) (Nat.le_refl _)).mono ?_; rintro o w12 ⟨rfl, hb7⟩))
    all_goals
      have hb := hD.trans ((hb6.trans (hb7.mono hb6.size)).mono (Nat.le_refl _))
      clear z0 zf hb6 hb7 hy Yd hxd hrd hD hbd
      clear X0 Xl Y0 Yl
      have s_w12 : w10.heap.size ≤ w12.heap.size := hb.size
      have X := X.next hb
      have W := W.next hb
      have Y := Y.next hb
      have V := V.next hb
      have hx := hx.below hb (by omega)
      have g5 := g5.below hb (by omega)
      have a3 := a3.keep hb (by omega)
      have b := b.trans (hb.mono b.size)
      clear hb
      obtain ⟨Y0, Yf⟩ := Y.c1
      have Yl := Y.lt
      clear Yf
      obtain ⟨V0, Vf⟩ := V.c1
      have Vl := V.lt
      clear Vf
      obtain ⟨W0, Wf⟩ := W.c1
      have Wl := W.lt
      clear Wf
      go_wp2_with fail
      (with_reducible refine (markTable_any _ _ _ _ T 1 _ hs (by omega) (by omega) (by omega) hx).mono ?_); rintro e w13 ⟨rfl, hm, hx2⟩
      have hm := MarkS.two hm
      have s_w13 : w12.heap.size ≤ w13.heap.size := hm.size
      have X := X.mark hm (by omega)
      have W := W.mark hm (by omega)
      have Y := Y.mark hm (by omega)
      have V := V.mark hm (by omega)
      have g5 := g5.mark hm (by omega) (by omega)
      have a3 := a3.mark hm (by omega) (by omega)
      have b := b.trans (hm.bel (by omega) (by omega))
      clear hm
      clear Y0 Yl V0 Vl W0 Wl
      clear hx hx2
      obtain ⟨V0, Vf⟩ := V.c1
      have Vl := V.lt
      clear Vf
      obtain ⟨W0, Wf⟩ := W.c1
      have Wl := W.lt
      clear Wf
      go_wp2_with fail
      clear V0 Vl W0 Wl
      (with_reducible refine (eqTable_same _ _ _ _ _ _ T8 _ hm8 g5.at_ a3 (by omega) (by omega)).mono ?_); rintro e w14 ⟨rfl, hb⟩
      have s_w14 : w13.heap.size ≤ w14.heap.size := hb.size
      have X := X.next hb
      have W := W.next hb
      have Y := Y.next hb
      have V := V.next hb
      have g5 := g5.below hb (by omega)
      have a3 := a3.keep hb (by omega)
      have b := b.trans (hb.mono b.size)
      clear hb
      obtain ⟨V0, Vf⟩ := V.c1
      have Vl := V.lt
      clear Vf
      go_wp2_with fail
      (with_reducible refine (markTable_any _ _ _ _ T8 1 _ hs8 (by omega) (by omega) (by omega) g5).mono ?_); rintro e wm ⟨rfl, hmk, g6⟩
      have hmk := MarkS.two hmk
      have s_wm : w14.heap.size ≤ wm.heap.size := hmk.size
      have X := X.mark hmk (by omega)
      have W := W.mark hmk (by omega)
      have Y := Y.mark hmk (by omega)
      have V := V.mark hmk (by omega)
      have a3 := a3.mark hmk (by omega) (by omega)
      have b := b.trans (hmk.bel (by omega) (by omega))
      clear hmk g5
      clear V0 Vl
      obtain ⟨V0, Vf⟩ := V.c1
      have Vl := V.lt
      clear Vf
      go_wp2_with fail
      (with_reducible refine (heldTable_any _ _ _ T8 1 _ hs8 (by omega) (by omega) (by omega) g6.at_).mono ?_); rintro e w15 ⟨rfl, hb⟩
      have s_w15 : wm.heap.size ≤ w15.heap.size := hb.size
      have X := X.next hb
      have W := W.next hb
      have Y := Y.next hb
      have V := V.next hb
      have g6 := g6.below hb (by omega)
      have a3 := a3.keep hb (by omega)
      have b := b.trans (hb.mono b.size)
      clear hb
      clear V0 Vl
      obtain ⟨X0, Xf⟩ := X.c1
      have Xl := X.lt
      clear Xf
      go_wp2_with fail
      (with_reducible refine (toTable_any A1 c1 w.heap.size T _ hs b.size (hr.keep b (Nat.le_refl _))).mono ?_); rintro e w16 ⟨p, rfl, hp, hb⟩
      have s_w16 : w15.heap.size ≤ w16.heap.size := hb.size
      have X := X.next hb
      have W := W.next hb
      have Y := Y.next hb
      have V := V.next hb
      have g6 := g6.below hb (by omega)
      have a3 := a3.keep hb (by omega)
      have b := b.trans (hb.mono b.size)
      clear hb
      clear X0 Xl
      go_wp2_with fail
      (with_reducible refine (IA.out _ _ _ _ (Nat.le_refl _) hp.at_).mono ?_); rintro e w17 ⟨A7, c7, rfl, g7, hb⟩
      clear hp
      have s_w17 : w16.heap.size ≤ w17.heap.size := hb.size
      have X := X.next hb
      have W := W.next hb
      have Y := Y.next hb
      have V := V.next hb
      have g6 := g6.below hb (by omega)
      have a3 := a3.keep hb (by omega)
      have b := b.trans (hb.mono b.size)
      clear hb
      obtain ⟨W0, Wf⟩ := W.c1
      have Wl := W.lt
      clear Wf
      go_wp2_with fail
      clear W0 Wl
      have hA := (Below.refl w17.heap.size w17).alloc (Nat.le_refl _) (.cells #[.slice A7 T8.length c7] 28)
      have U := Box.new (w := w17) (c := #[.slice A7 T8.length c7]) (t := 28) rfl
      have sz_w18 : w17.heap.size < (w17.alloc (.cells #[.slice A7 T8.length c7] 28)).heap.size := by simp
      generalize w17.alloc (.cells #[.slice A7 T8.length c7] 28) = w18 at hA U sz_w18 ⊢
      have s_w18 : w17.heap.size ≤ w18.heap.size := hA.size
      have X := X.next hA
      have W := W.next hA
      have Y := Y.next hA
      have V := V.next hA
      have g6 := g6.below hA (by omega)
      have g7 := g7.below hA (by omega)
      have a3 := a3.keep hA (by omega)
      have b := b.trans (hA.mono b.size)
      clear hA
      (with_reducible refine (eqTable_same _ _ _ _ _ _ T8 _ hm8 g7.at_ a3 (by omega) (by omega)).mono ?_); rintro e w19 ⟨rfl, hb⟩
      have s_w19 : w18.heap.size ≤ w19.heap.size := hb.size
      have X := X.next hb
      have W := W.next hb
      have Y := Y.next hb
      have V := V.next hb
      have U := U.next hb
      have g6 := g6.below hb (by omega)
      have g7 := g7.below hb (by omega)
      have a3 := a3.keep hb (by omega)
      have b := b.trans (hb.mono b.size)
      clear hb
      obtain ⟨V0, Vf⟩ := V.c1
      have Vl := V.lt
      clear Vf
      go_wp2_with fail
      (with_reducible refine (heldTable_any _ _ _ T8 1 _ hs8 (by omega) (by omega) (by omega) g6.at_).mono ?_); rintro e w20 ⟨rfl, hb⟩
      have s_w20 : w19.heap.size ≤ w20.heap.size := hb.size
      have X := X.next hb
      have W := W.next hb
      have Y := Y.next hb
      have V := V.next hb
      have U := U.next hb
      have g6 := g6.below hb (by omega)
      have g7 := g7.below hb (by omega)
      have a3 := a3.keep hb (by omega)
      have b := b.trans (hb.mono b.size)
      clear hb
      clear V0 Vl
      go_wp2
      go_ret
      exact ⟨rfl, b⟩
  · go_enter Tryz.func3, Tryz.ntmps3
    go_wp2_with fail
    have b0 := (Below.refl w.heap.size w).alloc (Nat.le_refl _) (.cells #[.slice A1 T.length c1] 24)
    refine (szTable_no A1 c1 w.heap.size T _ hm hs b0.size (hr.keep b0 (Nat.le_refl _))).mono ?_; rintro e w1 ⟨rfl, hb1⟩
    go_wp2
    go_ret
    exact ⟨rfl, b0.trans (hb1.mono b0.size)⟩

set_option maxRecDepth 100000 in
theorem fnExactLeaveAll_lifted (os : Os) (started : os.Started) (H : Type) (enc : TypeId × Value → H) :
    ReturnsInHanded {} Tryz.checked os 3 .any (Rows.fnExactLeaveAllSpec.pre6 enc Tryz.prog Tryz.f3 Rows.fnExactLeaveAllRow.domain false) (Rows.fnExactLeaveAllSpec.post enc Tryz.prog Tryz.f3 false true false false) := by
  refine returnsInHanded_of_change (C := Tryz.checked) own started (by kernel_rfl) Tryz.func3
    (ChangeSpec.witness6 (enc := enc) (C := Tryz.checked) false ⟨#[], #[.agg #[.slice none 0 0], .int .i64 0], []⟩ 8 (by kernel_rfl) (by kernel_rfl) (by kernel_rfl) (by kernel_rfl)) ?_
  intro W base args ds gs before hval0 hW _ _
  have hval : ∀ (j : Nat) t v, Tryz.f3.params[j]? = some t → args[j]? = some v → Value.okWide Tryz.prog W .any base t v := hval0
  have hW' := hW
  obtain ⟨p, q, hA0, hV, rfl, _, _⟩ := hW
  have hA : DataW.TrodAll enc Tryz.prog W 0 (fun _ => true) true Tryz.f3.params.toList args.toList ds p := hA0
  rw [Tryz.params3] at hA hval
  obtain ⟨v0, vs0, d0, ds0, p0, q0, hargs, rfl, rfl, h0, rr0⟩ := trodAll_cons hA
  obtain ⟨v1, vs1, d1, ds1, p1, q1, rfl, rfl, rfl, h1, rr1⟩ := trodAll_cons rr0
  obtain ⟨rfl, rfl, rfl⟩ := trodAll_nil rr1
  obtain rfl : args = #[v0, v1] := by cases args; simp_all
  obtain ⟨rfl, rfl⟩ := trodVars_none hV
  have k0 := h0
  have lt0 : ∀ x ∈ p0, x.block < W.heap.size := by obtain ⟨m, hm⟩ := k0; exact DataW.trod_lt m _ _ _ hm
  obtain ⟨A1, c1, T, rfl, n1, r1⟩ := open_table (hval 0 24 v0 rfl rfl) h0
  have k1 := h1
  have lt1 : ∀ x ∈ p1, x.block < W.heap.size := by obtain ⟨m, hm⟩ := k1; exact DataW.trod_lt m _ _ _ hm
  obtain ⟨z1, rfl, rfl, rfl, zwf1⟩ := open_int Tryz.underlying3 (hval 1 3 v1 rfl rfl) h1
  clear hA0 hval0
  refine (fnExactLeaveAll_walk A1 c1 T z1 W n1 r1).mono fun e W' ⟨he, bel⟩ => ?_
  subst he
  exact ⟨_, rfl, _, _, _, [], _, [], hW', trodAll_mk1 (shut_bool Tryz.underlying4 _), (trodAll_cons_mk (Below.trod laidOut (by kernel_rfl) (of_decide_eq_true (by kernel_rfl)) k0 bel lt0) (trodAll_cons_mk (Below.trod laidOut (by kernel_rfl) (of_decide_eq_true (by kernel_rfl)) k1 bel lt1) (trodAll_mk0))), rfl, bel.frame _, fun h => by cases h⟩

/-- FnExactLeaveAll -/
theorem fnExactLeaveAll_holds : Rows.FnExactLeaveAllSaid :=
  OpenClaim.holds_of_wide 3 Tryz.f3 rfl rfl rfl rfl rfl rfl rfl ⟨rfl, rfl, rfl, rfl, rfl⟩ rfl rfl rfl rfl rfl (by kernel_rfl) Tryz.func3 (by kernel_rfl)
    (of_decide_eq_true (by kernel_rfl)) (by unfold Func.isWrapper; first | (rw [if_pos (by decide +kernel)]; kernel_rfl) | (rw [if_neg (by decide +kernel)]; exact ⟨rfl, rfl⟩))
    (fun os started H enc _ => fnExactLeaveAll_lifted os started H enc)
#print axioms fnExactLeaveAll_holds
end Go.Proofs.YtaninlnobmjbmaaGreat
