/- Stores into a table's row; marks of a table. -/
import Derived.Test.YtkpkjcmoldkmmaaTa
namespace Go.Proofs.Ytkpkjcmoldkmmaa
open Go.RowKit

section
variable {w w' : World} {lo B b off n k : Nat} {f : Nat → CD} {q : Nat → Pl} {L H : Nat → Nat} {c : CD} {p : Pl} {o : Nat}
theorem cc_same {i : Nat} {u v : Value} (h : w.cell? ⟨b, o + i, none⟩ = some u) : (w.setCell ⟨b, o + i, none⟩ v).cell? ⟨b, o + i, none⟩ = some v := World.cell?_setCell_same _ _ _ h
theorem cc_other {i j : Nat} {v : Value} (hne : ¬ i = j) : (w.setCell ⟨b, o + i, none⟩ v).cell? ⟨b, o + j, none⟩ = w.cell? ⟨b, o + j, none⟩ := World.cell?_setCell_other _ _ _ _ (by intro e; injection e with _ e _; omega)
theorem CCells.setv (h : CCells w b o c p) (z : Int) : CCells (w.setCell ⟨b, o, none⟩ (.int .i64 z)) b o ⟨z, c.e, c.s, c.h, c.hs, c.ws⟩ p :=
  ⟨cc_same (i := 0) h.c0, (cc_other (i := 0) (by omega)).trans h.c1, (cc_other (i := 0) (by omega)).trans h.c2, (cc_other (i := 0) (by omega)).trans h.c3, (cc_other (i := 0) (by omega)).trans h.c4, (cc_other (i := 0) (by omega)).trans h.c5⟩
theorem CCells.sete (h : CCells w b o c p) (z : Int) : CCells (w.setCell ⟨b, o + 1, none⟩ (.int .i64 z)) b o ⟨c.v, z, c.s, c.h, c.hs, c.ws⟩ p :=
  ⟨(cc_other (j := 0) (by omega)).trans h.c0, cc_same h.c1, (cc_other (by omega)).trans h.c2, (cc_other (by omega)).trans h.c3, (cc_other (by omega)).trans h.c4, (cc_other (by omega)).trans h.c5⟩
theorem CCells.sets (h : CCells w b o c p) (z : Int) : CCells (w.setCell ⟨b, o + 2, none⟩ (.int .i64 z)) b o ⟨c.v, c.e, z, c.h, c.hs, c.ws⟩ p :=
  ⟨(cc_other (j := 0) (by omega)).trans h.c0, (cc_other (by omega)).trans h.c1, cc_same h.c2, (cc_other (by omega)).trans h.c3, (cc_other (by omega)).trans h.c4, (cc_other (by omega)).trans h.c5⟩
theorem CCells.seth (h : CCells w b o c p) (z : Bool) : CCells (w.setCell ⟨b, o + 3, none⟩ (.bool z)) b o ⟨c.v, c.e, c.s, z, c.hs, c.ws⟩ p :=
  ⟨(cc_other (j := 0) (by omega)).trans h.c0, (cc_other (by omega)).trans h.c1, (cc_other (by omega)).trans h.c2, cc_same h.c3, (cc_other (by omega)).trans h.c4, (cc_other (by omega)).trans h.c5⟩
/-- one cell of the row written -/
theorem TRow.store (h : TRow w lo B b off n f q L H) (hk : k < n) {i : Nat} (hi : i < 6) (u : Value) {c' : CD} (hc : CCells (w.setCell ⟨b, off + k * 6 + i, none⟩ u) b (off + k * 6) c' (q k)) (hl : c'.p = (f k).p) :
    TRow (w.setCell ⟨b, off + k * 6 + i, none⟩ u) lo B b off n (fun j => if j = k then c' else f j) q L H := by
  refine ⟨h.rlo, h.rhi, fun o => by rw [World.frozen?_setCell]; exact h.free o, fun j hj => ?_, h.low, h.high, h.roff, fun j hj => ?_, h.part⟩
  · by_cases e : j = k
    · subst e; simpa using hc
    · simp only [if_neg e]
      exact (h.cell j hj).far u (fun i' hi' e' => by injection e' with _ e' _; omega)
  · have hb : Onlys b (b + 1) w (w.setCell ⟨b, off + k * 6 + i, none⟩ u) := (Onlys.refl b (b + 1) w).setCell (p := ⟨b, _, none⟩) (Nat.le_refl _) (Nat.lt_succ_self _) u
    have ho := LOwn.onlys (h.own j hj) hb (by have := h.roff j hj; omega)
    by_cases e : j = k
    · subst e
      simp only [if_true]
      unfold LsOwn
      rw [hl]; exact ho
    · simp only [if_neg e]; exact ho
theorem TRow.store0 (h : TRow w lo B b off n f q L H) (hk : k < n) (z : Int) : TRow (w.setCell ⟨b, off + k * 6, none⟩ (.int .i64 z)) lo B b off n (fun j => if j = k then ⟨z, (f k).e, (f k).s, (f k).h, (f k).hs, (f k).ws⟩ else f j) q L H :=
  h.store hk (i := 0) (by omega) _ ((h.cell k hk).setv z) rfl
theorem TRow.store1 (h : TRow w lo B b off n f q L H) (hk : k < n) (z : Int) : TRow (w.setCell ⟨b, off + k * 6 + 1, none⟩ (.int .i64 z)) lo B b off n (fun j => if j = k then ⟨(f k).v, z, (f k).s, (f k).h, (f k).hs, (f k).ws⟩ else f j) q L H :=
  h.store hk (by omega) _ ((h.cell k hk).sete z) rfl
theorem TRow.store2 (h : TRow w lo B b off n f q L H) (hk : k < n) (z : Int) : TRow (w.setCell ⟨b, off + k * 6 + 2, none⟩ (.int .i64 z)) lo B b off n (fun j => if j = k then ⟨(f k).v, (f k).e, z, (f k).h, (f k).hs, (f k).ws⟩ else f j) q L H :=
  h.store hk (by omega) _ ((h.cell k hk).sets z) rfl
theorem TRow.store3 (h : TRow w lo B b off n f q L H) (hk : k < n) (z : Bool) : TRow (w.setCell ⟨b, off + k * 6 + 3, none⟩ (.bool z)) lo B b off n (fun j => if j = k then ⟨(f k).v, (f k).e, (f k).s, z, (f k).hs, (f k).ws⟩ else f j) q L H :=
  h.store hk (by omega) _ ((h.cell k hk).seth z) rfl
theorem TRow.congr {g : Nat → CD} (h : TRow w lo B b off n f q L H) (e : ∀ j, j < n → f j = g j) : TRow w lo B b off n g q L H :=
  ⟨h.rlo, h.rhi, h.free, fun j hj => by rw [← e j hj]; exact h.cell j hj, h.low, h.high, h.roff, fun j hj => by rw [← e j hj]; exact h.own j hj, h.part⟩
/-- the lists of one cell turned -/
theorem TRow.lists (h : TRow w lo B b off n f q L H) (hk : k < n) (ho : Onlys (L k) (H k) w w') {c' : CD} (h0 : c'.v = (f k).v) (h1 : c'.e = (f k).e) (h2 : c'.s = (f k).s) (h3 : c'.h = (f k).h) (h4 : c'.hs.length = (f k).hs.length) (h5 : c'.ws.length = (f k).ws.length) (hl : LsOwn w' (L k) (H k) c' (q k)) :
    TRow w' lo B b off n (fun j => if j = k then c' else f j) q L H := by
  have hb := ho.block b (by have := h.roff k hk; omega)
  refine ⟨h.rlo, h.rhi, fun o => (World.frozen?_of_block (a := ⟨b, o, none⟩) hb).trans (h.free o), fun j hj => ?_, h.low, h.high, h.roff, fun j hj => ?_, h.part⟩
  · have hc := (h.cell j hj).block hb
    by_cases e : j = k
    · subst e
      simp only [if_true]
      exact ⟨by rw [h0]; exact hc.c0, by rw [h1]; exact hc.c1, by rw [h2]; exact hc.c2, by rw [h3]; exact hc.c3, by rw [h4]; exact hc.c4, by rw [h5]; exact hc.c5⟩
    · simp only [if_neg e]; exact hc
  · by_cases e : j = k
    · subst e; simpa using hl
    · simp only [if_neg e]
      exact LOwn.onlys (h.own j hj) ho (h.part j k hj hk e)
end

/-! what marking leaves -/
def kTo (T : TL) (k0 : Int) (k : Nat) : Int := k0 + 4 * (k : Int) + 2 * (totT T k : Int)
theorem kTo_succ (T : TL) (k0 : Int) (k : Nat) : kTo T k0 (k + 1) = kTo T k0 k + 4 + ((cd T k).hs.length : Int) * 2 + ((cd T k).ws.length : Int) * 2 := by
  unfold kTo; rw [totT_succ]; omega
def mkC (x : Int) (c : CD) : CD := ⟨x, x + 1, x + 1 + 1, decide ((x + 1 + 1 + 1) % 3 = 0), marks (x + 1 + 1 + 1 + 1) c.hs.length, marks (x + 1 + 1 + 1 + 1 + c.hs.length * 2) c.ws.length⟩
def mkT (T : TL) (k0 : Int) : TL := (List.range T.length).map fun j => mkC (kTo T k0 j) (cd T j)
theorem mkT_len (T : TL) (k0 : Int) : (mkT T k0).length = T.length := by simp [mkT]
theorem mkT_at {T : TL} {k0 : Int} {j : Nat} (h : j < T.length) : cd (mkT T k0) j = mkC (kTo T k0 j) (cd T j) := by simp [cd, mkT, h]
/-- the first k cells marked -/
def mkTo (T : TL) (k0 : Int) (k j : Nat) : CD := if j < k then mkC (kTo T k0 j) (cd T j) else cd T j
theorem kTo_range {T : TL} {k : Nat} (hs : TFit T) (hk : k ≤ T.length) {k0 : Int} (h0 : 0 ≤ k0) (h1 : k0 ≤ 1048576) : 0 ≤ kTo T k0 k ∧ kTo T k0 k ≤ 8388608 := by
  have := totT_mono T hk
  unfold TFit at hs
  unfold kTo; omega
end Go.Proofs.Ytkpkjcmoldkmmaa
