/- Contracts of the draws: the cursor, bytes, numbers below a bound, picks. -/
import Derived.Test.YtmdonjkkpkcpnaaLb
import Derived.Deep.RegionLaw
namespace Go.Proofs.Ytmdonjkkpkcpnaa
open Go.RowKit

/-- the bytes of a draw -/
def BytesAt (w : World) (B : Nat) (A : Option Addr) (n : Nat) (g : Nat → Int) : Prop :=
  (∀ j, 0 ≤ g j ∧ g j ≤ 255) ∧ (0 < n → ∃ b off, A = some ⟨b, off, none⟩ ∧ b < B ∧ ∀ j, j < n → w.cell? ⟨b, off + j, none⟩ = some (.int .u8 (g j)))
theorem BytesAt.keep {w w' : World} {B B' : Nat} {A : Option Addr} {n : Nat} {g : Nat → Int} (h : BytesAt w B A n g) (hb : ∀ k, k < B → w'.heap[k]? = w.heap[k]?) (hB : B ≤ B') : BytesAt w' B' A n g :=
  ⟨h.1, fun hn => by
    obtain ⟨b, off, e, hlt, hc⟩ := h.2 hn
    exact ⟨b, off, e, by omega, fun j hj => (World.cell?_of_block (a := ⟨b, off + j, none⟩) (hb b hlt)).trans (hc j hj)⟩⟩

/-- below B all is as it was, but for block c; no block has gone -/
structure But (c B : Nat) (w w' : World) : Prop where
  os : w'.os = w.os
  tape : w'.tape = w.tape
  output : w'.output = w.output
  size : w.heap.size ≤ w'.heap.size
  block : ∀ k, k < B → k ≠ c → w'.heap[k]? = w.heap[k]?
section
variable {c B B' : Nat} {w w' w'' : World}
theorem But.refl : But c B w w := ⟨rfl, rfl, rfl, Nat.le_refl _, fun _ _ _ => rfl⟩
theorem But.trans (h : But c B w w') (k : But c B w' w'') : But c B w w'' :=
  ⟨k.os.trans h.os, k.tape.trans h.tape, k.output.trans h.output, Nat.le_trans h.size k.size, fun i hi hc => (k.block i hi hc).trans (h.block i hi hc)⟩
theorem But.mono (h : But c B' w w') (hB : B ≤ B') : But c B w w' := ⟨h.os, h.tape, h.output, h.size, fun k hk hc => h.block k (by omega) hc⟩
theorem But.of_below (h : Below B' w w') (hB : B ≤ B') : But c B w w' := ⟨h.os, h.tape, h.output, h.size, fun k hk _ => h.block k (by omega)⟩
theorem But.drew (h : But c B w w') : But c B w w'.drew := ⟨h.os, h.tape, h.output, h.size, h.block⟩
theorem But.drewN (h : But c B w w') (n : Nat) : But c B w (w'.drewN n) := ⟨h.os, h.tape, h.output, h.size, h.block⟩
theorem But.alloc (h : But c B w w') (hB : B ≤ w'.heap.size) (o : Obj) : But c B w (w'.alloc o) := h.trans (But.of_below ((Below.refl B w').alloc hB o) (Nat.le_refl _))
theorem But.setCur (h : But c B w w') {p : Addr} (hp : p.block = c) (u : Value) : But c B w (w'.setCell p u) :=
  h.trans ⟨rfl, rfl, rfl, by simp [World.setCell], fun k _ hk => Below.heap_setCell _ _ _ _ (by rw [hp]; exact hk)⟩
theorem But.setOwn (h : But c B w w') {p : Addr} (hp : B ≤ p.block) (u : Value) : But c B w (w'.setCell p u) :=
  h.trans ⟨rfl, rfl, rfl, by simp [World.setCell], fun k hk _ => Below.heap_setCell _ _ _ _ (by omega)⟩
theorem But.below (h : But c B w w') (hB : B' ≤ B) (hc : B' ≤ c) : Below B' w w' := ⟨h.os, h.tape, h.output, h.size, fun k hk => h.block k (by omega) (by omega)⟩
end

/-- the cursor in block c, over the bytes at A -/
def Cur (w : World) (c : Nat) (A : Option Addr) (n cp : Nat) (i h : Int) : Prop := w.heap[c]? = some (.cells #[.slice A n cp, .int .i64 i, .int .i64 h] 81 (0, 0))
section
variable {w w' : World} {c n cp : Nat} {A : Option Addr} {i h : Int}
theorem Cur.c0 (k : Cur w c A n cp i h) : w.cell? ⟨c, 0, none⟩ = some (.slice A n cp) := by unfold Cur at k; simp [World.cell?, k]
theorem Cur.c1 (k : Cur w c A n cp i h) : w.cell? ⟨c, 1, none⟩ = some (.int .i64 i) := by unfold Cur at k; simp [World.cell?, k]
theorem Cur.c2 (k : Cur w c A n cp i h) : w.cell? ⟨c, 2, none⟩ = some (.int .i64 h) := by unfold Cur at k; simp [World.cell?, k]
theorem Cur.fr (k : Cur w c A n cp i h) (o : Nat) : w.frozen? ⟨c, o, none⟩ = false := by unfold Cur at k; simp [World.frozen?, k]
theorem Cur.lt (k : Cur w c A n cp i h) : c < w.heap.size := (Array.getElem?_eq_some_iff.1 k).1
theorem Cur.set1 (k : Cur w c A n cp i h) (i' : Int) : Cur (w.setCell ⟨c, 1, none⟩ (.int .i64 i')) c A n cp i' h := by unfold Cur at k ⊢; simp [World.setCell, Array.getElem?_modify, k]
theorem Cur.set2 (k : Cur w c A n cp i h) (h' : Int) : Cur (w.setCell ⟨c, 2, none⟩ (.int .i64 h')) c A n cp i h' := by unfold Cur at k ⊢; simp [World.setCell, Array.getElem?_modify, k]
theorem Cur.keep (k : Cur w c A n cp i h) (hb : w'.heap[c]? = w.heap[c]?) : Cur w' c A n cp i h := hb.trans k
end

/-- what every draw leaves: the cursor stands, at or before the end -/
structure Drawn (c : Nat) (A : Option Addr) (n cp : Nat) (w w' : World) : Prop where
  cur : ∃ i h : Int, 0 ≤ i ∧ i ≤ n ∧ Cur w' c A n cp i h
  but : But c w.heap.size w w'
/-- a byte is drawn -/
def ByteOut (c : Nat) (A : Option Addr) (n cp : Nat) (w : World) (hi : Int) (e : Ending) (w' : World) : Prop := ∃ x : Int, 0 ≤ x ∧ x ≤ hi ∧ e = .returned (.int .i64 x) ∧ Drawn c A n cp w w'

theorem and255 (z : Int) : 0 ≤ bits BinOp.and IntKind.i64 z 255 ∧ bits BinOp.and IntKind.i64 z 255 ≤ 255 := by
  have h : bits BinOp.and IntKind.i64 z 255 = IntKind.i64.wrap ((BitVec.ofInt 64 z &&& BitVec.ofInt 64 255).toNat : Int) := rfl
  have h2 : (BitVec.ofInt 64 z &&& BitVec.ofInt 64 255).toNat ≤ 255 := by
    rw [BitVec.toNat_and]
    exact Nat.and_le_right
  rw [h, IntKind.wrap_i64]
  omega

theorem Drawn.refl {c n cp : Nat} {A : Option Addr} {i h : Int} {w : World} (h0 : 0 ≤ i) (h1 : i ≤ n) (hc : Cur w c A n cp i h) : Drawn c A n cp w w := ⟨⟨i, h, h0, h1, hc⟩, But.refl⟩
theorem Drawn.trans {c n cp : Nat} {A : Option Addr} {w w' w'' : World} (h : Drawn c A n cp w w') (k : Drawn c A n cp w' w'') : Drawn c A n cp w w'' := ⟨k.cur, h.but.trans (k.but.mono h.but.size)⟩

set_option maxHeartbeats 1600000 in
set_option maxRecDepth 100000 in
theorem l01Byte_any (c n cp : Nat) (A : Option Addr) (g : Nat → Int) (i h : Int) (w : World) (hn : n ≤ 1048576) (h0 : 0 ≤ i) (h1 : i ≤ n) (hc : Cur w c A n cp i h) (hbs : BytesAt w c A n g) :
    Calls Try.prog 71 #[.pointer (some ⟨c, 0, none⟩)] w (ByteOut c A n cp w 255) := by
  have c0 := hc.c0
  have c1 := hc.c1
  have c2 := hc.c2
  have f2 := hc.fr 2
  have f1 := hc.fr 1
  have HC := Lib.hid hc
  clear hc
  go_enter Try.func71, Try.ntmps71
  go_wp2
  generalize hh : wrap64 (wrap64 (h * 6364136223846793005) + 1442695040888963407) = h2
  clear hh
  have k2 := HC.out.set2 h2
  have b2 : But c w.heap.size w (w.setCell ⟨c, 2, none⟩ (.int .i64 h2)) := But.setCur But.refl (p := ⟨c, 2, none⟩) rfl _
  clear c0 c1 c2 f1 f2
  generalize w.setCell ⟨c, 2, none⟩ (.int .i64 h2) = w2 at k2 b2 ⊢
  have c0 := k2.c0
  have c1 := k2.c1
  have c2 := k2.c2
  have f1 := k2.fr 1
  have K2 := Lib.hid k2
  clear k2
  go_quiet (fail)
  rename_i nq
  go_wp2_with fail
  generalize hx : bits BinOp.and IntKind.i64 (bits BinOp.xor IntKind.i64 (h2 / 8589934592) (h2 / 35184372088832)) 255 = x
  have hx0 : 0 ≤ x ∧ x ≤ 255 := by rw [← hx]; exact and255 _
  obtain ⟨x0, x1⟩ := hx0
  clear hx
  by_cases hi : i < n
  · obtain ⟨m, rfl⟩ := Int.eq_ofNat_of_zero_le h0
    obtain ⟨b, off, rfl, hlt, hby⟩ := hbs.2 (by omega)
    have hgm := hbs.1 m
    obtain ⟨g0, g1⟩ := hgm
    have d0 : w2.cell? ⟨b, off + m, none⟩ = some (.int .u8 (g m)) := (World.cell?_of_block (a := ⟨b, off + m, none⟩) (b2.block b (by have := HC.out.lt; omega) (by omega))).trans (hby m (by omega))
    clear hby hbs
    go_quiet (fail)
    go_wp2_with fail
    go_quiet (fail)
    go_wp2_with fail
    generalize hy : bits BinOp.and IntKind.i64 (x + g m) 255 = y
    have hy0 : 0 ≤ y ∧ y ≤ 255 := by rw [← hy]; exact and255 _
    obtain ⟨y0, y1⟩ := hy0
    clear hy
    have hmz : (m : Int) ≤ 1048576 := by omega
    go_wp2
    go_ret
    exact ⟨y, y0, y1, rfl, ⟨(m : Int) + 1, h2, by omega, by omega, K2.out.set1 _⟩, But.setCur (b2.drewN _) (p := ⟨c, 1, none⟩) rfl _⟩
  · clear hbs
    go_quiet (fail)
    go_wp2
    go_ret
    exact ⟨x, x0, x1, rfl, ⟨i, h2, h0, h1, K2.out⟩, b2.drewN _⟩

/-- a cursor stands in block c over the bytes -/
structure St (w : World) (c n cp : Nat) (A : Option Addr) (g : Nat → Int) : Prop where
  cur : ∃ i h : Int, 0 ≤ i ∧ i ≤ n ∧ Cur w c A n cp i h
  bytes : BytesAt w c A n g
theorem St.lt {w : World} {c n cp : Nat} {A : Option Addr} {g : Nat → Int} (h : St w c n cp A g) : c < w.heap.size := by
  obtain ⟨i, h', _, _, k⟩ := h.cur
  exact k.lt
theorem St.drawn {w w' : World} {c n cp : Nat} {A : Option Addr} {g : Nat → Int} (h : St w c n cp A g) (d : Drawn c A n cp w w') : St w' c n cp A g :=
  ⟨d.cur, h.bytes.keep (fun k hk => d.but.block k (by have := h.lt; omega) (by omega)) (Nat.le_refl _)⟩
theorem St.below {w w' : World} {c n cp B : Nat} {A : Option Addr} {g : Nat → Int} (h : St w c n cp A g) (hb : Below B w w') (hB : c < B) : St w' c n cp A g := by
  obtain ⟨i, h', h0, h1, k⟩ := h.cur
  exact ⟨⟨i, h', h0, h1, k.keep (hb.block c hB)⟩, h.bytes.keep (fun j hj => hb.block j (by omega)) (Nat.le_refl _)⟩

/-- a number is drawn -/
def NumOut (c : Nat) (A : Option Addr) (n cp : Nat) (w : World) (P : Int → Prop) (e : Ending) (w' : World) : Prop := ∃ x : Int, P x ∧ e = .returned (.int .i64 x) ∧ Drawn c A n cp w w'

theorem l01Byte_st (c n cp : Nat) (A : Option Addr) (g : Nat → Int) (w : World) (hn : n ≤ 1048576) (hs : St w c n cp A g) :
    Calls Try.prog 71 #[.pointer (some ⟨c, 0, none⟩)] w (ByteOut c A n cp w 255) := by
  obtain ⟨i, h, h0, h1, k⟩ := hs.cur
  exact l01Byte_any c n cp A g i h w hn h0 h1 k hs.bytes

theorem l01Below_any (c n cp : Nat) (A : Option Addr) (g : Nat → Int) (k : Int) (hk : k ≤ 256) (hk0 : -1000 ≤ k) (w : World) (hn : n ≤ 1048576) (hs : St w c n cp A g) :
    Calls Try.prog 44 #[.pointer (some ⟨c, 0, none⟩), .int .i64 k] w (NumOut c A n cp w (fun x => 0 ≤ x ∧ x ≤ 256 ∧ (0 < k → x < k))) := by
  by_cases h : k ≤ 0
  · go_enter Try.func44, Try.ntmps44
    go_wp2
    go_ret
    obtain ⟨i, h', h0, h1, kc⟩ := hs.cur
    exact ⟨0, ⟨by omega, by omega, by omega⟩, rfl, Drawn.refl h0 h1 kc⟩
  · have hpos : 0 < k := by omega
    go_enter Try.func44, Try.ntmps44
    go_wp2_with fail
    refine (l01Byte_st _ _ _ _ g _ hn hs).mono ?_; rintro e w1 ⟨x, x0, x1, rfl, hd⟩
    have hne : (k == 0) = false := by rw [beq_eq_false_iff_ne]; omega
    go_wp2
    go_ret
    have r1 := Int.emod_nonneg x (show k ≠ 0 by omega)
    have r2 := Int.emod_lt_of_pos x hpos
    exact ⟨x % k, ⟨r1, by omega, fun _ => r2⟩, rfl, hd⟩

theorem l01Once_any (c n cp : Nat) (A : Option Addr) (g : Nat → Int) (k : Int) (hk : k ≤ 256) (hk0 : -1000 ≤ k) (w : World) (hn : n ≤ 1048576) (hs : St w c n cp A g) :
    Calls Try.prog 46 #[.pointer (some ⟨c, 0, none⟩), .int .i64 k] w fun e w' => ∃ b : Bool, e = .returned (.bool b) ∧ Drawn c A n cp w w' := by
  go_enter Try.func46, Try.ntmps46
  go_wp2_with fail
  refine (l01Below_any _ _ _ _ g k hk hk0 _ hn hs).mono ?_; rintro e w1 ⟨x, _, rfl, hd⟩
  go_wp2
  go_ret
  exact ⟨_, rfl, hd⟩

/-- a pick out of a list that is read -/
theorem l01PickInt_any (c n cp : Nat) (A : Option Addr) (g : Nat → Int) (b off m cap : Nat) (f : Nat → Int) (w : World) (hn : n ≤ 1048576) (hs : St w c n cp A g) (hm : 0 < m) (hm2 : m ≤ 256) (hbc : b ≠ c) (hbl : b < w.heap.size)
    (hl : ∀ j, j < m → w.cell? ⟨b, off + j, none⟩ = some (.int .i64 (f j))) :
    Calls Try.prog 72 #[.pointer (some ⟨c, 0, none⟩), .slice (some ⟨b, off, none⟩) m cap] w (NumOut c A n cp w (fun x => ∃ j, j < m ∧ x = f j)) := by
  go_enter Try.func72, Try.ntmps72
  go_wp2_with fail
  refine (l01Below_any _ _ _ _ g (m : Int) (by omega) (by omega) _ hn hs).mono ?_; rintro e w1 ⟨x, ⟨x0, _, x1⟩, rfl, hd⟩
  obtain ⟨j, rfl⟩ := Int.eq_ofNat_of_zero_le x0
  have hj : j < m := by have := x1 (by omega); omega
  have hjz : (j : Int) < m := by omega
  have d0 : w1.cell? ⟨b, off + j, none⟩ = some (.int .i64 (f j)) := (World.cell?_of_block (a := ⟨b, off + j, none⟩) (hd.but.block b hbl hbc)).trans (hl j hj)
  clear hl x1
  go_wp2
  go_ret
  exact ⟨f j, ⟨j, hj, rfl⟩, rfl, hd⟩
end Go.Proofs.Ytmdonjkkpkcpnaa
