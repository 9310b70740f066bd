/- Maps from int to whatever values, said as functions; their laws at the operations. -/
import Derived.Maps.OwnSet
import Derived.Maps.RangeWalk
import Derived.Maps.Ext
import Derived.Test.YtkpkjcmoldkmmaaGreatCore
namespace Go.Proofs.YtkpkjcmoldkmmaaGreat
open Go.RowKit
open Go.Maps (Keyed)

/-- any value reads as itself -/
def valE (v : Value) : Option (DataW Value × List MemPlace) := some (.held v, [])
def optE : Option Value → DataW Value
  | some v => .held v
  | none => .nil
theorem optE_inj : ∀ {a : Option Value} {v : Value}, optE a = .held v → a = some v
  | some u, v, h => by simp only [optE, DataW.held.injEq] at h; rw [h]
  | none, v, h => by simp [optE] at h
theorem keyLit (a : Int) : WideAt.IsKeyLit (.int .i64 a) := trivial

/-- D reads as f -/
structure Reads (D : DataW Value) (f : Int → Option Value) : Prop where
  at_ : ∀ j, D.atKey (.int .i64 j) .nil = optE (f j)
  key : ∀ kl, Maps.has D kl = true → ∃ j, kl = .int .i64 j
  has : ∀ j, Maps.has D (.int .i64 j) = (f j).isSome
def upd (f : Int → Option Value) (k : Int) (v : Option Value) : Int → Option Value := fun j => if j = k then v else f j

/-- block b is a map of n entries that holds f -/
def MapN (P : Program) (k : TypeId) (w : World) (b n : Nat) (f : Int → Option Value) : Prop := ∃ D, w.ownsMap P k valE b n D ∧ Maps.size D = n ∧ Reads D f

section
variable {P : Program} {k : TypeId} {w : World} {b n : Nat} {f g : Int → Option Value}
theorem MapN.congr (h : MapN P k w b n f) (e : ∀ j, f j = g j) : MapN P k w b n g := by
  have : f = g := funext e
  exact this ▸ h
theorem MapN.made (P : Program) (k : TypeId) (w : World) : MapN P k (w.alloc (.map #[] 0)) w.heap.size 0 (fun _ => none) :=
  ⟨_, World.ownsMap_made w P k valE, rfl, fun _ => rfl, fun _ h => by simp [Maps.has] at h, fun _ => rfl⟩
theorem MapN.lt (h : MapN P k w b n f) : b < w.heap.size := by obtain ⟨D, h, _⟩ := h; exact h.lt
theorem MapN.kept {w' : World} {row : Option Nat} (h : MapN P k w b n f) (hg : w.grownBy w' row) (hne : some b ≠ row) : MapN P k w' b n f := by
  obtain ⟨D, h, r⟩ := h; exact ⟨D, h.kept hg hne, r⟩
theorem MapN.block {w' : World} (h : MapN P k w b n f) (hk : w'.heap[b]? = w.heap[b]?) : MapN P k w' b n f := by
  obtain ⟨D, ⟨es, clock, hb, F, hs, hD⟩, r⟩ := h; exact ⟨D, ⟨es, clock, hk.trans hb, F, hs, hD⟩, r⟩
theorem MapN.below {w' : World} {B : Nat} (h : MapN P k w b n f) (hb : Below B w w') (hB : b < B) : MapN P k w' b n f := h.block (hb.block b hB)
theorem MapN.next {w' : World} (h : MapN P k w b n f) (hb : Below w.heap.size w w') : MapN P k w' b n f := h.below hb h.lt
theorem tight {D : DataW Value} (h : w.ownsMap P k valE b n D) : w.ownsMap P k valE b (Maps.size D) D := by
  obtain ⟨es, clock, hb, F, hs, rfl⟩ := h
  exact ⟨es, clock, hb, F, by simp [Maps.size, length_sorted], rfl⟩

variable {t e : TypeId}
/-- 'm[k]' -/
theorem MapN.look (h : MapN P k w b n f) (K : Keyed P k) (ht : P.underlying t = some (.map k e)) {z : Value} (hz : (zeroValue e).run P w = .ok z w) {x : Int} (hkey : keyOf P k (.int .i64 x) = some (.int .i64 x)) :
    (Instr.lookup t (.map (some b)) (.int .i64 x) false).run P w = .ok ((f x).getD z) w ∧ (Instr.lookup t (.map (some b)) (.int .i64 x) true).run P w = .ok (.tuple #[(f x).getD z, .bool (f x).isSome]) w := by
  obtain ⟨D, ⟨es, clock, hb, F, _, rfl⟩, _, hr⟩ := h
  have hat := hr.at_ x
  refine ⟨?_, ?_⟩
  · rcases Maps.fit_look false K ht hz hb F hkey with ⟨hrun, _, h1⟩ | ⟨e0, y, _, _, hrun, hRv, h1, _⟩
    · rw [h1 .nil] at hat
      cases hf : f x with
      | none => exact hrun
      | some v => rw [hf] at hat; simp [optE] at hat
    · rw [h1 .nil] at hat
      obtain rfl : y = (.held e0.val, []) := by simpa [valE] using hRv.symm
      rw [optE_inj hat.symm]
      exact hrun
  · rcases Maps.fit_look true K ht hz hb F hkey with ⟨hrun, _, h1⟩ | ⟨e0, y, _, _, hrun, hRv, h1, _⟩
    · rw [h1 .nil] at hat
      cases hf : f x with
      | none => exact hrun
      | some v => rw [hf] at hat; simp [optE] at hat
    · rw [h1 .nil] at hat
      obtain rfl : y = (.held e0.val, []) := by simpa [valE] using hRv.symm
      rw [optE_inj hat.symm]
      exact hrun
/-- 'm[k] = v' -/
theorem MapN.store (h : MapN P k w b n f) (K : Keyed P k) (ht : P.underlying t = some (.map k e)) (hn : n < maxLen) {x : Int} (hkey : keyOf P k (.int .i64 x) = some (.int .i64 x)) (v : Value) :
    ∃ w', (Instr.mapUpdate t (.map (some b)) (.int .i64 x) v).run P w = .ok () w' ∧ MapN P k w' b (if (f x).isSome then n else n + 1) (upd f x (some v)) ∧ w.mapTurned w' b := by
  obtain ⟨D, h, hs, hr⟩ := h
  obtain ⟨w', hrun, h', hT⟩ := h.store K ht hn hkey (d := .held v) (ps := []) rfl
  have hM := h.isMap
  have hsz := Maps.size_put (h.tidy K) (k := .int .i64 x) (.held v)
  rw [hr.has x, hs] at hsz
  refine ⟨w', hrun, ⟨_, ?_, hsz, fun j => ?_, fun kl hk => ?_, fun j => ?_⟩, hT⟩
  · have := tight h'
    rw [hsz] at this
    exact this
  · unfold upd
    by_cases ej : j = x
    · subst ej; rw [if_pos rfl, Maps.atKey_put_same hM (keyLit _)]; rfl
    · rw [if_neg ej, Maps.atKey_put_other (by intro e'; injection e' with _ e'; exact ej e')]; exact hr.at_ j
  · by_cases ek : kl = .int .i64 x
    · exact ⟨x, ek⟩
    · rw [Maps.has_put_other ek] at hk; exact hr.key kl hk
  · unfold upd
    by_cases ej : j = x
    · subst ej; rw [if_pos rfl, Maps.has_put_same hM (keyLit _)]; rfl
    · rw [if_neg ej, Maps.has_put_other (by intro e'; injection e' with _ e'; exact ej e')]; exact hr.has j
/-- 'delete(m, k)' -/
theorem MapN.drop (h : MapN P k w b n f) (K : Keyed P k) (ht : P.underlying t = some (.map k e)) {x : Int} (hkey : keyOf P k (.int .i64 x) = some (.int .i64 x)) (ty : TypeId) :
    ∃ w' n', (Builtin.delete_ #[t, k] ty #[.map (some b), .int .i64 x]).run P w = .ok (.tuple #[]) w' ∧ n' ≤ n ∧ MapN P k w' b n' (upd f x none) ∧ w.mapTurned w' b := by
  obtain ⟨D, h, hs, hr⟩ := h
  obtain ⟨w', hrun, h', hT⟩ := h.drop K ht hkey ty
  have hM := h.isMap
  have hsz := Maps.size_del (h.tidy K) (k := .int .i64 x)
  refine ⟨w', _, hrun, by rw [← hs]; omega, ⟨_, tight h', rfl, fun j => ?_, fun kl hk => ?_, fun j => ?_⟩, hT⟩
  · unfold upd
    by_cases ej : j = x
    · subst ej; rw [if_pos rfl, Maps.atKey_del_same]; rfl
    · rw [if_neg ej, Maps.atKey_del_other (by intro e'; injection e' with _ e'; exact ej e')]; exact hr.at_ j
  · by_cases ek : kl = .int .i64 x
    · exact ⟨x, ek⟩
    · rw [Maps.has_del_other ek] at hk; exact hr.key kl hk
  · unfold upd
    by_cases ej : j = x
    · subst ej; rw [if_pos rfl, Maps.has_del_same]; rfl
    · rw [if_neg ej, Maps.has_del_other (by intro e'; injection e' with _ e'; exact ej e')]; exact hr.has j
theorem MapN.len (h : MapN P k w b n f) (ht : P.underlying t = some (.map k e)) (ty : TypeId) : (Builtin.len_ #[t] ty #[.map (some b)]).run P w = .ok (.int .i64 n) w := by
  obtain ⟨D, h, hs, hr⟩ := h
  have := h.len ht ty
  rw [hs] at this
  exact this
/-- what is turned in one map's block -/
theorem turned_grown {w' : World} (h : w.mapTurned w' b) : w.grownBy w' (some b) := h.grown
theorem below_turned {w' w0 : World} {B : Nat} (h : Below B w0 w) (hT : w.mapTurned w' b) (hB : B ≤ b) : Below B w0 w' :=
  h.trans ⟨hT.grown.os, hT.grown.tape, hT.grown.output, hT.grown.size, fun i hi => hT.grown.block i (by have := h.size; obtain ⟨es, c, es', c', hb, _⟩ := hT; have := (Array.getElem?_eq_some_iff.1 hb).1; omega) (by intro e'; injection e' with e'; omega)⟩

/-- 'for k, v := range m' under way: left: who is still to come -/
def RanN (P : Program) (k : TypeId) (w : World) (b r n : Nat) (f : Int → Option Value) (left : Int → Bool) (cnt : Nat) : Prop :=
  ∃ D lf, w.ranges P k valE b r n D lf cnt ∧ Maps.size D = n ∧ Reads D f ∧ (∀ j, lf (.int .i64 j) = left j) ∧ ∀ kl, lf kl = true → ∃ j, kl = .int .i64 j
theorem RanN.map {r cnt : Nat} {left : Int → Bool} (h : RanN P k w b r n f left cnt) : MapN P k w b n f := by
  obtain ⟨D, lf, h, hs, hr, _⟩ := h; exact ⟨D, h.owns, hs, hr⟩
theorem RanN.kept {w' : World} {row : Option Nat} {r cnt : Nat} {left : Int → Bool} (h : RanN P k w b r n f left cnt) (hg : w.grownBy w' row) (hb' : some b ≠ row) (hr' : some r ≠ row) : RanN P k w' b r n f left cnt := by
  obtain ⟨D, lf, h, q⟩ := h; exact ⟨D, lf, h.kept hg hb' hr', q⟩
theorem RanN.lt {r cnt : Nat} {left : Int → Bool} (h : RanN P k w b r n f left cnt) : r < w.heap.size ∧ b < w.heap.size := by
  have h2 := h.map.lt
  obtain ⟨D, lf, h, q⟩ := h; exact ⟨h.lt, h2⟩
theorem RanN.block {w' : World} {r cnt : Nat} {left : Int → Bool} (h : RanN P k w b r n f left cnt) (hb : w'.heap[b]? = w.heap[b]?) (hr : w'.heap[r]? = w.heap[r]?) : RanN P k w' b r n f left cnt := by
  obtain ⟨D, lf, ⟨es, clock, since, seen, c0, h1, F, hs, hD, h2, rest⟩, q⟩ := h
  exact ⟨D, lf, ⟨es, clock, since, seen, c0, hb.trans h1, F, hs, hD, hr.trans h2, rest⟩, q⟩
theorem RanN.below {w' : World} {B r cnt : Nat} {left : Int → Bool} (h : RanN P k w b r n f left cnt) (hb : Below B w w') (h1 : b < B) (h2 : r < B) : RanN P k w' b r n f left cnt := h.block (hb.block b h1) (hb.block r h2)
theorem RanN.left_eq {r cnt : Nat} {left : Int → Bool} (h : RanN P k w b r n f left cnt) : w.rangeLeft b r = cnt := by
  obtain ⟨D, lf, h, q⟩ := h; exact h.left_eq
theorem RanN.congr {r cnt : Nat} {left left' : Int → Bool} (h : RanN P k w b r n f left cnt) (e : ∀ j, left j = left' j) : RanN P k w b r n f left' cnt := by
  have : left = left' := funext e
  exact this ▸ h
end

section
variable {P : Program} (w : World) {ops : Array Oper} {rest : List Oper} {o : Oper} {a : Act} {Q : Exit → Act → World → Prop} {k e t : TypeId} {b n : Nat} {f : Int → Option Value}
/-- 'm[k] = v' at the operation -/
theorem wp_store (hg : o.guard = none) (m x v : Operand) (hop : o.op = Op.mapUpdate t m x v) (K : Keyed P k) (ht : P.underlying t = some (.map k e))
    (hm : a.eval m = .map (some b)) (h : MapN P k w b n f) (hn : n < maxLen) (z : Int) (hx : a.eval x = .int .i64 z) (hkey : keyOf P k (.int .i64 z) = some (.int .i64 z)) (V : Value) (hv : a.eval v = V)
    (hK : ∀ w', MapN P k w' b (if (f z).isSome then n else n + 1) (upd f z (some V)) → w.mapTurned w' b → wpList P ops Q rest (a.put o.dst undef) w') :
    wpList P ops Q (o :: rest) a w := by
  refine wpList_plain hg fun K' hK' => ?_
  obtain ⟨w', hrun, r1, r2⟩ := h.store K ht hn hkey V
  unfold Oper.wp
  simp [execOp, hop, hm, hx, hv, hrun, Result.andThen]
  exact hK' _ _ (hK w' r1 r2)
/-- 'delete(m, k)' at the operation -/
theorem wp_drop (hg : o.guard = none) (m x : Operand) (hop : o.op = Op.call { callee := Callee.builtin Builtin.delete, args := #[m, x], argTypes := #[t, k] })
    (K : Keyed P k) (ht : P.underlying t = some (.map k e)) (hm : a.eval m = .map (some b)) (h : MapN P k w b n f) (z : Int) (hx : a.eval x = .int .i64 z) (hkey : keyOf P k (.int .i64 z) = some (.int .i64 z))
    (hK : ∀ w' n', n' ≤ n → MapN P k w' b n' (upd f z none) → w.mapTurned w' b → wpList P ops Q rest (a.put o.dst (.tuple #[])) w') :
    wpList P ops Q (o :: rest) a w := by
  refine wpList_plain hg fun K' hK' => ?_
  obtain ⟨w', n', hrun, r0, r1, r2⟩ := h.drop K ht hkey o.type
  unfold Oper.wp
  simp [execOp, hop, resolve, invoke, builtin, hm, hx, hrun, Result.andThen]
  exact hK' _ _ (hK w' n' r0 r1 r2)
/-- 'len(m)' at the operation -/
theorem wp_mlen (hg : o.guard = none) (m : Operand) (hop : o.op = Op.call { callee := Callee.builtin Builtin.len, args := #[m], argTypes := #[t] }) (ht : P.underlying t = some (.map k e))
    (hm : a.eval m = .map (some b)) (h : MapN P k w b n f) (hK : wpList P ops Q rest (a.put o.dst (.int .i64 n)) w) :
    wpList P ops Q (o :: rest) a w := by
  refine wpList_plain hg fun K' hK' => ?_
  unfold Oper.wp
  simp [execOp, hop, resolve, invoke, builtin, hm, h.len ht o.type, Result.andThen]
  exact hK' _ _ hK
/-- 'm[k]' at the operation -/
theorem wp_look (hg : o.guard = none) (m x : Operand) (hop : o.op = Op.lookup t m x false) (K : Keyed P k) (ht : P.underlying t = some (.map k e)) {z : Value} (hz : (zeroValue e).run P w = .ok z w)
    (hm : a.eval m = .map (some b)) (h : MapN P k w b n f) (y : Int) (hx : a.eval x = .int .i64 y) (hkey : keyOf P k (.int .i64 y) = some (.int .i64 y)) (V : Value) (hV : (f y).getD z = V)
    (hK : wpList P ops Q rest (a.put o.dst V) w) : wpList P ops Q (o :: rest) a w := by
  refine wpList_plain hg fun K' hK' => ?_
  have hrun := (h.look K ht hz hkey).1
  rw [hV] at hrun
  unfold Oper.wp
  simp [execOp, hop, hm, hx, hrun, Result.andThen]
  exact hK' _ _ hK
/-- 'v, ok := m[k]' at the operation -/
theorem wp_look_ok (hg : o.guard = none) (m x : Operand) (hop : o.op = Op.lookup t m x true) (K : Keyed P k) (ht : P.underlying t = some (.map k e)) {z : Value} (hz : (zeroValue e).run P w = .ok z w)
    (hm : a.eval m = .map (some b)) (h : MapN P k w b n f) (y : Int) (hx : a.eval x = .int .i64 y) (hkey : keyOf P k (.int .i64 y) = some (.int .i64 y)) (V : Value) (hV : (f y).getD z = V) (B : Bool) (hB : (f y).isSome = B)
    (hK : wpList P ops Q rest (a.put o.dst (.tuple #[V, .bool B])) w) : wpList P ops Q (o :: rest) a w := by
  refine wpList_plain hg fun K' hK' => ?_
  have hrun := (h.look K ht hz hkey).2
  rw [hV, hB] at hrun
  unfold Oper.wp
  simp [execOp, hop, hm, hx, hrun, Result.andThen]
  exact hK' _ _ hK
/-- 'range m' at the operation -/
theorem wp_range (hg : o.guard = none) (m : Operand) (hop : o.op = Op.range t m) (K : Keyed P k) (ht : P.underlying t = some (.map k e)) (hm : a.eval m = .map (some b)) (h : MapN P k w b n f)
    (hK : ∀ w', RanN P k w' b w.heap.size n f (fun j => (f j).isSome) n → w.grownBy w' none → w'.heap.size = w.heap.size + 1 → wpList P ops Q rest (a.put o.dst (.pointer (some ⟨w.heap.size, 0, none⟩))) w') :
    wpList P ops Q (o :: rest) a w := by
  refine wpList_plain hg fun K' hK' => ?_
  obtain ⟨D, h, hs, hr⟩ := h
  obtain ⟨w', hrun, r1, r2, r3⟩ := h.range K ht
  unfold Oper.wp
  simp [execOp, hop, hm, hrun, Result.andThen]
  rw [hs] at r1
  exact hK' _ _ (hK w' ⟨D, _, r1, hs, hr, hr.has, hr.key⟩ r2 r3)
/-- the step: 'g' says what each key holds -/
theorem wp_next (hg : o.guard = none) (it : Operand) (hop : o.op = Op.next it false) (K : Keyed P k) (hk : P.underlying k = some (.int .i64)) {r cnt : Nat} {left : Int → Bool} (g : Int → Value) (hfg : ∀ j v, f j = some v → v = g j)
    (hit : a.eval it = .pointer (some ⟨r, 0, none⟩)) (h : RanN P k w b r n f left cnt)
    (hDone : cnt = 0 → (∀ j, left j = false) → wpList P ops Q rest (a.put o.dst (.tuple #[.bool false])) w)
    (hMore : ∀ (x : Int) (w' : World) (cnt' : Nat), left x = true → f x = some (g x) → (Lit.int .i64 x).wf = true → RanN P k w' b r n f (fun z => left z && !decide (z = x)) cnt' → cnt' < cnt → w.grownBy w' (some r) → w'.heap.size = w.heap.size →
      (Instr.entry (.pointer (some ⟨r, 0, none⟩))).run P w' = .ok (.tuple #[.int .i64 x, g x]) w' → wpList P ops Q rest (a.put o.dst (.tuple #[.bool true, .int .i64 x, g x])) w') :
    wpList P ops Q (o :: rest) a w := by
  refine wpList_plain hg fun K' hK' => ?_
  obtain ⟨D, lf, h, hs, hr, hl1, hl2⟩ := h
  unfold Oper.wp
  rcases h.next K o.type with ⟨h0, hl, hrun⟩ | ⟨key, v, kl, y, w', cnt', hkey, hlk, hv, hat, hrun, hrg, hlt, hgr, hsz, hen⟩
  · simp [execOp, hop, hit, hrun, Result.andThen]
    exact hK' _ _ (hDone h0 (fun j => by rw [← hl1]; exact hl _))
  · obtain ⟨x, rfl, rfl, hwf⟩ := Maps.keyOf_int_inv hk hkey
    obtain rfl : y = (.held v, []) := by simpa [valE] using hv.symm
    have hf : f x = some v := optE_inj ((hr.at_ x).symm.trans (hat .nil))
    obtain rfl := hfg x v hf
    simp [execOp, hop, hit, hrun, Result.andThen]
    refine hK' _ _ (hMore x w' cnt' (by rw [← hl1]; exact hlk) hf hwf ⟨D, _, hrg, hs, hr, fun j => ?_, fun kl h => hl2 kl (by simp at h; exact h.1)⟩ hlt hgr hsz hen)
    simp only [hl1, Lit.sameKey, true_and]
end
end Go.Proofs.YtkpkjcmoldkmmaaGreat
