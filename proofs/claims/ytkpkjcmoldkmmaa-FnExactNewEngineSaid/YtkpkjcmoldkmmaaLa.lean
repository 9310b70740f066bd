/- A region that draws its order and whose last operation waits for all the others: the others first, in whatever order, then the last. -/
import Derived.Test.YtkpkjcmoldkmmaaCore
import Derived.StillTail
import Derived.OrdersHeld
import Derived.RegionTactic
namespace Go.Proofs.Ytkpkjcmoldkmmaa

section
variable {P : Program} {ops : Array Oper} {Q : Exit → Act → World → Prop} {md : Region.Mode} {n : Nat}
/-- what stands behind the others: the last operation, then Q -/
def QLast (P : Program) (ops : Array Oper) (Q : Exit → Act → World → Prop) (n : Nat) : Exit → Act → World → Prop
  | .normal, a, w => wpOp P ops Q n (fun a w => Q .normal a w) a w
  | e, a, w => Q e a w
theorem wpOp_last {i : Nat} {K : Act → World → Prop} {a : Act} {w : World} (h : wpOp P ops (QLast P ops Q n) i K a w) : wpOp P ops Q i K a w := by
  unfold wpOp at *
  cases ho : ops[i]? with
  | none => rw [ho] at h; exact h
  | some o =>
    rw [ho] at h
    simp only at h ⊢
    split
    · rename_i hw
      rw [if_pos hw] at h
      rcases h with h | h
      · refine .inl ?_
        unfold Oper.wp at *
        generalize (execOp a.eval o).run P w = r at *
        cases r with
        | ok x w' => cases x <;> exact h
        | halt x w' => cases x <;> exact h
      · exact .inr h
    · rename_i hw
      rw [if_neg hw] at h
      exact h
def Region.upB (md : Region.Mode) (ops : Array Oper) : Bool :=
  (List.range ops.size).all fun j => match ops[j]? with | some o => o.after.all fun e => !Region.binds md e || decide (e.on < j) | none => true
theorem Region.upB_spec (h : Region.upB md ops = true) {j : Nat} {o : Oper} (ho : ops[j]? = some o) {e : _} (he : e ∈ o.after) (hb : Region.binds md e = true) : e.on < j := by
  have hj : j < ops.size := (Array.getElem?_eq_some_iff.1 ho).1
  have h1 := List.all_eq_true.1 h j (List.mem_range.2 hj)
  rw [ho] at h1
  have h2 := Array.all_eq_true'.1 h1 e he
  rw [hb] at h2
  simpa using h2
theorem ready_some {listed : Array Bool} (hu : Region.upB md ops = true) (hsz : listed.size = ops.size) : ∀ d j, d = j → j < ops.size → listed.getD j true = false → ¬ Region.ready md ops listed = [] := by
  intro d
  induction d using Nat.strongRecOn with
  | _ d ih =>
    intro j hd hj hun h0
    subst hd
    by_cases hr : d ∈ Region.ready md ops listed
    · rw [h0] at hr; cases hr
    · have ho : ops[d]? = some ops[d] := Array.getElem?_eq_getElem hj
      have : ¬ ∀ e ∈ ops[d].after, Region.binds md e = true → listed.getD e.on false = true := fun hall => hr (mem_ready.2 ⟨hun, ops[d], ho, hall⟩)
      simp only [Classical.not_forall] at this
      obtain ⟨e, he, hb, hl⟩ := this
      have hlt := Region.upB_spec hu ho he hb
      have hl' : listed.getD e.on false = false := by cases hq : listed.getD e.on false with | true => exact absurd hq hl | false => rfl
      exact ih e.on hlt e.on rfl (by omega) (getD_in (by omega) hl') h0
theorem ready_back {listed : Array Bool} {j : Nat} (hno : ∀ j, Region.waitsFor md ops j n = false) (hn : n < listed.size) (hj : j ∈ Region.ready md ops (listed.setIfInBounds n true)) : ¬ j = n ∧ j ∈ Region.ready md ops listed := by
  obtain ⟨h0, o, ho, hall⟩ := mem_ready.1 hj
  have hjn : ¬ n = j := fun e => by
    subst e
    rw [show (listed.setIfInBounds n true).getD n true = true by simp [hn]] at h0
    cases h0
  rw [getD_set_ne true hjn] at h0
  refine ⟨fun e => hjn e.symm, mem_ready.2 ⟨h0, o, ho, fun e he hb => ?_⟩⟩
  have h1 := hall e he hb
  have hne : ¬ n = e.on := fun e' => by
    have h2 := hno j
    unfold Region.waitsFor at h2
    rw [ho] at h2
    have h3 : (o.after.any fun e => Region.binds md e && e.on == n) = true := Array.any_eq_true'.2 ⟨e, he, by simp [hb, e']⟩
    simp only at h2
    rw [h3] at h2; cases h2
  rw [getD_set_ne false hne] at h1
  exact h1
theorem wpAny_last (hn : n + 1 = ops.size) (hs : Region.sinkB md ops n = true) (hc : Region.chainB md ops n = true) (hno : ∀ j, Region.waitsFor md ops j n = false) (hu : Region.upB md ops = true) :
    ∀ (fuel : Nat) (listed : Array Bool) (a : Act) (w : World), HeadInv md ops n listed →
      wpAny P md ops (QLast P ops Q n) fuel (listed.setIfInBounds n true) a w → wpAny P md ops Q (fuel + 1) listed a w := by
  have hnl : n < ops.size := by omega
  intro fuel
  induction fuel with
  | zero =>
    intro listed a w inv h
    have hun := inv.tail n (Nat.le_refl _) hnl
    refine ⟨fun h0 => absurd h0 (ready_some hu inv.size n n rfl hnl hun), fun i hi => ?_⟩
    by_cases e : i = n
    · subst e
      exact wpOp_mono (fun a' w' hq => ⟨h.1, hq⟩) h.2
    · have := ready_mono (i := n) hi e
      rw [h.1] at this; cases this
  | succ fuel ih =>
    intro listed a w inv h
    have hun := inv.tail n (Nat.le_refl _) hnl
    refine ⟨fun h0 => absurd h0 (ready_some hu inv.size n n rfl hnl hun), fun i hi => ?_⟩
    by_cases e : i = n
    · subst e
      have h0 : Region.ready md ops (listed.setIfInBounds i true) = [] := by
        cases hr : Region.ready md ops (listed.setIfInBounds i true) with
        | nil => rfl
        | cons j l =>
          have hj : j ∈ Region.ready md ops (listed.setIfInBounds i true) := by rw [hr]; exact List.mem_cons_self
          obtain ⟨hji, hj2⟩ := ready_back hno (by rw [inv.size]; exact hnl) hj
          obtain ⟨hjun, o, ho, _⟩ := mem_ready.1 hj2
          have hjl : j < ops.size := (Array.getElem?_eq_some_iff.1 ho).1
          exact absurd hi (tail_waits hs hc hnl inv _ j rfl (by omega) hjun i (Nat.le_refl _))
      exact wpOp_mono (fun a' w' hq => ⟨fun _ => hq, by rw [h0]; simp⟩) (h.1 h0)
    · have hi2 := ready_mono (i := n) hi e
      have h2 := wpOp_last (h.2 i hi2)
      obtain ⟨_, o, ho, _⟩ := mem_ready.1 hi
      have hil : i < ops.size := (Array.getElem?_eq_some_iff.1 ho).1
      refine wpOp_mono (fun a' w' hk => ih _ a' w' (inv.set hi (by omega)) ?_) h2
      rw [Array.setIfInBounds_comm _ _ e]
      exact hk
theorem headStart (_hn : n + 1 = ops.size) : HeadInv md ops n (Array.replicate ops.size false) :=
  ⟨by simp, fun j oj _ hl _ _ _ => (by rw [getD_replicate_false] at hl; cases hl), fun t _ ht => by simp [ht]⟩
/-- the region: the others first -/
theorem wp_region_last {id m : Nat} {l : List Oper} {S : World → Prop} {a : Act} {w : World} (hm : P.follows .mixedOrders = true) (n : Nat) (hn : n + 1 = l.toArray.size) (hs : Region.sinkB .any l.toArray n = true)
    (hno : (List.range l.toArray.size).all (fun j => !Region.waitsFor .any l.toArray j n) = true) (hu : Region.upB .any l.toArray = true) (hS : S w.drew) (hf : m = n)
    (h : S w.drew → wpAnyH P .any l.toArray (QLast P l.toArray Q n) S m ((Array.replicate (n + 1) false).setIfInBounds n true) a w.drew) : (Code.region id l.toArray true).wp P Q a w := by
  subst hf
  refine wp_region_any hm ?_
  have hno' : ∀ j, Region.waitsFor .any l.toArray j m = false := fun j => by
    by_cases hj : j < l.toArray.size
    · have := List.all_eq_true.1 hno j (List.mem_range.2 hj); simpa using this
    · unfold Region.waitsFor; rw [Array.getElem?_eq_none (by omega)]
  have hc : Region.chainB .any l.toArray m = true := List.all_eq_true.2 fun t ht => by have := List.mem_range.1 ht; simp; left; omega
  have h1 := wpAny_last (P := P) (Q := Q) hn hs hc hno' hu m _ a w.drew (headStart hn) (by rw [← hn]; exact wpAny_of_held _ _ _ _ (h hS))
  rw [← hn]; rw [← hn] at h1; exact h1
/-- the last operation -/
theorem lastH {o : Oper} {a : Act} {w : World} (ho : ops[n]? = some o)
    (h : ∀ K : Act → World → Prop, (∀ a w, Q .normal a w → K a w) → if Region.wanted o (yielded ops a.tmps) = true then Oper.wp P o a w K Q else K (a.put o.dst undef) w) : QLast P ops Q n .normal a w :=
  wpOp_step ho h
/-- an operation taken first, its slot named -/
theorem takeH {S : World → Prop} (i : Nat) (d : Tmp) {oi : Oper} {v : Value} {fuel : Nat} {listed : Array Bool} {a : Act} {w : World} (hi : ops[i]? = some oi) (hd : oi.dst = some d)
    (hs : Region.noSelect ops = true) (hf : Region.free md ops listed i = true) (hr : (Region.ready md ops listed).contains i = true)
    (hQ : ∀ c a w, Q (.panic c) (a.put (some d) v) w → Q (.panic c) a w) (hw : Region.wanted oi (yielded ops a.tmps) = true) (hy : ∀ w, S w → (execOp a.eval oi).run P w = .ok (.value v) w) (hS : S w)
    (h : wpAnyH P md ops Q S fuel (listed.setIfInBounds i true) (a.put (some d) v) w) : wpAnyH P md ops Q S (fuel + 1) listed a w := by
  rw [← hd] at hQ h
  exact wpAnyH_take hi hs hf hr hQ (.inl ⟨hw, hy⟩) hS h
end
end Go.Proofs.Ytkpkjcmoldkmmaa
