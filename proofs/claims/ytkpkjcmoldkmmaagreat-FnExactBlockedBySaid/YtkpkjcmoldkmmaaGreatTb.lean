/- The mathematics of tables. -/
import Derived.Test.YtkpkjcmoldkmmaaGreatTa
import Derived.Test.YtkpkjcmoldkmmaaGreatWPack
namespace Go.Proofs.YtkpkjcmoldkmmaaGreat
open Go.RowKit

def valB (v : Int) : Bool := inB v (-1000000) 1000000
/-- a writer holds -/
def wrote (hs : HL) : Bool := hs.any (·.2)
/-- the model's: the first holder is a writer -/
def wroteS : HL → Bool
  | [] => false
  | h :: _ => h.2
theorem wrote_ok {hs : HL} (h : wrOk hs = true) : wroteS hs = wrote hs := by
  rw [wrOk_iff] at h
  match hs, h with
  | [], _ => rfl
  | [x], _ => simp [wroteS, wrote]
  | x :: y :: l, h =>
    have h2 := h (by simp)
    have : wrote (x :: y :: l) = false := by
      simp only [wrote, List.any_eq_false]
      intro z hz
      rw [h2 z hz]; simp
    rw [this]
    exact h2 x (by simp)
theorem wrote_lock {hs ws : HL} (h : lockOk hs ws = true) : wroteS hs = wrote hs := wrote_ok ((lockOk_iff _ _).1 h).1.wr
def cellOk (c : CD) : Bool := ((valB c.v && wordOk c.e c.s) && lockOk c.hs c.ws) && (c.h == wrote c.hs)
def tabOk (T : TL) : Bool := inB T.length 1 8 && T.all cellOk
def thereB (T : TL) (key : Int) : Bool := tabOk T && inB key 0 ((T.length : Int) - 1)
/-- the first k cells are valid -/
def OkTo (T : TL) (k : Nat) : Prop := ∀ j, j < k → cellOk (cd T j) = true
theorem OkTo.next {T : TL} {k : Nat} (h : OkTo T k) (e : cellOk (cd T k) = true) : OkTo T (k + 1) := fun j hj => by
  by_cases ej : j = k
  · subst ej; exact e
  · exact h j (by omega)
theorem all_yes {T : TL} (h : OkTo T T.length) : T.all cellOk = true := by
  rw [List.all_eq_true]
  intro c hc
  obtain ⟨j, hj, rfl⟩ := List.getElem_of_mem hc
  rw [← cd_get hj]; exact h j hj
theorem all_no {T : TL} {k : Nat} (hk : k < T.length) (h : cellOk (cd T k) = false) : T.all cellOk = false := by
  rw [Bool.eq_false_iff]
  intro hc
  have := List.all_eq_true.1 hc (T[k]) (List.getElem_mem hk)
  rw [← cd_get hk, h] at this; cases this
theorem tabOk_len {T : TL} (h : tabOk T = true) : 1 ≤ T.length ∧ T.length ≤ 8 := by
  simp only [tabOk, Bool.and_eq_true, inB, decide_eq_true_eq] at h; omega
theorem tabOk_at {T : TL} (h : tabOk T = true) {k : Nat} (hk : k < T.length) : cellOk (cd T k) = true := by
  simp only [tabOk, Bool.and_eq_true] at h
  rw [cd_get hk]; exact List.all_eq_true.1 h.2 _ (List.getElem_mem hk)
theorem cellOk_parts {c : CD} (h : cellOk c = true) : valB c.v = true ∧ wordOk c.e c.s = true ∧ lockOk c.hs c.ws = true ∧ c.h = wrote c.hs := by
  simp only [cellOk, Bool.and_eq_true, beq_iff_eq] at h
  exact ⟨h.1.1.1, h.1.1.2, h.1.2, h.2⟩
theorem tabOk_wordOk {T : TL} (h : tabOk T = true) {k : Nat} (hk : k < T.length) : wordOk (cd T k).e (cd T k).s = true := (cellOk_parts (tabOk_at h hk)).2.1
theorem tabOk_lockOk {T : TL} (h : tabOk T = true) {k : Nat} (hk : k < T.length) : lockOk (cd T k).hs (cd T k).ws = true := (cellOk_parts (tabOk_at h hk)).2.2.1
theorem there_iff {T : TL} {key : Int} : thereB T key = true ↔ tabOk T = true ∧ 0 ≤ key ∧ key.toNat < T.length := by
  simp only [thereB, Bool.and_eq_true, inB, decide_eq_true_eq]
  constructor
  · rintro ⟨h, h1, h2⟩
    exact ⟨h, h1, by omega⟩
  · rintro ⟨h, h1, h2⟩
    exact ⟨h, h1, by omega⟩
theorem there_nat {T : TL} {k : Nat} (h : tabOk T = true) (hk : k < T.length) : thereB T (k : Int) = true := there_iff.2 ⟨h, by omega, by simpa using hk⟩
/-- the table with another cell at key -/
def putT (T : TL) (key : Nat) (c : CD) : TL := T.set key c
theorem putT_len (T : TL) (key : Nat) (c : CD) : (putT T key c).length = T.length := by simp [putT]
theorem putT_at (T : TL) (key : Nat) (c : CD) (j : Nat) (hj : j < T.length) : cd (putT T key c) j = if j = key then c else cd T j := by
  unfold putT cd
  rw [List.getD_eq_getElem?_getD, List.getElem?_set]
  by_cases e : key = j
  · subst e; simp [hj]
  · have e' : ¬ j = key := fun h => e h.symm
    simp [e, e', List.getD_eq_getElem?_getD]
/-- a cell with another lock -/
def lockC (c : CD) (p : HL × HL) : CD := ⟨c.v, c.e, c.s, wrote p.1, p.1, p.2⟩
def cAt (T : TL) (key : Int) : CD := cd T key.toNat
/-- LockCell: its code -/
def lcC (T : TL) (key tid : Int) (wr : Bool) : Int := if thereB T key then askC (cAt T key).hs (cAt T key).ws tid wr else 2
def lcT (T : TL) (key tid : Int) (wr : Bool) : TL := if lcC T key tid wr = 2 then T else putT T key.toNat (lockC (cAt T key) (askL (cAt T key).hs (cAt T key).ws tid wr))
/-- TryCell -/
def tcT (T : TL) (key tid : Int) (wr : Bool) : TL := if lcC T key tid wr = 0 then lcT T key tid wr else T
def tcB (T : TL) (key tid : Int) (wr : Bool) : Bool := lcC T key tid wr == 0
/-- LeaveCell -/
def vcB (T : TL) (key tid : Int) : Bool := thereB T key && leaveB (cAt T key).hs (cAt T key).ws tid
def vcT (T : TL) (key tid : Int) : TL := if vcB T key tid then putT T key.toNat (lockC (cAt T key) (leaveL (cAt T key).hs (cAt T key).ws tid)) else T
/-- how tid stands at cell j -/
def stands (T : TL) (tid : Int) (j : Nat) : Int := holdsL (cd T j).hs (cd T j).ws tid
/-- HeldBy, WaitsAt -/
def hbL (T : TL) (tid : Int) : List Int := if tabOk T then ((List.range T.length).filter fun j => decide (1 ≤ stands T tid j ∧ stands T tid j ≤ 2)).map Int.ofNat else []
def vals (T : TL) : List Int := if tabOk T then T.map (·.v) else []
end Go.Proofs.YtkpkjcmoldkmmaaGreat
