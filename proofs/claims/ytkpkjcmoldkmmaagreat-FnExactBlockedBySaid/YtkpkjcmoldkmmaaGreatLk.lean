/- The mathematics of queued locks: valid locks, granting, asking, leaving. -/
import Derived.Test.YtkpkjcmoldkmmaaGreatCore
namespace Go.Proofs.YtkpkjcmoldkmmaaGreat

abbrev HL := List (Int × Bool)

def tidB (t : Int) : Bool := inB t 1 8
/-- the ids are in 1..8, none occurs twice, none is in seen -/
def idsOk (seen : List Int) : List Int → Bool
  | [] => true
  | t :: l => (tidB t && !seen.contains t) && idsOk (seen ++ [t]) l
theorem idsOk_append (s a b : List Int) : idsOk s (a ++ b) = (idsOk s a && idsOk (s ++ a) b) := by
  induction a generalizing s with
  | nil => simp [idsOk]
  | cons x a ih => simp [idsOk, ih, Bool.and_assoc]
theorem idsOk_iff (s l : List Int) : idsOk s l = true ↔ (∀ t ∈ l, tidB t = true) ∧ l.Nodup ∧ ∀ t ∈ l, ¬ t ∈ s := by
  induction l generalizing s with
  | nil => simp [idsOk]
  | cons x l ih =>
    simp only [idsOk, Bool.and_eq_true, ih, List.nodup_cons, List.mem_cons, Bool.not_eq_true', List.contains_eq_mem, decide_eq_false_iff_not, List.mem_append, List.mem_nil_iff, or_false, not_or]
    constructor
    · rintro ⟨⟨h1, h2⟩, h3, h4, h5⟩
      exact ⟨fun t ht => ht.elim (fun e => e ▸ h1) (h3 t), ⟨fun hx => (h5 x hx).2 rfl, h4⟩, fun t ht => ht.elim (fun e => e ▸ h2) (fun h => (h5 t h).1)⟩
    · rintro ⟨h1, ⟨h2, h3⟩, h4⟩
      exact ⟨⟨h1 x (.inl rfl), h4 x (.inl rfl)⟩, fun t ht => h1 t (.inr ht), h3, fun t ht => ⟨h4 t (.inr ht), fun e => h2 (e ▸ ht)⟩⟩

/-- at most 8 numbers -/
theorem ids_len (n : Nat) : ∀ l : List Int, l.Nodup → (∀ t ∈ l, 1 ≤ t ∧ t ≤ (n : Int)) → l.length ≤ n := by
  induction n with
  | zero =>
    intro l _ h
    cases l with
    | nil => simp
    | cons x l => have := h x (by simp); omega
  | succ n ih =>
    intro l hd h
    have h2 := ih (l.erase ((n : Int) + 1)) (hd.erase _) (fun t ht => by
      have h3 := h t (List.mem_of_mem_erase ht)
      have h4 : t ≠ (n : Int) + 1 := fun e => by subst e; exact (List.Nodup.mem_erase_iff hd).1 ht |>.1 rfl
      omega)
    have h5 : l.length ≤ (l.erase ((n : Int) + 1)).length + 1 := by
      rw [List.length_erase]; split <;> omega
    omega

def ids (l : HL) : List Int := l.map (·.1)
/-- h can be granted a lock with these holders -/
def canJoin (hs : HL) (h : Int × Bool) : Bool := hs.all fun x => !(h.2 || x.2)
def wrOk (hs : HL) : Bool := hs.all fun h => !(h.2 && decide (1 < hs.length))
def ascOk (hs : HL) : Bool := decide ((ids hs).Pairwise (· ≤ ·))
def blocked (hs ws : HL) : Bool := match ws with | [] => true | w :: _ => !canJoin hs w
def lockOk (hs ws : HL) : Bool := idsOk [] (ids hs ++ ids ws) && (wrOk hs && ascOk hs) && blocked hs ws

/-- the model's: the first waiter can be granted -/
def grantsS (hs ws : HL) : Bool := match ws with | [] => false | w :: _ => match hs with | [] => true | h :: _ => !w.2 && !h.2
theorem grants_join {hs : HL} (h : wrOk hs = true) (w : Int × Bool) (ws : HL) : grantsS hs (w :: ws) = canJoin hs w := by
  match hs, h with
  | [], _ => rfl
  | [x], _ => simp [grantsS, canJoin]
  | x :: y :: l, h =>
    have h2 : ∀ z ∈ x :: y :: l, z.2 = false := by
      intro z hz
      have := List.all_eq_true.1 h z hz
      simpa using this
    have hx : x.2 = false := h2 x (by simp)
    cases hw : w.2 with
    | true => simp [grantsS, canJoin, hw]
    | false =>
      simp only [grantsS, canJoin, hw, hx, Bool.not_false, Bool.and_true, Bool.false_or]
      symm
      rw [List.all_eq_true]
      intro z hz
      rw [h2 z hz]; rfl
theorem grants_blocked {hs : HL} (h : wrOk hs = true) (ws : HL) : blocked hs ws = !grantsS hs ws := by
  cases ws with
  | nil => rfl
  | cons w ws => rw [grants_join h]; rfl

/-- ordered insertion -/
def ins (h : Int × Bool) : HL → HL
  | [] => [h]
  | x :: l => if h.1 < x.1 then h :: x :: l else x :: ins h l
theorem ins_perm (h : Int × Bool) (l : HL) : List.Perm (ins h l) (l ++ [h]) := by
  induction l with
  | nil => exact List.Perm.refl _
  | cons x l ih =>
    unfold ins
    split
    · exact (List.perm_append_singleton h (x :: l)).symm
    · exact ih.cons x
theorem ids_cons (x : Int × Bool) (l : HL) : ids (x :: l) = x.1 :: ids l := rfl
theorem ins_asc {h : Int × Bool} {l : HL} (hl : (ids l).Pairwise (· ≤ ·)) : (ids (ins h l)).Pairwise (· ≤ ·) := by
  induction l with
  | nil => simp [ins, ids]
  | cons x l ih =>
    rw [ids_cons, List.pairwise_cons] at hl
    unfold ins
    split
    · rename_i hlt
      rw [ids_cons, ids_cons, List.pairwise_cons, List.pairwise_cons]
      refine ⟨fun t ht => ?_, hl⟩
      rcases List.mem_cons.1 ht with rfl | ht
      · omega
      · have := hl.1 t ht; omega
    · rename_i hge
      rw [ids_cons, List.pairwise_cons]
      refine ⟨fun t ht => ?_, ih hl.2⟩
      have hm : t ∈ ids (l ++ [h]) := ((ins_perm h l).map (·.1)).mem_iff.1 ht
      simp only [ids, List.map_append, List.mem_append, List.map_cons, List.map_nil, List.mem_singleton] at hm
      rcases hm with hm | rfl
      · exact hl.1 t hm
      · omega

def grantS : HL → HL → HL × HL
  | hs, [] => (hs, [])
  | hs, w :: ws => if grantsS hs (w :: ws) then grantS (ins w hs) ws else (hs, w :: ws)
def joinI : HL → HL → HL × HL
  | own, [] => (own, [])
  | own, w :: ws => if canJoin own w then joinI (own ++ [w]) ws else (own, w :: ws)

theorem wrOk_iff (hs : HL) : wrOk hs = true ↔ (1 < hs.length → ∀ z ∈ hs, z.2 = false) := by
  simp only [wrOk, List.all_eq_true, Bool.not_eq_true', Bool.and_eq_false_iff, decide_eq_false_iff_not]
  constructor
  · intro h h1 z hz
    rcases h z hz with h2 | h2
    · exact h2
    · exact absurd h1 h2
  · intro h z hz
    by_cases h1 : 1 < hs.length
    · exact .inl (h h1 z hz)
    · exact .inr h1
theorem wrOk_perm {a b : HL} (h : List.Perm a b) (hw : wrOk a = true) : wrOk b = true := by
  rw [wrOk_iff] at hw ⊢
  intro h1 z hz
  exact hw (by rw [h.length_eq]; exact h1) z (h.mem_iff.2 hz)
theorem wrOk_join {hs : HL} {w : Int × Bool} (h : canJoin hs w = true) : wrOk (hs ++ [w]) = true := by
  rw [wrOk_iff]
  intro h1 z hz
  simp only [canJoin, List.all_eq_true, Bool.not_eq_true', Bool.or_eq_false_iff] at h
  cases hs with
  | nil => simp at h1
  | cons x l =>
    have h2 := h x (by simp)
    rcases List.mem_append.1 hz with hz | hz
    · exact (h z hz).2
    · rw [List.mem_singleton.1 hz]; exact h2.1
theorem canJoin_perm {a b : HL} (h : List.Perm a b) (w : Int × Bool) : canJoin a w = canJoin b w := by
  rw [Bool.eq_iff_iff]
  simp only [canJoin, List.all_eq_true]
  exact ⟨fun k z hz => k z (h.mem_iff.2 hz), fun k z hz => k z (h.mem_iff.1 hz)⟩

/-- the model's grant and the program's, before it sorts -/
theorem grant_join (ws : HL) : ∀ {a b : HL}, List.Perm a b → wrOk b = true → List.Perm (grantS a ws).1 (joinI b ws).1 ∧ (grantS a ws).2 = (joinI b ws).2 ∧ wrOk (joinI b ws).1 = true ∧ blocked (joinI b ws).1 (joinI b ws).2 = true := by
  induction ws with
  | nil => intro a b h hw; exact ⟨h, rfl, hw, rfl⟩
  | cons w ws ih =>
    intro a b h hw
    have e : grantsS a (w :: ws) = canJoin b w := by rw [grants_join (wrOk_perm h.symm hw), canJoin_perm h]
    unfold grantS joinI
    rw [e]
    cases hj : canJoin b w with
    | true =>
      simp only [if_true]
      exact ih ((ins_perm w a).trans (h.append_right [w])) (wrOk_join hj)
    | false =>
      simp only [Bool.false_eq_true, if_false]
      exact ⟨h, trivial, hw, by simp [blocked, hj]⟩
theorem grant_asc (ws : HL) : ∀ {a : HL}, (ids a).Pairwise (· ≤ ·) → (ids (grantS a ws).1).Pairwise (· ≤ ·) := by
  induction ws with
  | nil => intro a h; exact h
  | cons w ws ih =>
    intro a h
    unfold grantS
    split
    · exact ih (ins_asc h)
    · exact h
theorem grant_perm (ws : HL) : ∀ a : HL, List.Perm ((grantS a ws).1 ++ (grantS a ws).2) (a ++ ws) := by
  induction ws with
  | nil => intro a; exact List.Perm.refl _
  | cons w ws ih =>
    intro a
    unfold grantS
    split
    · refine (ih _).trans ?_
      have := (ins_perm w a).append_right ws
      simpa using this
    · exact List.Perm.refl _

/-- two lists of the same holds, each sorted, no id twice -/
theorem asc_unique : ∀ {a b : HL}, List.Perm a b → (ids a).Nodup → (ids a).Pairwise (· ≤ ·) → (ids b).Pairwise (· ≤ ·) → a = b := by
  intro a
  induction a with
  | nil => intro b h _ _ _; exact h.nil_eq
  | cons x a ih =>
    intro b h hd ha hb
    cases b with
    | nil => exact absurd h.length_eq (by simp)
    | cons y b =>
      rw [ids_cons, List.nodup_cons] at hd
      rw [ids_cons, List.pairwise_cons] at ha hb
      have hxy : x = y := by
        have hy : y ∈ x :: a := h.mem_iff.2 (by simp)
        have hx : x ∈ y :: b := h.mem_iff.1 (by simp)
        rcases List.mem_cons.1 hy with e | hy
        · exact e.symm
        · rcases List.mem_cons.1 hx with e | hx
          · exact e
          · have h1 := ha.1 y.1 (List.mem_map_of_mem hy)
            have h2 := hb.1 x.1 (List.mem_map_of_mem hx)
            have e : x.1 = y.1 := by omega
            exact absurd (e ▸ List.mem_map_of_mem (f := (·.1)) hy) hd.1
      subst hxy
      rw [ih (List.perm_cons x |>.1 h) hd.2 ha.2 hb.2]

structure PreG (hs ws : HL) : Prop where
  wr : wrOk hs = true
  asc : (ids hs).Pairwise (· ≤ ·)
  nd : (ids (hs ++ ws)).Nodup
  tid : ∀ t ∈ ids (hs ++ ws), tidB t = true
theorem ids_append (a b : HL) : ids (a ++ b) = ids a ++ ids b := List.map_append
theorem PreG.len {hs ws : HL} (h : PreG hs ws) : hs.length + ws.length ≤ 8 := by
  have := ids_len 8 _ h.nd (fun t ht => by have := h.tid t ht; simp [tidB, inB] at this; omega)
  simpa [ids] using this
theorem lockOk_iff (hs ws : HL) : lockOk hs ws = true ↔ PreG hs ws ∧ blocked hs ws = true := by
  unfold lockOk
  simp only [Bool.and_eq_true, idsOk_iff, ascOk, decide_eq_true_eq, List.not_mem_nil, not_false_eq_true, implies_true, and_true]
  constructor
  · rintro ⟨⟨⟨h1, h2⟩, h3, h4⟩, h5⟩
    exact ⟨⟨h3, h4, by rw [ids_append]; exact h2, by rw [ids_append]; exact h1⟩, h5⟩
  · rintro ⟨h, h5⟩
    exact ⟨⟨⟨by rw [← ids_append]; exact h.tid, by rw [← ids_append]; exact h.nd⟩, h.wr, h.asc⟩, h5⟩

theorem PreG.of_perm {hs ws a b : HL} (h : PreG hs ws) (hp : List.Perm (a ++ b) (hs ++ ws)) (hw : wrOk a = true) (ha : (ids a).Pairwise (· ≤ ·)) : PreG a b :=
  ⟨hw, ha, (hp.map (fun x : Int × Bool => x.1)).nodup_iff.2 h.nd, fun t ht => h.tid t ((hp.map (fun x : Int × Bool => x.1)).mem_iff.1 ht)⟩
theorem grant_ok {hs ws : HL} (h : PreG hs ws) : lockOk (grantS hs ws).1 (grantS hs ws).2 = true := by
  have hj := grant_join ws (List.Perm.refl hs) h.wr
  rw [lockOk_iff]
  refine ⟨h.of_perm (grant_perm ws hs) (wrOk_perm hj.1.symm hj.2.2.1) (grant_asc ws h.asc), ?_⟩
  have hb := hj.2.2.2
  rw [← hj.2.1] at hb
  rw [grants_blocked (wrOk_perm hj.1.symm hj.2.2.1)]
  rw [grants_blocked hj.2.2.1] at hb
  cases hw : (grantS hs ws).2 with
  | nil => rfl
  | cons w l =>
    rw [hw] at hb
    rw [grants_join (wrOk_perm hj.1.symm hj.2.2.1), canJoin_perm hj.1, ← grants_join hj.2.2.1 w l]
    exact hb
/-- whatever is sorted and holds what the program's grant holds is the model's -/
theorem grant_sorted {hs ws d : HL} (h : PreG hs ws) (hp : List.Perm d (joinI hs ws).1) (ha : (ids d).Pairwise (· ≤ ·)) : d = (grantS hs ws).1 := by
  have hj := grant_join ws (List.Perm.refl hs) h.wr
  have hq : List.Perm d (grantS hs ws).1 := hp.trans hj.1.symm
  refine asc_unique hq ?_ ha (grant_asc ws h.asc)
  have hg := (lockOk_iff _ _).1 (grant_ok h)
  have := hg.1.nd
  rw [ids_append, List.nodup_append] at this
  exact (hq.map (fun x : Int × Bool => x.1)).nodup_iff.2 this.1

/-- 0: not there, 1: reads, 2: writes, 3: waits -/
def holdsAt (hs ws : HL) (tid : Int) : Int :=
  match hs.find? (·.1 == tid) with
  | some h => if h.2 then 2 else 1
  | none => if (ids ws).contains tid then 3 else 0
def holdsL (hs ws : HL) (tid : Int) : Int := if lockOk hs ws then holdsAt hs ws tid else 0

def askBad (hs ws : HL) (tid : Int) : Bool := !lockOk hs ws || !tidB tid || !(holdsL hs ws tid == 0)
def askG (hs ws : HL) (tid : Int) (wr : Bool) : HL × HL := grantS hs (ws ++ [(tid, wr)])
def askC (hs ws : HL) (tid : Int) (wr : Bool) : Int := if askBad hs ws tid then 2 else if (ids (askG hs ws tid wr).1).contains tid then 0 else 1
def askL (hs ws : HL) (tid : Int) (wr : Bool) : HL × HL := if askBad hs ws tid then (hs, ws) else askG hs ws tid wr
def tryL (hs ws : HL) (tid : Int) (wr : Bool) : HL × HL := if askC hs ws tid wr = 0 then askL hs ws tid wr else (hs, ws)
def tryB (hs ws : HL) (tid : Int) (wr : Bool) : Bool := askC hs ws tid wr == 0
def offL (l : HL) (tid : Int) : HL := l.filter fun h => !(h.1 == tid)
def leaveB (hs ws : HL) (tid : Int) : Bool := !(holdsL hs ws tid == 0)
def leaveL (hs ws : HL) (tid : Int) : HL × HL := if leaveB hs ws tid then grantS (offL hs tid) (offL ws tid) else (hs, ws)

theorem holdsAt_zero {hs ws : HL} {tid : Int} : holdsAt hs ws tid = 0 ↔ ¬ tid ∈ ids (hs ++ ws) := by
  unfold holdsAt
  rw [ids_append, List.mem_append]
  cases h : hs.find? (·.1 == tid) with
  | some x =>
    have h1 := List.find?_some h
    have h2 := List.mem_of_find?_eq_some h
    simp only [beq_iff_eq] at h1
    have h3 : tid ∈ ids hs := h1 ▸ List.mem_map_of_mem (f := (·.1)) h2
    simp only [h3, true_or, not_true_eq_false, iff_false]
    split <;> omega
  | none =>
    have h1 : ¬ tid ∈ ids hs := by
      intro hm
      obtain ⟨x, hx, e⟩ := List.mem_map.1 hm
      have := List.find?_eq_none.1 h x hx
      simp [e] at this
    simp only [h1, false_or]
    by_cases hw : tid ∈ ids ws <;> simp [hw]
theorem pre_ask {hs ws : HL} {tid : Int} (wr : Bool) (h : askBad hs ws tid = false) : PreG hs (ws ++ [(tid, wr)]) := by
  simp only [askBad, Bool.or_eq_false_iff, Bool.not_eq_false', beq_iff_eq] at h
  obtain ⟨⟨h1, h2⟩, h3⟩ := h
  rw [holdsL, if_pos h1, holdsAt_zero] at h3
  have hp := ((lockOk_iff _ _).1 h1).1
  have e : ids (hs ++ (ws ++ [(tid, wr)])) = ids (hs ++ ws) ++ [tid] := by rw [← List.append_assoc, ids_append (hs ++ ws)]; rfl
  refine ⟨hp.wr, hp.asc, ?_, ?_⟩
  · rw [e, List.nodup_append]
    exact ⟨hp.nd, by simp, fun a ha b hb => by rw [List.mem_singleton.1 hb]; exact fun e => h3 (e ▸ ha)⟩
  · intro t ht
    rw [e, List.mem_append] at ht
    rcases ht with ht | ht
    · exact hp.tid t ht
    · rw [List.mem_singleton.1 ht]; exact h2
theorem off_sub (l : HL) (tid : Int) : List.Sublist (offL l tid) l := List.filter_sublist
theorem pre_off {hs ws : HL} (tid : Int) (h : PreG hs ws) : PreG (offL hs tid) (offL ws tid) := by
  have hs1 : List.Sublist (ids (offL hs tid ++ offL ws tid)) (ids (hs ++ ws)) := ((off_sub hs tid).append (off_sub ws tid)).map _
  refine ⟨?_, h.asc.sublist ((off_sub hs tid).map _), h.nd.sublist hs1, fun t ht => h.tid t (hs1.subset ht)⟩
  rw [wrOk_iff]
  intro h1 z hz
  exact (wrOk_iff _).1 h.wr (by have := (off_sub hs tid).length_le; omega) z ((off_sub hs tid).subset hz)
theorem ask_ok {hs ws : HL} {tid : Int} (wr : Bool) (h : lockOk hs ws = true) : lockOk (askL hs ws tid wr).1 (askL hs ws tid wr).2 = true := by
  unfold askL
  cases hb : askBad hs ws tid with
  | true => simpa using h
  | false => simpa [askG] using grant_ok (pre_ask wr hb)
theorem try_ok {hs ws : HL} {tid : Int} (wr : Bool) (h : lockOk hs ws = true) : lockOk (tryL hs ws tid wr).1 (tryL hs ws tid wr).2 = true := by
  unfold tryL
  split
  · exact ask_ok wr h
  · exact h
theorem leave_ok {hs ws : HL} (tid : Int) (h : lockOk hs ws = true) : lockOk (leaveL hs ws tid).1 (leaveL hs ws tid).2 = true := by
  unfold leaveL
  split
  · exact grant_ok (pre_off tid ((lockOk_iff _ _).1 h).1)
  · exact h
end Go.Proofs.YtkpkjcmoldkmmaaGreat
