/- The model's AskLock, TryLock, FreeFor. -/
import Derived.Test.YtcndmdglnohbcaaGreatDoorLs5
namespace Go.Proofs.YtcndmdglnohbcaaGreatDoor
open Go.RowKit

theorem OwnL.lat {w : World} {lo c c' : Nat} {A A' : Option Addr} {p : HL × HL} (h : OwnL w lo (.slice A p.1.length c) (.slice A' p.2.length c') p) : LAt w w.heap.size A A' p := by
  obtain ⟨B, d, B', d', e1, e2, hl⟩ := h.lock
  injection e1 with e1 _ _
  injection e2 with e2 _ _
  subst e1 e2
  exact hl.at_
theorem holdsL_nn (hs ws : HL) (t : Int) : 0 ≤ holdsL hs ws t ∧ holdsL hs ws t ≤ 3 := by
  unfold holdsL holdsAt
  split
  · split
    · split <;> omega
    · split <;> omega
  · omega
theorem askBad_lock {hs ws : HL} {t : Int} (h : lockOk hs ws = false) : askBad hs ws t = true := by simp [askBad, h]
theorem askBad_tid {hs ws : HL} {t : Int} (h : tidB t = false) : askBad hs ws t = true := by simp [askBad, h]
theorem askBad_held {hs ws : HL} {t : Int} (h : ¬ holdsL hs ws t = 0) : askBad hs ws t = true := by simp [askBad, h]
theorem askBad_no {hs ws : HL} {t : Int} (h1 : lockOk hs ws = true) (h2 : tidB t = true) (h3 : holdsL hs ws t = 0) : askBad hs ws t = false := by simp [askBad, h1, h2, h3]
theorem ask_len {hs ws : HL} {t : Int} (h : askBad hs ws t = false) : hs.length + ws.length ≤ 8 := by
  cases h1 : lockOk hs ws with
  | true => exact ((lockOk_iff _ _).1 h1).1.len
  | false => rw [askBad_lock h1] at h; cases h
/-- who has asked holds or waits -/
theorem ask_code {hs ws : HL} {t : Int} (wr : Bool) (h : askBad hs ws t = false) : holdsL (askG hs ws t wr).1 (askG hs ws t wr).2 t = 3 ↔ (ids (askG hs ws t wr).1).contains t = false := by
  have hp := pre_ask wr h
  have hok : lockOk (askG hs ws t wr).1 (askG hs ws t wr).2 = true := grant_ok hp
  have hperm : List.Perm ((askG hs ws t wr).1 ++ (askG hs ws t wr).2) (hs ++ (ws ++ [(t, wr)])) := grant_perm (ws ++ [(t, wr)]) hs
  have hm : t ∈ ids ((askG hs ws t wr).1 ++ (askG hs ws t wr).2) := by
    have : t ∈ ids (hs ++ (ws ++ [(t, wr)])) := by simp [ids]
    exact ((hperm.map (fun x : Int × Bool => x.1)).mem_iff).2 this
  rw [holdsL, if_pos hok]
  unfold holdsAt
  rw [ids_append, List.mem_append] at hm
  show _ ↔ _
  cases hf : (askG hs ws t wr).1.find? (·.1 == t) with
  | some x =>
    have h1 := List.find?_some hf
    have h2 := List.mem_of_find?_eq_some hf
    simp only [beq_iff_eq] at h1
    have h4 : x.1 ∈ ids (askG hs ws t wr).1 := List.mem_map_of_mem (f := (·.1)) h2
    have h3 : t ∈ ids (askG hs ws t wr).1 := (congrArg (· ∈ ids (askG hs ws t wr).1) h1).mp h4
    simp only [List.contains_eq_mem, h3, decide_true, Bool.true_eq_false, iff_false]
    split <;> omega
  | none =>
    have h3 : ¬ t ∈ ids (askG hs ws t wr).1 := fun hm => by
      obtain ⟨x, hx, e⟩ := List.mem_map.1 hm
      have := List.find?_eq_none.1 hf x hx
      simp [e] at this
    have h4 : t ∈ ids (askG hs ws t wr).2 := hm.resolve_left h3
    simp [h3, h4]
theorem askC_bad {hs ws : HL} {t : Int} {wr : Bool} (h : askBad hs ws t = true) : askC hs ws t wr = 2 ∧ askL hs ws t wr = (hs, ws) := by simp [askC, askL, h]
theorem askC_waits {hs ws : HL} {t : Int} {wr : Bool} (h : askBad hs ws t = false) (h3 : holdsL (askG hs ws t wr).1 (askG hs ws t wr).2 t = 3) : askC hs ws t wr = 1 ∧ askL hs ws t wr = askG hs ws t wr := by
  have := (ask_code wr h).1 h3
  simp only [askC, askL, h, this, Bool.false_eq_true, if_false, and_self]
theorem askC_held {hs ws : HL} {t : Int} {wr : Bool} (h : askBad hs ws t = false) (h3 : ¬ holdsL (askG hs ws t wr).1 (askG hs ws t wr).2 t = 3) : askC hs ws t wr = 0 ∧ askL hs ws t wr = askG hs ws t wr := by
  have : (ids (askG hs ws t wr).1).contains t = true := by
    cases hc : (ids (askG hs ws t wr).1).contains t with
    | true => rfl
    | false => exact absurd ((ask_code wr h).2 hc) h3
  simp only [askC, askL, h, this, Bool.false_eq_true, if_false, if_true, and_self]

def askRet (q : Int) (v : Value) : Value := .tuple #[v, .int .i64 q]

end Go.Proofs.YtcndmdglnohbcaaGreatDoor

