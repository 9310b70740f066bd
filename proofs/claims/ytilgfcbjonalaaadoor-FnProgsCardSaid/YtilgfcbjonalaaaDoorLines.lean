/- A program's text by its parts. -/
import Derived.Test.YtilgfcbjonalaaaDoorActP
namespace Go.Proofs.YtilgfcbjonalaaaDoor
open Go.RowKit

/-- the acts of a program, in order -/
abbrev Acts3 := List (Int × Int × Int)
def txt (a : Int × Int × Int) : List UInt8 := actText a.1 a.2.1 a.2.2
def okAll (az : Acts3) : Prop := (1 ≤ az.length ∧ az.length ≤ 6) ∧ ∀ a ∈ az, actOk a.1 a.2.1 a.2.2 = true
/-- the text of a valid program -/
def progIs (s : ByteArray) (az : Acts3) : Prop := okAll az ∧ bl s = Lib.join (az.map txt) [59, 32]

/-- the parts of such a text -/
def progPieces : Acts3 → List (List UInt8)
  | [] => []
  | a :: r => txt a :: r.map (fun b => 32 :: txt b)

theorem join_spaced : ∀ (a : List UInt8) (T : List (List UInt8)), Lib.join (a :: T) [59, 32] = Lib.join (a :: T.map (fun t => 32 :: t)) [59]
  | a, [] => by rw [List.map_nil, join_one, join_one]
  | a, b :: r => by
    have e : Lib.join (((32 : UInt8) :: b) :: r.map (fun t => 32 :: t)) [59] = 32 :: Lib.join (b :: r.map (fun t => 32 :: t)) [59] := by
      cases r with
      | nil => rw [List.map_nil, join_one, join_one]
      | cons c q => rw [List.map_cons, join_two (32 :: b) _ _ (by simp), join_two b _ _ (by simp)]; simp
    rw [join_two a (b :: r) _ (by simp), List.map_cons, join_two a ((32 :: b) :: r.map (fun t => 32 :: t)) _ (by simp), e, join_spaced b r]
    simp
theorem txt_free {a : Int × Int × Int} (h : actOk a.1 a.2.1 a.2.2 = true) : Free 59 (txt a) := by
  intro x hx e
  unfold txt at hx
  rw [actText_join h] at hx
  have key : ∀ P : List (List UInt8), (∀ p ∈ P, Free 59 p) → Free 59 (Lib.join P [32]) := by
    intro P
    induction P with
    | nil => intro _ x hx; cases hx
    | cons p r ih =>
      intro hp x hx
      cases r with
      | nil => rw [join_one] at hx; exact hp p (by simp) x hx
      | cons q r' =>
        rw [join_two _ _ _ (by simp)] at hx
        rcases List.mem_append.1 hx with hx | hx
        · rcases List.mem_append.1 hx with hx | hx
          · exact hp p (by simp) x hx
          · rw [List.mem_singleton.1 hx]; decide
        · exact ih (fun z hz => hp z (by simp [hz])) x hx
  refine key _ (fun p hp => ?_) x hx e
  have hvf : ∀ k : Int, Free 59 (verb k) := by
    intro k x hx
    unfold verb at hx
    split at hx
    · simp at hx; rcases hx with rfl | rfl | rfl <;> decide
    · split at hx <;> (simp at hx; rcases hx with rfl | rfl | rfl <;> decide)
  unfold actPieces at hp
  split at hp
  · simp at hp
    rcases hp with rfl | rfl
    · exact hvf 0
    · exact itoa_free _ 59 (by decide) (by decide)
  · simp at hp
    rcases hp with rfl | rfl | rfl
    · exact hvf _
    · exact itoa_free _ 59 (by decide) (by decide)
    · exact itoa_free _ 59 (by decide) (by decide)
theorem progPieces_ne {az : Acts3} (h : okAll az) : progPieces az ≠ [] := by
  cases az with
  | nil => exact absurd h.1.1 (by decide)
  | cons a r => simp [progPieces]
theorem progPieces_free {az : Acts3} (h : okAll az) : ∀ p ∈ progPieces az, Free 59 p := by
  cases az with
  | nil => intro p hp; cases hp
  | cons a r =>
    intro p hp
    rcases List.mem_cons.1 hp with rfl | hp
    · exact txt_free (h.2 a (by simp))
    · obtain ⟨b, hb, rfl⟩ := List.mem_map.1 hp
      intro x hx
      rcases List.mem_cons.1 hx with rfl | hx
      · decide
      · exact txt_free (h.2 b (by simp [hb])) x hx
theorem join_progPieces {az : Acts3} (h : okAll az) : Lib.join (az.map txt) [59, 32] = Lib.join (progPieces az) [59] := by
  cases az with
  | nil => exact absurd h.1.1 (by decide)
  | cons a r =>
    rw [List.map_cons, join_spaced, List.map_map]
    rfl
theorem progIs_iff (s : ByteArray) (az : Acts3) : progIs s az ↔ (okAll az ∧ (parts s 59).map bl = progPieces az) := by
  unfold progIs
  constructor
  · rintro ⟨h0, h1⟩
    exact ⟨h0, parts_are (c := 59) (progPieces_ne h0) (progPieces_free h0) (by rw [h1, join_progPieces h0])⟩
  · rintro ⟨h0, h1⟩
    refine ⟨h0, ?_⟩
    have := parts_join s 59
    rw [show (parts s (59 : UInt8).toNat).map bl = progPieces az from h1] at this
    rw [← this, join_progPieces h0]
/-- one way only -/
theorem txt_inj {a b : Int × Int × Int} (ha : actOk a.1 a.2.1 a.2.2 = true) (hb : actOk b.1 b.2.1 b.2.2 = true) (h : txt a = txt b) : a = b := by
  have e : actIs ⟨(txt a).toArray⟩ a.1 a.2.1 a.2.2 := ⟨ha, by simp [bl, txt]⟩
  have e' : actIs ⟨(txt a).toArray⟩ b.1 b.2.1 b.2.2 := ⟨hb, by rw [h]; simp [bl, txt]⟩
  obtain ⟨h1, h2, h3⟩ := actIs_one e e'
  exact Prod.ext h1 (Prod.ext h2 h3)
theorem txts_inj : ∀ {az cs : Acts3}, (∀ a ∈ az, actOk a.1 a.2.1 a.2.2 = true) → (∀ a ∈ cs, actOk a.1 a.2.1 a.2.2 = true) → az.map txt = cs.map txt → az = cs
  | [], [], _, _, _ => rfl
  | [], _ :: _, _, _, h => by cases h
  | _ :: _, [], _, _, h => by cases h
  | a :: r, c :: q, ha, hc, h => by
    rw [List.map_cons, List.map_cons] at h
    obtain ⟨h1, h2⟩ := List.cons.inj h
    rw [txt_inj (ha a (by simp)) (hc c (by simp)) h1, txts_inj (fun z hz => ha z (by simp [hz])) (fun z hz => hc z (by simp [hz])) h2]
theorem progIs_one {s : ByteArray} {az cs : Acts3} (h : progIs s az) (h' : progIs s cs) : az = cs := by
  obtain ⟨a0, a1⟩ := (progIs_iff s az).1 h
  obtain ⟨c0, c1⟩ := (progIs_iff s cs).1 h'
  have e := a1.symm.trans c1
  refine txts_inj a0.2 c0.2 ?_
  cases az with
  | nil => exact absurd a0.1.1 (by decide)
  | cons a r =>
    cases cs with
    | nil => exact absurd c0.1.1 (by decide)
    | cons c q =>
      obtain ⟨e1, e2⟩ := List.cons.inj e
      rw [List.map_cons, List.map_cons, e1]
      congr 1
      have := congrArg (List.map List.tail) e2
      simpa [List.map_map, Function.comp_def] using this

/-- the text that part j hands to ParseAct -/
def bare (j : Nat) (x : List UInt8) : Option (List UInt8) := if j = 0 then some x else match x with
  | 32 :: r => some r
  | _ => none
/-- part j of a program's text is act j -/
theorem prog_part {s : ByteArray} {az : Acts3} (h : progIs s az) {j : Nat} {x : ByteArray} (hx : (parts s 59)[j]? = some x) :
    ∃ a, az[j]? = some a ∧ bare j (bl x) = some (txt a) ∧ actOk a.1 a.2.1 a.2.2 = true := by
  obtain ⟨h0, h1⟩ := (progIs_iff s az).1 h
  have hm : ((parts s 59).map bl)[j]? = some (bl x) := by rw [List.getElem?_map, hx]; rfl
  rw [h1] at hm
  cases az with
  | nil => cases hm
  | cons a r =>
    match j, hm with
    | 0, hm =>
      refine ⟨a, rfl, ?_, h0.2 a (by simp)⟩
      rw [← Option.some.inj hm]
      rfl
    | j + 1, hm =>
      have hm' : (r.map (fun b => (32 : UInt8) :: txt b))[j]? = some (bl x) := hm
      rw [List.getElem?_map] at hm'
      obtain ⟨b, hb, e⟩ := Option.map_eq_some_iff.1 hm'
      refine ⟨b, hb, ?_, h0.2 b (by simp [List.mem_of_getElem? hb])⟩
      rw [← e]
      rfl
theorem prog_count {s : ByteArray} {az : Acts3} (h : progIs s az) : az.length = (parts s 59).length := by
  obtain ⟨h0, h1⟩ := (progIs_iff s az).1 h
  have := congrArg List.length h1
  rw [List.length_map] at this
  rw [this]
  cases az with
  | nil => rfl
  | cons a r => simp [progPieces]
/-- .. and the other way -/
theorem prog_of {s : ByteArray} {az : Acts3} (h0 : okAll az) (hl : az.length = (parts s 59).length) (h : ∀ (j : Nat) (x : ByteArray), (parts s 59)[j]? = some x → ∃ a, az[j]? = some a ∧ bare j (bl x) = some (txt a)) : progIs s az := by
  refine (progIs_iff s az).2 ⟨h0, ?_⟩
  cases az with
  | nil => exact absurd h0.1.1 (by decide)
  | cons a r =>
    refine List.ext_getElem? fun j => ?_
    rw [List.getElem?_map]
    cases hx : (parts s 59)[j]? with
    | none =>
      have hj : (parts s 59).length ≤ j := List.getElem?_eq_none_iff.1 hx
      rw [Option.map_none, eq_comm, List.getElem?_eq_none_iff]
      simp [progPieces] at hl ⊢
      omega
    | some x =>
      obtain ⟨b, hb, e⟩ := h j x hx
      rw [Option.map_some]
      match j, hb, e with
      | 0, hb, e =>
        have : a = b := Option.some.inj hb
        subst this
        have : bl x = txt a := Option.some.inj e
        rw [this]; rfl
      | j + 1, hb, e =>
        have hb' : r[j]? = some b := hb
        show _ = (r.map (fun b => (32 : UInt8) :: txt b))[j]?
        rw [List.getElem?_map, hb', Option.map_some]
        unfold bare at e
        rw [if_neg (by omega)] at e
        split at e
        · rename_i q heq
          rw [heq]
          rw [Option.some.inj e]
        · cases e
end Go.Proofs.YtilgfcbjonalaaaDoor
