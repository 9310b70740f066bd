/- Lists of Waits as a graph: ways, rings, the longest way from a worker. Mathematics only. -/
import Derived.Test.YtomkfldimkpmdaaCore
namespace Go.Proofs.Ytomkfldimkpmdaa
open Go.RowKit

abbrev WL := List (Int × Int)
def Way (L : WL) : Nat → Int → Int → Prop
  | 0, a, b => a = b
  | n + 1, a, c => ∃ b, (a, b) ∈ L ∧ Way L n b c
theorem way_trans {L : WL} {n : Nat} {b c : Int} : ∀ {m : Nat} {a : Int}, Way L m a b → Way L n b c → Way L (m + n) a c
  | 0, a, h1, h2 => by
    have h1 : a = b := h1
    subst h1
    rw [Nat.zero_add]
    exact h2
  | m + 1, a, ⟨d, hd, h1⟩, h2 => by
    rw [Nat.add_right_comm]
    exact ⟨d, hd, way_trans h1 h2⟩
theorem way_one {L : WL} {a b : Int} (h : (a, b) ∈ L) : Way L 1 a b := ⟨b, h, rfl⟩
theorem way_split {L : WL} {n : Nat} {c : Int} : ∀ {m : Nat} {a : Int}, Way L (m + n) a c → ∃ b, Way L m a b ∧ Way L n b c
  | 0, a, h => ⟨a, rfl, by rw [Nat.zero_add] at h; exact h⟩
  | m + 1, a, h => by
    rw [Nat.add_right_comm] at h
    obtain ⟨d, hd, h⟩ := h
    obtain ⟨b, h1, h2⟩ := way_split h
    exact ⟨b, ⟨d, hd, h1⟩, h2⟩
def Rch (L : WL) (a b : Int) : Prop := ∃ n, Way L (n + 1) a b
def Ring (L : WL) : Prop := ∃ a, Rch L a a
open Classical in
noncomputable def ringB (L : WL) : Bool := decide (Ring L)
def IsDep (L : WL) (w : Int) (n : Nat) : Prop := (∃ b, Way L n w b) ∧ ∀ m b, Way L m w b → m ≤ n
open Classical in
noncomputable def depB (L : WL) (w : Int) : Int := if Ring L then -1 else if h : ∃ n, IsDep L w n then (Classical.choose h : Nat) else -1
theorem ring_yes {L : WL} (h : Ring L) : ringB L = true := by simp [ringB, h]
theorem ring_no {L : WL} (h : ¬ Ring L) : ringB L = false := by simp [ringB, h]
theorem dep_ring {L : WL} {w : Int} (h : Ring L) : depB L w = -1 := by simp [depB, h]
theorem dep_is {L : WL} {w : Int} {n : Nat} (h : ¬ Ring L) (hn : IsDep L w n) : depB L w = n := by
  have hex : ∃ n, IsDep L w n := ⟨n, hn⟩
  have hc := Classical.choose_spec hex
  have : Classical.choose hex = n := by
    obtain ⟨⟨b, h1⟩, h2⟩ := hn
    obtain ⟨⟨b', h3⟩, h4⟩ := hc
    have := h2 _ _ h3
    have := h4 _ _ h1
    omega
  simp only [depB, h, if_false, hex, dite_true]
  rw [this]
theorem rch_step {L : WL} {a b c : Int} (h : (a, b) ∈ L) (h2 : Rch L b c) : Rch L a c := by
  obtain ⟨n, h2⟩ := h2
  exact ⟨n + 1, b, h, h2⟩
/- no way is longer than the list, where there is no ring -/
theorem countP_lt {α : Type} {p q : α → Bool} (hpq : ∀ a, p a = true → q a = true) : ∀ {l : List α}, (∃ a, a ∈ l ∧ q a = true ∧ p a = false) → l.countP p < l.countP q
  | [], ⟨a, h, _⟩ => by cases h
  | x :: l, ⟨a, h, h1, h2⟩ => by
    have hle : l.countP p ≤ l.countP q := List.countP_mono_left (fun a _ ha => hpq a ha)
    rcases List.mem_cons.1 h with e | hm
    · subst e
      rw [List.countP_cons_of_neg (by simp [h2]), List.countP_cons_of_pos h1]
      omega
    · have ih := countP_lt hpq ⟨a, hm, h1, h2⟩
      rw [List.countP_cons, List.countP_cons]
      have := hpq x
      cases hp : p x with
      | false => cases q x <;> simp <;> omega
      | true => rw [this hp]; simp; omega
open Classical in
noncomputable def rankN (L : WL) (a : Int) : Nat := L.countP fun e => decide (Rch L a e.2)
theorem rank_lt {L : WL} (hr : ¬ Ring L) {a b : Int} (h : (a, b) ∈ L) : rankN L b < rankN L a := by
  unfold rankN
  refine countP_lt (fun e he => ?_) ⟨(a, b), h, ?_, ?_⟩
  · simp only [decide_eq_true_eq] at he ⊢
    exact rch_step h he
  · simp only [decide_eq_true_eq]
    exact ⟨0, way_one h⟩
  · simp only [decide_eq_false_iff_not]
    exact fun hc => hr ⟨b, hc⟩
theorem rank_way {L : WL} (hr : ¬ Ring L) {b : Int} : ∀ {n : Nat} {a : Int}, Way L n a b → n + rankN L b ≤ rankN L a
  | 0, a, h => by
    have h : a = b := h
    subst h
    omega
  | n + 1, a, ⟨d, hd, h⟩ => by
    have := rank_way hr h
    have := rank_lt hr hd
    omega
theorem way_len {L : WL} (hr : ¬ Ring L) {n : Nat} {a b : Int} (h : Way L n a b) : n ≤ L.length := by
  have h1 := rank_way hr h
  have h2 : rankN L a ≤ L.length := List.countP_le_length
  omega
/- a list without repetition inside another is not longer -/
theorem nodup_le : ∀ {P V : List Int}, P.Nodup → (∀ x, x ∈ P → x ∈ V) → P.length ≤ V.length
  | [], _, _, _ => Nat.zero_le _
  | x :: P, V, hn, hs => by
    have hx := hs x (List.mem_cons_self ..)
    have hn2 := List.nodup_cons.1 hn
    have := nodup_le (P := P) (V := V.erase x) hn2.2 (fun y hy => (List.mem_erase_of_ne (fun e : y = x => hn2.1 (e ▸ hy))).2 (hs y (List.mem_cons_of_mem _ hy)))
    rw [List.length_erase_of_mem hx] at this
    have : 0 < V.length := List.length_pos_of_mem hx
    simp only [List.length_cons]
    omega
/- sums over a list -/
def sumF {α : Type} (f : α → Nat) : List α → Nat
  | [] => 0
  | x :: l => f x + sumF f l
theorem sumF_le {α : Type} {f g : α → Nat} (h : ∀ a, f a ≤ g a) : ∀ l, sumF f l ≤ sumF g l
  | [] => Nat.le_refl _
  | x :: l => Nat.add_le_add (h x) (sumF_le h l)
theorem sumF_lt {α : Type} {f g : α → Nat} (h : ∀ a, f a ≤ g a) {x : α} (hx : f x < g x) : ∀ {l}, x ∈ l → sumF f l < sumF g l
  | [], hm => by cases hm
  | y :: l, hm => by
    have := sumF_le h l
    have := h y
    rcases List.mem_cons.1 hm with e | hm
    · subst e; simp only [sumF]; omega
    · have := sumF_lt h hx hm; simp only [sumF]; omega
theorem sumF_bound {α : Type} {f : α → Nat} {c : Nat} (h : ∀ a, f a ≤ c) : ∀ l, sumF f l ≤ l.length * c
  | [] => Nat.zero_le _
  | x :: l => by
    have := sumF_bound h l
    have := h x
    simp only [sumF, List.length_cons, Nat.add_mul, Nat.one_mul]
    omega

/- the search -/
def succs (L : WL) (x : Int) : List Int := (L.filter fun e => e.1 == x).map (·.2)
theorem mem_succs {L : WL} {x y : Int} : y ∈ succs L x ↔ (x, y) ∈ L := by
  unfold succs
  simp only [List.mem_map, List.mem_filter, beq_iff_eq]
  constructor
  · rintro ⟨⟨a, b⟩, ⟨h, e⟩, e2⟩
    simp only at e e2
    subst e; subst e2
    exact h
  · exact fun h => ⟨(x, y), ⟨h, rfl⟩, rfl⟩
theorem succs_len {L : WL} (x : Int) : (succs L x).length ≤ L.length := by
  unfold succs
  rw [List.length_map]
  exact List.length_filter_le ..
/-- what is done and what lies ahead -/
def Done (L : WL) (ah : Int → List Int) (v dd : Int → Nat) : Prop := ∀ x, ∃ D, succs L x = D ++ ah x ∧ (∀ y, y ∈ D → v y = 2 ∧ dd y + 1 ≤ dd x) ∧ (dd x = 0 ∨ ∃ y, y ∈ D ∧ dd x = dd y + 1)
def PathOn (L : WL) : List Int → Prop
  | [] => True
  | [_] => True
  | a :: b :: r => (a, b) ∈ L ∧ PathOn L (b :: r)
theorem path_snoc {L : WL} {f t : Int} (h : (f, t) ∈ L) : ∀ {Q : List Int}, PathOn L (Q ++ [f]) → PathOn L (Q ++ [f] ++ [t])
  | [], _ => ⟨h, trivial⟩
  | [_], hp => ⟨hp.1, h, trivial⟩
  | _ :: b :: r, hp => ⟨hp.1, path_snoc (Q := b :: r) h hp.2⟩
theorem path_cut {L : WL} {f : Int} : ∀ {Q : List Int}, PathOn L (Q ++ [f]) → PathOn L Q
  | [], _ => trivial
  | [_], _ => trivial
  | _ :: b :: r, hp => ⟨hp.1, path_cut (Q := b :: r) hp.2⟩
theorem path_way {L : WL} {f : Int} : ∀ {Q : List Int}, PathOn L (Q ++ [f]) → ∀ x, x ∈ Q ++ [f] → ∃ n, Way L n x f
  | [], _, x, hx => by
    simp only [List.nil_append, List.mem_singleton] at hx
    exact ⟨0, hx⟩
  | [a], hp, x, hx => by
    have hp : (a, f) ∈ L := hp.1
    simp only [List.cons_append, List.nil_append, List.mem_cons, List.not_mem_nil, or_false] at hx
    rcases hx with e | e
    · exact ⟨1, f, e ▸ hp, rfl⟩
    · exact ⟨0, e⟩
  | a :: b :: r, hp, x, hx => by
    rcases List.mem_cons.1 hx with e | hx
    · obtain ⟨n, h⟩ := path_way (Q := b :: r) hp.2 b (by simp)
      exact ⟨n + 1, b, e ▸ hp.1, h⟩
    · exact path_way (Q := b :: r) hp.2 x hx
structure Srch (L : WL) (ah : Int → List Int) (v dd : Int → Nat) (Q : List Int) : Prop where
  done : Done L ah v dd
  full : ∀ x, v x = 2 → ah x = []
  le2 : ∀ x, v x ≤ 2
  on : ∀ x, v x = 1 → x ∈ Q
  no2 : ∀ x, x ∈ Q → v x ≠ 2
  nd : Q.Nodup
  way : PathOn L Q
  seen : ∀ x, x ∈ Q → x ∈ L.map (·.1) ++ L.map (·.2)
def setN (f : Int → Nat) (x : Int) (n : Nat) : Int → Nat := fun y => if y = x then n else f y
def setL (f : Int → List Int) (x : Int) (l : List Int) : Int → List Int := fun y => if y = x then l else f y
theorem setN_at (f : Int → Nat) (x : Int) (n : Nat) : setN f x n x = n := if_pos rfl
theorem setN_ne {f : Int → Nat} {x y : Int} {n : Nat} (h : y ≠ x) : setN f x n y = f y := if_neg h
theorem setL_at (f : Int → List Int) (x : Int) (n : List Int) : setL f x n x = n := if_pos rfl
theorem setL_ne {f : Int → List Int} {x y : Int} {n : List Int} (h : y ≠ x) : setL f x n y = f y := if_neg h
section
variable {L : WL} {ah : Int → List Int} {v dd : Int → Nat} {Q : List Int} {f : Int}
/-- the last of the path is entered -/
theorem Srch.enter (h : Srch L ah v dd (Q ++ [f])) : Srch L ah (setN v f 1) dd (Q ++ [f]) := by
  have hf : v f ≠ 2 := h.no2 f (by simp)
  refine ⟨fun x => ?_, fun x hx => ?_, fun x => ?_, fun x hx => ?_, fun x hx => ?_, h.nd, h.way, h.seen⟩
  · obtain ⟨D, h1, h2, h3⟩ := h.done x
    refine ⟨D, h1, fun y hy => ?_, h3⟩
    obtain ⟨a, b⟩ := h2 y hy
    have : y ≠ f := fun e => hf (e ▸ a)
    rw [setN_ne this]
    exact ⟨a, b⟩
  · by_cases e : x = f
    · subst e; rw [setN_at] at hx; omega
    · rw [setN_ne e] at hx; exact h.full x hx
  · by_cases e : x = f
    · subst e; rw [setN_at]; omega
    · rw [setN_ne e]; exact h.le2 x
  · by_cases e : x = f
    · subst e; simp
    · rw [setN_ne e] at hx; exact h.on x hx
  · by_cases e : x = f
    · subst e; rw [setN_at]; omega
    · rw [setN_ne e]; exact h.no2 x hx
/-- the first ahead is on the path: a ring -/
theorem Srch.ring (h : Srch L ah v dd (Q ++ [f])) {t : Int} {r : List Int} (ha : ah f = t :: r) (ht : v t = 1) : Ring L := by
  obtain ⟨D, h1, _, _⟩ := h.done f
  have he : (f, t) ∈ L := mem_succs.1 (by rw [h1, ha]; simp)
  obtain ⟨n, hw⟩ := path_way h.way t (h.on t ht)
  exact ⟨t, n, way_trans hw (way_one he)⟩
theorem Srch.edge (h : Srch L ah v dd Q) {x t : Int} {r : List Int} (ha : ah x = t :: r) : (x, t) ∈ L := by
  obtain ⟨D, h1, _, _⟩ := h.done x
  exact mem_succs.1 (by rw [h1, ha]; simp)
/-- the first ahead is new: it goes on the path -/
theorem Srch.push (h : Srch L ah v dd (Q ++ [f])) (h1 : ∀ x, x ∈ Q ++ [f] → v x = 1) {t : Int} {r : List Int} (ha : ah f = t :: r) (ht : v t = 0) : Srch L ah v dd (Q ++ [f] ++ [t]) := by
  have he := h.edge ha
  refine ⟨h.done, h.full, h.le2, fun x hx => List.mem_append_left _ (h.on x hx), fun x hx => ?_, ?_, path_snoc he h.way, fun x hx => ?_⟩
  · rcases List.mem_append.1 hx with hx | hx
    · exact h.no2 x hx
    · rw [List.mem_singleton.1 hx]; omega
  · rw [List.nodup_append]
    refine ⟨h.nd, by simp, fun a ha b hb e => ?_⟩
    rw [List.mem_singleton.1 hb] at e
    have := h1 a ha
    rw [e] at this
    omega
  · rcases List.mem_append.1 hx with hx | hx
    · exact h.seen x hx
    · rw [List.mem_singleton.1 hx]
      exact List.mem_append_right _ (List.mem_map.2 ⟨(f, t), he, rfl⟩)
/-- the first ahead is explored -/
theorem Srch.take (h : Srch L ah v dd (Q ++ [f])) (hf : v f = 1) {t : Int} {r : List Int} (ha : ah f = t :: r) (ht : v t = 2) : Srch L (setL ah f r) v (setN dd f (max (dd f) (dd t + 1))) (Q ++ [f]) := by
  refine ⟨fun x => ?_, fun x hx => ?_, h.le2, h.on, h.no2, h.nd, h.way, h.seen⟩
  · obtain ⟨D, h1, h2, h3⟩ := h.done x
    have hne : ∀ y, v y = 2 → y ≠ f := fun y hy e => by subst e; omega
    by_cases e : x = f
    · subst e
      rw [setL_at, setN_at]
      refine ⟨D ++ [t], by rw [h1, ha]; simp, fun y hy => ?_, ?_⟩
      · rcases List.mem_append.1 hy with hy | hy
        · obtain ⟨a, b⟩ := h2 y hy
          rw [setN_ne (hne y a)]
          exact ⟨a, by omega⟩
        · rw [List.mem_singleton.1 hy, setN_ne (hne t ht)]
          exact ⟨ht, by omega⟩
      · by_cases hm : dd t + 1 ≤ dd x
        · rw [Nat.max_eq_left hm]
          rcases h3 with h3 | ⟨y, hy, h3⟩
          · exact .inl h3
          · exact .inr ⟨y, List.mem_append_left _ hy, by rw [setN_ne (hne y (h2 y hy).1)]; exact h3⟩
        · rw [Nat.max_eq_right (by omega)]
          exact .inr ⟨t, by simp, by rw [setN_ne (hne t ht)]⟩
    · rw [setL_ne e, setN_ne e]
      refine ⟨D, h1, fun y hy => ?_, ?_⟩
      · obtain ⟨a, b⟩ := h2 y hy
        rw [setN_ne (hne y a)]
        exact ⟨a, b⟩
      · rcases h3 with h3 | ⟨y, hy, h3⟩
        · exact .inl h3
        · exact .inr ⟨y, hy, by rw [setN_ne (hne y (h2 y hy).1)]; exact h3⟩
  · have : x ≠ f := fun e => by subst e; omega
    rw [setL_ne this]
    exact h.full x hx
/-- nothing ahead: the last is explored -/
theorem Srch.leave (h : Srch L ah v dd (Q ++ [f])) (ha : ah f = []) : Srch L ah (setN v f 2) dd Q := by
  have hn := List.nodup_append.1 h.nd
  have hfq : ∀ x, x ∈ Q → x ≠ f := fun x hx e => hn.2.2 x hx f (by simp) e
  refine ⟨fun x => ?_, fun x hx => ?_, fun x => ?_, fun x hx => ?_, fun x hx => ?_, hn.1, path_cut h.way, fun x hx => h.seen x (List.mem_append_left _ hx)⟩
  · obtain ⟨D, h1, h2, h3⟩ := h.done x
    refine ⟨D, h1, fun y hy => ?_, h3⟩
    obtain ⟨a, b⟩ := h2 y hy
    refine ⟨?_, b⟩
    by_cases e : y = f
    · subst e; exact setN_at ..
    · rw [setN_ne e]; exact a
  · by_cases e : x = f
    · subst e; exact ha
    · rw [setN_ne e] at hx; exact h.full x hx
  · by_cases e : x = f
    · subst e; rw [setN_at]; omega
    · rw [setN_ne e]; exact h.le2 x
  · by_cases e : x = f
    · subst e; rw [setN_at] at hx; omega
    · rw [setN_ne e] at hx
      rcases List.mem_append.1 (h.on x hx) with hm | hm
      · exact hm
      · exact absurd (List.mem_singleton.1 hm) e
  · rw [setN_ne (hfq x hx)]
    exact h.no2 x (List.mem_append_left _ hx)
/-- all are explored: no ring, and the depths -/
theorem Srch.all_done (h : Srch L ah v dd []) (hv : ∀ x, x ∈ L.map (·.1) → v x = 2) : (∀ a b, (a, b) ∈ L → dd b + 1 ≤ dd a) ∧ ∀ a, dd a = 0 ∨ ∃ b, (a, b) ∈ L ∧ dd a = dd b + 1 := by
  refine ⟨fun a b hab => ?_, fun a => ?_⟩
  · obtain ⟨D, h1, h2, h3⟩ := h.done a
    have ha := h.full a (hv a (List.mem_map.2 ⟨_, hab, rfl⟩))
    rw [ha, List.append_nil] at h1
    have : b ∈ D := h1 ▸ mem_succs.2 hab
    exact (h2 b this).2
  · obtain ⟨D, h1, h2, h3⟩ := h.done a
    rcases h3 with h3 | ⟨y, hy, h3⟩
    · exact .inl h3
    · exact .inr ⟨y, mem_succs.1 (by rw [h1]; exact List.mem_append_left _ hy), h3⟩
end
section
variable {L : WL} {dd : Int → Nat} (h1 : ∀ a b, (a, b) ∈ L → dd b + 1 ≤ dd a) (h2 : ∀ a, dd a = 0 ∨ ∃ b, (a, b) ∈ L ∧ dd a = dd b + 1)
include h1 in
theorem dep_way {b : Int} : ∀ {n : Nat} {a : Int}, Way L n a b → dd b + n ≤ dd a
  | 0, a, h => by
    have h : a = b := h
    subst h
    omega
  | n + 1, a, ⟨d, hd, h⟩ => by
    have := dep_way h
    have := h1 _ _ hd
    omega
include h1 in
theorem dep_noring : ¬ Ring L := fun ⟨a, n, h⟩ => by
  have := dep_way h1 h
  omega
include h2 in
theorem dep_some : ∀ (n : Nat) (a : Int), dd a = n → ∃ b, Way L n a b
  | 0, a, _ => ⟨a, rfl⟩
  | n + 1, a, h => by
    rcases h2 a with h0 | ⟨b, hb, h3⟩
    · omega
    · obtain ⟨c, hc⟩ := dep_some n b (by omega)
      exact ⟨c, b, hb, hc⟩
include h1 h2 in
theorem dep_isdep (w : Int) : IsDep L w (dd w) := ⟨dep_some h2 _ w rfl, fun m b h => by have := dep_way h1 h; omega⟩
end
end Go.Proofs.Ytomkfldimkpmdaa
