/- Wait graphs: where lists of Waits lie; whom some Waits lead to, of the model. -/
import Derived.Test.YtomkfldimkpmdaaRm
import Derived.Test.YtomkfldimkpmdaaGwt
import Derived.Test.YtomkfldimkpmdaaHm
namespace Go.Proofs.Ytomkfldimkpmdaa
open Go.RowKit

theorem infoIntR : (Try.prog.info? 3).map (fun i => (i.zero, i.size, i.bytes)) = some (some (.int .i64 0), 1, 8) := by kernel_rfl
def WAt (w : World) (B : Nat) (A : Option Addr) (L : WL) : Prop :=
  0 < L.length → ∃ b off, A = some ⟨b, off, none⟩ ∧ b < B ∧ ∀ j x, L[j]? = some x → w.cell? ⟨b, off + j * 2, none⟩ = some (.int .i64 x.1) ∧ w.cell? ⟨b, off + j * 2 + 1, none⟩ = some (.int .i64 x.2)
theorem WAt.keep {w w' : World} {B B' : Nat} {A : Option Addr} {L : WL} (h : WAt w B A L) (hb : Below B' w w') (hB : B ≤ B') : WAt w' B A L := fun hn => by
  obtain ⟨b, off, e, hlt, hc⟩ := h hn
  exact ⟨b, off, e, hlt, fun j x hx => ⟨(hb.cell (p := ⟨b, _, none⟩) (show b < B' by omega)).trans (hc j x hx).1, (hb.cell (p := ⟨b, _, none⟩) (show b < B' by omega)).trans (hc j x hx).2⟩⟩
theorem waits_at {w : World} {B : Nat} {A : Option Addr} {l : List DWait} (r : RAt fWait w B A l) : WAt w B A l := fun hN => by
  obtain ⟨b, off, e, hb, hc⟩ := r.2 hN
  refine ⟨b, off, e, hb, fun j x hx => ?_⟩
  obtain ⟨v, hvv, hat⟩ := hc _ _ hx
  have ev := at_Wait hat
  subst ev
  obtain ⟨a0, a1⟩ := hvv.c2
  exact ⟨a0, a1⟩
theorem ints_own {w : World} {base : Nat} {t : TypeId} {v : Value} {l : List Int} (h : w.ownsRow base t 1 v l.length (l.map (.int .i64))) :
    ∃ A c, v = .slice A l.length c ∧ IntsAt w w.heap.size A l.length (fun j => l.getD j 0) := by
  have hlt := h.lt
  rcases Go.Joins.ownsRow_forms h with ⟨rfl, h0⟩ | ⟨g, cap, rfl⟩
  · rw [h0]
    exact ⟨none, 0, rfl, fun hp => absurd hp (by omega)⟩
  · refine ⟨_, _, rfl, fun _ => ⟨g, 0, rfl, (hlt g rfl).2, fun j hj => ?_⟩⟩
    show w.cell? ⟨g, 0 + j, none⟩ = some (.int .i64 (l.getD j 0))
    rw [Nat.zero_add, h.cellAt j (by omega), List.getElem?_map, List.getElem?_eq_getElem hj, List.getD_eq_getElem?_getD, List.getElem?_eq_getElem hj]
    rfl
def NotInR (l : List Int) (x : Int) (k : Nat) : Prop := ∀ j, j < k → ¬ l.getD j 0 = x
theorem hasR_any (A : Option Addr) (cap B : Nat) (l : List Int) (x : Int) (w : World) (hn : l.length ≤ 1048577) (h : IntsAt w B A l.length (fun j => l.getD j 0)) :
    Calls Try.prog 89 #[.slice A l.length cap, .int .i64 x] w fun e w' => e = .returned (.bool (l.contains x)) ∧ w = w' := by
  go_enter Try.func89, Try.ntmps89
  go_wp2
  go_loop [5] (fun i => ∃ k : Nat, k ≤ l.length ∧ i = .int .i64 k ∧ NotInR l x k) (fun i => l.length - (intOf i).toNat)
  case atStart => exact ⟨0, Nat.zero_le _, rfl, fun j hj => absurd hj (by omega)⟩
  case round =>
    obtain ⟨k, hk, rfl, hall⟩ := hrel
    have Hall := Lib.hid hall
    clear hall
    by_cases hkn : k < l.length
    · obtain ⟨b, off, rfl, _, hc⟩ := h (by omega)
      have hkz : (k : Int) < l.length := by omega
      have d0 : w.cell? ⟨b, off + k, none⟩ = some (.int .i64 (l.getD k 0)) := hc k hkn
      clear hc h
      have HE := Lib.hid (show ∀ y, l.getD k 0 = y → ¬ y = x → NotInR l x (k + 1) from fun y e hne j hj => by
        by_cases ej : j = k
        · subst ej; rw [e]; exact hne
        · exact Hall.out j (by omega))
      have Hm := Lib.hid (show l.getD k 0 ∈ l by rw [List.getD_eq_getElem?_getD, List.getElem?_eq_getElem hkn]; exact List.getElem_mem _)
      generalize hy : l.getD k 0 = y at d0 Hm
      have HY := Lib.hid (HE.out y hy)
      clear hy HE
      by_cases e : y = x
      · subst e
        go_wp2
        go_ret
        exact ⟨ret_bool (by have := Hm.out; simpa using this), rfl⟩
      · have e' : (y == x) = false := by simpa using e
        go_wp2
        exact ⟨⟨k + 1, by omega, by go_num, HY.out e⟩, by simp [intOf]; omega⟩
    · obtain rfl : k = l.length := by omega
      go_wp2
      go_ret
      refine ⟨ret_bool ?_, rfl⟩
      symm
      rw [Bool.eq_false_iff]
      intro hm
      obtain ⟨j, hj, e⟩ := List.getElem_of_mem (of_decide_eq_true hm)
      exact Hall.out j hj (by rw [List.getD_eq_getElem?_getD, List.getElem?_eq_getElem hj]; exact e)

/- whom some Waits lead to -/
def RcOk (L : WL) (x0 : Int) (out : List Int) : Prop := out.Nodup ∧ ∀ y, y ∈ out → Rch L x0 y ∧ y ∈ L.map (·.2)
def Cl (L : WL) (x0 : Int) (out : List Int) (k : Nat) : Prop := ∀ j e, j < k → L[j]? = some e → (e.1 = x0 ∨ e.1 ∈ out) → e.2 ∈ out
theorem rc_nil (L : WL) (x0 : Int) : RcOk L x0 [] := ⟨List.nodup_nil, fun _ h => by cases h⟩
theorem rc_len {L : WL} {x0 : Int} {out : List Int} (h : RcOk L x0 out) : out.length ≤ L.length := by
  have := nodup_le h.1 (fun x hx => (h.2 x hx).2)
  simpa using this
theorem cl_way {L : WL} {x0 : Int} {out : List Int} (h : Cl L x0 out L.length) {y : Int} : ∀ {n : Nat} {a : Int}, (a = x0 ∨ a ∈ out) → Way L (n + 1) a y → y ∈ out
  | 0, a, ha, ⟨b, hb, hw⟩ => by
    have hw : b = y := hw
    subst hw
    obtain ⟨j, hj⟩ := List.getElem?_of_mem hb
    exact h j _ (List.getElem?_eq_some_iff.1 hj).1 hj ha
  | n + 1, a, ha, ⟨b, hb, hw⟩ => by
    obtain ⟨j, hj⟩ := List.getElem?_of_mem hb
    exact cl_way h (.inr (h j _ (List.getElem?_eq_some_iff.1 hj).1 hj ha)) hw
theorem rc_all {L : WL} {x0 : Int} {out : List Int} (h : RcOk L x0 out) (hc : Cl L x0 out L.length) (y : Int) : y ∈ out ↔ Rch L x0 y :=
  ⟨fun hy => (h.2 y hy).1, fun ⟨_, hw⟩ => cl_way hc (.inl rfl) hw⟩
theorem rc_add {L : WL} {x0 : Int} {out : List Int} {k : Nat} {e : Int × Int} (h : RcOk L x0 out) (hg : L[k]? = some e) (ha : e.1 = x0 ∨ e.1 ∈ out) (hn : ¬ e.2 ∈ out) : RcOk L x0 (out ++ [e.2]) := by
  have he : (e.1, e.2) ∈ L := List.mem_of_getElem? hg
  refine ⟨?_, fun y hy => ?_⟩
  · rw [List.nodup_append]
    refine ⟨h.1, by simp, fun a ha b hb e2 => ?_⟩
    rw [List.mem_singleton.1 hb] at e2
    exact hn (e2 ▸ ha)
  · rcases List.mem_append.1 hy with hy | hy
    · exact h.2 y hy
    · rw [List.mem_singleton.1 hy]
      refine ⟨?_, List.mem_map.2 ⟨e, he, rfl⟩⟩
      rcases ha with ha | ha
      · exact ⟨0, ha ▸ way_one he⟩
      · obtain ⟨n, hw⟩ := (h.2 _ ha).1
        exact ⟨n + 1, way_trans hw (way_one he)⟩
theorem cl_succ {L : WL} {x0 : Int} {out : List Int} {k : Nat} {e : Int × Int} (h : Cl L x0 out k) (hg : L[k]? = some e) (hq : (e.1 = x0 ∨ e.1 ∈ out) → e.2 ∈ out) : Cl L x0 out (k + 1) := fun j x hj hx ha => by
  by_cases ej : j = k
  · subst ej
    rw [hg] at hx
    cases hx
    exact hq ha
  · exact h j x (by omega) hx ha
def ReachOut (L : WL) (x0 : Int) (w : World) (e : Ending) (w' : World) : Prop :=
  ∃ (out : List Int) (A : Option Addr) (c : Nat), e = .returned (.slice A out.length c) ∧ IntsAt w' w'.heap.size A out.length (fun j => out.getD j 0) ∧ Below w.heap.size w w' ∧ out.length ≤ L.length ∧ ∀ y, y ∈ out ↔ Rch L x0 y

set_option maxHeartbeats 1600000 in
set_option maxRecDepth 100000 in
theorem reach_any (A : Option Addr) (c B : Nat) (L : WL) (x0 : Int) (w : World) (hB : B ≤ w.heap.size) (hn : L.length ≤ 1048576) (r : WAt w B A L) :
    Calls Try.prog 90 #[.slice A L.length c, .int .i64 x0] w (ReachOut L x0 w) := by
  obtain ⟨i0, hi, hz0, hz1, hz2⟩ := info_parts infoIntR
  have Hi := Lib.hid hi
  have Hz0 := Lib.hid hz0
  have Hz1 := Lib.hid hz1
  have Hz2 := Lib.hid hz2
  clear hi hz0 hz1 hz2
  go_enter Try.func90, Try.ntmps90
  go_wp2
  have hown0 := World.ownsRow_made (base := w.heap.size) (size := 1) (e := 3) w #[] 0 (Nat.le_refl _) (Nat.zero_le _) rfl
  have b0 := (Below.refl w.heap.size w).alloc (Nat.le_refl _) (.cells #[] 3)
  go_loopw [5] (fun v wr => ∃ out : List Int, Hid (RcOk L x0 out) ∧ wr.ownsRow w.heap.size 3 1 v out.length (out.map (.int .i64)) ∧ Below w.heap.size w wr) (fun v _ => L.length - lenV v)
  case atStart => exact ⟨[], Lib.hid (rc_nil L x0), by simpa using hown0, b0⟩
  case round =>
    clear hown0 b0
    obtain ⟨out, HR, hown, hb⟩ := hrel
    have hol := rc_len HR.out
    obtain ⟨X, C, rfl⟩ := sl_form hown
    go_wp2
    go_loopw [5, 6, 7] (fun v m i w2 => ∃ (k : Nat) (o2 : List Int) (mb : Bool), k ≤ L.length ∧ i = .int .i64 k ∧ m = .bool mb ∧ Hid (RcOk L x0 o2) ∧ w2.ownsRow w.heap.size 3 1 v o2.length (o2.map (.int .i64)) ∧ Below w.heap.size w w2 ∧ out.length ≤ o2.length ∧ Hid (mb = true → out.length < o2.length) ∧ Hid (mb = false → Cl L x0 o2 k)) (fun _ _ i _ => L.length - (intOf i).toNat)
    case atStart => exact ⟨0, out, false, Nat.zero_le _, rfl, rfl, HR, hown, hb, Nat.le_refl _, Lib.hid (fun h => by cases h), Lib.hid (fun _ j e hj => absurd hj (by omega))⟩
    case round =>
      clear hown hb
      obtain ⟨k, o2, mb, hk, rfl, rfl, HR2, hown, hb, hle, HM, HC⟩ := hrel
      have hol2 := rc_len HR2.out
      obtain ⟨X2, C2, rfl, hI⟩ := ints_own hown
      have hsz := hb.size
      by_cases hkn : k < L.length
      · obtain ⟨b, off, hA, hbB, hc⟩ := (r.keep hb hB) (by omega)
        have hkz : (k : Int) < L.length := by omega
        have hget : L[k]? = some L[k] := List.getElem?_eq_getElem hkn
        generalize L[k] = e at hget
        obtain ⟨d0, d1⟩ := hc k e hget
        subst hA
        have HG := Lib.hid hget
        have HI := Lib.hid hI
        clear hc hget hI
        cases h1 : e.1 == x0 with
        | true =>
          have HA := Lib.hid (show e.1 = x0 ∨ e.1 ∈ o2 from .inl (by simpa using h1))
          go_wp2_with fail
          (with_reducible refine (hasR_any X2 C2 _ o2 e.2 _ (by omega) HI.out).mono ?_); rintro o w3 ⟨rfl, rfl⟩
          cases h2 : o2.contains e.2 with
          | true =>
            have HC := Lib.hid (show mb = false → Cl L x0 o2 (k + 1) from fun hm => cl_succ (HC.out hm) HG.out (fun _ => by simpa using h2))
            clear hol2 d0 d1 h1 h2 HG HA HI
            go_wp2
            exact ⟨⟨k + 1, o2, mb, by omega, by go_num, rfl, HR2, hown, hb, hle, HM, HC⟩, by simp [intOf]; omega⟩
          | false =>
            have HR3 := Lib.hid (rc_add HR2.out HG.out HA.out (by simpa using h2))
            clear h1 h2 HG HA HI HR2 HM HC
            go_wp2_with (at_builtin; refine wpList_append_own _ rfl _ _ 26 rfl w.heap.size 3 i0 (.int .i64 0) 1 8 Try.underlying26 Hi.out Hz0.out Hz1.out Hz2.out rfl (by decide) _ _ _ rfl (hown.alloc _) ⟨wr.heap.size, 0, none⟩ 1 1 [.int .i64 e.2] rfl rfl ?c1 ?c2 ?c3 ?c4 ?c5 ?_)
            case c1 =>
              intro j u hj
              match j, hj with
              | 0, hj => simp at hj; subst hj; simp [Addr.add]
            case c2 => intro u hu; simp at hu; subst hu; rfl
            case c3 => unfold maxLen; omega
            case c4 => omega
            case c5 => simp; omega
            intro v' w3 hown' hgrow _
            have hb3 := (hb.alloc hsz (.cells #[.int .i64 e.2] 3)).grown hgrow (by simp; omega) (fun q hq => (hown.lt q hq).1)
            have hown3 : w3.ownsRow w.heap.size 3 1 v' (o2 ++ [e.2]).length ((o2 ++ [e.2]).map (.int .i64)) := by simpa using hown'
            have hl3 : (o2 ++ [e.2]).length = o2.length + 1 := by simp
            have HL3 := Lib.hid hl3
            clear hown' hgrow hown hb d0 d1 hl3
            generalize o2 ++ [e.2] = o3 at hown3 HR3 HL3
            go_wp2
            exact ⟨⟨k + 1, o3, true, by omega, by go_num, rfl, HR3, hown3, hb3, by have := HL3.out; omega, Lib.hid (fun _ => by have := HL3.out; omega), Lib.hid (fun h => by cases h)⟩, by simp [intOf]; omega⟩
        | false =>
          go_wp2_with fail
          (with_reducible refine (hasR_any X2 C2 _ o2 e.1 _ (by omega) HI.out).mono ?_); rintro o w3 ⟨rfl, rfl⟩
          cases h3 : o2.contains e.1 with
          | true =>
            have HA := Lib.hid (show e.1 = x0 ∨ e.1 ∈ o2 from .inr (by simpa using h3))
            clear h3
            go_wp2_with fail
            (with_reducible refine (hasR_any X2 C2 _ o2 e.2 _ (by omega) HI.out).mono ?_); rintro o w3 ⟨rfl, rfl⟩
            cases h2 : o2.contains e.2 with
            | true =>
              have HC := Lib.hid (show mb = false → Cl L x0 o2 (k + 1) from fun hm => cl_succ (HC.out hm) HG.out (fun _ => by simpa using h2))
              clear hol2 d0 d1 h1 h2 HG HA HI
              go_wp2
              exact ⟨⟨k + 1, o2, mb, by omega, by go_num, rfl, HR2, hown, hb, hle, HM, HC⟩, by simp [intOf]; omega⟩
            | false =>
              have HR3 := Lib.hid (rc_add HR2.out HG.out HA.out (by simpa using h2))
              clear h1 h2 HG HA HI HR2 HM HC
              go_wp2_with (at_builtin; refine wpList_append_own _ rfl _ _ 26 rfl w.heap.size 3 i0 (.int .i64 0) 1 8 Try.underlying26 Hi.out Hz0.out Hz1.out Hz2.out rfl (by decide) _ _ _ rfl (hown.alloc _) ⟨wr.heap.size, 0, none⟩ 1 1 [.int .i64 e.2] rfl rfl ?d1 ?d2 ?d3 ?d4 ?d5 ?_)
              case d1 =>
                intro j u hj
                match j, hj with
                | 0, hj => simp at hj; subst hj; simp [Addr.add]
              case d2 => intro u hu; simp at hu; subst hu; rfl
              case d3 => unfold maxLen; omega
              case d4 => omega
              case d5 => simp; omega
              intro v' w3 hown' hgrow _
              have hb3 := (hb.alloc hsz (.cells #[.int .i64 e.2] 3)).grown hgrow (by simp; omega) (fun q hq => (hown.lt q hq).1)
              have hown3 : w3.ownsRow w.heap.size 3 1 v' (o2 ++ [e.2]).length ((o2 ++ [e.2]).map (.int .i64)) := by simpa using hown'
              have hl3 : (o2 ++ [e.2]).length = o2.length + 1 := by simp
              have HL3 := Lib.hid hl3
              clear hown' hgrow hown hb d0 d1 hl3
              generalize o2 ++ [e.2] = o3 at hown3 HR3 HL3
              go_wp2
              exact ⟨⟨k + 1, o3, true, by omega, by go_num, rfl, HR3, hown3, hb3, by have := HL3.out; omega, Lib.hid (fun _ => by have := HL3.out; omega), Lib.hid (fun h => by cases h)⟩, by simp [intOf]; omega⟩
          | false =>
            have HC := Lib.hid (show mb = false → Cl L x0 o2 (k + 1) from fun hm => cl_succ (HC.out hm) HG.out (fun ha => by
              rcases ha with ha | ha
              · exact absurd ha (by simpa using h1)
              · exact absurd ha (by simpa using h3)))
            clear hol2 d0 d1 h1 h3 HG HI
            go_wp2
            exact ⟨⟨k + 1, o2, mb, by omega, by go_num, rfl, HR2, hown, hb, hle, HM, HC⟩, by simp [intOf]; omega⟩
      · obtain rfl : k = L.length := by omega
        have HI := Lib.hid hI
        clear hI
        cases mb with
        | true =>
          go_wp2
          exact ⟨⟨o2, HR2, hown, hb⟩, by have := HM.out rfl; simp [lenV]; omega⟩
        | false =>
          have HA := Lib.hid (rc_all HR2.out (HC.out rfl))
          go_wp2
          go_ret
          exact ⟨o2, X2, C2, rfl, HI.out, hb, hol2, HA.out⟩
end Go.Proofs.Ytomkfldimkpmdaa
