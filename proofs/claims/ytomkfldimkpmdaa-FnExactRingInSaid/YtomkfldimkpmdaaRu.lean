/- Wait graphs: DepthOf of the model. -/
import Derived.Test.YtomkfldimkpmdaaRt
namespace Go.Proofs.Ytomkfldimkpmdaa
open Go.RowKit

def LvOk (L : WL) (x0 : Int) (n : Nat) (at_ nx : List Int) (k : Nat) : Prop := nx.Nodup ∧ (∀ x, x ∈ nx → Way L (n + 1) x0 x ∧ x ∈ L.map (·.2)) ∧ ∀ j e, j < k → L[j]? = some e → e.1 ∈ at_ → e.2 ∈ nx
theorem lv_len {L : WL} {x0 : Int} {n k : Nat} {a nx : List Int} (h : LvOk L x0 n a nx k) : nx.length ≤ L.length := by
  have := nodup_le h.1 (fun x hx => (h.2.1 x hx).2)
  simpa using this
theorem lv_add {L : WL} {x0 : Int} {n k : Nat} {a nx : List Int} {e : Int × Int} (h : LvOk L x0 n a nx k) (hg : L[k]? = some e) (ha : ∀ x, x ∈ a ↔ Way L n x0 x) (h1 : e.1 ∈ a) (h2 : ¬ e.2 ∈ nx) : LvOk L x0 n a (nx ++ [e.2]) (k + 1) := by
  have he : (e.1, e.2) ∈ L := List.mem_of_getElem? hg
  refine ⟨?_, fun x hx => ?_, fun j x hj hx hm => ?_⟩
  · rw [List.nodup_append]
    refine ⟨h.1, by simp, fun a ha b hb e2 => ?_⟩
    rw [List.mem_singleton.1 hb] at e2
    exact h2 (e2 ▸ ha)
  · rcases List.mem_append.1 hx with hx | hx
    · exact h.2.1 x hx
    · rw [List.mem_singleton.1 hx]
      exact ⟨way_trans ((ha _).1 h1) (way_one he), List.mem_map.2 ⟨e, he, rfl⟩⟩
  · by_cases ej : j = k
    · subst ej
      rw [hg] at hx
      cases hx
      simp
    · exact List.mem_append_left _ (h.2.2 j x (by omega) hx hm)
theorem lv_skip {L : WL} {x0 : Int} {n k : Nat} {a nx : List Int} {e : Int × Int} (h : LvOk L x0 n a nx k) (hg : L[k]? = some e) (hq : e.1 ∈ a → e.2 ∈ nx) : LvOk L x0 n a nx (k + 1) :=
  ⟨h.1, h.2.1, fun j x hj hx hm => by
    by_cases ej : j = k
    · subst ej
      rw [hg] at hx
      cases hx
      exact hq hm
    · exact h.2.2 j x (by omega) hx hm⟩
theorem lv_all {L : WL} {x0 : Int} {n : Nat} {a nx : List Int} (h : LvOk L x0 n a nx L.length) (ha : ∀ x, x ∈ a ↔ Way L n x0 x) (x : Int) : x ∈ nx ↔ Way L (n + 1) x0 x := by
  refine ⟨fun hx => (h.2.1 x hx).1, fun hw => ?_⟩
  obtain ⟨y, h1, b, hb, h2⟩ := way_split (m := n) (n := 1) hw
  have h2 : b = x := h2
  subst h2
  obtain ⟨j, hj⟩ := List.getElem?_of_mem hb
  exact h.2.2 j _ (List.getElem?_eq_some_iff.1 hj).1 hj ((ha y).2 h1)
theorem lv_dep {L : WL} {x0 : Int} {n : Nat} {a nx : List Int} (h : LvOk L x0 n a nx L.length) (ha : ∀ x, x ∈ a ↔ Way L n x0 x) (h0 : nx.length = 0) (hw : ∃ b, Way L n x0 b) : IsDep L x0 n := by
  refine ⟨hw, fun m b hm => ?_⟩
  by_cases hle : m ≤ n
  · exact hle
  · exfalso
    rw [show m = (n + 1) + (m - n - 1) by omega] at hm
    obtain ⟨y, h1, _⟩ := way_split hm
    have := (lv_all h ha y).2 h1
    rw [List.length_eq_zero_iff.1 h0] at this
    cases this
theorem lv_some {L : WL} {x0 : Int} {n : Nat} {a nx : List Int} (h : LvOk L x0 n a nx L.length) (ha : ∀ x, x ∈ a ↔ Way L n x0 x) (h0 : ¬ nx.length = 0) : ∃ b, Way L (n + 1) x0 b := by
  obtain ⟨y, hy⟩ := List.exists_mem_of_length_pos (l := nx) (by omega)
  exact ⟨y, (lv_all h ha y).1 hy⟩
set_option maxHeartbeats 1600000 in
set_option maxRecDepth 100000 in
theorem specDepth_any (A : Option Addr) (c B : Nat) (L : WL) (x0 : Int) (w : World) (hB : B ≤ w.heap.size) (hn : L.length ≤ 1048576) (r : WAt w B A L) :
    Calls Try.prog 42 #[.slice A L.length c, .int .i64 x0] w fun e w' => e = .returned (.int .i64 (depB L x0)) ∧ Below w.heap.size w w' := by
  obtain ⟨i0, hi, hz0, hz1, hz2⟩ := info_parts infoIntR
  have Hi := Lib.hid hi
  have Hz0 := Lib.hid hz0
  have Hz1 := Lib.hid hz1
  have Hz2 := Lib.hid hz2
  clear hi hz0 hz1 hz2
  go_enter Try.func42, Try.ntmps42
  go_wp2_with fail
  (with_reducible refine (specRing_any A c B L _ hB hn r).mono ?_); rintro o w1 ⟨rfl, hb1⟩
  by_cases hR : Ring L
  · have HD := Lib.hid (dep_ring (w := x0) hR)
    rw [ring_yes hR]
    go_wp2
    go_ret
    exact ⟨ret_intG HD.out.symm, hb1⟩
  · rw [ring_no hR]
    have HR := Lib.hid hR
    clear hR
    go_wp2
    have b2 := hb1.alloc hb1.size (.cells #[.int .i64 x0] 3)
    have hI0 : IntsAt (w1.alloc (.cells #[.int .i64 x0] 3)) (w1.alloc (.cells #[.int .i64 x0] 3)).heap.size (some ⟨w1.heap.size, 0, none⟩) [x0].length (fun j => [x0].getD j 0) := fun _ => ⟨w1.heap.size, 0, rfl, by simp, fun j hj => by
      have : j = 0 := by simp at hj; omega
      subst this
      simp⟩
    generalize w1.alloc (.cells #[.int .i64 x0] 3) = w2 at b2 hI0 ⊢
    go_loopw [5, 6] (fun v i wr => ∃ (n : Nat) (a : List Int) (X : Option Addr) (C : Nat), v = .slice X a.length C ∧ i = .int .i64 n ∧ a.length ≤ 1048577 ∧ IntsAt wr wr.heap.size X a.length (fun j => a.getD j 0) ∧ Below w.heap.size w wr ∧ Hid (∀ x, x ∈ a ↔ Way L n x0 x) ∧ Hid (∃ b, Way L n x0 b)) (fun _ i _ => L.length + 1 - (intOf i).toNat)
    case atStart => exact ⟨0, [x0], _, _, rfl, rfl, by simp, hI0, b2, Lib.hid (fun x => by simp [Way, eq_comm]), Lib.hid ⟨x0, rfl⟩⟩
    case round =>
      clear hI0 b2 hb1
      obtain ⟨n, a, X, C, rfl, rfl, hal, hI, hb, HA, HW⟩ := hrel
      have hsz := hb.size
      have hnl : n ≤ L.length := by obtain ⟨b, hw⟩ := HW.out; exact way_len HR.out hw
      have hIA := Lib.hid hI
      clear hI
      go_wp2
      have hown0 := World.ownsRow_made (base := wr.heap.size) (size := 1) (e := 3) wr #[] 0 (Nat.le_refl _) (Nat.zero_le _) rfl
      have b3 := (Below.refl wr.heap.size wr).alloc (Nat.le_refl _) (.cells #[] 3)
      have HB := Lib.hid hb
      have hwr : ∃ z, z = wr := ⟨_, rfl⟩
      obtain ⟨z, hz⟩ := hwr
      rw [← hz] at hown0 b3 hIA HB hsz ⊢
      have hb : Below w.heap.size w z := HB.out
      have b3' : Below z.heap.size z (z.alloc (.cells #[] 3)) := b3
      clear hz
      go_loopw [7, 8] (fun v i w3 => ∃ (k : Nat) (nx : List Int), k ≤ L.length ∧ i = .int .i64 k ∧ w3.ownsRow z.heap.size 3 1 v nx.length (nx.map (.int .i64)) ∧ Below z.heap.size z w3 ∧ Hid (LvOk L x0 n a nx k)) (fun _ i _ => L.length - (intOf i).toNat)
      case atStart => exact ⟨0, [], Nat.zero_le _, rfl, by simpa using hown0, b3', Lib.hid ⟨List.nodup_nil, fun x hx => (by cases hx), fun j e hj => absurd hj (by omega)⟩⟩
      case round =>
        clear hown0 b3 b3'
        obtain ⟨k, nx, hk, rfl, hown, hb3, HL⟩ := hrel
        have hll := lv_len HL.out
        obtain ⟨X2, C2, rfl, hI2⟩ := ints_own hown
        have HI2 := Lib.hid hI2
        have hsz3 := hb3.size
        have hIA3 := Lib.hid ((hIA.out).below hb3 hsz3)
        clear hI2
        by_cases hkn : k < L.length
        · obtain ⟨b, off, hA, hbB, hc⟩ := ((r.keep hb hB).keep hb3 (by omega)) (by omega)
          have hkz : (k : Int) < L.length := by omega
          have hget : L[k]? = some L[k] := List.getElem?_eq_getElem hkn
          generalize L[k] = e at hget
          obtain ⟨d0, d1⟩ := hc k e hget
          subst hA
          have HG := Lib.hid hget
          clear hc hget
          go_wp2_with fail
          (with_reducible refine (hasR_any X C _ a e.1 _ hal hIA3.out).mono ?_); rintro o w4 ⟨rfl, rfl⟩
          cases h1 : a.contains e.1 with
          | true =>
            have h1m : e.1 ∈ a := by simpa using h1
            go_wp2_with fail
            (with_reducible refine (hasR_any X2 C2 _ nx e.2 _ (by omega) HI2.out).mono ?_); rintro o w4 ⟨rfl, rfl⟩
            cases h2 : nx.contains e.2 with
            | true =>
              have HL := Lib.hid (lv_skip HL.out HG.out (fun _ => by simpa using h2))
              clear h1 h2 h1m d0 d1 HI2 HG hIA3
              go_wp2
              exact ⟨⟨k + 1, nx, by omega, by go_num, hown, hb3, HL⟩, by simp [intOf]; omega⟩
            | false =>
              have HL := Lib.hid (lv_add HL.out HG.out HA.out h1m (by simpa using h2))
              clear h1 h2 h1m HI2 HG hIA3
              go_wp2_with (at_builtin; refine wpList_append_own _ rfl _ _ 26 rfl z.heap.size 3 i0 (.int .i64 0) 1 8 Try.underlying26 Hi.out Hz0.out Hz1.out Hz2.out rfl (by decide) _ _ _ rfl (hown.alloc _) ⟨wr.heap.size, 0, none⟩ 1 1 [.int .i64 e.2] rfl rfl ?c1 ?c2 ?c3 ?c4 ?c5 ?_)
              case c1 =>
                intro j u hj
                match j, hj with
                | 0, hj => simp at hj; subst hj; simp [Addr.add]
              case c2 => intro u hu; simp at hu; subst hu; rfl
              case c3 => unfold maxLen; omega
              case c4 => omega
              case c5 => simp; omega
              intro v' w4 hown' hgrow _
              have hb4 := (hb3.alloc hsz3 (.cells #[.int .i64 e.2] 3)).grown hgrow (by simp; omega) (fun q hq => (hown.lt q hq).1)
              have hown3 : w4.ownsRow z.heap.size 3 1 v' (nx ++ [e.2]).length ((nx ++ [e.2]).map (.int .i64)) := by simpa using hown'
              clear hown' hgrow hown hb3 d0 d1
              generalize nx ++ [e.2] = o3 at hown3 HL
              go_wp2
              exact ⟨⟨k + 1, o3, by omega, by go_num, hown3, hb4, HL⟩, by simp [intOf]; omega⟩
          | false =>
            have HL := Lib.hid (lv_skip HL.out HG.out (fun hm => absurd hm (by simpa using h1)))
            clear h1 d0 d1 HI2 HG hIA3
            go_wp2
            exact ⟨⟨k + 1, nx, by omega, by go_num, hown, hb3, HL⟩, by simp [intOf]; omega⟩
        · obtain rfl : k = L.length := by omega
          have hbz := hb.trans (hb3.mono hsz)
          have HM : ∃ m, m = nx.length := ⟨_, rfl⟩
          obtain ⟨m, hm⟩ := HM
          have HM := Lib.hid hm
          have HI3 := Lib.hid (show IntsAt wr wr.heap.size X2 nx.length (fun j => nx.getD j 0) from HI2.out)
          rw [← hm] at hll
          have hgoal : Value.slice X2 nx.length C2 = .slice X2 m C2 := by rw [hm]
          rw [hgoal]
          clear hm hown HI2 hgoal
          by_cases h0 : m = 0
          · have HE := Lib.hid (dep_is HR.out (lv_dep HL.out HA.out (by rw [← HM.out]; exact h0) HW.out))
            subst h0
            go_wp2
            go_ret
            exact ⟨ret_intG HE.out.symm, hbz⟩
          · have HW2 := Lib.hid (lv_some HL.out HA.out (by rw [← HM.out]; exact h0))
            have HA2 := Lib.hid (lv_all HL.out HA.out)
            have h0' : ((m : Int) == 0) = false := by simp; omega
            go_wp2
            exact ⟨⟨n + 1, nx, X2, C2, by rw [HM.out], by go_num, by rw [← HM.out]; omega, HI3.out, hbz, HA2, HW2⟩, by simp [intOf]; omega⟩
end Go.Proofs.Ytomkfldimkpmdaa
