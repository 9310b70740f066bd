/- Wait graphs: the program's graph: for each worker that waits those for which it waits, as rows in a map. -/
import Derived.Test.YtomkfldimkpmdaaRs
import Derived.Test.YtomkfldimkpmdaaMp
import Derived.Test.YtomkfldimkpmdaaLa
import Derived.Deep.AppendLies
namespace Go.Proofs.Ytomkfldimkpmdaa
open Go.RowKit
open Go.Maps (Keyed)

theorem keyR : Keyed Try.prog 3 := Go.Maps.int_keyed Try.underlying3
theorem keyR_of {x : Int} (h : wfI x) : keyOf Try.prog 3 (.int .i64 x) = some (.int .i64 x) :=
  Go.Maps.keyOf_int_mk Try.underlying3 (by simp only [Lit.wf, Bool.and_eq_true, decide_eq_true_eq]; exact ⟨h.1, h.2⟩)
theorem zeroR (w : World) : (zeroValue 26).run Try.prog w = .ok (.slice none 0 0) w := by kernel_rfl
theorem below_grown {w w' : World} (hb : Below w.heap.size w w') : w.grownBy w' none := ⟨hb.os, hb.tape, hb.output, hb.size, fun k hk _ => hb.block k hk⟩
theorem own_ne {v : Value} : v.ownBlock = none ∨ v.ownBlock ≠ none := by cases v.ownBlock <;> simp
theorem succs_snoc {L : WL} {k : Nat} {e : Int × Int} (hg : L[k]? = some e) (x : Int) : succs (L.take (k + 1)) x = setL (succs (L.take k)) e.1 (succs (L.take k) e.1 ++ [e.2]) x := by
  have hk := (List.getElem?_eq_some_iff.1 hg)
  obtain ⟨hk, he⟩ := hk
  unfold setL succs
  rw [List.take_succ_eq_append_getElem hk, he, List.filter_append, List.map_append]
  by_cases ex : x = e.1
  · subst ex
    rw [if_pos rfl]
    simp
  · rw [if_neg ex]
    have : (e.1 == x) = false := by simp; exact fun h => ex h.symm
    simp [this]
/-- the graph in the making: rows of ints by key, each of its own -/
structure GB (w : World) (b lo n : Nat) (f : Int → Option Value) (ah : Int → List Int) : Prop where
  map : MapN Try.prog 3 w b n f
  lt : b < lo
  row : ∀ x, (f x = none ∧ ah x = []) ∨ ∃ v, f x = some v ∧ w.ownsRow lo 3 1 v (ah x).length ((ah x).map (.int .i64))
  apart : ∀ x y v u, ¬ x = y → f x = some v → f y = some u → v.ownBlock = none ∨ v.ownBlock ≠ u.ownBlock
theorem GB.next {w w' : World} {b lo n : Nat} {f : Int → Option Value} {ah : Int → List Int} (h : GB w b lo n f ah) (hb : Below w.heap.size w w') : GB w' b lo n f ah :=
  ⟨h.map.next hb, h.lt, fun x => (h.row x).imp id (fun ⟨v, h1, h2⟩ => ⟨v, h1, h2.kept (below_grown hb) own_ne⟩), h.apart⟩
theorem GB.at_ {w : World} {b lo n : Nat} {f : Int → Option Value} {ah : Int → List Int} (h : GB w b lo n f ah) (x : Int) : w.ownsRow lo 3 1 ((f x).getD (.slice none 0 0)) (ah x).length ((ah x).map (.int .i64)) := by
  rcases h.row x with ⟨h1, h2⟩ | ⟨v, h1, h2⟩
  · rw [h1, h2]
    exact World.ownsRow_nil _ _ _ _
  · rw [h1]
    exact h2
theorem GB.step {w w1 w2 : World} {b lo n n' : Nat} {f : Int → Option Value} {ah : Int → List Int} {x : Int} {l : List Int} {g cap : Nat} (h : GB w b lo n f ah)
    (hg : w.grownBy w1 ((f x).getD (.slice none 0 0)).ownBlock) (ho : w1.ownsRow lo 3 1 (.slice (some ⟨g, 0, none⟩) l.length cap) l.length (l.map (.int .i64)))
    (hloc : ((f x).getD (.slice none 0 0)).ownBlock = some g ∨ w.heap.size ≤ g) (hM : MapN Try.prog 3 w2 b n' (upd f x (some (.slice (some ⟨g, 0, none⟩) l.length cap)))) (hT : w1.mapTurned w2 b) :
    GB w2 b lo n' (upd f x (some (.slice (some ⟨g, 0, none⟩) l.length cap))) (setL ah x l) := by
  have hgT := turned_grown hT
  have hlt := h.lt
  refine ⟨hM, h.lt, fun y => ?_, fun y z v u hne hy hz => ?_⟩
  · by_cases e : y = x
    · subst e
      rw [setL_at]
      refine .inr ⟨_, by simp [upd], ho.kept hgT (.inr ?_)⟩
      intro e
      have := (ho.lt g rfl).1
      simp [Value.ownBlock] at e
      omega
    · rw [setL_ne e]
      rcases h.row y with ⟨h1, h2⟩ | ⟨v, h1, h2⟩
      · exact .inl ⟨by simp [upd, e, h1], h2⟩
      · refine .inr ⟨v, by simp [upd, e, h1], (h2.kept hg ?_).kept hgT ?_⟩
        · cases hx : f x with
          | none => simpa [Value.ownBlock] using own_ne (v := v)
          | some u => simpa using h.apart y x v u e h1 hx
        · cases hv : v.ownBlock with
          | none => exact .inl rfl
          | some k =>
            have := (h2.lt k hv).1
            refine .inr (fun e => ?_)
            injection e with e
            omega
  · by_cases ey : y = x
    · by_cases ez : z = x
      · exact absurd (ey.trans ez.symm) hne
      · simp [upd, ey] at hy
        simp [upd, ez] at hz
        subst hy
        refine .inr (fun e => ?_)
        have e : some g = u.ownBlock := e
        rcases hloc with hl | hl
        · cases hx : f x with
          | none => rw [hx] at hl; simp [Value.ownBlock] at hl
          | some v0 =>
            rw [hx] at hl
            have hl : v0.ownBlock = some g := hl
            rcases h.apart x z v0 u (fun e2 => ez e2.symm) hx hz with h1 | h1
            · rw [hl] at h1; cases h1
            · exact h1 (hl.trans e)
        · rcases h.row z with ⟨h1, _⟩ | ⟨u', h1, h2⟩
          · rw [h1] at hz; cases hz
          · rw [h1] at hz
            cases hz
            have := (h2.lt g e.symm).2
            omega
    · by_cases ez : z = x
      · simp [upd, ey] at hy
        simp [upd, ez] at hz
        subst hz
        cases hv : v.ownBlock with
        | none => exact .inl rfl
        | some k =>
          refine .inr (fun e => ?_)
          have e : some k = some g := e
          cases e
          rcases hloc with hl | hl
          · cases hx : f x with
            | none => rw [hx] at hl; simp [Value.ownBlock] at hl
            | some v0 =>
              rw [hx] at hl
              have hl : v0.ownBlock = some g := hl
              rcases h.apart y x v v0 ey hy hx with h1 | h1
              · rw [hv] at h1; cases h1
              · exact h1 (hv.trans hl.symm)
          · rcases h.row y with ⟨h1, _⟩ | ⟨u', h1, h2⟩
            · rw [h1] at hy; cases hy
            · rw [h1] at hy
              cases hy
              have := (h2.lt g hv).2
              omega
      · simp [upd, ey] at hy
        simp [upd, ez] at hz
        exact h.apart y z v u hne hy hz
/-- the graph, to read: rows of ints by key, in blocks behind b and before hi -/
def SlA (w : World) (lo hi : Nat) (A : Option Addr) (l : List Int) : Prop :=
  0 < l.length → ∃ g off, A = some ⟨g, off, none⟩ ∧ lo < g ∧ g < hi ∧ ∀ j, j < l.length → w.cell? ⟨g, off + j, none⟩ = some (.int .i64 (l.getD j 0))
structure SG (w : World) (b hi n : Nat) (f : Int → Option Value) (ah : Int → List Int) : Prop where
  map : MapN Try.prog 3 w b n f
  lt : b < hi
  le : hi ≤ w.heap.size
  row : ∀ x, (f x = none ∧ ah x = []) ∨ ∃ A c, f x = some (.slice A (ah x).length c) ∧ (ah x).length ≤ c ∧ c ≤ maxLen ∧ SlA w b hi A (ah x)
theorem GB.done {w : World} {b n : Nat} {f : Int → Option Value} {ah : Int → List Int} (h : GB w b (b + 1) n f ah) : SG w b w.heap.size n f ah := by
  refine ⟨h.map, h.map.lt, Nat.le_refl _, fun x => ?_⟩
  rcases h.row x with h0 | ⟨v, h1, h2⟩
  · exact .inl h0
  · rcases Go.Joins.ownsRow_forms h2 with ⟨rfl, h0⟩ | ⟨g, cap, rfl⟩
    · exact .inr ⟨none, 0, by rw [h0]; exact h1, by omega, by unfold maxLen; omega, fun hp => absurd hp (by omega)⟩
    · have hlt := h2.lt g rfl
      have hcap : (ah x).length ≤ cap ∧ cap ≤ maxLen := by
        rcases h2.2 with ⟨e, _⟩ | ⟨g', cap', cur, e, _, _, h3, h4, _⟩
        · cases e
        · cases e; exact ⟨h3, h4⟩
      refine .inr ⟨_, cap, h1, hcap.1, hcap.2, fun _ => ⟨g, 0, rfl, by omega, hlt.2, fun j hj => ?_⟩⟩
      rw [Nat.zero_add, h2.cellAt j (by simpa using hj), List.getElem?_map, List.getElem?_eq_getElem hj, List.getD_eq_getElem?_getD, List.getElem?_eq_getElem hj]
      rfl
def GraphOut (L : WL) (w : World) (e : Ending) (w' : World) : Prop :=
  ∃ n f, e = .returned (.map (some w.heap.size)) ∧ SG w' w.heap.size w'.heap.size n f (succs L) ∧ n ≤ L.length ∧ Below w.heap.size w w'

set_option maxHeartbeats 1600000 in
set_option maxRecDepth 100000 in
theorem graph_any (A : Option Addr) (c B : Nat) (L : WL) (w : World) (hB : B ≤ w.heap.size) (hn : L.length ≤ 1048576) (r : WAt w B A L) (hw : ∀ e, e ∈ L → wfI e.1 ∧ wfI e.2) :
    Calls Try.prog 139 #[.slice A L.length c] w (GraphOut L w) := by
  obtain ⟨i0, hi, hz0, hz1, hz2⟩ := info_parts infoIntR
  have Hi := Lib.hid hi
  have Hz0 := Lib.hid hz0
  have Hz1 := Lib.hid hz1
  have Hz2 := Lib.hid hz2
  clear hi hz0 hz1 hz2
  go_enter Try.func139, Try.ntmps139
  have hmm := @run_makeMap Try.prog
  go_wp2
  clear hmm
  have b0 := (Below.refl w.heap.size w).alloc (Nat.le_refl _) (.map #[] 0)
  have G0 : GB (w.alloc (.map #[] 0)) w.heap.size (w.heap.size + 1) 0 (fun _ => none) (succs (L.take 0)) := ⟨MapN.made Try.prog 3 w, Nat.lt_succ_self _, fun x => .inl ⟨rfl, by simp [succs]⟩, fun x y v u _ h => by cases h⟩
  have hz : w.heap.size < (w.alloc (.map #[] 0)).heap.size := by simp
  generalize w.alloc (.map #[] 0) = w1 at b0 G0 hz ⊢
  go_loopw [9] (fun i wr => ∃ (k n : Nat) (f : Int → Option Value), k ≤ L.length ∧ i = .int .i64 k ∧ GB wr w.heap.size (w.heap.size + 1) n f (succs (L.take k)) ∧ n ≤ k ∧ Below w.heap.size w wr ∧ w.heap.size < wr.heap.size) (fun i _ => L.length - (intOf i).toNat)
  case atStart => exact ⟨0, 0, _, Nat.zero_le _, rfl, G0, Nat.le_refl _, b0, hz⟩
  case round =>
    clear b0 G0 hz
    obtain ⟨k, n, f, hk, rfl, G, hnk, hb, hz⟩ := hrel
    have hsz := hb.size
    by_cases hkn : k < L.length
    · obtain ⟨b, off, hA, hbB, hc⟩ := (r.keep hb hB) (by omega)
      have hkz : (k : Int) < L.length := by omega
      have hget : L[k]? = some L[k] := List.getElem?_eq_getElem hkn
      generalize L[k] = e at hget
      obtain ⟨d0, d1⟩ := hc k e hget
      have hwe := hw e (List.mem_of_getElem? hget)
      have hkey := keyR_of hwe.1
      have HS := Lib.hid (succs_snoc hget)
      subst hA
      have hA := (Below.refl wr.heap.size wr).alloc (Nat.le_refl _) (.cells #[.int .i64 e.1, .int .i64 e.2] 138)
      have X := Bx.new (w := wr) (c := #[.int .i64 e.1, .int .i64 e.2]) (t := 138) rfl
      clear hc hget
      go_upto_region 5 with (fail)
      have HVL := Lib.hid (fun q (hq : ((f e.1).getD (.slice none 0 0)).ownBlock = some q) => (G.at_ e.1).lt q hq)
      have G2 := G.next hA
      have hb2 := hb.trans (hA.mono hsz)
      have hz2 := Nat.lt_of_lt_of_le hz hA.size
      have hlw2 : wr.heap.size < (wr.alloc (.cells #[.int .i64 e.1, .int .i64 e.2] 138)).heap.size := X.lt
      clear hA G hb
      generalize wr.alloc (.cells #[.int .i64 e.1, .int .i64 e.2] 138) = w2 at X G2 hb2 hz2 hlw2 ⊢
      have hD := (Below.refl w2.heap.size w2).drew
      have GD := G2.next hD
      have HB := Lib.hid hb2.drew
      have X2 := X.drew
      have HS0 := Lib.hid (And.intro X2.c2.1.1 (And.intro X2.c2.1.2 GD.map))
      have HLook := Lib.hid (show ∀ W, MapN Try.prog 3 W w.heap.size n f → (Instr.lookup 187 (.map (some w.heap.size)) (.int .i64 e.1) false).run Try.prog W = .ok ((f e.1).getD (.slice none 0 0)) W from fun W hm => (hm.look keyR Try.underlying187 (zeroR W) hkey).1)
      have HG := Lib.hid GD
      have HX := Lib.hid X2
      clear hD G2 GD X X2 hb2 d0 d1
      refine wp_region_last (S := fun W => W.cell? ⟨wr.heap.size, 0, none⟩ = some (.int .i64 e.1) ∧ W.cell? ⟨wr.heap.size, 1, none⟩ = some (.int .i64 e.2) ∧ MapN Try.prog 3 W w.heap.size n f) (by kernel_rfl) 11 (by kernel_rfl) (by kernel_rfl) (by kernel_rfl) (by kernel_rfl) HS0.out (m := 11) rfl (fun hHeld => ?_)
      have hzd : w.heap.size < w2.drew.heap.size := hz2
      have hld : wr.heap.size < w2.drew.heap.size := hlw2
      clear hz2 hlw2
      generalize w2.drew = wd at HG HB HX HS0 hHeld hzd hld ⊢
      refine takeH 0 13 (v := ?v0) rfl rfl (by kernel_rfl) (by kernel_rfl) (by kernel_rfl) (fun _ _ _ h => h) (by rfl) ?hy0 hHeld ?rest0
      case hy0 => intro W hSw; obtain ⟨s0, s1, s2⟩ := hSw; clear s2; go_simp; (try with_reducible rfl)
      simp only [Act.put, List.setIfInBounds_toArray, List.set]
      refine takeH 1 14 (v := ?v1) rfl rfl (by kernel_rfl) (by kernel_rfl) (by kernel_rfl) (fun _ _ _ h => h) (by rfl) ?hy1 hHeld ?rest1
      case hy1 => intro W hSw; obtain ⟨s0, s1, s2⟩ := hSw; clear s2; go_simp; (try with_reducible rfl)
      simp only [Act.put, List.setIfInBounds_toArray, List.set]
      refine takeH 2 15 (v := ?v2) rfl rfl (by kernel_rfl) (by kernel_rfl) (by kernel_rfl) (fun _ _ _ h => h) (by rfl) ?hy2 hHeld ?rest2
      case hy2 => intro W hSw; obtain ⟨s0, s1, s2⟩ := hSw; clear s2; go_simp; (try with_reducible rfl)
      simp only [Act.put, List.setIfInBounds_toArray, List.set]
      refine takeH 3 16 (v := ?v3) rfl rfl (by kernel_rfl) (by kernel_rfl) (by kernel_rfl) (fun _ _ _ h => h) (by rfl) ?hy3 hHeld ?rest3
      case hy3 => intro W hSw; obtain ⟨s0, s1, s2⟩ := hSw; clear s2; go_simp; (try with_reducible rfl)
      simp only [Act.put, List.setIfInBounds_toArray, List.set]
      refine takeH 4 17 (v := ?v4) rfl rfl (by kernel_rfl) (by kernel_rfl) (by kernel_rfl) (fun _ _ _ h => h) (by rfl) ?hy4 hHeld ?rest4
      case hy4 => intro W hSw; obtain ⟨s0, s1, s2⟩ := hSw; clear s2; go_simp; (try with_reducible rfl)
      simp only [Act.put, List.setIfInBounds_toArray, List.set]
      refine takeH 5 18 (v := ?v5) rfl rfl (by kernel_rfl) (by kernel_rfl) (by kernel_rfl) (fun _ _ _ h => h) (by rfl) ?hy5 hHeld ?rest5
      case hy5 => intro W hSw; obtain ⟨s0, s1, s2⟩ := hSw; clear s2; go_simp; (try with_reducible rfl)
      simp only [Act.put, List.setIfInBounds_toArray, List.set]
      refine takeH 6 19 (v := ?v6) rfl rfl (by kernel_rfl) (by kernel_rfl) (by kernel_rfl) (fun _ _ _ h => h) (by rfl) ?hy6 hHeld ?rest6
      case hy6 => intro W hSw; obtain ⟨s0, s1, s2⟩ := hSw; have hlw := HLook.out W s2; clear s2; go_simp; (try with_reducible rfl)
      simp only [Act.put, List.setIfInBounds_toArray, List.set]
      refine takeH 7 20 (v := ?v7) rfl rfl (by kernel_rfl) (by kernel_rfl) (by kernel_rfl) (fun _ _ _ h => h) (by rfl) ?hy7 hHeld ?rest7
      case hy7 => intro W hSw; obtain ⟨s0, s1, s2⟩ := hSw; clear s2; go_simp; (try with_reducible rfl)
      simp only [Act.put, List.setIfInBounds_toArray, List.set]
      refine takeH 8 21 (v := ?v8) rfl rfl (by kernel_rfl) (by kernel_rfl) (by kernel_rfl) (fun _ _ _ h => h) (by rfl) ?hy8 hHeld ?rest8
      case hy8 => intro W hSw; obtain ⟨s0, s1, s2⟩ := hSw; clear s2; go_simp; (try with_reducible rfl)
      simp only [Act.put, List.setIfInBounds_toArray, List.set]
      have HL := Lib.hid (HG.out.at_ e.1)
      have hll : (succs (L.take k) e.1).length ≤ 1048576 := by
        have := succs_len (L := L.take k) e.1
        rw [List.length_take] at this
        omega
      generalize hv : (f e.1).getD (.slice none 0 0) = v at HL ⊢
      have HV := Lib.hid hv
      rw [hv] at HVL
      clear hv
      refine wpAnyH_ready (rs := [9]) (by kernel_rfl) (by simp) ?_
      refine AllReadyH.cons rfl (fun K hK => ?_) AllReadyH.nil
      go_simp
      have hA := (Below.refl wd.heap.size wd).alloc (Nat.le_refl _) (.cells #[.int .i64 e.2] 3)
      have G3 := Lib.hid (HG.out.next hA)
      have HB3 := Lib.hid (HB.out.trans (hA.mono HB.out.size))
      have X3 := HX.out.next hA
      have HS3 := Lib.hid (And.intro X3.c2.1.1 (And.intro X3.c2.1.2 G3.out.map))
      have HL3 := Lib.hid (HL.out.alloc (.cells #[.int .i64 e.2] 3))
      have HN3 := Lib.hid (cell_one_new wd (.int .i64 e.2) 3)
      have hz3 : w.heap.size < (wd.alloc (.cells #[.int .i64 e.2] 3)).heap.size := Nat.lt_of_lt_of_le hzd hA.size
      have hl3 : wr.heap.size < (wd.alloc (.cells #[.int .i64 e.2] 3)).heap.size := Nat.lt_of_lt_of_le hld hA.size
      have hgz := World.grownBy_alloc wd (.cells #[.int .i64 e.2] 3) v.ownBlock
      have hzw : wd.heap.size ≤ (wd.alloc (.cells #[.int .i64 e.2] 3)).heap.size := hA.size
      clear hA HX X3 HS0 hHeld
      refine hK.out _ _ HS3.out (fun hHeld => ?_)
      clear hK K
      generalize wd.alloc (.cells #[.int .i64 e.2] 3) = w3 at G3 HB3 HS3 HL3 HN3 hz3 hHeld hgz hl3 hzw ⊢
      refine wpAnyH_ready (rs := [10]) (by kernel_rfl) (by simp) ?_
      refine AllReadyH.cons rfl (fun K hK => ?_) AllReadyH.nil
      refine step_append_lies _ rfl _ _ 26 rfl (w.heap.size + 1) 3 i0 (.int .i64 0) 1 8 Try.underlying26 Hi.out Hz0.out Hz1.out Hz2.out rfl (by decide) v (succs (L.take k) e.1).length ((succs (L.take k) e.1).map (.int .i64)) (by simp [Act.eval]) HL3.out ⟨wd.heap.size, 0, none⟩ 1 1 [.int .i64 e.2] (by simp [Act.eval]) rfl HN3.out (fun u hu => by simp at hu; subst hu; rfl) (by decide) (by unfold maxLen; omega) (by omega) (by omega) w3.heap.size rfl ?_
      intro g cap w4 hown4 hgrow hat hlt4
      have hne1 : ∀ q, w.heap.size + 1 ≤ q → wr.heap.size ≤ q → some q ≠ v.ownBlock := fun q _ h2 e1 => by
        have := (HVL.out q e1.symm).2
        omega
      have hnb : some w.heap.size ≠ v.ownBlock := fun e1 => by
        have := (HVL.out _ e1.symm).1
        omega
      have hwr3 : wr.heap.size < w3.heap.size := hl3
      have M4 := G3.out.map.kept hgrow hnb
      have HS4 := Lib.hid (And.intro ((hgrow.cell_far ⟨wr.heap.size, 0, none⟩ hwr3 (hne1 _ hz (Nat.le_refl _))).trans HS3.out.1) (And.intro ((hgrow.cell_far ⟨wr.heap.size, 1, none⟩ hwr3 (hne1 _ hz (Nat.le_refl _))).trans HS3.out.2.1) M4))
      have HB4 := Lib.hid (HB3.out.grown hgrow (by omega) (fun q hq => by have := (HVL.out q hq).1; omega))
      have hl1 : (succs (L.take k) e.1 ++ [e.2]).length = (succs (L.take k) e.1).length + 1 := by simp
      have hown5 : w4.ownsRow (w.heap.size + 1) 3 1 (.slice (some ⟨g, 0, none⟩) (succs (L.take k) e.1 ++ [e.2]).length cap) (succs (L.take k) e.1 ++ [e.2]).length ((succs (L.take k) e.1 ++ [e.2]).map (.int .i64)) := by
        rw [hl1, List.map_append]
        exact hown4
      obtain ⟨w5, hrun, M5, hT5⟩ := M4.store keyR Try.underlying187 (show n < maxLen by unfold maxLen; omega) hkey (.slice (some ⟨g, 0, none⟩) ((succs (L.take k) e.1).length + 1) cap)
      have HG5 : GB w5 w.heap.size (w.heap.size + 1) (if (f e.1).isSome then n else n + 1) (upd f e.1 (some (.slice (some ⟨g, 0, none⟩) (succs (L.take k) e.1 ++ [e.2]).length cap))) (succs (L.take (k + 1))) := by
        rw [funext HS.out]
        refine GB.step (x := e.1) HG.out ?_ hown5 ?_ (by rw [hl1]; exact M5) hT5
        · rw [HV.out]
          exact hgz.trans hgrow
        · rw [HV.out]
          exact hat.imp id (fun h => by omega)
      have HG6 := Lib.hid HG5
      have HB5 := Lib.hid (below_turned HB4.out hT5 (Nat.le_refl _))
      have hz5 : w.heap.size < w5.heap.size := Nat.lt_of_lt_of_le (show w.heap.size < w4.heap.size by have := hgrow.size; omega) (turned_grown hT5).size
      have hn5 : (if (f e.1).isSome then n else n + 1) ≤ k + 1 := by split <;> omega
      refine hK.out _ _ HS4.out (fun hHeld => ?_)
      clear hK K hHeld M4 M5 hT5 HG5 hown4 hown5 hgrow hat HS3 HS4 HL3 HN3 hnb hne1 HVL HV HL HLook
      refine wpAnyH_done (by kernel_rfl) ?_ _
      refine lastH rfl (fun K hK => ?_)
      go_simp
      refine hK _ _ ?_
      clear hK K hrun
      go_wp2
      exact ⟨⟨k + 1, _, _, by omega, by go_num, HG6.out, hn5, HB5.out, hz5⟩, by simp [intOf]; omega⟩
    · obtain rfl : k = L.length := by omega
      rw [List.take_length] at G
      have HG := Lib.hid G.done
      clear G
      go_wp2
      go_ret
      exact ⟨n, f, rfl, HG.out, hnk, hb⟩
end Go.Proofs.Ytomkfldimkpmdaa
