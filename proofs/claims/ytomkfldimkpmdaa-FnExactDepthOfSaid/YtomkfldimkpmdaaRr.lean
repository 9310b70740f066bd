/- Wait graphs: the program's waitDepths. -/
import Derived.Test.YtomkfldimkpmdaaRq
import Derived.ScopeJumps
namespace Go.Proofs.Ytomkfldimkpmdaa
open Go.RowKit
open Go.Maps (Keyed)

theorem wp_scope_thru {P : Program} {a : Go.Act} {w : World} {Q : Exit → Go.Act → World → Prop} {c : Code} (l : Nat) (hf : findLabel c l = none) (h : c.wp P (Exit.jump l (fun a w => Q (.goto l) a w) Q) a w) : (Code.scope c).wp P Q a w := by
  intro b k cs
  obtain ⟨e, a₁, w₁, hq, harr⟩ := h b (.inScope c :: k) cs
  cases e with
  | normal => exact ⟨.normal, a₁, w₁, hq, .head step_scope (Steps.trans harr (.one step_inScope))⟩
  | exit id => exact ⟨.exit id, a₁, w₁, hq, fun k' hk => .head step_scope (harr k' (by simp [exitTo, hk]))⟩
  | goto l' =>
    obtain ⟨rfl, hq⟩ := hq
    exact ⟨.goto l', a₁, w₁, hq, fun k' hk => .head step_scope (harr k' (by simp [gotoIn, hf, hk]))⟩
  | ret => exact ⟨_, a₁, w₁, hq, .of_steps (.one step_scope) harr⟩
  | panic ch => exact ⟨_, a₁, w₁, hq, .of_steps (.one step_scope) harr⟩
  | outgrown => exact ⟨_, a₁, w₁, hq, .of_steps (.one step_scope) harr⟩
theorem concat_cases {α : Type} (P : List α) : P = [] ∨ ∃ Q f, P = Q ++ [f] := by
  rcases List.eq_nil_or_concat P with h | ⟨Q, f, h⟩
  · exact .inl h
  · exact .inr ⟨Q, f, by simpa using h⟩
theorem wd_start {L : WL} {bA nA : Nat} {w : World} {fA : Int → Option Value} (S : SG w bA w.heap.size nA fA (succs L)) (hnA : nA ≤ L.length) : WS L bA w.heap.size ((w.alloc (.map #[] 0)).alloc (.map #[] 0)) (succs L) (fun _ => 0) (fun _ => 0) 0 := by
  have hb := ((Below.refl w.heap.size w).alloc (Nat.le_refl _) (.map #[] 0)).alloc (by simp) (.map #[] 0)
  refine ⟨⟨nA, fA, hnA, S.kept (below_grown hb) (by simp) (fun g _ _ => by simp)⟩, ⟨0, _, by have := sumA_start L; omega, (MapN.made Try.prog 3 w).next ((Below.refl _ _).alloc (Nat.le_refl _) _), fun _ => rfl⟩, ⟨_, by simpa using MapN.made Try.prog 3 (w.alloc (.map #[] 0)), fun _ => rfl⟩, fun x => by have := sumA_start L; omega⟩
theorem srch_start (L : WL) : Srch L (succs L) (fun _ => 0) (fun _ => 0) [] :=
  ⟨fun x => ⟨[], rfl, fun y h => (by cases h), .inl rfl⟩, fun x h => (by cases h), fun _ => Nat.zero_le _, fun x h => (by cases h), fun x h => (by cases h), List.nodup_nil, trivial, fun x h => (by cases h)⟩
theorem srch_one {L : WL} {ah : Int → List Int} {v dd : Int → Nat} {s : Int} (h : Srch L ah v dd []) (h0 : v s = 0) (hs : s ∈ L.map (·.1)) : Srch L ah v dd [s] :=
  ⟨h.done, h.full, h.le2, fun x hx => (by have := h.on x hx; cases this), fun x hx => (by rw [List.mem_singleton.1 hx]; omega), (by simp), trivial, fun x hx => by rw [List.mem_singleton.1 hx]; exact List.mem_append_left _ hs⟩
theorem srch_end {L : WL} {ah : Int → List Int} {v dd : Int → Nat} (h : Srch L ah v dd []) (hv : ∀ j e, j < L.length → L[j]? = some e → v e.1 = 2) : ¬ Ring L ∧ ∀ x, IsDep L x (dd x) := by
  have h1 := h.all_done (fun x hx => by
    obtain ⟨e, he, rfl⟩ := List.mem_map.1 hx
    obtain ⟨j, hj⟩ := List.getElem?_of_mem he
    exact hv j e (List.getElem?_eq_some_iff.1 hj).1 hj)
  exact ⟨dep_noring h1.1, fun x => dep_isdep h1.1 h1.2 x⟩
theorem srch_val {L : WL} {ah : Int → List Int} {v dd : Int → Nat} (h : Srch L ah v dd []) (x : Int) : v x = 0 ∨ v x = 2 := by
  have := h.le2 x
  by_cases e : v x = 1
  · have := h.on x e; cases this
  · omega
theorem set2 {v : Int → Nat} {f x : Int} (h : v x = 2) : setN (setN v f 1) f 2 x = 2 := by
  by_cases e : x = f
  · subst e; exact setN_at ..
  · rw [setN_ne e, setN_ne e]; exact h
theorem lenW_is {b n l c : Nat} {w : World} {f : Int → Option Value} {A : Option Addr} {x : Int} (hM : MapN Try.prog 3 w b n f) (hx : wfI x) (h : (f x).getD (.slice none 0 0) = .slice A l c) : lenW b w x = l := by
  unfold lenW
  rw [(hM.look keyR Try.underlying187 (zeroR w) (keyR_of hx)).1, h]
/-- all of the path but its last are entered -/
def Ent (v : Int → Nat) (P : List Int) : Prop := ∀ Q f, P = Q ++ [f] → ∀ x, x ∈ Q → v x = 1
theorem ent_one (v : Int → Nat) (s : Int) : Ent v [s] := fun Q f h x hx => by
  cases Q with
  | nil => cases hx
  | cons a Q => simp at h
theorem ent_all {v : Int → Nat} {Q : List Int} {f : Int} (h : Ent v (Q ++ [f])) : ∀ x, x ∈ Q ++ [f] → setN v f 1 x = 1 := fun x hx => by
  by_cases e : x = f
  · subst e; exact setN_at ..
  · rw [setN_ne e]
    rcases List.mem_append.1 hx with h1 | h1
    · exact h Q f rfl x h1
    · exact absurd (List.mem_singleton.1 h1) e
theorem ent_push {v : Int → Nat} {P : List Int} {t : Int} (h : ∀ x, x ∈ P → v x = 1) : Ent v (P ++ [t]) := fun Q f e x hx => by
  have := List.append_inj' e rfl
  rw [← this.1] at hx
  exact h x hx
theorem ent_leave {v : Int → Nat} {Q : List Int} {f : Int} (h : ∀ x, x ∈ Q ++ [f] → v x = 1) (hn : (Q ++ [f]).Nodup) : Ent (setN v f 2) Q := fun R g e x hx => by
  have hne : x ≠ f := fun e2 => by
    have := (List.nodup_append.1 hn).2.2 x (by rw [e]; exact List.mem_append_left _ hx) f (by simp)
    exact this e2
  rw [setN_ne hne]
  exact h x (List.mem_append_left _ (by rw [e]; exact List.mem_append_left _ hx))
set_option maxHeartbeats 6400000 in
set_option maxRecDepth 100000 in
theorem depths_any (A : Option Addr) (c B : Nat) (L : WL) (w : World) (hB : B ≤ w.heap.size) (hn : L.length ≤ 1048576) (r : WAt w B A L) (hw : ∀ e, e ∈ L → wfI e.1 ∧ wfI e.2) :
    Calls Try.prog 92 #[.slice A L.length c] w (WDOut L w) := by
  obtain ⟨i0, hi, hz0, hz1, hz2⟩ := info_parts infoIntR
  have Hi := Lib.hid hi
  have Hz0 := Lib.hid hz0
  have Hz1 := Lib.hid hz1
  have Hz2 := Lib.hid hz2
  have HW := Lib.hid hw
  clear hi hz0 hz1 hz2 hw
  go_enter Try.func92, Try.ntmps92
  go_wp2_with fail
  refine wp_scope_jumps 0 (fun a2 w2 => ∃ t : Array Value, a2 = ⟨t, []⟩ ∧ t.size = 87 ∧ Ring L ∧ Below w.heap.size w w2) (fun _ _ => 0) (by rfl) ?first ?pass
  case pass =>
    rintro a2 w2 ⟨t, rfl, hsz, hR, hb⟩
    go_wp2
    simp only [Exit.jump]
    go_ret2
    refine ⟨hb, .inl ⟨hR, ?_⟩⟩
    simp [hsz]
  go_wp2_with fail
  (with_reducible refine (graph_any A c B L _ hB hn r HW.out).mono ?_); rintro o w1 ⟨nA, fA, rfl, SGr, hnA, hb1⟩
  have hmm := @run_makeMap Try.prog
  have S0 := wd_start SGr hnA
  have hb2 := (hb1.alloc hb1.size (.map #[] 0)).alloc (Nat.le_trans hb1.size (by simp)) (.map #[] 0)
  have hz0 : w1.heap.size + 2 ≤ ((w1.alloc (.map #[] 0)).alloc (.map #[] 0)).heap.size := by simp
  go_wp2
  clear hmm
  have hlo := hb1.size
  generalize hhi : w1.heap.size = hi at S0 hlo hz0 ⊢
  clear SGr hb1 hhi
  generalize (w1.alloc (.map #[] 0)).alloc (.map #[] 0) = w2 at S0 hb2 hz0 ⊢
  go_loopw [18] (fun i wr => ∃ (k nV : Nat) (ah : Int → List Int) (v dd : Int → Nat), k ≤ L.length ∧ i = .int .i64 k ∧ Hid (WS L w.heap.size hi wr ah v dd nV) ∧ Hid (Srch L ah v dd []) ∧ Hid (∀ j e, j < k → L[j]? = some e → v e.1 = 2) ∧ Hid (nV + 2 * MM L v 0 ≤ 20 * L.length + 2) ∧ Below w.heap.size w wr ∧ hi + 2 ≤ wr.heap.size) (fun i _ => L.length - (intOf i).toNat)
  case atStart => exact ⟨0, 0, _, _, _, Nat.zero_le _, rfl, Lib.hid S0, Lib.hid (srch_start L), Lib.hid (fun j e hj => absurd hj (by omega)), Lib.hid (by have := sumV_start L; unfold MM; omega), hb2, hz0⟩
  case round =>
    clear S0 hb2 hz0
    obtain ⟨k, nV, ah, v, dd, hk, rfl, HS, HR, HV, HM, hb, hz⟩ := hrel
    have hsz := hb.size
    by_cases hkn : k < L.length
    · obtain ⟨b, off, hA, hbB, hc⟩ := (r.keep hb hB) (by omega)
      have hkz : (k : Int) < L.length := by omega
      have hget : L[k]? = some L[k] := List.getElem?_eq_getElem hkn
      generalize L[k] = e at hget
      obtain ⟨d0, d1⟩ := hc k e hget
      subst hA
      have HG := Lib.hid hget
      have hkey := keyR_of (HW.out e (List.mem_of_getElem? hget)).1
      have hA := (Below.refl wr.heap.size wr).alloc (Nat.le_refl _) (.cells #[.int .i64 e.1, .int .i64 e.2] 138)
      have HS2 := Lib.hid (HS.out.kept (below_grown hA) (fun g h => by cases h))
      have hb2 := hb.trans (hA.mono hsz)
      have hz2 : hi + 2 ≤ (wr.alloc (.cells #[.int .i64 e.1, .int .i64 e.2] 138)).heap.size := Nat.le_trans hz hA.size
      have X := Bx.new (w := wr) (c := #[.int .i64 e.1, .int .i64 e.2]) (t := 138) rfl
      clear hc hget hA
      go_upto_region 6 with (fail)
      generalize wr.alloc (.cells #[.int .i64 e.1, .int .i64 e.2] 138) = w3 at HS2 hb2 hz2 X ⊢
      obtain ⟨⟨x0, x1⟩, _⟩ := X.c2
      have Xl := X.lt
      obtain ⟨fV, MV, hvV⟩ := HS2.out.mV
      have hv0 := hvV e.1
      clear d0 d1 HS hb
      refine wp_scope_thru 0 (by rfl) ?_
      rcases srch_val HR.out e.1 with h0 | h0
      · have H0 := Lib.hid h0
        rw [h0] at hv0
        have HV0 := Lib.hid (show (fV e.1).getD (.int .i64 0) = .int .i64 0 from hv0)
        clear hv0 h0
        have OW := own_one (w := w3) (base := hi + 2) (x := .int .i64 e.1) (t := 3) hz2 rfl
        have hA := (Below.refl w3.heap.size w3).alloc (Nat.le_refl _) (.cells #[.int .i64 e.1] 3)
        have HS3 := Lib.hid (HS2.out.kept (below_grown hA) (fun g h => by cases h))
        have hb3 := hb2.trans (hA.mono hb2.size)
        have hz3 : hi + 2 ≤ (w3.alloc (.cells #[.int .i64 e.1] 3)).heap.size := Nat.le_trans hz2 hA.size
        clear hA HS2 hb2
        have hes : e.1 ∈ L.map (·.1) := List.mem_map.2 ⟨e, List.mem_of_getElem? HG.out, rfl⟩
        have HR1 := Lib.hid (srch_one HR.out H0.out hes)
        have HM1 := Lib.hid (show nV + 2 * MM L v 1 ≤ 20 * L.length + 2 by have := HM.out; have := mm_one L v; omega)
        clear hes HR HM
        go_wp2_with (first | (at_lookup; refine wp_look _ rfl _ _ rfl keyR Try.underlying141 (zeroRI _) rfl MV e.1 rfl hkey (.int .i64 0) HV0.out ?_) | fail)
        go_step3
        go_wp2_with fail
        clear MV HV0 X x0 x1 Xl
        generalize w3.alloc (.cells #[.int .i64 e.1] 3) = w4 at OW HS3 hb3 hz3 ⊢
        go_loopw [9] (fun p wr => ∃ (nV : Nat) (ah : Int → List Int) (v dd : Int → Nat) (P : List Int), Hid (WS L w.heap.size hi wr ah v dd nV) ∧ Hid (Srch L ah v dd P) ∧ wr.ownsRow (hi + 2) 3 1 p P.length (P.map (.int .i64)) ∧ Hid (Ent v P) ∧ Hid (∀ j x, j < k → L[j]? = some x → v x.1 = 2) ∧ Hid (e.1 ∈ P ∨ v e.1 = 2) ∧ Hid (nV + 2 * MM L v P.length ≤ 20 * L.length + 2) ∧ Below w.heap.size w wr ∧ hi + 2 ≤ wr.heap.size) (fun p wr => MW L (hi + 1) wr (lenV p))
        case atStart => exact ⟨nV, ah, v, dd, [e.1], HS3, HR1, by simpa using OW, Lib.hid (ent_one v e.1), HV, Lib.hid (.inl (by simp)), HM1, hb3, hz3⟩
        case round =>
          clear OW HS3 hb3 hz3 HR1 HM1 H0 HV
          clear hvV
          clear nV ah v dd
          obtain ⟨nV, ah, v, dd, P, HS, HR, hown, HE, HV, HF, HM, hb, hz⟩ := hrel
          have hsz := hb.size
          rcases concat_cases P with rfl | ⟨Q, f, rfl⟩
          · have HV := Lib.hid (show ∀ j x, j < k + 1 → L[j]? = some x → v x.1 = 2 from fun j x hj hx => by
              by_cases ej : j = k
              · subst ej
                rw [HG.out] at hx
                cases hx
                rcases HF.out with h | h
                · cases h
                · exact h
              · exact HV.out j x (by omega) hx)
            obtain ⟨X, C, rfl⟩ := sl_form hown
            clear hown
            go_wp2
            refine (‹∀ (a : Go.Act) (w : World), Code.wp _ _ _ a w → _›) _ _ ?_
            go_wp2
            exact ⟨⟨k + 1, nV, ah, v, dd, by omega, by go_num, HS, HR, HV, HM, hb, hz⟩, by simp [intOf]; omega⟩
          · have hl : (Q ++ [f]).length = Q.length + 1 := by simp
            have hpl := path_len HR.out
            obtain ⟨g, cap, rfl⟩ := Go.Joins.ownsRow_form hown (by omega)
            rw [hl] at hown hpl ⊢
            have hgl := (hown.lt g rfl)
            have hfs : f ∈ vset L := HR.out.seen f (by simp)
            have hkf := keyR_of (wf_vset HW.out hfs)
            have d9 : wr.cell? ⟨g, Q.length, none⟩ = some (.int .i64 f) := by
              rw [hown.cellAt Q.length (by omega), List.getElem?_map]
              simp
            obtain ⟨fV, MV, hvV⟩ := HS.out.mV
            have HW0 := Lib.hid (MW_is HW.out MV hvV (Q.length + 1))
            have HVV := Lib.hid hvV
            have HMM := Lib.hid (show nV + 2 * MM L v (Q.length + 1) ≤ 20 * L.length + 2 by have := HM.out; rw [hl] at this; exact this)
            have hnV : nV ≤ 20971522 := by have := HMM.out; omega
            have HFS := Lib.hid hfs
            have hvf : v f ≤ 1 := by have := HR.out.le2 f; have := HR.out.no2 f (by simp); omega
            clear hvV HM hfs
            have HOWN := Lib.hid hown
            have HQ : ∃ q, q = Q.length := ⟨_, rfl⟩
            obtain ⟨q, hq⟩ := HQ
            rw [← hq] at d9 hpl ⊢
            have HQ := Lib.hid hq
            clear hq hown hl
            have hqi : (q : Int) ≤ 2097152 := by omega
            go_wp2_with (first | (at_mapUpdate; refine wp_store _ rfl _ _ _ rfl keyR Try.underlying141 rfl MV (by unfold maxLen; omega) f rfl hkf (.int .i64 1) rfl ?_; intro w5 hM5 hT5) | fail)
            go_frame
            have HS5 := Lib.hid (HS.out.visit hT5 hM5 (HVV.out.upd f 1))
            have hg5 := turned_grown hT5
            have hown5 := HOWN.out.kept hg5 (.inr (by simp [Value.ownBlock]; omega))
            have hb5 := below_turned hb hT5 (by omega)
            have hz5 : hi + 2 ≤ w5.heap.size := Nat.le_trans hz hg5.size
            have HR5 := Lib.hid HR.out.enter
            have HA1 := Lib.hid (ent_all HE.out)
            have hn5 : (if (fV f).isSome then nV else nV + 1) ≤ nV + 1 := by split <;> omega
            generalize (if (fV f).isSome then nV else nV + 1) = nV5 at HS5 hn5
            clear hT5 hM5 hg5 HOWN MV d9 HS HR hb
            go_loopw [9, 11] (fun p _ wr => ∃ (ah : Int → List Int) (dd : Int → Nat), p = .slice (some ⟨g, 0, none⟩) (q + 1) cap ∧ Hid (WS L w.heap.size hi wr ah (setN v f 1) dd nV5) ∧ Hid (Srch L ah (setN v f 1) dd (Q ++ [f])) ∧ wr.ownsRow (hi + 2) 3 1 (.slice (some ⟨g, 0, none⟩) (Q.length + 1) cap) (Q.length + 1) ((Q ++ [f]).map (.int .i64)) ∧ Below w.heap.size w wr ∧ hi + 2 ≤ wr.heap.size) (fun _ _ wr => lenW w.heap.size wr f)
            case atStart => exact ⟨ah, dd, rfl, HS5, HR5, hown5, hb5, hz5⟩
            case round =>
              clear HS5 HR5 hown5 hb5 hz5 hz hsz hgl
              clear ah dd
              obtain ⟨ah, dd, rfl, HS, HR, hown, hb, hz⟩ := hrel
              have hsz := hb.size
              have hgl := (hown.lt g rfl)
              have hcap : Q.length + 1 ≤ cap := by
                rcases hown.2 with ⟨e0, _⟩ | ⟨g', cap', cur, e0, _, _, h3, _⟩
                · cases e0
                · cases e0; exact h3
              rw [← HQ.out] at hcap
              have hcz : (q : Int) ≤ cap := by omega
              obtain ⟨nA, fA, hnA, SA⟩ := HS.out.sg
              obtain ⟨nD, fD, hnD, MD, hvD⟩ := HS.out.mD
              obtain ⟨fV5, MV, hvV⟩ := HS.out.mV
              obtain ⟨A3, c3, hget3, hlc, hcm, hsl⟩ := SA.at_ f
              have MA := SA.map
              have hnn : L.length * L.length ≤ 1099511627776 := Nat.mul_le_mul hn hn
              have hd1 := HS.out.hD f
              have hV5 : nV5 < maxLen := by unfold maxLen; omega
              have HVD := Lib.hid hvD
              have HVV5 := Lib.hid hvV
              have HSA := Lib.hid SA
              have HVK := Lib.hid (show ∀ x, v x = 2 → setN v f 1 x = 2 from fun x hx => by rw [setN_ne (fun e => by subst e; omega)]; exact hx)
              have HPL := Lib.hid hpl
              clear hvD hvV SA
              cases ha : ah f with
              | nil =>
                rw [ha] at hget3
                have HL3 := Lib.hid (show (fA f).getD (.slice none 0 0) = .slice A3 0 c3 from hget3)
                have HA := Lib.hid ha
                have HO := Lib.hid hown
                clear hget3 hlc hsl ha hown
                go_wp2_with (first | (at_lookup; refine wp_look _ rfl _ _ rfl keyR Try.underlying187 (zeroR _) rfl MA f rfl hkf (.slice A3 0 c3) HL3.out ?_) | (at_mapUpdate; refine wp_store _ rfl _ _ _ rfl keyR Try.underlying141 rfl MV (hV5) f rfl hkf (.int .i64 2) rfl ?_; intro w6 hM6 hT6) | fail)
                have hg6 := turned_grown hT6
                have HS6 := Lib.hid (HS.out.visit hT6 hM6 (HVV5.out.upd f 2))
                have hown6 := HO.out.kept hg6 (.inr (by simp [Value.ownBlock]; omega))
                have hown7 : w6.ownsRow (hi + 2) 3 1 (.slice (some ⟨g, 0, none⟩) q cap) Q.length (Q.map (.int .i64)) := by
                  rw [HQ.out]
                  exact ownsRow_pop (last := [.int .i64 f]) (by simp) (by simpa using hown6)
                have HR6 := Lib.hid (HR.out.leave HA.out)
                have hn6 : (if (fV5 f).isSome then nV5 else nV5 + 1) ≤ nV5 + 1 := by split <;> omega
                have hml := mm_leave (L := L) hvf HFS.out (len := Q.length) (by have := HPL.out; have := HQ.out; omega)
                have hmw := MW_is HW.out hM6 (HVV5.out.upd f 2) Q.length
                generalize (if (fV5 f).isSome then nV5 else nV5 + 1) = nV6 at HS6 hn6
                have HM6 := Lib.hid (show nV6 + 2 * MM L (setN (setN v f 1) f 2) Q.length ≤ 20 * L.length + 2 by have := HMM.out; omega)
                exact ⟨⟨nV6, ah, setN (setN v f 1) f 2, dd, Q, HS6, HR6, hown7, Lib.hid (ent_leave HA1.out HR.out.nd), Lib.hid (fun j x hj hx => set2 (HV.out j x hj hx)), Lib.hid (by
                  rcases HF.out with h | h
                  · rcases List.mem_append.1 h with h | h
                    · exact .inl h
                    · exact .inr (by rw [List.mem_singleton.1 h]; exact setN_at ..)
                  · exact .inr (set2 h)), HM6, below_turned hb hT6 (by omega), Nat.le_trans hz hg6.size⟩, by
                  show MW L (hi + 1) w6 q < MW L (hi + 1) _ (q + 1)
                  rw [HQ.out, HW0.out, hmw]
                  omega⟩
              | cons t rest =>
                rw [ha] at hget3 hlc hsl
                obtain ⟨g3, off3, rfl, hg3, hg4, hc3⟩ := hsl (by simp)
                have het := HR.out.edge ha
                have hts : t ∈ vset L := List.mem_append_right _ (List.mem_map.2 ⟨(f, t), het, rfl⟩)
                have hkt := keyR_of (wf_vset HW.out hts)
                have d3 : wr.cell? ⟨g3, off3, none⟩ = some (.int .i64 t) := by have := hc3 0 (by simp); simpa using this
                have hrl : rest.length + 1 ≤ 1048576 := by
                  obtain ⟨D, h1, _⟩ := HR.out.done f
                  have h2 := succs_len (L := L) f
                  rw [h1, List.length_append, ha, List.length_cons] at h2
                  omega
                have HL3 := Lib.hid (show (fA f).getD (.slice none 0 0) = .slice (some ⟨g3, off3, none⟩) (rest.length + 1) c3 from hget3)
                have HSL := Lib.hid hsl
                have HA := Lib.hid ha
                have HET := Lib.hid het
                have hlc2 : rest.length + 1 ≤ c3 := hlc
                have hm : ∃ m, m = rest.length := ⟨_, rfl⟩
                obtain ⟨m, hm⟩ := hm
                rw [← hm] at HL3 hrl hlc2
                have HMR := Lib.hid hm
                clear hget3 hlc hsl ha het hts hc3 hm
                have h2 := HR.out.le2 t
                have hvt := HVV5.out t
                have h3 : setN v f 1 t = 1 ∨ setN v f 1 t = 0 ∨ setN v f 1 t = 2 := by omega
                clear h2
                rcases h3 with h3 | h3 | h3
                · rw [h3] at hvt
                  have HT := Lib.hid (show (fV5 t).getD (.int .i64 0) = .int .i64 1 from hvt)
                  have HRG := Lib.hid (HR.out.ring HA.out h3)
                  clear hvt h3
                  go_wp2_with (first | (at_lookup; refine wp_look _ rfl _ _ rfl keyR Try.underlying187 (zeroR _) rfl MA f rfl hkf (.slice (some ⟨g3, off3, none⟩) (m + 1) c3) HL3.out ?_) | (at_lookup; refine wp_look _ rfl _ _ rfl keyR Try.underlying141 (zeroRI _) rfl MV t rfl hkt (.int .i64 1) HT.out ?_) | fail)
                  go_step3
                  exact ⟨rfl, rfl, _, rfl, rfl, HRG.out, hb⟩
                · rw [h3] at hvt
                  have HT := Lib.hid (show (fV5 t).getD (.int .i64 0) = .int .i64 0 from hvt)
                  have HP := Lib.hid (HR.out.push HA1.out HA.out h3)
                  have hpl2 := path_len HP.out
                  rw [show (Q ++ [f] ++ [t]).length = Q.length + 1 + 1 by simp] at hpl2
                  have HO := Lib.hid (show wr.ownsRow (hi + 2) 3 1 (.slice (some ⟨g, 0, none⟩) (q + 1) cap) (q + 1) ((Q ++ [f]).map (.int .i64)) by rw [HQ.out]; exact hown)
                  have HPL2 := Lib.hid hpl2
                  clear hvt h3 hown hpl2
                  go_wp2_with (first | (at_lookup; refine wp_look _ rfl _ _ rfl keyR Try.underlying187 (zeroR _) rfl MA f rfl hkf (.slice (some ⟨g3, off3, none⟩) (m + 1) c3) HL3.out ?_) | (at_lookup; refine wp_look _ rfl _ _ rfl keyR Try.underlying141 (zeroRI _) rfl MV t rfl hkt (.int .i64 0) HT.out ?_) | (at_builtin; refine wpList_append_own _ rfl _ _ 26 rfl (hi + 2) 3 i0 (.int .i64 0) 1 8 Try.underlying26 Hi.out Hz0.out Hz1.out Hz2.out rfl (by decide) _ _ _ rfl (HO.out.alloc _) ⟨wr.heap.size, 0, none⟩ 1 1 [.int .i64 t] rfl rfl ?c1 ?c2 ?c3 ?c4 ?c5 ?_) | fail)
                  case c1 =>
                    intro j u hj
                    match j, hj with
                    | 0, hj => simp at hj; subst hj; simp [Addr.add]
                  case c2 => intro u hu; simp at hu; subst hu; rfl
                  case c3 => unfold maxLen; omega
                  case c4 => omega
                  case c5 => simp; omega
                  intro v' w6 hown' hgrow _
                  have htot := (World.grownBy_alloc wr (.cells #[.int .i64 t] 3) (some g)).trans hgrow
                  have HS6 := Lib.hid (HS.out.kept htot (fun g' h => by injection h with h; omega))
                  have hb6 := hb.grown htot hsz (fun g' h => by injection h with h; omega)
                  have hz6 := Nat.le_trans hz htot.size
                  have hown6 : w6.ownsRow (hi + 2) 3 1 v' (Q ++ [f] ++ [t]).length ((Q ++ [f] ++ [t]).map (.int .i64)) := by
                    rw [show (Q ++ [f] ++ [t]).length = q + 1 + 1 by rw [HQ.out]; simp]
                    simpa using hown'
                  obtain ⟨X6, C6, rfl⟩ := sl_form hown'
                  obtain ⟨f6, M6, hv6⟩ := HS6.out.mV
                  have hmw := MW_is HW.out M6 hv6 (q + 1 + 1)
                  have hmp := mm_push (L := L) hvf (len := Q.length + 1) HPL2.out
                  clear hown' hgrow htot HO M6
                  go_wp2
                  exact ⟨⟨nV5, ah, setN v f 1, dd, Q ++ [f] ++ [t], HS6, HP, hown6, Lib.hid (ent_push HA1.out), Lib.hid (fun j x hj hx => HVK.out _ (HV.out j x hj hx)), Lib.hid (by
                    rcases HF.out with h | h
                    · exact .inl (List.mem_append_left _ h)
                    · exact .inr (HVK.out _ h)), Lib.hid (by rw [show (Q ++ [f] ++ [t]).length = Q.length + 1 + 1 by simp]; have := HMM.out; omega), hb6, hz6⟩, by
                    show MW L (hi + 1) w6 (q + 1 + 1) < MW L (hi + 1) _ (q + 1)
                    rw [hmw, HQ.out, HW0.out]
                    omega⟩
                · rw [h3] at hvt
                  have HT := Lib.hid (show (fV5 t).getD (.int .i64 0) = .int .i64 2 from hvt)
                  have HTK := Lib.hid (HR.out.take (setN_at ..) HA.out h3)
                  have HO := Lib.hid hown
                  have HDF := Lib.hid (HVD.out f)
                  have HDT := Lib.hid (HVD.out t)
                  have hd2 := HS.out.hD t
                  have hdf : ∃ z : Nat, z = dd f := ⟨_, rfl⟩
                  obtain ⟨z1, hz1⟩ := hdf
                  have hdt : ∃ z : Nat, z = dd t := ⟨_, rfl⟩
                  obtain ⟨z2, hz2'⟩ := hdt
                  rw [← hz1] at HDF hd1
                  rw [← hz2'] at HDT hd2
                  have HZ1 := Lib.hid hz1
                  have HZ2 := Lib.hid hz2'
                  clear hvt h3 hown hz1 hz2'
                  have hzb1 : (z1 : Int) ≤ 1099511627776 := by omega
                  have hzb2 : (z2 : Int) ≤ 1099511627776 := by omega
                  have hnDm : nD < maxLen := by unfold maxLen; omega
                  have hnAm : nA < maxLen := by unfold maxLen; omega
                  have SAm := Lib.hid MA
                  have HSL4 := Lib.hid (show SlA wr w.heap.size hi (if c3 = 1 then some ⟨g3, off3, none⟩ else some ⟨g3, off3 + 1, none⟩) rest from fun hp => by
                    rw [if_neg (by have := HMR.out; omega)]
                    exact HSL.out.tail hp)
                  by_cases hzz : (z2 : Int) + 1 ≤ z1
                  · go_wp2_with (first | (at_lookup; refine wp_look _ rfl _ _ rfl keyR Try.underlying187 (zeroR _) rfl MA f rfl hkf (.slice (some ⟨g3, off3, none⟩) (m + 1) c3) HL3.out ?_) | (at_lookup; refine wp_look _ rfl _ _ rfl keyR Try.underlying141 (zeroRI _) rfl MV t rfl hkt (.int .i64 2) HT.out ?_) | (at_lookup; refine wp_look _ rfl _ _ rfl keyR Try.underlying141 (zeroRI _) rfl MD f rfl hkf (.int .i64 z1) HDF.out ?_) | (at_lookup; refine wp_look _ rfl _ _ rfl keyR Try.underlying141 (zeroRI _) rfl MD t rfl hkt (.int .i64 z2) HDT.out ?_) | (at_mapUpdate; refine wp_store _ rfl _ _ _ rfl keyR Try.underlying141 rfl MD (hnDm) f rfl hkf (.int .i64 (z1)) rfl ?_; intro w6 hM6 hT6; have MA6 := MA.kept (turned_grown hT6) (by intro e0; injection e0; omega)) | (at_lookup; refine wp_look _ rfl _ _ rfl keyR Try.underlying187 (zeroR _) rfl MA6 f rfl hkf (.slice (some ⟨g3, off3, none⟩) (m + 1) c3) HL3.out ?_) | (at_mapUpdate; refine wp_store _ rfl _ _ _ rfl keyR Try.underlying187 rfl MA6 (hnAm) f rfl hkf _ rfl ?_; intro w7 hM7 hT7) | fail)
                    all_goals
                      have hv6 : VI (upd fD f (some (.int .i64 (z1)))) (setN dd f (z1)) := by
                        have h := HVD.out.upd f (z1)
                        exact h
                      have hmx : z1 = max (dd f) (dd t + 1) := by rw [← HZ1.out, ← HZ2.out]; omega
                      have hg6 := turned_grown hT6
                      have hg7 := turned_grown hT7
                      have hM7' : MapN Try.prog 3 w7 w.heap.size (if (fA f).isSome then nA else nA + 1) (upd fA f (some (.slice (if c3 = 1 then some ⟨g3, off3, none⟩ else some ⟨g3, off3 + 1, none⟩) rest.length (c3 - 1)))) := by rw [← HMR.out]; exact hM7
                      have HS7 := Lib.hid (WS.take HSA.out MV HVV5.out (by rw [HSA.out.some_ HA.out]; exact hnA) (by split <;> omega) hnD (fun x => HS.out.hD x) HET.out HA.out hT6 hM6 hv6 hmx hT7 hM7' (by rw [← HMR.out]; omega) (by omega) HSL4.out)
                      have hown7 := (HO.out.kept hg6 (.inr (by simp [Value.ownBlock]; omega))).kept hg7 (.inr (by simp [Value.ownBlock]; omega))
                      have hb7 := below_turned (below_turned hb hT6 hlo) hT7 (Nat.le_refl _)
                      have hz7 := Nat.le_trans hz (Nat.le_trans hg6.size hg7.size)
                      have hl0 := lenW_is SAm.out (wf_vset HW.out HFS.out) HL3.out
                      have hl7 := lenW_is (A := (if c3 = 1 then some ⟨g3, off3, none⟩ else some ⟨g3, off3 + 1, none⟩)) (l := rest.length) (c := c3 - 1) hM7' (wf_vset HW.out HFS.out) (by unfold upd; rw [if_pos rfl]; rfl)
                      have HTK2 := HTK
                      rw [← hmx] at HTK2
                      exact ⟨⟨setL ah f rest, setN dd f (z1), HS7, HTK2, by simpa using hown7, hb7, hz7⟩, by rw [hl0, hl7, HMR.out]; omega⟩
                  · go_wp2_with (first | (at_lookup; refine wp_look _ rfl _ _ rfl keyR Try.underlying187 (zeroR _) rfl MA f rfl hkf (.slice (some ⟨g3, off3, none⟩) (m + 1) c3) HL3.out ?_) | (at_lookup; refine wp_look _ rfl _ _ rfl keyR Try.underlying141 (zeroRI _) rfl MV t rfl hkt (.int .i64 2) HT.out ?_) | (at_lookup; refine wp_look _ rfl _ _ rfl keyR Try.underlying141 (zeroRI _) rfl MD f rfl hkf (.int .i64 z1) HDF.out ?_) | (at_lookup; refine wp_look _ rfl _ _ rfl keyR Try.underlying141 (zeroRI _) rfl MD t rfl hkt (.int .i64 z2) HDT.out ?_) | (at_mapUpdate; refine wp_store _ rfl _ _ _ rfl keyR Try.underlying141 rfl MD (hnDm) f rfl hkf (.int .i64 ((z2 : Int) + 1)) rfl ?_; intro w6 hM6 hT6; have MA6 := MA.kept (turned_grown hT6) (by intro e0; injection e0; omega)) | (at_lookup; refine wp_look _ rfl _ _ rfl keyR Try.underlying187 (zeroR _) rfl MA6 f rfl hkf (.slice (some ⟨g3, off3, none⟩) (m + 1) c3) HL3.out ?_) | (at_mapUpdate; refine wp_store _ rfl _ _ _ rfl keyR Try.underlying187 rfl MA6 (hnAm) f rfl hkf _ rfl ?_; intro w7 hM7 hT7) | fail)
                    all_goals
                      have hv6 : VI (upd fD f (some (.int .i64 ((z2 : Int) + 1)))) (setN dd f (z2 + 1)) := by
                        have h := HVD.out.upd f (z2 + 1)
                        exact h
                      have hmx : z2 + 1 = max (dd f) (dd t + 1) := by rw [← HZ1.out, ← HZ2.out]; omega
                      have hg6 := turned_grown hT6
                      have hg7 := turned_grown hT7
                      have hM7' : MapN Try.prog 3 w7 w.heap.size (if (fA f).isSome then nA else nA + 1) (upd fA f (some (.slice (if c3 = 1 then some ⟨g3, off3, none⟩ else some ⟨g3, off3 + 1, none⟩) rest.length (c3 - 1)))) := by rw [← HMR.out]; exact hM7
                      have HS7 := Lib.hid (WS.take HSA.out MV HVV5.out (by rw [HSA.out.some_ HA.out]; exact hnA) (by split <;> omega) hnD (fun x => HS.out.hD x) HET.out HA.out hT6 hM6 hv6 hmx hT7 hM7' (by rw [← HMR.out]; omega) (by omega) HSL4.out)
                      have hown7 := (HO.out.kept hg6 (.inr (by simp [Value.ownBlock]; omega))).kept hg7 (.inr (by simp [Value.ownBlock]; omega))
                      have hb7 := below_turned (below_turned hb hT6 hlo) hT7 (Nat.le_refl _)
                      have hz7 := Nat.le_trans hz (Nat.le_trans hg6.size hg7.size)
                      have hl0 := lenW_is SAm.out (wf_vset HW.out HFS.out) HL3.out
                      have hl7 := lenW_is (A := (if c3 = 1 then some ⟨g3, off3, none⟩ else some ⟨g3, off3 + 1, none⟩)) (l := rest.length) (c := c3 - 1) hM7' (wf_vset HW.out HFS.out) (by unfold upd; rw [if_pos rfl]; rfl)
                      have HTK2 := HTK
                      rw [← hmx] at HTK2
                      exact ⟨⟨setL ah f rest, setN dd f (z2 + 1), HS7, HTK2, by simpa using hown7, hb7, hz7⟩, by rw [hl0, hl7, HMR.out]; omega⟩
      · have HV := Lib.hid (show ∀ j x, j < k + 1 → L[j]? = some x → v x.1 = 2 from fun j x hj hx => by
          by_cases ej : j = k
          · subst ej
            rw [HG.out] at hx
            cases hx
            exact h0
          · exact HV.out j x (by omega) hx)
        rw [h0] at hv0
        have HV0 := Lib.hid (show (fV e.1).getD (.int .i64 0) = .int .i64 2 from hv0)
        clear hv0 h0
        go_wp2_with (first | (at_lookup; refine wp_look _ rfl _ _ rfl keyR Try.underlying141 (zeroRI _) rfl MV e.1 rfl hkey (.int .i64 2) HV0.out ?_) | fail)
        refine (‹∀ (a : Go.Act) (w : World), Code.wp _ _ _ a w → _›) _ _ ?_
        go_wp2
        exact ⟨⟨k + 1, nV, ah, v, dd, by omega, by go_num, HS2, HR, HV, HM, hb2, hz2⟩, by simp [intOf]; omega⟩
    · obtain rfl : k = L.length := by omega
      have HE := Lib.hid (srch_end HR.out HV.out)
      obtain ⟨nD, fD, _, MD, hvD⟩ := HS.out.mD
      have HD := Lib.hid MD
      clear MD
      go_wp2
      simp only [Exit.jump]
      go_ret2
      exact ⟨hb, .inr ⟨HE.out.1, hi, nD, fD, dd, rfl, HD.out, hvD, HE.out.2⟩⟩
end Go.Proofs.Ytomkfldimkpmdaa
