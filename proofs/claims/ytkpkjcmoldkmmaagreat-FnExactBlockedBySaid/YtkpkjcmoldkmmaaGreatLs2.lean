/- spec.LockOk. -/
import Derived.Test.YtkpkjcmoldkmmaaGreatLs1
namespace Go.Proofs.YtkpkjcmoldkmmaaGreat
open Go.RowKit

theorem infoInt : (Tryz.prog.info? 3).map (fun i => (i.zero, i.size, i.bytes)) = some (some (.int .i64 0), 1, 8) := by kernel_rfl
theorem specTid_q {t : Int} {x : Bool} (h : tidB t = x) (w : World) : Calls Tryz.prog 182 #[.int .i64 t] w fun e w' => e = .returned (.bool x) ∧ w' = w :=
  (specTid_any t w).mono fun _ _ ⟨he, hw⟩ => ⟨h ▸ he, hw.symm⟩
theorem ownsRow_block' {w w' : World} {base size n : Nat} {e : TypeId} {v : Value} {xs : List Value} (h : w.ownsRow base e size v n xs) (hb : ∀ k, k < w.heap.size → base ≤ k → w'.heap[k]? = w.heap[k]?) : w'.ownsRow base e size v n xs := by
  refine ⟨h.1, ?_⟩
  rcases h.2 with h' | ⟨g, cap, cur, h1, h2, h3, h4⟩
  · exact .inl h'
  · refine .inr ⟨g, cap, cur, h1, h2, ?_, h4⟩
    rw [hb g (Array.getElem?_eq_some_iff.1 h3).1 h2]
    exact h3
def Rest (hs ws : HL) (k : Nat) : Prop := lockOk hs ws = (idsOk (ids hs ++ ids (ws.take k)) (ids (ws.drop k)) && !grantsS hs ws)
theorem Rest.step {hs ws : HL} {k : Nat} (h : Rest hs ws k) (hk : k < ws.length) : lockOk hs ws = ((tidB (hT ws k) && !(ids hs ++ ids (ws.take k)).contains (hT ws k)) && idsOk (ids hs ++ ids (ws.take (k + 1))) (ids (ws.drop (k + 1))) && !grantsS hs ws) := by
  unfold Rest at h
  rw [h, drop_ids hk, take_ids hk, ← List.append_assoc]
  rfl
theorem Rest.bad1 {hs ws : HL} {k : Nat} (h : Rest hs ws k) (hk : k < ws.length) (ht : tidB (hT ws k) = false) : lockOk hs ws = false := by rw [h.step hk, ht]; simp
theorem Rest.bad2 {hs ws : HL} {k : Nat} (h : Rest hs ws k) (hk : k < ws.length) (ht : (ids hs ++ ids (ws.take k)).contains (hT ws k) = true) : lockOk hs ws = false := by rw [h.step hk, ht]; simp
theorem Rest.ok {hs ws : HL} {k : Nat} (h : Rest hs ws k) (hk : k < ws.length) (h1 : tidB (hT ws k) = true) (ht : (ids hs ++ ids (ws.take k)).contains (hT ws k) = false) : Rest hs ws (k + 1) := by unfold Rest; rw [h.step hk, ht, h1]; simp
theorem Rest.done {hs ws : HL} (h : Rest hs ws ws.length) : lockOk hs ws = !grantsS hs ws := by unfold Rest at h; rw [h]; simp [ids, idsOk]
def AllOk1 (hs : HL) (k : Nat) : Prop := ∀ j, j < k → ok1 hs j = true
theorem AllOk1.next {hs : HL} {k : Nat} (h : AllOk1 hs k) (hk : ok1 hs k = true) : AllOk1 hs (k + 1) := fun j hj => by
  by_cases e : j = k
  · subst e; exact hk
  · exact h j (by omega)

/-- what the model's loops carry behind a region that drew -/
structure AftH (w : World) (v : Value) (l : List Int) (b : Nat) (t : Int) (y : Bool) (L1 L2 : Value) (w2 : World) : Prop where
  own : w2.ownsRow (w.heap.size + 1) 3 1 v l.length (l.map (.int .i64))
  bel : Below w.heap.size w w2
  box : Box w2 w.heap.size [L1, L2]
  loc : Box w2 b [.int .i64 t, .bool y]
theorem AftH.mk' {w wr : World} {v : Value} {l : List Int} {t : Int} {y : Bool} {L1 L2 : Value} (ho : wr.ownsRow (w.heap.size + 1) 3 1 v l.length (l.map (.int .i64))) (hb : Below w.heap.size w wr) (X : Box wr w.heap.size [L1, L2]) (T : TypeId) (m : Nat) :
    AftH w v l wr.heap.size t y L1 L2 ((wr.alloc (.cells #[.int .i64 t, .bool y] T)).drewN m) := by
  have hq : Below (wr.alloc (.cells #[.int .i64 t, .bool y] T)).heap.size (wr.alloc (.cells #[.int .i64 t, .bool y] T)) ((wr.alloc (.cells #[.int .i64 t, .bool y] T)).drewN m) := below_drewN (Below.refl _ _) m
  exact ⟨ownsRow_block' (ho.alloc _) (fun k hk _ => hq.block k hk), below_drewN (hb.alloc hb.size _) m, (X.alloc _).next hq, (Box.new rfl).next hq⟩

set_option maxHeartbeats 800000 in
set_option maxRecDepth 100000 in
theorem specLockOk_any (A A' : Option Addr) (c c' B : Nat) (hs ws : HL) (w : World) (hn : hs.length ≤ 1048576) (hn' : ws.length ≤ 1048576) (h : LAt w B A A' (hs, ws)) :
    Calls Tryz.prog 134 #[.agg #[.slice A hs.length c, .slice A' ws.length c']] w fun e w' => e = .returned (.bool (lockOk hs ws)) ∧ Below w.heap.size w w' := by
  obtain ⟨h1, h2⟩ := h
  have h1 := h1.lt
  have h2 := h2.lt
  obtain ⟨i0, hi, hz0, hz1, hz2⟩ := info_parts infoInt
  have Hi := Lib.hid hi
  have Hz0 := Lib.hid hz0
  have Hz1 := Lib.hid hz1
  have Hz2 := Lib.hid hz2
  clear hi hz0 hz1 hz2
  go_enter Tryz.func134, Tryz.ntmps134
  go_wp2
  go_loopw [3, 4] (fun v i wr => ∃ k : Nat, k ≤ hs.length ∧ i = .int .i64 k ∧ wr.ownsRow (w.heap.size + 1) 3 1 v (ids (hs.take k)).length ((ids (hs.take k)).map (.int .i64)) ∧ Below w.heap.size w wr ∧ AllOk1 hs k ∧ Box wr w.heap.size [.slice A hs.length c, .slice A' ws.length c']) (fun _ i _ => hs.length - (intOf i).toNat)
  case atStart => exact ⟨0, Nat.zero_le _, rfl, (by have := World.ownsRow_made (base := w.heap.size + 1) (size := 1) (e := 3) (w.alloc (.cells #[.slice A hs.length c, .slice A' ws.length c'] 65)) #[] 0 (by simp) (Nat.zero_le _) rfl; simpa [ids] using this), ((Below.refl w.heap.size w).alloc (Nat.le_refl _) _).alloc (by simp) _, fun j hj => absurd hj (by omega), (Box.new (w := w) rfl).alloc _⟩
  case round =>
    obtain ⟨k, hk, rfl, hown, hb, hall, X⟩ := hrel
    obtain ⟨x0, x1, xf⟩ := X.c2
    have Hall := Lib.hid hall
    have hsz := hb.size
    clear hall
    by_cases hkn : k < hs.length
    · obtain ⟨b, off, rfl, hB, hc⟩ := h1 (by omega)
      have hkz : (k : Int) < hs.length := by omega
      have d0 : wr.cell? ⟨b, off + k * 2, none⟩ = some (.int .i64 (hT hs k)) := (hb.cell (p := ⟨b, off + k * 2, none⟩) hB).trans (hc k hkn).1
      have d1 : wr.cell? ⟨b, off + k * 2 + 1, none⟩ = some (.bool (hW hs k)) := (hb.cell (p := ⟨b, off + k * 2 + 1, none⟩) hB).trans (hc k hkn).2
      have hltb : b < wr.heap.size := by omega
      have hltw : w.heap.size < wr.heap.size := X.lt
      have hltb' : b < wr.heap.size + 1 := by omega
      have AF := Lib.hid (AftH.mk' (t := hT hs k) (y := hW hs k) hown hb X 144)
      clear hown
      cases ht : tidB (hT hs k) with
      | false =>
        have HB := Lib.hid (lockOk_bad1 ws hkn (show ok1 hs k = false by simp [ok1, ht]))
        have HT := Lib.hid ht
        clear ht
        generalize hW hs k = y at d1 AF
        generalize hT hs k = t at d0 HT AF
        clear hc h1 h2
        go_wp2_with fail
        go_quiet ((go_at_call 182; exact Calls.quiet_of_same (specTid_q HT.out _)))
        obtain ⟨_, hb2, _, _⟩ := AF.out nq
        clear AF
        generalize World.drewN _ nq = w2 at hb2 ⊢
        go_wp2
        go_ret
        exact ⟨ret_bool HB.out.symm, hb2⟩
      | true =>
        have HT := Lib.hid ht
        clear ht
        by_cases hk0 : k = 0
        · subst hk0
          simp only [Nat.zero_mul, Nat.add_zero] at d0 d1
          cases hw : hW hs 0 with
          | true =>
            rw [hw] at d1 AF
            by_cases hl : (1 : Int) < hs.length
            · have HB := Lib.hid (lockOk_bad1 ws hkn (show ok1 hs 0 = false by simp [ok1, HT.out, hw]; omega))
              have hl' : decide ((1 : Int) < hs.length) = true := by simpa using hl
              clear hw
              clear hc h1 h2
              go_wp2_with fail
              go_quiet ((go_at_call 182; exact Calls.quiet_of_same (specTid_q HT.out _)))
              obtain ⟨_, hb2, _, _⟩ := AF.out nq
              clear AF
              generalize World.drewN _ nq = w2 at hb2 ⊢
              go_wp2
              go_ret
              exact ⟨ret_bool HB.out.symm, hb2⟩
            · have hl' : decide ((1 : Int) < hs.length) = false := by simpa using hl
              have H1 := Lib.hid (show ok1 hs 0 = true by simp [ok1, HT.out, hw]; omega)
              clear hw
              clear hc h1 h2
              go_wp2_with fail
              go_quiet ((go_at_call 182; exact Calls.quiet_of_same (specTid_q HT.out _)))
              obtain ⟨ho2, hb2, X2, H2⟩ := AF.out nq
              clear AF x0 x1 xf X d0 d1 hl hl'
              generalize World.drewN _ nq = w2 at ho2 hb2 X2 H2 ⊢
              obtain ⟨y0, y1, yf⟩ := H2.c2
              have hlt2 := X2.lt
              have hsz2 := hb2.size
              have Hlen := Lib.hid (show (ids (hs.take 0)).length ≤ 1048576 by rw [ids_len', List.length_take]; omega)
              have HN := Lib.hid (take_ids hkn)
              have hlen := Hlen.out
              clear yf
              go_wp2_with (at_builtin; refine wpList_append_own _ rfl _ _ 28 rfl (w.heap.size + 1) 3 i0 (.int .i64 0) 1 8 Tryz.underlying28 Hi.out Hz0.out Hz1.out Hz2.out rfl (by decide) _ _ _ rfl (ho2.alloc _) ⟨w2.heap.size, 0, none⟩ 1 1 [.int .i64 (hT hs 0)] rfl rfl ?c1 ?c2 ?c3 ?c4 ?c5 ?_)
              case c1 =>
                intro j u hj
                match j, hj with
                | 0, hj => simp at hj; subst hj; simp [Addr.add]
              case c2 => intro u hu; simp at hu; subst hu; rfl
              case c3 => unfold maxLen; omega
              case c4 => omega
              case c5 => simp; omega
              intro v' w3 hown' hgrow _
              have X3 := (X2.alloc (.cells #[.int .i64 (hT hs 0)] 3)).grown hgrow (fun q hq => by have := (ho2.lt q hq).1; omega)
              have hb3 := (hb2.alloc hsz2 (.cells #[.int .i64 (hT hs 0)] 3)).grown hgrow (by simp; omega) (fun q hq => by have := (ho2.lt q hq).1; omega)
              have hown3 : w3.ownsRow (w.heap.size + 1) 3 1 v' (ids (hs.take (0 + 1))).length ((ids (hs.take (0 + 1))).map (.int .i64)) := by rw [HN.out]; simpa using hown'
              clear hown' hgrow ho2 hb2 X2 H2 y0 y1 hlen
              go_wp2
              exact ⟨⟨0 + 1, by omega, by go_num, hown3, hb3, Hall.out.next H1.out, X3⟩, by simp [intOf]; omega⟩
          | false =>
            rw [hw] at d1 AF
            have H1 := Lib.hid (show ok1 hs 0 = true by simp [ok1, HT.out, hw])
            clear hw
            clear hc h1 h2
            go_wp2_with fail
            go_quiet ((go_at_call 182; exact Calls.quiet_of_same (specTid_q HT.out _)))
            obtain ⟨ho2, hb2, X2, H2⟩ := AF.out nq
            clear AF x0 x1 xf X d0 d1
            generalize World.drewN _ nq = w2 at ho2 hb2 X2 H2 ⊢
            obtain ⟨y0, y1, yf⟩ := H2.c2
            have hlt2 := X2.lt
            have hsz2 := hb2.size
            have Hlen := Lib.hid (show (ids (hs.take 0)).length ≤ 1048576 by rw [ids_len', List.length_take]; omega)
            have HN := Lib.hid (take_ids hkn)
            have hlen := Hlen.out
            clear yf
            go_wp2_with (at_builtin; refine wpList_append_own _ rfl _ _ 28 rfl (w.heap.size + 1) 3 i0 (.int .i64 0) 1 8 Tryz.underlying28 Hi.out Hz0.out Hz1.out Hz2.out rfl (by decide) _ _ _ rfl (ho2.alloc _) ⟨w2.heap.size, 0, none⟩ 1 1 [.int .i64 (hT hs 0)] rfl rfl ?c1 ?c2 ?c3 ?c4 ?c5 ?_)
            case c1 =>
              intro j u hj
              match j, hj with
              | 0, hj => simp at hj; subst hj; simp [Addr.add]
            case c2 => intro u hu; simp at hu; subst hu; rfl
            case c3 => unfold maxLen; omega
            case c4 => omega
            case c5 => simp; omega
            intro v' w3 hown' hgrow _
            have X3 := (X2.alloc (.cells #[.int .i64 (hT hs 0)] 3)).grown hgrow (fun q hq => by have := (ho2.lt q hq).1; omega)
            have hb3 := (hb2.alloc hsz2 (.cells #[.int .i64 (hT hs 0)] 3)).grown hgrow (by simp; omega) (fun q hq => by have := (ho2.lt q hq).1; omega)
            have hown3 : w3.ownsRow (w.heap.size + 1) 3 1 v' (ids (hs.take (0 + 1))).length ((ids (hs.take (0 + 1))).map (.int .i64)) := by rw [HN.out]; simpa using hown'
            clear hown' hgrow ho2 hb2 X2 H2 y0 y1 hlen
            go_wp2
            exact ⟨⟨0 + 1, by omega, by go_num, hown3, hb3, Hall.out.next H1.out, X3⟩, by simp [intOf]; omega⟩
        · have hk1 : decide (0 < k) = true := by simp; omega
          have dp : wr.cell? ⟨b, off + (k - 1) * 2, none⟩ = some (.int .i64 (hT hs (k - 1))) := (hb.cell (p := ⟨b, off + (k - 1) * 2, none⟩) hB).trans (hc (k - 1) (by omega)).1
          cases hw : hW hs k with
          | true =>
            rw [hw] at d1 AF
            have HB := Lib.hid (lockOk_bad1 ws hkn (show ok1 hs k = false by simp [ok1, HT.out, hw]; omega))
            have hl' : decide ((1 : Int) < hs.length) = true := by simp; omega
            clear hw
            clear hc h1 h2
            go_wp2_with fail
            go_quiet ((go_at_call 182; exact Calls.quiet_of_same (specTid_q HT.out _)))
            obtain ⟨_, hb2, _, _⟩ := AF.out nq
            clear AF
            generalize World.drewN _ nq = w2 at hb2 ⊢
            go_wp2
            go_ret
            exact ⟨ret_bool HB.out.symm, hb2⟩
          | false =>
            rw [hw] at d1 AF
            have n1 : IntKind.i64.wrap ((k : Int) - 1) = (k : Int) - 1 := IntWalk.i64_in _ (by omega)
            have n2 : (0 : Int) ≤ (k : Int) - 1 := by omega
            have n3 : ((k : Int) - 1).toNat = k - 1 := by omega
            by_cases hp : hT hs (k - 1) ≥ hT hs k
            · have HB := Lib.hid (lockOk_bad1 ws hkn (show ok1 hs k = false by simp [ok1, HT.out, hw]; omega))
              have hp' : decide (hT hs k ≤ hT hs (k - 1)) = true := by simpa using hp
              clear hw
              clear hc h1 h2
              go_wp2_with fail
              go_quiet ((go_at_call 182; exact Calls.quiet_of_same (specTid_q HT.out _)))
              obtain ⟨_, hb2, _, _⟩ := AF.out nq
              clear AF
              generalize World.drewN _ nq = w2 at hb2 ⊢
              go_wp2
              go_ret
              exact ⟨ret_bool HB.out.symm, hb2⟩
            · have H1 := Lib.hid (show ok1 hs k = true by simp [ok1, HT.out, hw]; omega)
              have hp' : decide (hT hs k ≤ hT hs (k - 1)) = false := by simpa using hp
              clear hw
              clear hc h1 h2
              go_wp2_with fail
              go_quiet ((go_at_call 182; exact Calls.quiet_of_same (specTid_q HT.out _)))
              obtain ⟨ho2, hb2, X2, H2⟩ := AF.out nq
              clear AF x0 x1 xf X d0 d1 dp n1 n2 n3 hk1 hp hp'
              generalize World.drewN _ nq = w2 at ho2 hb2 X2 H2 ⊢
              obtain ⟨y0, y1, yf⟩ := H2.c2
              have hlt2 := X2.lt
              have hsz2 := hb2.size
              have Hlen := Lib.hid (show (ids (hs.take k)).length ≤ 1048576 by rw [ids_len', List.length_take]; omega)
              have HN := Lib.hid (take_ids hkn)
              have hlen := Hlen.out
              clear yf
              go_wp2_with (at_builtin; refine wpList_append_own _ rfl _ _ 28 rfl (w.heap.size + 1) 3 i0 (.int .i64 0) 1 8 Tryz.underlying28 Hi.out Hz0.out Hz1.out Hz2.out rfl (by decide) _ _ _ rfl (ho2.alloc _) ⟨w2.heap.size, 0, none⟩ 1 1 [.int .i64 (hT hs k)] rfl rfl ?c1 ?c2 ?c3 ?c4 ?c5 ?_)
              case c1 =>
                intro j u hj
                match j, hj with
                | 0, hj => simp at hj; subst hj; simp [Addr.add]
              case c2 => intro u hu; simp at hu; subst hu; rfl
              case c3 => unfold maxLen; omega
              case c4 => omega
              case c5 => simp; omega
              intro v' w3 hown' hgrow _
              have X3 := (X2.alloc (.cells #[.int .i64 (hT hs k)] 3)).grown hgrow (fun q hq => by have := (ho2.lt q hq).1; omega)
              have hb3 := (hb2.alloc hsz2 (.cells #[.int .i64 (hT hs k)] 3)).grown hgrow (by simp; omega) (fun q hq => by have := (ho2.lt q hq).1; omega)
              have hown3 : w3.ownsRow (w.heap.size + 1) 3 1 v' (ids (hs.take (k + 1))).length ((ids (hs.take (k + 1))).map (.int .i64)) := by rw [HN.out]; simpa using hown'
              clear hown' hgrow ho2 hb2 X2 H2 y0 y1 hlen
              go_wp2
              exact ⟨⟨k + 1, by omega, by go_num, hown3, hb3, Hall.out.next H1.out, X3⟩, by simp [intOf]; omega⟩
    · obtain rfl : k = hs.length := by omega
      obtain ⟨wq, hwq⟩ : ∃ wq, wq = wr := ⟨_, rfl⟩
      rw [← hwq] at hown hb X x0 x1 xf hsz ⊢
      clear hwq
      rw [show ids (hs.take hs.length) = ids hs ++ ids (ws.take 0) by simp [ids]] at hown
      have HR := Lib.hid (show Rest hs ws 0 from by unfold Rest; rw [lockOk_split ws Hall.out]; simp [ids])
      have Hown := Lib.hid hown
      clear Hall hown hk hkn
      go_wp2
      go_loopw [3, 6] (fun v i wr => ∃ k : Nat, k ≤ ws.length ∧ i = .int .i64 k ∧ wr.ownsRow (w.heap.size + 1) 3 1 v (ids hs ++ ids (ws.take k)).length ((ids hs ++ ids (ws.take k)).map (.int .i64)) ∧ Below w.heap.size w wr ∧ Rest hs ws k ∧ Box wr w.heap.size [.slice A hs.length c, .slice A' ws.length c']) (fun _ i _ => ws.length - (intOf i).toNat)
      case atStart => exact ⟨0, Nat.zero_le _, rfl, Hown.out, hb, HR.out, X⟩
      case round =>
        clear x0 x1 xf hsz hb X Hown HR
        obtain ⟨k, hk, rfl, hown, hb, hr, X⟩ := hrel
        have HR := Lib.hid hr
        clear hr
        obtain ⟨x0, x1, xf⟩ := X.c2
        have hsz := hb.size
        by_cases hkn : k < ws.length
        · obtain ⟨b, off, rfl, hB, hc⟩ := h2 (by omega)
          have hkz : (k : Int) < ws.length := by omega
          have d0 : wr.cell? ⟨b, off + k * 2, none⟩ = some (.int .i64 (hT ws k)) := (hb.cell (p := ⟨b, off + k * 2, none⟩) hB).trans (hc k hkn).1
          have d1 : wr.cell? ⟨b, off + k * 2 + 1, none⟩ = some (.bool (hW ws k)) := (hb.cell (p := ⟨b, off + k * 2 + 1, none⟩) hB).trans (hc k hkn).2
          clear hc h2 h1 xf
          have HL1 := Lib.hid (show (ids hs ++ ids (ws.take k)).length ≤ 3145728 by rw [List.length_append, ids_len', ids_len', List.length_take]; omega)
          have HN := Lib.hid (show ids hs ++ ids (ws.take (k + 1)) = (ids hs ++ ids (ws.take k)) ++ [hT ws k] by rw [take_ids hkn, List.append_assoc])
          have HR1 := Lib.hid (show tidB (hT ws k) = false → lockOk hs ws = false from HR.out.bad1 hkn)
          have HR2 := Lib.hid (show (ids hs ++ ids (ws.take k)).contains (hT ws k) = true → lockOk hs ws = false from HR.out.bad2 hkn)
          have HR3 := Lib.hid (show tidB (hT ws k) = true → (ids hs ++ ids (ws.take k)).contains (hT ws k) = false → Rest hs ws (k + 1) from HR.out.ok hkn)
          clear HR
          generalize ids hs ++ ids (ws.take k) = L at hown HL1 HN HR2 HR3
          go_wp2_with fail
          refine (specTid_any _ _).mono ?_; rintro e w' ⟨rfl, rfl⟩
          have hba := hb.alloc hsz (.cells #[.int .i64 (hT ws k), .bool (hW ws k)] 144)
          have Hba := Lib.hid hba
          have Xa := X.alloc (.cells #[.int .i64 (hT ws k), .bool (hW ws k)] 144)
          have Ha := Box.new (w := wr) (c := #[.int .i64 (hT ws k), .bool (hW ws k)]) (t := 144) rfl
          have hown := hown.alloc (.cells #[.int .i64 (hT ws k), .bool (hW ws k)] 144)
          clear X x0 x1 hb d0 d1 hba
          generalize (wr.alloc (.cells #[.int .i64 (hT ws k), .bool (hW ws k)] 144)) = w2 at Hba Xa Ha hown ⊢
          obtain ⟨y0, y1, yf⟩ := Ha.c2
          have hsz2 := Hba.out.size
          have hlt2 := Xa.lt
          clear yf
          cases ht : tidB (hT ws k) with
          | false =>
            have HB := Lib.hid (HR1.out ht)
            clear ht
            go_wp2
            go_ret
            exact ⟨ret_bool HB.out.symm, Hba.out⟩
          | true =>
            have HT := Lib.hid ht
            clear ht
            obtain ⟨Av, cv, rfl, hm, hI⟩ := OwnI.of_owns hown
            go_wp2_with fail
            (with_reducible refine (l01Has_any Av cv _ L _ _ hm hI.at_).mono ?_); rintro e w' ⟨rfl, rfl⟩
            cases hh : L.contains (hT ws k) with
            | true =>
              have HB := Lib.hid (HR2.out hh)
              clear hh
              go_wp2
              go_ret
              exact ⟨ret_bool HB.out.symm, Hba.out⟩
            | false =>
              have HR1 := Lib.hid (HR3.out HT.out hh)
              have hlen := HL1.out
              clear hh hI hm
              go_wp2_with (at_builtin; refine wpList_append_own _ rfl _ _ 28 rfl (w.heap.size + 1) 3 i0 (.int .i64 0) 1 8 Tryz.underlying28 Hi.out Hz0.out Hz1.out Hz2.out rfl (by decide) _ _ _ rfl (hown.alloc _) ⟨w2.heap.size, 0, none⟩ 1 1 [.int .i64 (hT ws k)] rfl rfl ?c1 ?c2 ?c3 ?c4 ?c5 ?_)
              case c1 =>
                intro j u hj
                match j, hj with
                | 0, hj => simp at hj; subst hj; simp [Addr.add]
              case c2 => intro u hu; simp at hu; subst hu; rfl
              case c3 => unfold maxLen; omega
              case c4 => omega
              case c5 => simp; omega
              intro v' w3 hown' hgrow _
              have X3 := (Xa.alloc (.cells #[.int .i64 (hT ws k)] 3)).grown hgrow (fun q hq => by have := (hown.lt q hq).1; omega)
              have hb3 := (Hba.out.alloc hsz2 (.cells #[.int .i64 (hT ws k)] 3)).grown hgrow (by simp; omega) (fun q hq => by have := (hown.lt q hq).1; omega)
              have hown3 : w3.ownsRow (w.heap.size + 1) 3 1 v' (ids hs ++ ids (ws.take (k + 1))).length ((ids hs ++ ids (ws.take (k + 1))).map (.int .i64)) := by rw [HN.out]; simpa using hown'
              clear hown' hgrow hown Hba Xa Ha y0 y1 hlen
              go_wp2
              exact ⟨⟨k + 1, by omega, by go_num, hown3, hb3, HR1.out, X3⟩, by simp [intOf]; omega⟩
        · obtain rfl : k = ws.length := by omega
          have HD := Lib.hid HR.out.done
          have hh := (h1 : HAt w w.heap.size A hs).below hb hsz
          have hh2 := h2.below hb hsz
          clear xf hown HR
          go_wp2_with fail
          refine (specGrants_any A A' c c' _ hs ws _ ⟨hh, hh2⟩).mono ?_; rintro e w3 ⟨rfl, hb3⟩
          cases hg : grantsS hs ws with
          | true =>
            have HE := Lib.hid (show lockOk hs ws = false by rw [HD.out, hg]; rfl)
            clear hg
            go_wp2
            go_ret
            exact ⟨ret_bool HE.out.symm, hb.trans (hb3.mono hsz)⟩
          | false =>
            have HE := Lib.hid (show lockOk hs ws = true by rw [HD.out, hg]; rfl)
            clear hg
            go_wp2
            go_ret
            exact ⟨ret_bool HE.out.symm, hb.trans (hb3.mono hsz)⟩
end Go.Proofs.YtkpkjcmoldkmmaaGreat
