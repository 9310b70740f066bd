/- Contract of spec.RunSerial: the acts run one after the other. -/
import Derived.Test.YtkpkjcmoldkmmaaRunAu
import Derived.Test.YtkpkjcmoldkmmaaWritesu
import Derived.Deep.RegionLaw
namespace Go.Proofs.Ytkpkjcmoldkmmaa
open Go.RowKit

/-- one act on the values -/
def actV (k y n : Int) (v : Nat → Int) : Nat → Int := fun j => if (j : Int) = y then (if k = 0 then v j else if k = 1 then n else cut (v j + n)) else v j
/-- the values behind the first k acts -/
def runV (f : Nat → Int) (v : Nat → Int) : Nat → Nat → Int
  | 0 => v
  | k + 1 => actV (f (k * 3)) (f (k * 3 + 1)) (f (k * 3 + 2)) (runV f v k)
/-- what the first k acts report -/
def runT (f : Nat → Int) (v : Nat → Int) : Nat → List Int
  | 0 => []
  | k + 1 => if f (k * 3) = 0 then runT f v k ++ [runV f v k (f (k * 3 + 1)).toNat] else runT f v k

theorem runV_succ (f v : Nat → Int) (k : Nat) : runV f v (k + 1) = actV (f (k * 3)) (f (k * 3 + 1)) (f (k * 3 + 2)) (runV f v k) := rfl
theorem runT_le (f v : Nat → Int) (k : Nat) : (runT f v k).length ≤ k := by
  induction k with
  | zero => exact Nat.le_refl _
  | succ k ih =>
    unfold runT
    split
    · simp; omega
    · omega
theorem runT_get {f v : Nat → Int} {k y : Nat} (h0 : f (k * 3) = 0) (hy : f (k * 3 + 1) = (y : Int)) : runT f v (k + 1) = runT f v k ++ [runV f v k y] := by
  simp [runT, h0, hy]
theorem runT_not {f v : Nat → Int} {k : Nat} (h0 : ¬ f (k * 3) = 0) : runT f v (k + 1) = runT f v k := by
  simp [runT, h0]

/-- values of a program that can run stay in range -/
theorem runV_range {f v : Nat → Int} {L n : Nat} (hv : valsOk L v = true) (hp : progOk n f = true) (k : Nat) (hk : k ≤ n) (j : Nat) (hj : j < L) : -1000000 ≤ runV f v k j ∧ runV f v k j ≤ 1000000 := by
  induction k with
  | zero => exact valsOk_get hv hj
  | succ k ih =>
    have ih := ih (by omega)
    have ha : actOk (f (k * 3)) (f (k * 3 + 1)) (f (k * 3 + 2)) = true := by
      simp only [progOk, Bool.and_eq_true, List.all_eq_true, List.mem_range] at hp
      exact hp.2 k (by omega)
    rw [runV_succ, actV]
    split
    · split
      · exact ih
      · split
        · rename_i h0 h1
          simp only [actOk, inB, Bool.and_eq_true, decide_eq_true_eq, if_neg h0] at ha
          exact ha.2
        · exact cut_range _
    · exact ih

theorem num_range {f : Nat → Int} {n k : Nat} (hp : progOk n f = true) (hk : k < n) : -1000000 ≤ f (k * 3 + 2) ∧ f (k * 3 + 2) ≤ 1000000 := by
  simp only [progOk, Bool.and_eq_true, List.all_eq_true, List.mem_range] at hp
  have ha := hp.2 k hk
  simp only [actOk, Bool.and_eq_true] at ha
  have ha := ha.2
  split at ha
  · simp at ha; omega
  · simp only [inB, Bool.and_eq_true, decide_eq_true_eq] at ha
    exact ha

/-- the values and the reports, each in memory of the call's own, apart from each other; nothing that was there has turned -/
def RunOut (w : World) (L : Nat) (v : Nat → Int) (T : List Int) (ok : Bool) (e : Ending) (w' : World) : Prop :=
  ∃ A1 c1 A2 c2 mid, e = .returned (.tuple #[.slice A1 L c1, .slice A2 T.length c2, .bool ok]) ∧ w.heap.size ≤ mid ∧ mid ≤ w'.heap.size ∧
    OwnI w' w.heap.size mid A1 L v ∧ OwnI w' mid w'.heap.size A2 T.length (fun j => T.getD j 0) ∧ Below w.heap.size w w'

theorem CellsI.below {w w' : World} {b off n B : Nat} {f : Nat → Int} (h : CellsI w b off n f) (hb : Below B w w') (hB : b < B) : CellsI w' b off n f := fun j hj =>
  ⟨(hb.cell (p := ⟨b, off + j, none⟩) hB).trans (h j hj).1, (hb.frozen (p := ⟨b, off + j, none⟩) hB).trans (h j hj).2⟩

theorem CellsI.alloc {w : World} {b off n : Nat} {f : Nat → Int} (h : CellsI w b off n f) (hB : b < w.heap.size) (x : Obj) : CellsI (w.alloc x) b off n f :=
  h.below ((Below.refl _ _).alloc (Nat.le_refl _) x) hB

theorem cells_get {w : World} {g o L k : Nat} {f v : Nat → Int} (h : CellsI w g o L (runV f v k)) (h0 : f (k * 3) = 0) : CellsI w g o L (runV f v (k + 1)) :=
  h.congr fun j _ => by
    rw [runV_succ, actV, h0]
    split <;> simp
theorem cells_put {w : World} {g o L k y : Nat} {f v : Nat → Int} (h : CellsI w g o L (runV f v k)) (h1 : f (k * 3) = 1) (hy : f (k * 3 + 1) = (y : Int)) (hL : y < L) :
    CellsI (w.setCell ⟨g, o + y, none⟩ (.int .i64 (f (k * 3 + 2)))) g o L (runV f v (k + 1)) := by
  have := h.set hL (f (k * 3 + 2))
  refine this.congr fun j _ => ?_
  rw [runV_succ, actV, h1, hy]
  by_cases e : j = y
  · subst e; simp
  · rw [if_neg e, if_neg (by omega)]
theorem cells_add {w : World} {g o L k y : Nat} {f v : Nat → Int} (h : CellsI w g o L (runV f v k)) (h2 : f (k * 3) = 2) (hy : f (k * 3 + 1) = (y : Int)) (hL : y < L) :
    CellsI (w.setCell ⟨g, o + y, none⟩ (.int .i64 (cut (runV f v k y + f (k * 3 + 2))))) g o L (runV f v (k + 1)) := by
  have := h.set hL (cut (runV f v k y + f (k * 3 + 2)))
  refine this.congr fun j _ => ?_
  rw [runV_succ, actV, h2, hy]
  by_cases e : j = y
  · subst e; simp
  · rw [if_neg e, if_neg (by omega)]

theorem runOk_parts {L n : Nat} {v f : Nat → Int} (h : runOk L v n f = true) : (1 ≤ L ∧ L ≤ 8) ∧ valsOk L v = true ∧ progOk n f = true ∧ keysIn L n f = true := by
  simp only [runOk, Bool.and_eq_true] at h
  obtain ⟨⟨⟨a, b⟩, c⟩, d⟩ := h
  simp only [inB, Bool.and_eq_true, decide_eq_true_eq] at a
  exact ⟨by omega, b, c, d⟩

theorem own_first {w : World} {lo B : Nat} {A : Option Addr} {n : Nat} {f : Nat → Int} (h : OwnI w lo B A (firstI f n).length (fun j => (firstI f n).getD j 0)) : OwnI w lo B A n f := by
  rw [firstI_len] at h
  exact h.congr fun j hj => firstI_get f n j hj

theorem cells_grown {w w' : World} {o1 o2 : Obj} {g o L : Nat} {f : Nat → Int} {row : Option Nat} (h : CellsI w g o L f) (hg : ((w.alloc o1).alloc o2).grownBy w' row) (hB : g < w.heap.size) (hr : ∀ q, row = some q → g < q) : CellsI w' g o L f := fun j hj => by
  have hk := hg.block g (by simp; omega) (fun e => by have := hr g e.symm; omega)
  rw [Below.heap_alloc _ _ _ (by simp; omega), Below.heap_alloc _ _ _ hB] at hk
  exact ⟨(World.cell?_of_block (a := ⟨g, o + j, none⟩) hk).trans (h j hj).1, (World.frozen?_of_block (a := ⟨g, o + j, none⟩) hk).trans (h j hj).2⟩

/-- the answer's values, its reports -/
def resV (L : Nat) (v : Nat → Int) (n : Nat) (f : Nat → Int) : Nat → Int := if runOk L v n f = true then runV f v n else v
def resT (L : Nat) (v : Nat → Int) (n : Nat) (f : Nat → Int) : List Int := if runOk L v n f = true then runT f v n else []
theorem res_no {L n : Nat} {v f : Nat → Int} (h : runOk L v n f = false) {w w' : World} {e : Ending} (hr : RunOut w L v [] false e w') : RunOut w L (resV L v n f) (resT L v n f) (runOk L v n f) e w' := by
  simpa [resV, resT, h] using hr
theorem res_yes {L n : Nat} {v f : Nat → Int} (h : runOk L v n f = true) {w w' : World} {e : Ending} (hr : RunOut w L (runV f v n) (runT f v n) true e w') : RunOut w L (resV L v n f) (resT L v n f) (runOk L v n f) e w' := by
  simpa [resV, resT, h] using hr
theorem own_more {w : World} {B n : Nat} {A : Option Addr} {c : Nat} {v : Nat → Int} {w0 : World} (hs : w0.heap.size ≤ B) (hm : B ≤ w.heap.size) (h : OwnI w w0.heap.size B A n v) (hb : Below w0.heap.size w0 w) :
    RunOut w0 n v [] false (.returned (.tuple #[.slice A n c, .slice none 0 0, .bool false])) w :=
  ⟨A, c, none, 0, B, rfl, hs, hm, h, fun h => absurd h (by simp), hb⟩

set_option maxHeartbeats 3200000 in
theorem specRun_any (A1 A2 : Option Addr) (L n c1 c2 : Nat) (v f : Nat → Int) (w : World) (hL : L ≤ 1048576) (h1 : IntsAt w w.heap.size A1 L v) (h2 : IntsAt w w.heap.size A2 (n * 3) f) :
    Calls Try.prog 73 #[.slice A1 L c1, .slice A2 n c2] w (RunOut w L (resV L v n f) (resT L v n f) (runOk L v n f)) := by
  cases hin : inB L 1 8 with
  | false =>
    have HN := Lib.hid (show runOk L v n f = false by simp [runOk, hin])
    go_enter Try.func73, Try.ntmps73
    go_wp2_with fail
    refine (l01Copy_any _ _ _ v _ hL h1).mono ?_; rintro e w1 ⟨x, rfl, ho, hb1⟩
    obtain ⟨B1, d1, rfl, _, o1⟩ := OwnI.of_owns ho
    have o1 := own_first o1
    simp only [firstI_len]
    clear ho
    have hs := hb1.size
    go_wp2_with fail
    refine (l01In_any _ _ _ _).mono ?_; rintro e w' ⟨rfl, rfl⟩
    rw [hin]
    clear hin
    go_wp2
    go_ret3
    exact res_no HN.out (own_more hs (by simp) (o1.below ((Below.refl _ _).alloc (Nat.le_refl _) _) (Nat.le_refl _)) (hb1.alloc hs _))
  | true =>
  cases hp : progOk n f with
  | false =>
    have HN := Lib.hid (show runOk L v n f = false by simp [runOk, hp])
    go_enter Try.func73, Try.ntmps73
    go_wp2_with fail
    refine (l01Copy_any _ _ _ v _ hL h1).mono ?_; rintro e w1 ⟨x, rfl, ho, hb1⟩
    obtain ⟨B1, d1, rfl, _, o1⟩ := OwnI.of_owns ho
    have o1 := own_first o1
    simp only [firstI_len]
    clear ho
    have hs := hb1.size
    go_wp2_with fail
    refine (l01In_any _ _ _ _).mono ?_; rintro e w' ⟨rfl, rfl⟩
    rw [hin]
    clear hin
    have hb2 := hb1.alloc hs (.cells #[] 3)
    go_wp2_with fail
    refine (specProgOk_any _ _ _ f _ (h2.below hb2 hb2.size)).mono ?_; rintro e w2 ⟨rfl, hb3⟩
    rw [hp]
    clear hp
    go_wp2
    go_ret3
    have hs3 := hb3.size
    simp at hs3
    exact res_no HN.out (own_more hs (by omega) ((o1.below ((Below.refl _ _).alloc (Nat.le_refl _) _) (Nat.le_refl _)).below hb3 (by simp)) (hb2.trans (hb3.mono hb2.size)))
  | true =>
    have h16 := prog_len hp
    have hL8 : 1 ≤ L ∧ L ≤ 8 := by simp [inB] at hin; omega
    have HI := Lib.hid hin
    have HP := Lib.hid hp
    obtain ⟨b1, off1, rfl, hB1, hc1⟩ := h1 (by omega)
    obtain ⟨b2, off2, rfl, hB2, hc2⟩ := h2 (by omega)
    go_enter Try.func73, Try.ntmps73
    go_wp2_with fail
    refine (l01Copy_any _ _ _ v _ hL h1).mono ?_; rintro e w1 ⟨x, rfl, ho, hb1⟩
    obtain ⟨B1, d1, rfl, _, o1⟩ := OwnI.of_owns ho
    have o1 := own_first o1
    simp only [firstI_len]
    clear ho
    have hs := hb1.size
    go_wp2_with fail
    refine (l01In_any _ _ _ _).mono ?_; rintro e w' ⟨rfl, rfl⟩
    rw [hin]
    clear hin
    have hb2 := hb1.alloc hs (.cells #[] 3)
    go_wp2_with fail
    refine (specProgOk_any _ _ _ f _ (h2.below hb2 hb2.size)).mono ?_; rintro e w2 ⟨rfl, hb3⟩
    rw [hp]
    clear hp h2
    have hs3 := hb3.size
    simp at hs3
    have hb4 := hb2.trans (hb3.mono hb2.size)
    have o2 := (o1.below ((Below.refl _ _).alloc (Nat.le_refl _) (.cells #[] 3)) (Nat.le_refl _)).below hb3 (by simp)
    have hown := World.ownsRow_made (base := w1.heap.size) (size := 1) (e := 3) w1 #[] 0 (Nat.le_refl _) (Nat.zero_le _) rfl
    have hown := ownsRow_below hown hb3 (Nat.le_refl _)
    have Hown := Lib.hid hown
    have H1 := Lib.hid (h1.below hb4 hb4.size)
    clear hown hb2 hb3 o1 h1
    go_wp2
    -- the values
    go_loop [9] (fun i => ∃ k : Nat, k ≤ L ∧ i = .int .i64 k ∧ ∀ j, j < k → inB (v j) (-1000000) 1000000 = true) (fun i => L - (intOf i).toNat)
    case atStart => exact ⟨0, Nat.zero_le _, rfl, fun j hj => absurd hj (by omega)⟩
    case round =>
      obtain ⟨k, hk, rfl, hall⟩ := hrel
      have Hall := Lib.hid hall
      clear hall
      by_cases hkn : k < L
      · have hkz : (k : Int) < L := by omega
        have c0 : w2.cell? ⟨b1, off1 + k, none⟩ = some (.int .i64 (v k)) := (hb4.cell (p := ⟨b1, off1 + k, none⟩) hB1).trans (hc1 _ (by omega))
        clear hc1 hc2
        go_wp2_with fail
        refine (specValue_any _ _).mono ?_; rintro e w' ⟨rfl, rfl⟩
        cases hv : inB (v k) (-1000000) 1000000 with
        | true =>
          go_wp2
          exact ⟨⟨k + 1, by omega, by go_num, fun j hj => by
            by_cases e : j = k
            · subst e; exact hv
            · exact Hall.out j (by omega)⟩, by simp [intOf]; omega⟩
        | false =>
          go_wp2
          go_ret3
          exact res_no (by simp [runOk, valsOk_false hkn hv]) (own_more hs (by omega) o2 hb4)
      · obtain rfl : k = L := by omega
        have HV := Lib.hid (valsOk_true Hall.out)
        clear Hall hc1
        obtain ⟨g, o, rfl, hg1, hg2, hcg⟩ := o2 (by omega)
        have hcg : CellsI w2 g o k v := hcg
        go_wp2
        -- the keys
        go_loop [10] (fun i => ∃ q : Nat, q ≤ n ∧ i = .int .i64 q ∧ ∀ i, i < q → f (i * 3 + 1) < (k : Int)) (fun i => n - (intOf i).toNat)
        case atStart => exact ⟨0, Nat.zero_le _, rfl, fun j hj => absurd hj (by omega)⟩
        case round =>
          obtain ⟨q, hq, rfl, hall⟩ := hrel
          have Hall := Lib.hid hall
          clear hall
          by_cases hqn : q < n
          · have hqz : (q : Int) < n := by omega
            have e0 : w2.cell? ⟨b2, off2 + q * 3 + 1, none⟩ = some (.int .i64 (f (q * 3 + 1))) := (hb4.cell (p := ⟨b2, off2 + q * 3 + 1, none⟩) hB2).trans (hc2 (q * 3 + 1) (by omega))
            clear hc2 hcg
            by_cases hkey : f (q * 3 + 1) < (k : Int)
            · go_wp2
              exact ⟨⟨q + 1, by omega, by go_num, fun j hj => by
                by_cases e : j = q
                · subst e; exact hkey
                · exact Hall.out j (by omega)⟩, by simp [intOf]; omega⟩
            · have hkey' : (k : Int) ≤ f (q * 3 + 1) := by omega
              go_wp2_with fail
              refine (l01Copy_any _ _ _ v _ hL H1.out).mono ?_; rintro e w5 ⟨x, rfl, ho, hb5⟩
              obtain ⟨B5, d5, rfl, _, o5⟩ := OwnI.of_owns ho
              have o5 := own_first o5
              simp only [firstI_len]
              clear ho
              go_wp2
              go_ret3
              exact res_no (by simp [runOk, keysIn_false hqn (show ¬ f (q * 3 + 1) < (k : Int) by omega)]) (own_more (hb4.trans (hb5.mono hb4.size)).size (Nat.le_refl _) (o5.more hb4.size (Nat.le_refl _)) (hb4.trans (hb5.mono hb4.size)))
          · obtain rfl : q = n := by omega
            have HK := Lib.hid (keysIn_true Hall.out)
            have HOK := Lib.hid (show runOk k v q f = true by simp [runOk, HI.out, HV.out, HP.out, HK.out])
            clear Hall
            have hown := Hown.out
            obtain ⟨i0, hi, hz0, hz1, hz2⟩ := info_parts infoInt
            have Hi := Lib.hid hi
            have Hz0 := Lib.hid hz0
            have Hz1 := Lib.hid hz1
            have Hz2 := Lib.hid hz2
            clear hi hz0 hz1 hz2
            go_wp2
            -- the acts
            go_loopw [8, 11] (fun s i wr => ∃ m : Nat, m ≤ q ∧ i = .int .i64 m ∧ wr.ownsRow w1.heap.size 3 1 s (runT f v m).length ((runT f v m).map (.int .i64)) ∧ CellsI wr g o k (runV f v m) ∧ Below w.heap.size w wr ∧ w1.heap.size ≤ wr.heap.size) (fun _ i _ => q - (intOf i).toNat)
            case atStart => exact ⟨0, Nat.zero_le _, rfl, hown, hcg, hb4, by omega⟩
            case round =>
              obtain ⟨m, hm, rfl, hT, hcv, hb, hz⟩ := hrel
              clear hown hcg
              by_cases hmn : m < q
              · have hmz : (m : Int) < q := by omega
                have hkr := key_range HP.out hmn
                have hkl := keysIn_get HK.out hmn
                obtain ⟨y, hy⟩ := Int.eq_ofNat_of_zero_le hkr.1
                have hs' := hb.size
                have hTl := runT_le f v m
                have hyk : y < k := by omega
                have hyz : (y : Int) < k := by omega
                have hgb : g < wr.heap.size := World.block_lt_of_cell? _ _ (hcv y hyk).1
                have d0 : wr.cell? ⟨b2, off2 + m * 3, none⟩ = some (.int .i64 (f (m * 3))) := (hb.cell (p := ⟨b2, off2 + m * 3, none⟩) hB2).trans (hc2 (m * 3) (by omega))
                have d1 : wr.cell? ⟨b2, off2 + m * 3 + 1, none⟩ = some (.int .i64 (y : Int)) := by rw [← hy]; exact (hb.cell (p := ⟨b2, off2 + m * 3 + 1, none⟩) hB2).trans (hc2 (m * 3 + 1) (by omega))
                have d2 : wr.cell? ⟨b2, off2 + m * 3 + 2, none⟩ = some (.int .i64 (f (m * 3 + 2))) := (hb.cell (p := ⟨b2, off2 + m * 3 + 2, none⟩) hB2).trans (hc2 (m * 3 + 2) (by omega))
                have e0 : wr.cell? ⟨g, o + y, none⟩ = some (.int .i64 (runV f v m y)) := (hcv y hyk).1
                have e1 : wr.frozen? ⟨g, o + y, none⟩ = false := (hcv y hyk).2
                rcases kind3 HP.out hmn with h0 | h0 | h0
                · have HC := Lib.hid (cells_get hcv h0)
                  have HT := Lib.hid (runT_get (v := v) h0 hy)
                  rw [h0] at d0
                  clear hc2 hcv hkr hy h0 hkl
                  go_wp2_with (at_builtin; refine wpList_append_own _ rfl _ _ 31 rfl w1.heap.size 3 i0 (.int .i64 0) 1 8 Try.underlying31 Hi.out Hz0.out Hz1.out Hz2.out rfl (by decide) _ _ _ rfl ((hT.alloc _).alloc _) ⟨wr.heap.size + 1, 0, none⟩ 1 1 [.int .i64 (runV f v m y)] rfl rfl ?c1 ?c2 ?c3 ?c4 ?c5 ?_)
                  case c1 =>
                    intro j u hj
                    match j, hj with
                    | 0, hj => simp at hj; subst hj; simp [Addr.add]
                  case c2 => intro u hu; simp at hu; subst hu; rfl
                  case c3 => unfold maxLen; omega
                  case c4 => omega
                  case c5 => simp; omega
                  intro v' w6 hown' hgrow _
                  have hb' := ((hb.alloc hs' _).alloc (by simp; omega) _).grown hgrow (by simp; omega) (fun q hq => by have := (hT.lt q hq).1; omega)
                  have hT2 : w6.ownsRow w1.heap.size 3 1 v' (runT f v (m + 1)).length ((runT f v (m + 1)).map (.int .i64)) := by rw [HT.out]; simpa using hown'
                  have hcv2 : CellsI w6 g o k (runV f v (m + 1)) := cells_grown HC.out hgrow hgb (fun q hq => by have := (hT.lt q hq).1; omega)
                  have hz2 : w1.heap.size ≤ w6.heap.size := by have := hgrow.size; simp at this; omega
                  clear hown' hgrow hT hb
                  go_wp2
                  exact ⟨⟨m + 1, by omega, by go_num, hT2, hcv2, hb', hz2⟩, by simp [intOf]; omega⟩
                · have HC := Lib.hid (cells_put hcv h0 hy hyk)
                  have HT := Lib.hid (runT_not (v := v) (show ¬ f (m * 3) = 0 by omega))
                  have HS := Lib.hid hT
                  rw [h0] at d0
                  clear hc2 hcv hkr hy h0 hkl hT
                  go_wp2
                  exact ⟨⟨m + 1, by omega, by go_num, by rw [HT.out]; exact (ownsRow_setCell_below HS.out (a := ⟨g, o + y, none⟩) hg2 _).alloc _, HC.out.alloc (by simpa [World.setCell] using hgb) _, (hb.setCell hg1 _).alloc (by simpa [World.setCell] using hs') _, by simp [World.setCell]; omega⟩, by simp [intOf]; omega⟩
                · have HC := Lib.hid (cells_add hcv h0 hy hyk)
                  have HT := Lib.hid (runT_not (v := v) (show ¬ f (m * 3) = 0 by omega))
                  have HS := Lib.hid hT
                  have hr1 := runV_range HV.out HP.out m (by omega) y hyk
                  have hr2 := num_range HP.out hmn
                  have HW := Lib.hid (IntWalk.i64_in (runV f v m y + f (m * 3 + 2)) (by omega))
                  clear hr1 hr2
                  rw [h0] at d0
                  clear hc2 hcv hkr hy h0 hkl hT
                  go_wp2_with fail
                  go_region_law (first | (go_simp; go_at_call 118; refine (l01Cut_any _ _).mono ?_; rintro e w' ⟨rfl, rfl⟩))
                  all_goals
                    rw [HW.out]
                    go_wp2
                    exact ⟨⟨m + 1, by omega, by go_num, by rw [HT.out]; exact ((ownsRow_setCell_below HS.out (a := ⟨g, o + y, none⟩) hg2 _).alloc _).drew, HC.out.alloc (by simpa [World.setCell] using hgb) _, ((hb.setCell hg1 _).alloc (by simpa [World.setCell] using hs') _).drew, by simp [World.setCell]; omega⟩, by simp [intOf]; omega⟩
              · obtain rfl : m = q := by omega
                go_wp2
                go_ret3
                obtain ⟨B5, d5, rfl, _, o5⟩ := OwnI.of_owns hT
                have hs' := hb.size
                exact res_yes HOK.out ⟨_, _, B5, d5, w1.heap.size, rfl, hs, hz, fun _ => ⟨g, o, rfl, hg1, hg2, hcv⟩, o5, hb⟩
end Go.Proofs.Ytkpkjcmoldkmmaa
