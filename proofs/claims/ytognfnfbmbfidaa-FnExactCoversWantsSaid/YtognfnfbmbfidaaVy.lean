/- The program's merging of two lists of wants. -/
import Derived.Test.YtognfnfbmbfidaaVx
import Derived.Deep.AppendLies
import Derived.Deep.RegionLaw
import Derived.Laws.AppendOwnNone
namespace Go.Proofs.Ytognfnfbmbfidaa
open Go.RowKit

def cmpI (a b : Int) : Int := if a < b then -1 else if b < a then 1 else 0
theorem ret_int {a b : Int} (h : a = b) : Ending.returned (.int .i64 a) = .returned (.int .i64 b) := by rw [h]
theorem compare_any (a b : Int) (w : World) :
    Calls Try.prog 83 #[.int .i64 a, .int .i64 b] w fun e w' => e = .returned (.int .i64 (cmpI a b)) ∧ w = w' := by
  by_cases h1 : a < b
  · go_enter Try.func83, Try.ntmps83
    go_wp2
    go_ret
    exact ⟨ret_int (by unfold cmpI; rw [if_pos h1]), rfl⟩
  · by_cases h2 : b < a
    · go_enter Try.func83, Try.ntmps83
      go_wp2
      go_ret
      exact ⟨ret_int (by unfold cmpI; rw [if_neg (by omega), if_pos h2]), rfl⟩
    · go_enter Try.func83, Try.ntmps83
      go_wp2
      go_ret
      exact ⟨ret_int (by unfold cmpI; rw [if_neg (by omega), if_neg (by omega)]), rfl⟩
theorem compareKeys_any (a b : Int) (x y : Bool) (w : World) :
    Calls Try.prog 57 #[.agg #[.int .i64 a, .bool x], .agg #[.int .i64 b, .bool y]] w fun e w' => e = .returned (.int .i64 (cmpI a b)) ∧ Below w.heap.size w w' := by
  go_enter Try.func57, Try.ntmps57
  go_wp2_with (go_at_call 83; refine (compare_any _ _ _).mono ?_; rintro e w' ⟨rfl, rfl⟩)
  go_ret
  exact ⟨rfl, ((Below.refl _ _).alloc (Nat.le_refl _) _).alloc (by simp) _⟩
theorem joined_any (a b : Int) (x y : Bool) (w : World) :
    Calls Try.prog 58 #[.agg #[.int .i64 a, .bool x], .agg #[.int .i64 b, .bool y]] w fun e w' => e = .returned (.agg #[.int .i64 a, .bool (x || y)]) ∧ Below w.heap.size w w' := by
  cases x with
  | true =>
    go_enter Try.func58, Try.ntmps58
    go_wp2
    exact bodyPost_ret (v := .agg #[.int .i64 a, .bool true]) (by simp [results, Try.results58, go_sem]) rfl ⟨by simp, by (repeat' (refine Below.setCell ?_ (by simp; omega) _)); exact (((Below.refl _ _).alloc (Nat.le_refl _) _).alloc (by simp) _).alloc (by simp; omega) _⟩
  | false =>
    go_enter Try.func58, Try.ntmps58
    go_wp2
    exact bodyPost_ret (v := .agg #[.int .i64 a, .bool y]) (by simp [results, Try.results58, go_sem]) rfl ⟨by simp, by (repeat' (refine Below.setCell ?_ (by simp; omega) _)); exact (((Below.refl _ _).alloc (Nat.le_refl _) _).alloc (by simp) _).alloc (by simp; omega) _⟩

def lenOf : Value → Nat
  | .slice _ n _ => n
  | _ => 0
theorem HAt.tail {w : World} {B g o : Nat} {z : Int × Bool} {l : HL} (h : HAt w B (some ⟨g, o, none⟩) (z :: l)) : HAt w B (some ⟨g, o + 2, none⟩) l := fun hn => by
  obtain ⟨b, off, e, hb, hc⟩ := h (by simp)
  injection e with e; injection e with e1 e2 _
  subst e1 e2
  refine ⟨g, o + 2, rfl, hb, fun j hj => ?_⟩
  have := hc (j + 1) (by simp; omega)
  have q : o + (j + 1) * 2 = o + 2 + j * 2 := by omega
  rw [q] at this
  exact this
theorem HAt.head {w : World} {B g o : Nat} {z : Int × Bool} {l : HL} (h : HAt w B (some ⟨g, o, none⟩) (z :: l)) : g < B ∧ w.cell? ⟨g, o, none⟩ = some (.int .i64 z.1) ∧ w.cell? ⟨g, o + 1, none⟩ = some (.bool z.2) := by
  obtain ⟨b, off, e, hb, hc⟩ := h (by simp)
  injection e with e; injection e with e1 e2 _
  subst e1 e2
  have := hc 0 (by simp)
  exact ⟨hb, by simpa [hT] using this.1, by simpa [hW] using this.2⟩
theorem tail_addr {w : World} {B g o c : Nat} {z : Int × Bool} {l : HL} (h : HAt w B (some ⟨g, o, none⟩) (z :: l)) (hc : l.length + 1 ≤ c) : ∃ p, (if c = 1 then some (⟨g, o, none⟩ : Addr) else some ⟨g, o + 2, none⟩) = some ⟨g, p, none⟩ ∧ HAt w B (some ⟨g, p, none⟩) l := by
  by_cases e : c = 1
  · exact ⟨o, if_pos e, fun hn => by omega⟩
  · exact ⟨o + 2, if_neg e, h.tail⟩
/-- an answer that is a list of wants of the call's own, with its capacity -/
def RetHC (w : World) (l : HL) (mk : Value → Value) (e : Ending) (w' : World) : Prop := ∃ A c, e = .returned (mk (.slice A l.length c)) ∧ l.length ≤ c ∧ (A = Option.none → c = 0) ∧ HOwn w' w.heap.size w'.heap.size A l ∧ Below w.heap.size w w'
theorem RetHC.ret {w w' : World} {l : HL} {mk : Value → Value} {e : Ending} (h : RetHC w l mk e w') : RetH w l mk e w' := by
  obtain ⟨A, c, h1, _, _, h2, h3⟩ := h
  exact ⟨A, c, h1, h2, h3⟩
theorem RowW.ownC {w : World} {lo m : Nat} {v : Value} {l : HL} (h : RowW w lo m v l) : ∃ A c, v = .slice A l.length c ∧ l.length ≤ c ∧ (A = Option.none → c = 0) ∧ HOwn w lo w.heap.size A l := by
  rcases h.1.2 with ⟨e1, e2⟩ | ⟨g, cap, cur, e1, _, _, hn, _⟩
  · exact ⟨_, _, e1.trans (by rw [e2]), by omega, fun _ => rfl, fun hn => by omega⟩
  · refine ⟨_, _, e1, hn, (fun h => by cases h), ?_⟩
    obtain ⟨A, c, e, _, ho⟩ := HOwn.of_owns h.1
    rw [e1] at e
    injection e with q1 q2 q3
    subst q1 q3
    exact ho
theorem HAt.news {w : World} {B g o : Nat} {l : HL} (h : HAt w B (some ⟨g, o, none⟩) l) : ∀ j u, (hcs l)[j]? = some u → w.cell? ((⟨g, o, none⟩ : Addr).add j) = some u := by
  intro j u hj
  have hadd : (⟨g, o, none⟩ : Addr).add j = ⟨g, o + j, none⟩ := by unfold Addr.add; split <;> simp_all
  have hlt : j < (hcs l).length := (List.getElem?_eq_some_iff.1 hj).1
  rw [hcs_length] at hlt
  obtain ⟨b, off, e, hb, hc⟩ := h (by omega)
  injection e with e; injection e with e1 e2 _
  subst e1 e2
  have hj2 : j / 2 < l.length := by omega
  have hg := hcs_get hj2
  have hcc := hc (j / 2) hj2
  rcases Nat.mod_two_eq_zero_or_one j with hm | hm
  · have e : j / 2 * 2 = j := by omega
    rw [e] at hg hcc
    rw [hg.1] at hj
    injection hj with hj
    subst hj
    rw [hadd]
    exact hcc.1
  · have e : j / 2 * 2 + 1 = j := by omega
    have hx := hcc.2
    rw [e] at hg
    rw [hg.2] at hj
    injection hj with hj
    subst hj
    have q : o + j / 2 * 2 + 1 = o + j := by omega
    rw [q] at hx
    rw [hadd]
    exact hx
theorem hcs_one (l : HL) : ∀ u ∈ hcs l, u.oneCell' = true := by
  induction l with
  | nil => intro u hu; simp [hcs] at hu
  | cons z l ih =>
    intro u hu
    simp only [hcs, List.mem_cons] at hu
    rcases hu with rfl | rfl | hu
    · rfl
    · rfl
    · exact ih u hu
theorem grownBy_refl (w : World) (r : Option Nat) : w.grownBy w r := ⟨rfl, rfl, rfl, Nat.le_refl _, fun _ _ _ => rfl⟩
/-- append of a whole list, nil or not, onto a row of the call's own -/
theorem wpList_appW {w : World} {ops : Array Oper} {rest : List Oper} {o : Oper} {a : Act} {Q : Exit → Act → World → Prop} (hgd : o.guard = none) (s x : Operand)
    (ho : o.op = .call { callee := .builtin .append, args := #[s, x], argTypes := #[24, 24] })
    (lo m B : Nat) (v : Value) (L : HL) (hs : a.eval s = v) (hrow : RowW w lo m v L) (A : Option Addr) (l : HL) (n c : Nat) (hn : n = l.length) (hx : a.eval x = .slice A n c) (h0 : A = Option.none → c = 0) (hat : HAt w B A l)
    (hlen : L.length + l.length ≤ 2097152) (hlo : lo ≤ w.heap.size) (hm : m ≤ w.heap.size)
    (h : ∀ v' w', RowW w' lo m v' (L ++ l) → w.grownBy w' v.ownBlock → wpList Try.prog ops Q rest (a.put o.dst v') w') : wpList Try.prog ops Q (o :: rest) a w := by
  subst hn
  obtain ⟨i0, hi, hz0, hz1, hz2⟩ := info_parts infoWant
  cases A with
  | none =>
    have hc := h0 rfl
    subst hc
    have hl : l = [] := by
      cases l with
      | nil => rfl
      | cons z l => obtain ⟨_, _, e, _⟩ := hat (by simp); cases e
    subst hl
    refine wpList_append_own_none hgd s x 24 ho lo 32 i0 2 Try.underlying24 hi v L.length (hcs L) hs hrow.1 hx ?_
    exact h v w (by rw [List.append_nil]; exact hrow) (grownBy_refl _ _)
  | some p =>
    have hnews : ∀ j u, (hcs l)[j]? = some u → w.cell? (p.add j) = some u := by
      cases l with
      | nil => intro j u hj; simp [hcs] at hj
      | cons z l =>
        obtain ⟨g, q, e, _, _⟩ := hat (by simp)
        injection e with e
        subst e
        exact hat.news
    refine wpList_append_own_at _ hgd s x 24 ho lo 32 i0 (.agg #[.int .i64 0, .bool false]) 2 16 Try.underlying24 hi hz0 hz1 hz2 rfl (by decide) v L.length (hcs L) hs hrow.1 p l.length c (hcs l) hx (hcs_length l) hnews (hcs_one l) (by unfold maxLen; omega) (by omega) hlo ?_
    intro v' w' hown hgr hnil hat'
    refine h v' w' ⟨by rw [hcs_append, List.length_append]; exact hown, fun b hb => ?_⟩ hgr
    rcases hat' with hat' | hat'
    · exact hrow.2 b (hat'.symm.trans hb)
    · rw [hat'] at hb
      injection hb with hb
      omega
/-- what the loop carries -/
structure MrgS (w wr : World) (a b : HL) (s0 s1 s9 : Value) (a' b' : HL) (L : HL) (pa : Option Addr) (ca : Nat) (pb : Option Addr) (cb : Nat) : Prop where
  e0 : s0 = .slice pa a'.length ca
  e1 : s1 = .slice pb b'.length cb
  na : pa = Option.none → ca = 0
  nb : pb = Option.none → cb = 0
  ca : a'.length ≤ ca
  cb : b'.length ≤ cb
  ha : HAt wr w.heap.size pa a'
  hb : HAt wr w.heap.size pb b'
  row : RowW wr w.heap.size w.heap.size s9 L
  bel : Below w.heap.size w wr
  is : mergeR a b = L ++ mergeR a' b'
  len : L.length + a'.length + b'.length ≤ a.length + b.length

set_option maxHeartbeats 6400000 in
set_option maxRecDepth 100000 in
theorem merged_any (PA PB : Option Addr) (ca0 cb0 B : Nat) (a b : HL) (w : World) (hn : a.length + b.length ≤ 1048576) (hBw : B ≤ w.heap.size) (hca : a.length ≤ ca0) (hcb : b.length ≤ cb0) (hna : PA = Option.none → ca0 = 0) (hnb : PB = Option.none → cb0 = 0) (ha : HAt w B PA a) (hb : HAt w B PB b) :
    Calls Try.prog 56 #[.slice PA a.length ca0, .slice PB b.length cb0, .func (.func 57) #[] #[], .func (.func 58) #[] #[]] w (RetHC w (mergeR a b) (fun v => v)) := by
  obtain ⟨i0, hi, hz0, hz1, hz2⟩ := info_parts infoWant
  have Hi := Lib.hid hi
  have Hz0 := Lib.hid hz0
  have Hz1 := Lib.hid hz1
  have Hz2 := Lib.hid hz2
  clear hi hz0 hz1 hz2
  go_enter Try.func56, Try.ntmps56
  go_wp2
  go_loopw [0, 1, 9] (fun s0 s1 s9 wr => ∃ a' b' L pa ca pb cb, MrgS w wr a b s0 s1 s9 a' b' L pa ca pb cb) (fun s0 s1 _ _ => lenOf s0 + lenOf s1)
  case atStart => exact ⟨a, b, [], PA, ca0, PB, cb0, rfl, rfl, hna, hnb, hca, hcb, ha.up hBw, hb.up hBw, RowW.nil _ _ _, Below.refl _ _, rfl, by simp⟩
  case round =>
    clear ha hb
    obtain ⟨a', b', L, pa, ca, pb, cb, rfl, rfl, hna', hnb', hca', hcb', ha, hb, hrow, bel, his, hlen⟩ := hrel
    clear hna hnb
    have HI := Lib.hid his
    clear his
    match a', b', hca', hcb', ha, hb, HI, hlen with
    | (x1, x2) :: a1, (y1, y2) :: b1, hca', hcb', ha, hb, HI, hlen =>
      obtain ⟨ga, oa, rfl, _, _⟩ := ha (by simp)
      obtain ⟨gb, ob, rfl, _, _⟩ := hb (by simp)
      clear hna' hnb'
      obtain ⟨hga, d0, d1⟩ := ha.head
      obtain ⟨hgb, d0', d1'⟩ := hb.head
      simp only at d0 d1 d0' d1'
      have hl1 : L.length + a1.length + b1.length + 2 ≤ 1048576 := by simp at hlen; omega
      simp only [List.length_cons] at hca' hcb' hlen ⊢
      have hsz := bel.size
      have hA := Lib.hid ha
      have hB := Lib.hid hb
      have hpa : (0 : Int) < ((a1.length + 1 : Nat) : Int) := by omega
      have hpb : (0 : Int) < ((b1.length + 1 : Nat) : Int) := by omega
      clear ha hb
      have hdr := (Below.refl wr.heap.size wr).drew
      have HDR := Lib.hid hdr
      have Hrow := Lib.hid hrow
      clear hdr hrow
      have hltga : ga < wr.heap.size := by omega
      have hltgb : gb < wr.heap.size := by omega
      go_wp2_with fail
      go_region_law (go_simp; go_at_call 57; refine (compareKeys_any x1 y1 x2 y2 _).mono ?_; rintro o w3 ⟨rfl, hb3⟩)
      all_goals
        have h3 := HDR.out.trans hb3
        have b3 := bel.trans (h3.mono hsz)
        have hs3 := b3.size
        have hrow3 := Hrow.out.next h3
        have d0 := (h3.cell (p := ⟨ga, oa, none⟩) hltga).trans d0
        have d1 := (h3.cell (p := ⟨ga, oa + 1, none⟩) hltga).trans d1
        have d0' := (h3.cell (p := ⟨gb, ob, none⟩) hltgb).trans d0'
        have d1' := (h3.cell (p := ⟨gb, ob + 1, none⟩) hltgb).trans d1'
        have hA := Lib.hid (hA.out.keep h3 hsz)
        have hB := Lib.hid (hB.out.keep h3 hsz)
        have hga3 : ga < w3.heap.size := by omega
        have hgb3 : gb < w3.heap.size := by omega
        clear hb3 HDR Hrow h3
        obtain ⟨oA, hifA, hAt⟩ := tail_addr hA.out hca'
        obtain ⟨oB, hifB, hBt⟩ := tail_addr hB.out hcb'
        have hAt := Lib.hid hAt
        have hBt := Lib.hid hBt
        have h1a : (1 : Int) ≤ (a1.length : Int) + 1 := by omega
        have h1b : (1 : Int) ≤ (b1.length : Int) + 1 := by omega
        by_cases hc1 : x1 < y1
        · have hcm : cmpI x1 y1 = -1 := by unfold cmpI; rw [if_pos hc1]
          rw [hcm]
          clear hcm
          have hba := ((Below.refl w3.heap.size w3).drew).alloc (by show w3.heap.size ≤ w3.heap.size; exact Nat.le_refl _) (.cells #[.int .i64 x1, .bool x2] 32)
          have HOW := Lib.hid (hrow3.next hba).1
          have NB := Box.new (w := w3.drew) (b := w3.heap.size) (c := #[.int .i64 x1, .bool x2]) (t := 32) rfl
          have NEWS := Lib.hid (cells_two NB)
          have ONE := Lib.hid (hcs_two x1 x2)
          have SZ2 : Hid (w.heap.size ≤ (w3.drew.alloc (.cells #[.int .i64 x1, .bool x2] 32)).heap.size) := Lib.hid (by simp; omega)
          have HH : Hid ((w3.drew.alloc (.cells #[.int .i64 x1, .bool x2] 32)).heap.size = w3.heap.size + 1) := Lib.hid (by simp)
          have HBA := Lib.hid hba
          have HR0 := Lib.hid hrow3
          clear hba NB hrow3
          go_wp2_with fail
          go_region_law (refine step_append_lies _ rfl _ _ 24 rfl w.heap.size 32 i0 (.agg #[.int .i64 0, .bool false]) 2 16 Try.underlying24 Hi.out Hz0.out Hz1.out Hz2.out rfl (by decide) u9 L.length (hcs L) (by simp [Act.eval]) HOW.out ⟨w3.heap.size, 0, none⟩ 1 1 [.int .i64 x1, .bool x2] (by simp [Act.eval]) rfl NEWS.out ONE.out (by decide) (by unfold maxLen; omega) (by omega) SZ2.out (w3.heap.size + 1) HH.out ?_; intro g5 cap5 w5 hown5 hgrow hat5 hlt5)
          all_goals
            have hgr : (w3.drew.alloc (.cells #[.int .i64 x1, .bool x2] 32)).grownBy w5 u9.ownBlock := hgrow
            have hsa : w3.heap.size + 1 ≤ w5.heap.size := by have := hgr.size; rw [HH.out] at this; exact this
            have R5 := RowW.grown (H := w3.heap.size + 1) HR0.out (by omega) hown5 hat5
            have b5 := (b3.trans (HBA.out.mono hs3)).grown hgr (by rw [HH.out]; omega) (fun q hq => (HR0.out.1.lt q hq).1)
            have h5 : Below w.heap.size w3 w5 := (HBA.out.mono hs3).grown hgr (by rw [HH.out]; omega) (fun q hq => (HR0.out.1.lt q hq).1)
            have HIS := Lib.hid (show mergeR a b = (L ++ [(x1, x2)]) ++ mergeR (a1) ((y1, y2) :: b1) from by rw [HI.out, mergeR_lt (show (x1, x2).1 < (y1, y2).1 from hc1)]; simp)
            have hAk := Lib.hid ((hAt.out).keep h5 (Nat.le_refl _))
            have hBk := Lib.hid ((hB.out).keep h5 (Nat.le_refl _))
            have R5 := Lib.hid R5
            clear hown5 hgrow hgr hat5 hlt5 hsa HR0 HBA HOW NEWS ONE SZ2 HH h5 d0 d1 d0' d1'
            go_wp2
            go_roundw
            case rel => (repeat apply Exists.intro); refine ⟨?_, rfl⟩; exact ⟨a1, (y1, y2) :: b1, L ++ [(x1, x2)], some ⟨ga, oA, Option.none⟩, (ca - 1), some ⟨gb, ob, Option.none⟩, cb, by first | rfl | simp, by first | rfl | simp, (fun h => by cases h), (fun h => by cases h), by first | omega | (simp only [List.length_cons]; omega), by first | omega | (simp only [List.length_cons]; omega), hAk.out, hBk.out, by simpa using R5.out, b5, HIS.out, by simp; omega⟩
            case measure => exact (show a1.length + (b1.length + 1) < (a1.length + 1) + (b1.length + 1) by omega)
        · by_cases hc2 : y1 < x1
          · have hcm : cmpI x1 y1 = 1 := by unfold cmpI; rw [if_neg hc1, if_pos hc2]
            rw [hcm]
            clear hcm
            have hba := ((Below.refl w3.heap.size w3).drew).alloc (by show w3.heap.size ≤ w3.heap.size; exact Nat.le_refl _) (.cells #[.int .i64 y1, .bool y2] 32)
            have HOW := Lib.hid (hrow3.next hba).1
            have NB := Box.new (w := w3.drew) (b := w3.heap.size) (c := #[.int .i64 y1, .bool y2]) (t := 32) rfl
            have NEWS := Lib.hid (cells_two NB)
            have ONE := Lib.hid (hcs_two y1 y2)
            have SZ2 : Hid (w.heap.size ≤ (w3.drew.alloc (.cells #[.int .i64 y1, .bool y2] 32)).heap.size) := Lib.hid (by simp; omega)
            have HH : Hid ((w3.drew.alloc (.cells #[.int .i64 y1, .bool y2] 32)).heap.size = w3.heap.size + 1) := Lib.hid (by simp)
            have HBA := Lib.hid hba
            have HR0 := Lib.hid hrow3
            clear hba NB hrow3
            go_wp2_with fail
            go_region_law (refine step_append_lies _ rfl _ _ 24 rfl w.heap.size 32 i0 (.agg #[.int .i64 0, .bool false]) 2 16 Try.underlying24 Hi.out Hz0.out Hz1.out Hz2.out rfl (by decide) u9 L.length (hcs L) (by simp [Act.eval]) HOW.out ⟨w3.heap.size, 0, none⟩ 1 1 [.int .i64 y1, .bool y2] (by simp [Act.eval]) rfl NEWS.out ONE.out (by decide) (by unfold maxLen; omega) (by omega) SZ2.out (w3.heap.size + 1) HH.out ?_; intro g5 cap5 w5 hown5 hgrow hat5 hlt5)
            all_goals
              have hgr : (w3.drew.alloc (.cells #[.int .i64 y1, .bool y2] 32)).grownBy w5 u9.ownBlock := hgrow
              have hsa : w3.heap.size + 1 ≤ w5.heap.size := by have := hgr.size; rw [HH.out] at this; exact this
              have R5 := RowW.grown (H := w3.heap.size + 1) HR0.out (by omega) hown5 hat5
              have b5 := (b3.trans (HBA.out.mono hs3)).grown hgr (by rw [HH.out]; omega) (fun q hq => (HR0.out.1.lt q hq).1)
              have h5 : Below w.heap.size w3 w5 := (HBA.out.mono hs3).grown hgr (by rw [HH.out]; omega) (fun q hq => (HR0.out.1.lt q hq).1)
              have HIS := Lib.hid (show mergeR a b = (L ++ [(y1, y2)]) ++ mergeR ((x1, x2) :: a1) (b1) from by rw [HI.out, mergeR_gt (show (y1, y2).1 < (x1, x2).1 from hc2)]; simp)
              have hAk := Lib.hid ((hA.out).keep h5 (Nat.le_refl _))
              have hBk := Lib.hid ((hBt.out).keep h5 (Nat.le_refl _))
              have R5 := Lib.hid R5
              clear hown5 hgrow hgr hat5 hlt5 hsa HR0 HBA HOW NEWS ONE SZ2 HH h5 d0 d1 d0' d1'
              go_wp2
              go_roundw
              case rel => (repeat apply Exists.intro); refine ⟨?_, rfl⟩; exact ⟨(x1, x2) :: a1, b1, L ++ [(y1, y2)], some ⟨ga, oa, Option.none⟩, ca, some ⟨gb, oB, Option.none⟩, (cb - 1), by first | rfl | simp, by first | rfl | simp, (fun h => by cases h), (fun h => by cases h), by first | omega | (simp only [List.length_cons]; omega), by first | omega | (simp only [List.length_cons]; omega), hAk.out, hBk.out, by simpa using R5.out, b5, HIS.out, by simp; omega⟩
              case measure => exact (show (a1.length + 1) + b1.length < (a1.length + 1) + (b1.length + 1) by omega)
          · have hcm : cmpI x1 y1 = 0 := by unfold cmpI; rw [if_neg hc1, if_neg hc2]
            rw [hcm]
            clear hcm
            have hdr := Lib.hid ((Below.refl w3.heap.size w3).drew)
            have HR0 := Lib.hid hrow3
            clear hrow3
            go_wp2_with fail
            go_region_law (first | (go_simp; go_at_call 58; refine (joined_any x1 y1 x2 y2 _).mono ?_; rintro o w4 ⟨rfl, hb4⟩; have hb4 := hdr.out.trans hb4; have s4 := hb4.size; have hba := hb4.alloc hb4.size (.cells #[.int .i64 x1, .bool (x2 || y2)] 32); have HOW := Lib.hid (HR0.out.next hba).1; have NEWS := Lib.hid (cells_two (Box.new (w := w4) (b := w4.heap.size) (c := #[.int .i64 x1, .bool (x2 || y2)]) (t := 32) rfl)); have ONE := Lib.hid (hcs_two x1 (x2 || y2)); have SZ2 : Hid (w.heap.size ≤ (w4.alloc (.cells #[.int .i64 x1, .bool (x2 || y2)] 32)).heap.size) := Lib.hid (by simp; omega); have HH : Hid ((w4.alloc (.cells #[.int .i64 x1, .bool (x2 || y2)] 32)).heap.size = w4.heap.size + 1) := Lib.hid (by simp); have HBA := Lib.hid hba; clear hba hb4) | (refine step_append_lies _ rfl _ _ 24 rfl w.heap.size 32 i0 (.agg #[.int .i64 0, .bool false]) 2 16 Try.underlying24 Hi.out Hz0.out Hz1.out Hz2.out rfl (by decide) u9 L.length (hcs L) (by simp [Act.eval]) HOW.out ⟨w4.heap.size, 0, none⟩ 1 1 [.int .i64 x1, .bool (x2 || y2)] (by simp [Act.eval]) rfl NEWS.out ONE.out (by decide) (by unfold maxLen; omega) (by omega) SZ2.out (w4.heap.size + 1) HH.out ?_; intro g5 cap5 w5 hown5 hgrow hat5 hlt5))
            all_goals
              have hgr : (w4.alloc (.cells #[.int .i64 x1, .bool (x2 || y2)] 32)).grownBy w5 u9.ownBlock := hgrow
              have hsa : w4.heap.size + 1 ≤ w5.heap.size := by have := hgr.size; rw [HH.out] at this; exact this
              have R5 := RowW.grown (H := w4.heap.size + 1) HR0.out (by omega) hown5 hat5
              have b5 := (b3.trans (HBA.out.mono hs3)).grown hgr (by rw [HH.out]; omega) (fun q hq => (HR0.out.1.lt q hq).1)
              have h5 : Below w.heap.size w3 w5 := (HBA.out.mono hs3).grown hgr (by rw [HH.out]; omega) (fun q hq => (HR0.out.1.lt q hq).1)
              have HIS := Lib.hid (show mergeR a b = (L ++ [(x1, (x2 || y2))]) ++ mergeR (a1) (b1) from by rw [HI.out, mergeR_eq (show (x1, x2).1 = (y1, y2).1 from by show x1 = y1; omega)]; simp)
              have hAk := Lib.hid ((hAt.out).keep h5 (Nat.le_refl _))
              have hBk := Lib.hid ((hBt.out).keep h5 (Nat.le_refl _))
              have R5 := Lib.hid R5
              clear hown5 hgrow hgr hat5 hlt5 hsa HR0 HBA HOW NEWS ONE SZ2 HH h5 d0 d1 d0' d1'
              go_wp2
              go_roundw
              case rel => (repeat apply Exists.intro); refine ⟨?_, rfl⟩; exact ⟨a1, b1, L ++ [(x1, (x2 || y2))], some ⟨ga, oA, Option.none⟩, (ca - 1), some ⟨gb, oB, Option.none⟩, (cb - 1), by first | rfl | simp, by first | rfl | simp, (fun h => by cases h), (fun h => by cases h), by first | omega | (simp only [List.length_cons]; omega), by first | omega | (simp only [List.length_cons]; omega), hAk.out, hBk.out, by simpa using R5.out, b5, HIS.out, by simp; omega⟩
              case measure => exact (show a1.length + b1.length < (a1.length + 1) + (b1.length + 1) by omega)
    | [], b1, hca', hcb', ha, hb, HI, hlen =>
      clear hca' hcb'
      have HA := Lib.hid ha
      have HB := Lib.hid hb
      have HR := Lib.hid hrow
      have hsz := bel.size
      have hlen' : L.length + b1.length ≤ 1048576 := by simp at hlen ⊢; omega
      clear ha hb hrow hlen
      go_wp2_with (at_builtin; first | (refine wpList_appW rfl _ _ rfl w.heap.size w.heap.size w.heap.size _ L rfl HR.out _ [] _ _ rfl rfl hna' HA.out (by simp at hlen' ⊢; omega) hsz hsz ?_; intro v6 w6 hr6 hg6; have h6 := (Below.refl w.heap.size wr).grown hg6 hsz (fun q hq => (HR.out.1.lt q hq).1); have hs6 := h6.size; have b6 := bel.trans h6) | (refine wpList_appW rfl _ _ rfl w.heap.size w.heap.size w.heap.size _ (L ++ []) rfl hr6 _ b1 _ _ rfl rfl hnb' (HB.out.keep h6 (Nat.le_refl _)) (by simp at hlen' ⊢; omega) (by omega) (by omega) ?_; intro v7 w7 hr7 hg7))
      have b7 := b6.grown hg7 (by omega) (fun q hq => (hr6.1.lt q hq).1)
      rw [show L ++ [] ++ b1 = mergeR a b from by rw [HI.out, mergeR_nilL]; simp] at hr7
      obtain ⟨A7, c7, rfl, hl7, hn7, HO⟩ := hr7.ownC
      go_wp2
      go_ret
      exact ⟨A7, c7, rfl, hl7, hn7, HO, b7⟩
    | x :: a1, [], hca', hcb', ha, hb, HI, hlen =>
      clear hca' hcb'
      have HA := Lib.hid ha
      have HB := Lib.hid hb
      have HR := Lib.hid hrow
      have hsz := bel.size
      have hlen' : L.length + (x :: a1).length ≤ 1048576 := by simp at hlen ⊢; omega
      clear ha hb hrow hlen
      go_wp2_with (at_builtin; first | (refine wpList_appW rfl _ _ rfl w.heap.size w.heap.size w.heap.size _ L rfl HR.out _ (x :: a1) _ _ rfl rfl hna' HA.out (by simp at hlen' ⊢; omega) hsz hsz ?_; intro v6 w6 hr6 hg6; have h6 := (Below.refl w.heap.size wr).grown hg6 hsz (fun q hq => (HR.out.1.lt q hq).1); have hs6 := h6.size; have b6 := bel.trans h6) | (refine wpList_appW rfl _ _ rfl w.heap.size w.heap.size w.heap.size _ (L ++ (x :: a1)) rfl hr6 _ [] _ _ rfl rfl hnb' (HB.out.keep h6 (Nat.le_refl _)) (by simp at hlen' ⊢; omega) (by omega) (by omega) ?_; intro v7 w7 hr7 hg7))
      have b7 := b6.grown hg7 (by omega) (fun q hq => (hr6.1.lt q hq).1)
      rw [show L ++ (x :: a1) ++ [] = mergeR a b from by rw [HI.out, mergeR_nilR]; simp] at hr7
      obtain ⟨A7, c7, rfl, hl7, hn7, HO⟩ := hr7.ownC
      go_wp2
      go_ret
      exact ⟨A7, c7, rfl, hl7, hn7, HO, b7⟩
end Go.Proofs.Ytognfnfbmbfidaa
