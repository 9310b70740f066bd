/- CommitText: the text, and the model's. -/
import Derived.Test.YtmphiomalhjciaaGe
import Derived.Test.YtmphiomalhjciaaNumG
import Derived.Test.YtmphiomalhjciaaRg
namespace Go.Proofs.Ytmphiomalhjciaa
open Go.RowKit

/-- the worlds that lie over w1 -/
theorem clsB (w1 : World) : ∃ (I : Type) (F : I → World), Nonempty I ∧ (∃ n, w1.drew = F n) ∧ (∀ n, Below w1.heap.size w1 (F n)) ∧ ∀ n w2, Below (F n).heap.size (F n) w2 → ∃ m, w2 = F m := by
  obtain ⟨I, F, hI, h0, hF, hi⟩ := cls (S := fun W => Below w1.heap.size w1 W) (Below.refl w1.heap.size w1).drew
  exact ⟨I, F, hI, h0, hF, fun n w2 hb => hi w2 ((hF n).trans (hb.mono (hF n).size))⟩
def chead (c : DCommit) : List UInt8 := Lib.itoa c.2.2.1 ++ [32, 119] ++ Lib.itoa c.1 ++ [32, 112] ++ Lib.itoa c.2.1 ++ [32, 116] ++ Lib.itoa c.2.2.2.1 ++ [32, 103, 111, 116]
def gotT (l : List Int) : List UInt8 := l.flatMap fun x => 32 :: Lib.itoa x
def putsT (l : List DPut) : List UInt8 := l.flatMap fun p => 32 :: Lib.itoa p.1 ++ 61 :: Lib.itoa p.2
/-- a commit's text -/
def ctext (c : DCommit) : List UInt8 := chead c ++ gotT c.2.2.2.2.1 ++ [32, 112, 117, 116] ++ putsT c.2.2.2.2.2
theorem wret_str {a b : ByteArray} (h : a = b) : Ending.returned (.string a) = .returned (.string b) := by rw [h]
theorem gotT_next {l : List Int} {k : Nat} {x : Int} (h : l[k]? = some x) : gotT (l.take (k + 1)) = gotT (l.take k) ++ 32 :: Lib.itoa x := by
  unfold gotT
  rw [List.take_add_one, h, List.flatMap_append]
  simp
theorem putsT_next {l : List DPut} {k : Nat} {p : DPut} (h : l[k]? = some p) : putsT (l.take (k + 1)) = putsT (l.take k) ++ (32 :: Lib.itoa p.1 ++ 61 :: Lib.itoa p.2) := by
  unfold putsT
  rw [List.take_add_one, h, List.flatMap_append]
  simp
/-- a text of that length -/
structure TxtIs (t l : List UInt8) (n : Nat) : Prop where
  eq : t = l
  len : t.length ≤ n
set_option maxHeartbeats 6400000 in
set_option maxRecDepth 100000 in
theorem specCommitText_any (c : DCommit) (B : Nat) (vs : List Value) (w : World) (hs : fCommit.cnt c ≤ 1048576) (hw : fCommit.Wf c) (hB : B ≤ w.heap.size) (h : fCommit.At w B c vs) : Calls Try.prog 91 #[.agg vs.toArray] w fun o w' => o = .returned (.string ⟨(ctext c).toArray⟩) ∧ Below w.heap.size w w' := by
  obtain ⟨A4, c4, A5, c5, rfl, r4, r5⟩ := at_Commit h
  rw [cnt_Commit, row_cnt, row_cnt] at hs
  clear h
  obtain ⟨h2, h3, h1, h4, hwg, hwp⟩ := hw
  obtain ⟨h1a, h1b⟩ := h1
  obtain ⟨h2a, h2b⟩ := h2
  obtain ⟨h3a, h3b⟩ := h3
  obtain ⟨h4a, h4b⟩ := h4
  have HWG := Lib.hid hwg
  have HWP := Lib.hid hwp
  clear hwg hwp
  have L1 := Lib.itoa_length_le c.2.2.1 h1a h1b
  have L2 := Lib.itoa_length_le c.1 h2a h2b
  have L3 := Lib.itoa_length_le c.2.1 h3a h3b
  have L4 := Lib.itoa_length_le c.2.2.2.1 h4a h4b
  have N0 : ¬ 9223372036854775807 < (Lib.itoa c.2.2.1).length + 2 := by omega
  have N1 : ¬ 9223372036854775807 < (Lib.itoa c.2.2.1).length + 2 + (Lib.itoa c.1).length := by omega
  have N2 : ¬ 9223372036854775807 < (Lib.itoa c.2.2.1).length + 2 + (Lib.itoa c.1).length + 2 := by omega
  have N3 : ¬ 9223372036854775807 < (Lib.itoa c.2.2.1).length + 2 + (Lib.itoa c.1).length + 2 + (Lib.itoa c.2.1).length := by omega
  have N4 : ¬ 9223372036854775807 < (Lib.itoa c.2.2.1).length + 2 + (Lib.itoa c.1).length + 2 + (Lib.itoa c.2.1).length + 2 := by omega
  have N5 : ¬ 9223372036854775807 < (Lib.itoa c.2.2.1).length + 2 + (Lib.itoa c.1).length + 2 + (Lib.itoa c.2.1).length + 2 + (Lib.itoa c.2.2.2.1).length := by omega
  have N6 : ¬ 9223372036854775807 < (Lib.itoa c.2.2.1).length + 2 + (Lib.itoa c.1).length + 2 + (Lib.itoa c.2.1).length + 2 + (Lib.itoa c.2.2.2.1).length + 4 := by omega
  have HCL := Lib.hid (show TxtIs (chead c) (chead c) 200 from ⟨rfl, by simp [chead]; omega⟩)
  go_enter Try.func91, Try.ntmps91
  go_wp2_with fail
  have b := (Below.refl w.heap.size w).alloc (Nat.le_refl _) (.cells #[.int .i64 c.1, .int .i64 c.2.1, .int .i64 c.2.2.1, .int .i64 c.2.2.2.1, .slice A4 (c.2.2.2.2.1).length c4, .slice A5 (c.2.2.2.2.2).length c5] 95)
  have X := Bx.new (w := w) (c := #[.int .i64 c.1, .int .i64 c.2.1, .int .i64 c.2.2.1, .int .i64 c.2.2.2.1, .slice A4 (c.2.2.2.2.1).length c4, .slice A5 (c.2.2.2.2.2).length c5]) (t := 95) rfl
  generalize w.alloc (.cells #[.int .i64 c.1, .int .i64 c.2.1, .int .i64 c.2.2.1, .int .i64 c.2.2.2.1, .slice A4 (c.2.2.2.2.1).length c4, .slice A5 (c.2.2.2.2.2).length c5] 95) = w1 at b X ⊢
  obtain ⟨I, F, hI, hF0, hF, hFn⟩ := clsB w1
  have f0 := fun n => ((X.next (hF n)).c6.1).1
  have f1 := fun n => ((X.next (hF n)).c6.1).2.1
  have f2 := fun n => ((X.next (hF n)).c6.1).2.2.1
  have f3 := fun n => ((X.next (hF n)).c6.1).2.2.2.1
  have f4 := fun n => ((X.next (hF n)).c6.1).2.2.2.2.1
  have f5 := fun n => ((X.next (hF n)).c6.1).2.2.2.2.2
  have f6 := fun n => (X.next (hF n)).lt
  have HFn := Lib.hid hFn
  have HF := Lib.hid hF
  have HF0 := Lib.hid hF0
  clear hFn hF hF0
  refine wp_region_cls (by kernel_rfl) (by kernel_rfl) HF0.out ?_
  repeat (go_big_quiet_step ((go_at_call 135; refine (l01Num_any _ (by assumption) (by assumption) _).mono ?_; rintro o w2 ⟨rfl, hb2⟩; exact ⟨rfl, HFn.out _ _ hb2⟩)))
  refine wpQuiet_nil ?_
  rintro _ ⟨nq, rfl⟩
  have hq := HF.out nq
  clear f0 f1 f2 f3 f4 f5 f6 HF0
  have X := X.next hq
  have b := b.trans (hq.mono b.size)
  clear hq
  generalize F nq = w2 at b X ⊢
  clear N0 N1 N2 N3 N4 N5 N6
  have e0 : (ByteArray.mk (Lib.itoa c.2.2.1).toArray) ++ ⟨#[32, 119]⟩ ++ ⟨(Lib.itoa c.1).toArray⟩ ++ ⟨#[32, 112]⟩ ++ ⟨(Lib.itoa c.2.1).toArray⟩ ++ ⟨#[32, 116]⟩ ++ ⟨(Lib.itoa c.2.2.2.1).toArray⟩ ++ ⟨#[32, 103, 111, 116]⟩ = ⟨(chead c).toArray⟩ := by simp [ByteArray.mk_append_mk, chead]
  rw [e0]
  clear e0 L1 L2 L3 L4
  have hcl := HCL.out.len
  go_wp2_with fail
  go_loopw [3, 4] (fun s i wr => ∃ (k : Nat) (t : List UInt8), k ≤ c.2.2.2.2.1.length ∧ i = .int .i64 k ∧ s = .string ⟨t.toArray⟩ ∧ TxtIs t (chead c ++ gotT (c.2.2.2.2.1.take k)) (200 + 22 * k) ∧ Bx wr w.heap.size [.int .i64 c.1, .int .i64 c.2.1, .int .i64 c.2.2.1, .int .i64 c.2.2.2.1, .slice A4 (c.2.2.2.2.1).length c4, .slice A5 (c.2.2.2.2.2).length c5] ∧ Below w.heap.size w wr) (fun _ i _ => c.2.2.2.2.1.length - (intOf i).toNat)
  case atStart => exact ⟨0, chead c, Nat.zero_le _, rfl, rfl, ⟨by simp [gotT], by omega⟩, X, b⟩
  case round =>
    clear X b
    obtain ⟨k, t, hk, rfl, rfl, htx, X, b⟩ := hrel
    have htl := htx.len
    have HTX := Lib.hid htx.eq
    clear htx
    obtain ⟨⟨x0, x1, x2, x3, x4, x5⟩, _⟩ := X.c6
    have Xl := X.lt
    by_cases hkn : k < c.2.2.2.2.1.length
    · obtain ⟨b4, off4, e4, hb4, hc4⟩ := r4.2 (by omega)
      have hkz : (k : Int) < c.2.2.2.2.1.length := by omega
      have hget : c.2.2.2.2.1[k]? = some c.2.2.2.2.1[k] := List.getElem?_eq_getElem hkn
      obtain ⟨v, hv, hat⟩ := hc4 k _ hget
      have hsz := b.size
      have hv := hv.below b (show b4 < w.heap.size by omega)
      have hwx := HWG.out _ (List.mem_of_getElem? hget)
      generalize c.2.2.2.2.1[k] = x at hget hat hwx
      have HN := Lib.hid (gotT_next hget)
      cases hat
      have a0 := hv.c1
      rw [show (intF : Fm Int).n = 1 from rfl, Nat.mul_one] at a0
      subst e4
      obtain ⟨hxa, hxb⟩ := hwx
      have Lx := Lib.itoa_length_le x hxa hxb
      have N0 : ¬ 9223372036854775807 < t.length + 1 := by omega
      have N1 : ¬ 9223372036854775807 < t.length + 1 + (Lib.itoa x).length := by omega
      clear hc4 hv hget hkn
      go_wp2_with fail
      refine (l01Num_any x hxa hxb _).mono ?_; rintro o w3 ⟨rfl, hb⟩
      have X := X.next hb
      have b := b.trans (hb.mono hsz)
      clear hb x0 x1 x2 x3 x4 x5 a0 Xl
      go_wp2
      exact ⟨⟨k + 1, t ++ 32 :: Lib.itoa x, by omega, by go_num, by simp [ByteArray.mk_append_mk], ⟨by rw [HN.out, HTX.out]; simp [List.append_assoc], by simp; omega⟩, X, b⟩, by simp [intOf]; omega⟩
    · obtain rfl : k = c.2.2.2.2.1.length := by omega
      rw [List.take_length] at HTX
      have N2 : ¬ 9223372036854775807 < t.length + 4 := by omega
      go_wp2_with fail
      go_loopw [3, 5] (fun s i wr => ∃ (k : Nat) (u : List UInt8), k ≤ c.2.2.2.2.2.length ∧ i = .int .i64 k ∧ s = .string ⟨u.toArray⟩ ∧ TxtIs u (chead c ++ gotT c.2.2.2.2.1 ++ [32, 112, 117, 116] ++ putsT (c.2.2.2.2.2.take k)) (204 + 22 * c.2.2.2.2.1.length + 44 * k) ∧ Bx wr w.heap.size [.int .i64 c.1, .int .i64 c.2.1, .int .i64 c.2.2.1, .int .i64 c.2.2.2.1, .slice A4 (c.2.2.2.2.1).length c4, .slice A5 (c.2.2.2.2.2).length c5] ∧ Below w.heap.size w wr) (fun _ i _ => c.2.2.2.2.2.length - (intOf i).toNat)
      case atStart => exact ⟨0, t ++ [32, 112, 117, 116], Nat.zero_le _, rfl, by simp [ByteArray.mk_append_mk], ⟨by rw [HTX.out]; simp [putsT], by simp; omega⟩, X, b⟩
      case round =>
        clear X b htl HTX N2 x0 x1 x2 x3 x4 x5 Xl
        obtain ⟨k, u, hk, rfl, rfl, htx, X, b⟩ := hrel
        have htl := htx.len
        have HTX := Lib.hid htx.eq
        clear htx
        obtain ⟨⟨x0, x1, x2, x3, x4, x5⟩, _⟩ := X.c6
        have Xl := X.lt
        by_cases hkn : k < c.2.2.2.2.2.length
        · obtain ⟨b5, off5, e5, hb5, hc5⟩ := r5.2 (by omega)
          have hkz : (k : Int) < c.2.2.2.2.2.length := by omega
          have hget : c.2.2.2.2.2[k]? = some c.2.2.2.2.2[k] := List.getElem?_eq_getElem hkn
          obtain ⟨v, hv, hat⟩ := hc5 k _ hget
          have hsz := b.size
          have hv := hv.below b (show b5 < w.heap.size by omega)
          have hwx := HWP.out _ (List.mem_of_getElem? hget)
          generalize c.2.2.2.2.2[k] = p at hget hat hwx
          have HN := Lib.hid (putsT_next hget)
          have ev := at_Put hat
          subst ev
          rw [show fPut.n = 2 from rfl] at hv
          subst e5
          obtain ⟨⟨hpa, hpb⟩, hqa, hqb⟩ := hwx
          have Lp := Lib.itoa_length_le p.1 hpa hpb
          have Lq := Lib.itoa_length_le p.2 hqa hqb
          have N0 : ¬ 9223372036854775807 < u.length + 1 := by omega
          have N1 : ¬ 9223372036854775807 < u.length + 1 + (Lib.itoa p.1).length := by omega
          have N2 : ¬ 9223372036854775807 < u.length + 1 + (Lib.itoa p.1).length + 1 := by omega
          have N3 : ¬ 9223372036854775807 < u.length + 1 + (Lib.itoa p.1).length + 1 + (Lib.itoa p.2).length := by omega
          clear hc5 hget hkn
          go_wp2_with fail
          clear x0 x1 x2 x3 x4 x5 Xl
          obtain ⟨I, F, hI, hF0, hF, hFn⟩ := clsB wr
          have f0 := fun n => ((X.next (hF n)).c6.1).1
          have f1 := fun n => ((X.next (hF n)).c6.1).2.1
          have f2 := fun n => ((X.next (hF n)).c6.1).2.2.1
          have f3 := fun n => ((X.next (hF n)).c6.1).2.2.2.1
          have f4 := fun n => ((X.next (hF n)).c6.1).2.2.2.2.1
          have f5 := fun n => ((X.next (hF n)).c6.1).2.2.2.2.2
          have f6 := fun n => (X.next (hF n)).lt
          have f7 := fun n => ((hv.below (hF n) (show b5 < wr.heap.size by omega)).c2).1
          have f8 := fun n => ((hv.below (hF n) (show b5 < wr.heap.size by omega)).c2).2
          have HFn := Lib.hid hFn
          have HF := Lib.hid hF
          have HF0 := Lib.hid hF0
          clear hFn hF hF0
          refine wp_region_cls (by kernel_rfl) (by kernel_rfl) HF0.out ?_
          repeat (go_big_quiet_step ((go_at_call 135; refine (l01Num_any _ (by assumption) (by assumption) _).mono ?_; rintro o w2 ⟨rfl, hb2⟩; exact ⟨rfl, HFn.out _ _ hb2⟩)))
          refine wpQuiet_nil ?_
          rintro _ ⟨nq, rfl⟩
          have hq := HF.out nq
          clear f0 f1 f2 f3 f4 f5 f6 f7 f8 HF0
          have X := X.next hq
          have b := b.trans (hq.mono hsz)
          clear hq
          generalize F nq = w5 at b X ⊢
          go_wp2
          exact ⟨⟨k + 1, u ++ (32 :: Lib.itoa p.1 ++ 61 :: Lib.itoa p.2), by omega, by go_num, by simp [ByteArray.mk_append_mk], ⟨by rw [HN.out, HTX.out]; simp [List.append_assoc], by simp; omega⟩, X, b⟩, by simp [intOf]; omega⟩
        · obtain rfl : k = c.2.2.2.2.2.length := by omega
          rw [List.take_length] at HTX
          go_wp2
          go_ret
          exact ⟨wret_str (by rw [HTX.out]; rfl), b⟩
end Go.Proofs.Ytmphiomalhjciaa
