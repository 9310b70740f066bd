/- The draws of stage 3: operations in blocks of their own. -/
import Derived.Deep.AppendLies
import Derived.Test.YtmdonjkkpkcpnaaLdB
import Derived.Test.YtmdonjkkpkcpnaaLp3
namespace Go.Proofs.Ytmdonjkkpkcpnaa
open Go.RowKit

theorem infoSlD : (Try.prog.info? 29).map (fun i => (i.zero, i.size, i.bytes)) = some (some (.slice none 0 0), 1, 24) := by kernel_rfl
section
variable {c n cp b lo : Nat} {A : Option Addr} {w w' w'' : World} {g : Nat → Int}
theorem Box.drawnL {cs : List Value} (h : Box w b cs) (hd : Drawn c A n cp w w') (hc : ¬ b = c) : Box w' b cs := by
  have hk := hd.but.block b h.lt hc
  exact ⟨Nat.lt_of_lt_of_le h.lt hd.but.size, fun j u hu => (World.cell?_of_block (a := ⟨b, j, none⟩) hk).trans (h.cell j u hu), fun q => (World.frozen?_of_block (a := ⟨b, q, none⟩) hk).trans (h.free q)⟩
theorem Drawn.belowL (h : Drawn c A n cp w w') (hb : Below w.heap.size w' w'') (hc : c < w.heap.size) : Drawn c A n cp w w'' := by
  obtain ⟨i, x, h0, h1, k⟩ := h.cur
  exact ⟨⟨i, x, h0, h1, k.keep (hb.block c hc)⟩, h.but.trans (But.of_below hb (Nat.le_refl _))⟩
theorem Drawn.allocL (h : Drawn c A n cp w w') (hc : c < w.heap.size) (o : Obj) : Drawn c A n cp w (w'.alloc o) :=
  h.belowL (((Below.refl w'.heap.size w').alloc (Nat.le_refl _) o).mono h.but.size) hc
theorem Drawn.firstL {o : Obj} (h : Drawn c A n cp (w.alloc o) w') : Drawn c A n cp w w' :=
  ⟨h.cur, (But.of_below ((Below.refl w.heap.size w).alloc (Nat.le_refl _) o) (Nat.le_refl _)).trans (h.but.mono (by simp))⟩
theorem St.allocL (h : St w c n cp A g) (o : Obj) : St (w.alloc o) c n cp A g :=
  h.below ((Below.refl w.heap.size w).alloc (Nat.le_refl _) o) h.lt
end

/-- each operation in a block of its own, apart from the row's -/
def OpsV (w : World) (lo : Nat) (v : Value) (vs : List Value) (ops : OL) : Prop := ∀ j, j < ops.length → ∃ b c, vs[j]? = some (.slice (some ⟨b, 0, none⟩) (opAt ops j).length c) ∧ lo ≤ b ∧ b < w.heap.size ∧ ¬ v.ownBlock = some b ∧ ∀ i, i < (opAt ops j).length → w.cell? ⟨b, i, none⟩ = some (.int .i64 (opF ops j i))
/-- a row of operations of the call's own -/
def OpsW (w : World) (lo : Nat) (v : Value) (ops : OL) : Prop := ∃ vs : List Value, w.ownsRow lo 29 1 v ops.length vs ∧ OpsV w lo v vs ops
section
variable {w w' : World} {lo : Nat} {v : Value} {ops : OL} {vs : List Value}
theorem OpsV.keep (h : OpsV w lo v vs ops) (hb : ∀ k, k < w.heap.size → lo ≤ k → w'.heap[k]? = w.heap[k]?) (hs : w.heap.size ≤ w'.heap.size) : OpsV w' lo v vs ops := fun j hj => by
  obtain ⟨b, c, h1, h2, h3, h4, h5⟩ := h j hj
  exact ⟨b, c, h1, h2, by omega, h4, fun i hi => (World.cell?_of_block (a := ⟨b, i, none⟩) (hb b h3 h2)).trans (h5 i hi)⟩
theorem OpsW.keep (h : OpsW w lo v ops) (hb : ∀ k, k < w.heap.size → lo ≤ k → w'.heap[k]? = w.heap[k]?) (hs : w.heap.size ≤ w'.heap.size) : OpsW w' lo v ops := by
  obtain ⟨vs, h1, h2⟩ := h
  exact ⟨vs, ownsRow_block' h1 hb, h2.keep hb hs⟩
theorem OpsW.drawn {c n cp : Nat} {A : Option Addr} (h : OpsW w lo v ops) (hd : Drawn c A n cp w w') (hc : c < lo) : OpsW w' lo v ops :=
  h.keep (fun k hk hl => hd.but.block k hk (by omega)) hd.but.size
theorem OpsW.allocL (h : OpsW w lo v ops) (o : Obj) : OpsW (w.alloc o) lo v ops :=
  h.keep (fun k hk _ => Below.heap_alloc _ _ k hk) (by simp)
theorem opAt_old {xs : List Int} {j : Nat} (h : j < ops.length) : opAt (ops ++ [xs]) j = opAt ops j := by
  simp [opAt, List.getD_eq_getElem?_getD, List.getElem?_append_left h]
theorem opAt_new {xs : List Int} : opAt (ops ++ [xs]) ops.length = xs := by
  simp [opAt, List.getD_eq_getElem?_getD]
theorem OpsV.push {w5 : World} {g cap H b m c k : Nat} {xs : List Int} (h : OpsV w lo v vs ops) (hl : vs.length = ops.length) (hb1 : lo ≤ b) (hb2 : b < w.heap.size) (hb3 : ¬ v.ownBlock = some b) (hx : xs.length = m)
    (hc : ∀ i, i < xs.length → w.cell? ⟨b, i, none⟩ = some (.int .i64 (xs.getD i 0))) (hgr : w.grownBy w5 v.ownBlock) (hat : v.ownBlock = some g ∨ g = H) (hH : w.heap.size = H) :
    OpsV w5 lo (.slice (some ⟨g, 0, none⟩) k cap) (vs ++ [.slice (some ⟨b, 0, none⟩) m c]) (ops ++ [xs]) := fun j hj => by
  have hne : ∀ b', b' < w.heap.size → ¬ v.ownBlock = some b' → ¬ (Value.slice (some ⟨g, 0, none⟩) k cap).ownBlock = some b' := fun b' h1 h2 e => by
    have e : g = b' := by simpa [Value.ownBlock] using e
    subst e
    rcases hat with h3 | h3
    · exact h2 h3
    · omega
  have hbl : ∀ b', b' < w.heap.size → ¬ v.ownBlock = some b' → w5.heap[b']? = w.heap[b']? := fun b' h1 h2 => hgr.block b' h1 (fun er => h2 er.symm)
  have hsz := hgr.size
  by_cases e : j < ops.length
  · obtain ⟨b', c', h1, h2, h3, h4, h5⟩ := h j e
    rw [opAt_old e]
    refine ⟨b', c', by rw [List.getElem?_append_left (by omega)]; exact h1, h2, by omega, hne b' h3 h4, fun i hi => ?_⟩
    have : opF (ops ++ [xs]) j i = opF ops j i := by unfold opF; rw [opAt_old e]
    rw [this]
    exact (World.cell?_of_block (a := ⟨b', i, none⟩) (hbl b' h3 h4)).trans (h5 i hi)
  · have ej : j = ops.length := by rw [List.length_append] at hj; simp at hj; omega
    subst ej
    rw [opAt_new]
    refine ⟨b, c, by rw [← hl, hx]; simp, hb1, by omega, hne b hb2 hb3, fun i hi => ?_⟩
    have : opF (ops ++ [xs]) ops.length i = xs.getD i 0 := by unfold opF; rw [opAt_new]
    rw [this]
    exact (World.cell?_of_block (a := ⟨b, i, none⟩) (hbl b hb2 hb3)).trans (hc i hi)
theorem OpsW.off (h : OpsW w lo v ops) {b : Nat} (hb : w.heap.size ≤ b) : ¬ v.ownBlock = some b := fun e => by
  obtain ⟨vs, h1, _⟩ := h
  have := (h1.lt b e).2
  omega
theorem OpsW.out (h : OpsW w lo v ops) : ∃ A c, v = .slice A ops.length c ∧ OpsAt w w.heap.size A ops := by
  obtain ⟨vs, h1, h2⟩ := h
  rcases h1.2 with ⟨rfl, e0⟩ | ⟨g, cap, cur, rfl, hg, hh, hn, hm, hs, ht⟩
  · exact ⟨none, 0, by rw [e0], fun hn => absurd hn (by omega)⟩
  · refine ⟨_, cap, rfl, fun _ => ⟨g, 0, rfl, (Array.getElem?_eq_some_iff.1 hh).1, fun j hj => ?_⟩⟩
    obtain ⟨b, c, q1, q2, q3, q4, q5⟩ := h2 j hj
    refine ⟨_, c, ?_, fun _ => ⟨b, 0, rfl, q3, fun i hi => by rw [Nat.zero_add]; exact q5 i hi⟩⟩
    rw [Nat.zero_add, h1.cellAt _ (by omega)]; exact q1
theorem three_push {xs : List Int} (h : ∀ j, j < ops.length → (opAt ops j).length ≤ 3) (hx : xs.length ≤ 3) : ∀ j, j < (ops ++ [xs]).length → (opAt (ops ++ [xs]) j).length ≤ 3 := fun j hj => by
  by_cases e : j < ops.length
  · rw [opAt_old e]; exact h j e
  · have ej : j = ops.length := by rw [List.length_append] at hj; simp at hj; omega
    subst ej
    rw [opAt_new]; exact hx
theorem cells_ints {w : World} {b m : Nat} {cs : List Value} {xs : List Int} (h : Box w b cs) (hc : cs.take m = (xs.map (.int .i64))) : ∀ i, i < xs.length → w.cell? ⟨b, i, none⟩ = some (.int .i64 (xs.getD i 0)) := fun i hi => by
  refine h.cell i _ ?_
  have h1 : (cs.take m)[i]? = some (.int .i64 (xs.getD i 0)) := by rw [hc, List.getElem?_map]; simp [List.getD_eq_getElem?_getD, hi]
  rw [List.getElem?_take] at h1
  split at h1
  · exact h1
  · cases h1
theorem news_one {w : World} {v : Value} {t : TypeId} {s : Nat} (hs : w.heap.size = s) : ∀ j u, [v][j]? = some u → (w.alloc (.cells #[v] t)).cell? ((⟨s, 0, none⟩ : Addr).add j) = some u := fun j u hj => by
  subst hs
  match j, hj with
  | 0, hj => simp at hj; subst hj; simp [Addr.add]
theorem OpsW.form (h : OpsW w lo v ops) : ∃ A c, v = .slice A ops.length c := by
  obtain ⟨A, c, e, _⟩ := h.out
  exact ⟨A, c, e⟩
/-- a cell of a block from m on is written; the row lies below m in a world before -/
theorem OpsW.setFar {w0 : World} (h0 : OpsW w0 lo v ops) (h : ∀ k, k < w0.heap.size → lo ≤ k → w.heap[k]? = w0.heap[k]?) (hs : w0.heap.size ≤ w.heap.size) {b : Nat} (hb : w0.heap.size ≤ b) (o : Nat) (x : Value) : OpsW (w.setCell ⟨b, o, none⟩ x) lo v ops :=
  h0.keep (fun k hk hl => (Below.heap_setCell _ _ _ _ (by show ¬ k = b; omega)).trans (h k hk hl)) (by simpa [World.setCell] using hs)
end

set_option maxHeartbeats 6400000 in
set_option maxRecDepth 100000 in
theorem DrawOps_any (c n cp : Nat) (A : Option Addr) (g : Nat → Int) (N : Nat) (hN : N ≤ 301) (w : World) (hn : n ≤ 1048576) (hs : St w c n cp A g) :
    Calls Try.prog 47 #[.pointer (some ⟨c, 0, none⟩), .int .i64 (N : Int)] w fun e w' => ∃ A2 c2 ops, e = .returned (.slice A2 ops.length c2) ∧ ops.length = N ∧ (∀ j, j < ops.length → (opAt ops j).length ≤ 3) ∧ OpsAt w' w'.heap.size A2 ops ∧ Drawn c A n cp w w' := by
  obtain ⟨i0, hi, hz0, hz1, hz2⟩ := info_parts infoSlD
  have Hi := Lib.hid hi
  have Hz0 := Lib.hid hz0
  have Hz1 := Lib.hid hz1
  have Hz2 := Lib.hid hz2
  clear hi hz0 hz1 hz2
  have hcl := hs.lt
  have hd0 : Drawn c A n cp w w := by
    obtain ⟨i, x, h0, h1, k⟩ := hs.cur
    exact Drawn.refl h0 h1 k
  have HD0 := Lib.hid (hd0.allocL hcl (.cells #[] 29))
  have HR0 : OpsW (w.alloc (.cells #[] 29)) w.heap.size (.slice (some ⟨w.heap.size, 0, none⟩) 0 0) [] := by
    refine ⟨[], ?_, fun j hj => absurd hj (by simp)⟩
    have := World.ownsRow_made (base := w.heap.size) (size := 1) (e := 29) w #[] 0 (Nat.le_refl _) (Nat.zero_le _) rfl
    simpa using this
  have HR0 := Lib.hid HR0
  clear hd0
  go_enter Try.func47, Try.ntmps47
  go_wp2
  go_loopw [5, 6] (fun v i wr => ∃ k : Nat, k ≤ N ∧ i = .int .i64 k ∧ ∃ ops : OL, ops.length = k ∧ (∀ j, j < ops.length → (opAt ops j).length ≤ 3) ∧ OpsW wr w.heap.size v ops ∧ Drawn c A n cp w wr) (fun _ i _ => N - (intOf i).toNat)
  case atStart => exact ⟨0, by omega, rfl, [], rfl, fun j hj => absurd hj (by simp), HR0.out, HD0.out⟩
  case round =>
    obtain ⟨k, hk, rfl, ops, hl, h3, hW, hd⟩ := hrel
    have hsr := hs.drawn hd
    have hzr := hd.but.size
    clear HD0 HR0
    by_cases hkn : k < N
    · have hkz : (k : Int) < N := by omega
      have HW := Lib.hid hW
      have HD := Lib.hid hd
      have H3 := Lib.hid h3
      clear hW hd h3
      have hs1 := hsr.allocL (.cells #[.int .i64 0, .int .i64 0, .int .i64 0, .int .i64 1, .int .i64 2, .int .i64 2] 3)
      go_wp2_with fail
      refine (l01PickInt_any c n cp A g _ 0 6 6 (fun j => if j < 3 then 0 else if j = 3 then 1 else 2) _ hn hs1 (by omega) (by omega) (by omega) (by simp) (fun j hj => ?_)).mono ?_
      · have h5 : j = 0 ∨ j = 1 ∨ j = 2 ∨ j = 3 ∨ j = 4 ∨ j = 5 := by omega
        rcases h5 with rfl | rfl | rfl | rfl | rfl | rfl <;> simp
      rintro e w1 ⟨x0, _, rfl, hd1⟩
      have hs2 := hs1.drawn hd1
      have hd1 := hd1.firstL
      have HW1 := Lib.hid (HW.out.drawn hd1 hcl)
      have HD1 := Lib.hid (HD.out.trans hd1)
      have hz1 := hd1.but.size
      clear hs1 hd1 HW HD hsr
      go_wp2_with fail
      refine (l01Below_any c n cp A g 6 (by omega) (by omega) _ hn hs2).mono ?_; rintro e w2 ⟨x1, ⟨x10, x11, _⟩, rfl, hd2⟩
      have hs3 := hs2.drawn hd2
      have HW2 := Lib.hid (HW1.out.drawn hd2 hcl)
      have HD2 := Lib.hid (HD1.out.trans hd2)
      have hz2 := hd2.but.size
      clear hs2 hd2 HW1 HD1
      go_wp2_with fail
      refine (l01Below_any c n cp A g 2 (by omega) (by omega) _ hn hs3).mono ?_; rintro e w3 ⟨x2, ⟨x20, x21, _⟩, rfl, hd3⟩
      have hs4 := hs3.drawn hd3
      have HW3 := HW2.out.drawn hd3 hcl
      have HD3 := Lib.hid (HD2.out.trans hd3)
      have hz3 := hd3.but.size
      clear hs3 hd3 HW2 HD2
      have hs5 := hs4.allocL (.cells #[.int .i64 x0, .int .i64 (1 + x1), .int .i64 x2] 3)
      have B4 := Box.new (w := w3) (c := #[.int .i64 x0, .int .i64 (1 + x1), .int .i64 x2]) (t := 3) rfl
      have HW4 := Lib.hid (HW3.allocL (.cells #[.int .i64 x0, .int .i64 (1 + x1), .int .i64 x2] 3))
      have HD4 := Lib.hid (HD3.out.allocL hcl (.cells #[.int .i64 x0, .int .i64 (1 + x1), .int .i64 x2] 3))
      have hoff := HW3.off (Nat.le_refl w3.heap.size)
      have HOFF := Lib.hid hoff
      have hz4 : w3.heap.size < (w3.alloc (.cells #[.int .i64 x0, .int .i64 (1 + x1), .int .i64 x2] 3)).heap.size := by simp
      have HW3 := Lib.hid HW3
      have D3 : Drawn c A n cp w3 (w3.alloc (.cells #[.int .i64 x0, .int .i64 (1 + x1), .int .i64 x2] 3)) := by
        obtain ⟨i, x, h0, h1, kk⟩ := hs4.cur
        exact (Drawn.refl h0 h1 kk).allocL hs4.lt _
      have D3 := Lib.hid D3
      clear hs4 HD3 hoff
      have B4 := Lib.hid B4
      go_wp2_with fail
      generalize w3.alloc (.cells #[.int .i64 x0, .int .i64 (1 + x1), .int .i64 x2] 3) = w4 at hs5 B4 HW4 HD4 D3 hz4 ⊢
      refine (l01Once_any c n cp A g 40 (by omega) (by omega) _ hn hs5).mono ?_; rintro e w5 ⟨bo, rfl, hd5⟩
      have hs6 := hs5.drawn hd5
      have HW5 := Lib.hid (HW4.out.drawn hd5 hcl)
      have HD5 := Lib.hid (HD4.out.trans hd5)
      have D3 := Lib.hid (D3.out.trans hd5)
      have B5 := Lib.hid (B4.out.drawnL hd5 (by omega))
      have hz5 := hd5.but.size
      clear hs5 hd5 HW4 HD4 B4
      cases bo with
      | false =>
        have HWx := HW5
        have HDx := HD5
        have Bx := B5
        clear HW5 HD5 B5 hs6
        have hWa := HWx.out.allocL (.cells #[.slice (some ⟨w3.heap.size, 0, none⟩) 3 3] 29)
        obtain ⟨vs, hro, hV⟩ := hWa
        have hvl : vs.length = ops.length := by have := hro.1; omega
        have hb2 : w3.heap.size < (w5.alloc (.cells #[.slice (some ⟨w3.heap.size, 0, none⟩) 3 3] 29)).heap.size := by simp; omega
        have hcc := cells_ints (m := 3) (xs := [x0, 1 + x1, x2]) (Bx.out.alloc (.cells #[.slice (some ⟨w3.heap.size, 0, none⟩) 3 3] 29)) rfl
        have hHH : (w5.alloc (.cells #[.slice (some ⟨w3.heap.size, 0, none⟩) 3 3] 29)).heap.size = w5.heap.size + 1 := by simp
        have HA := Lib.hid (And.intro hV (And.intro hcc (And.intro hb2 hvl)))
        have HRO := Lib.hid hro
        have HHH := Lib.hid hHH
        have NB := news_one (w := w5) (v := .slice (some ⟨w3.heap.size, 0, none⟩) 3 3) (t := 29) (s := w5.heap.size) (rfl)
        have BA := Lib.hid ((Below.refl w.heap.size w5).alloc (by omega) (.cells #[.slice (some ⟨w3.heap.size, 0, none⟩) 3 3] 29))
        clear hV hcc hb2
        go_wp2_with (at_builtin; refine wpList_append_lies _ rfl _ _ 24 rfl w.heap.size 29 i0 (.slice none 0 0) 1 24 Try.underlying24 Hi.out Hz0.out Hz1.out Hz2.out rfl (by decide) _ _ _ rfl hro ⟨w5.heap.size, 0, none⟩ 1 1 [.slice (some ⟨w3.heap.size, 0, none⟩) 3 3] rfl rfl NB (by intro u hu; simp at hu; subst hu; rfl) (by decide) (by unfold maxLen; omega) (by omega) (by rw [hHH]; omega) (w5.heap.size + 1) hHH ?_)
        intro g9 cap9 w9 hown9 hgr hat9 hlt9
        obtain ⟨hV, hcc, hb2, hvl⟩ := HA.out
        have hV9 := hV.push (xs := [x0, 1 + x1, x2]) (m := 3) (c := 3) (k := k + 1) (cap := cap9) hvl (by omega) hb2 HOFF.out rfl hcc hgr hat9 HHH.out
        have b9 := BA.out.grown hgr (by rw [HHH.out]; omega) (fun q hq => (HRO.out.lt q hq).1)
        have D9 := Lib.hid (HDx.out.belowL b9 hcl)
        have W9 : OpsW w9 w.heap.size (.slice (some ⟨g9, 0, none⟩) (k + 1) cap9) (ops ++ [[x0, 1 + x1, x2]]) := ⟨_, by rw [List.length_append, hl]; exact hown9, hV9⟩
        have W9 := Lib.hid W9
        have T9 := Lib.hid (three_push H3.out (xs := [x0, 1 + x1, x2]) (by simp))
        have L9 := Lib.hid (show (ops ++ [[x0, 1 + x1, x2]]).length = k + 1 by simp [hl])
        clear hV hcc hb2 hV9 b9 hown9 hgr hat9 hlt9 hro HRO HHH hHH NB BA HA HOFF Bx HDx HWx H3
        go_wp2
        exact ⟨⟨k + 1, by omega, by go_num, ops ++ [[x0, 1 + x1, x2]], L9.out, T9.out, W9.out, D9.out⟩, by simp [intOf]; omega⟩
      | true =>
        go_wp2_with fail
        refine (l01Below_any c n cp A g 3 (by omega) (by omega) _ hn hs6).mono ?_; rintro e w6 ⟨y, ⟨y0, y1, y3⟩, rfl, hd6⟩
        have y3 := y3 (by omega)
        have hs7 := hs6.drawn hd6
        have HW6 := Lib.hid (HW5.out.drawn hd6 hcl)
        have HD6 := Lib.hid (HD5.out.trans hd6)
        have D3 := Lib.hid (D3.out.trans hd6)
        have B6 := Lib.hid (B5.out.drawnL hd6 (by omega))
        have hz6 := hd6.but.size
        clear hs6 hd6 HW5 HD5 B5
        have hy : y = 0 ∨ y = 1 ∨ y = 2 := by omega
        rcases hy with rfl | rfl | rfl
        · have hs8 := hs7.allocL (.cells #[.int .i64 (-1), .int .i64 3] 3)
          go_wp2_with fail
          refine (l01PickInt_any c n cp A g _ 0 2 2 (fun j => if j = 0 then -1 else 3) _ hn hs8 (by omega) (by omega) (by omega) (by simp) (fun j hj => ?_)).mono ?_
          · have h5 : j = 0 ∨ j = 1 := by omega
            rcases h5 with rfl | rfl <;> simp
          rintro e w7 ⟨z, _, rfl, hd7⟩
          have hd7 := hd7.firstL
          have hz7 := hd7.but.size
          have HWx := Lib.hid (OpsW.setFar HW3.out (fun k hk hl => (D3.out.trans hd7).but.block k hk (by omega)) (D3.out.trans hd7).but.size (Nat.le_refl _) 0 (.int .i64 z))
          have HDx := Lib.hid ((HD6.out.trans hd7).belowL ((Below.refl w.heap.size w7).setCell (p := ⟨w3.heap.size, 0, none⟩) (by show w.heap.size ≤ w3.heap.size; omega) (.int .i64 z)) hcl)
          have B7 := B6.out.drawnL hd7 (by omega)
          have Bx := Lib.hid (B7.set (j := 0) (.int .i64 z) (by simp))
          obtain ⟨d0, d1, d2, df⟩ := B7.c3
          have hfr := df 0
          have hb7 : w3.heap.size < w7.heap.size := by omega
          clear hs7 hs8 hd7 B7 HW6 HD6 B6 D3 HW3 df
          have hWa := HWx.out.allocL (.cells #[.slice (some ⟨w3.heap.size, 0, none⟩) 3 3] 29)
          obtain ⟨vs, hro, hV⟩ := hWa
          have hvl : vs.length = ops.length := by have := hro.1; omega
          have hb2 : w3.heap.size < ((w7.setCell ⟨w3.heap.size, 0, none⟩ (.int .i64 z)).alloc (.cells #[.slice (some ⟨w3.heap.size, 0, none⟩) 3 3] 29)).heap.size := by simp [World.setCell]; omega
          have hcc := cells_ints (m := 3) (xs := [z, 1 + x1, x2]) (Bx.out.alloc (.cells #[.slice (some ⟨w3.heap.size, 0, none⟩) 3 3] 29)) rfl
          have hHH : ((w7.setCell ⟨w3.heap.size, 0, none⟩ (.int .i64 z)).alloc (.cells #[.slice (some ⟨w3.heap.size, 0, none⟩) 3 3] 29)).heap.size = w7.heap.size + 1 := by simp [World.setCell]
          have HA := Lib.hid (And.intro hV (And.intro hcc (And.intro hb2 hvl)))
          have HRO := Lib.hid hro
          have HHH := Lib.hid hHH
          have NB := news_one (w := (w7.setCell ⟨w3.heap.size, 0, none⟩ (.int .i64 z))) (v := .slice (some ⟨w3.heap.size, 0, none⟩) 3 3) (t := 29) (s := w7.heap.size) (by simp [World.setCell])
          have BA := Lib.hid ((Below.refl w.heap.size (w7.setCell ⟨w3.heap.size, 0, none⟩ (.int .i64 z))).alloc (by simp [World.setCell]; omega) (.cells #[.slice (some ⟨w3.heap.size, 0, none⟩) 3 3] 29))
          clear hV hcc hb2
          go_wp2_with (at_builtin; refine wpList_append_lies _ rfl _ _ 24 rfl w.heap.size 29 i0 (.slice none 0 0) 1 24 Try.underlying24 Hi.out Hz0.out Hz1.out Hz2.out rfl (by decide) _ _ _ rfl hro ⟨w7.heap.size, 0, none⟩ 1 1 [.slice (some ⟨w3.heap.size, 0, none⟩) 3 3] rfl rfl NB (by intro u hu; simp at hu; subst hu; rfl) (by decide) (by unfold maxLen; omega) (by omega) (by rw [hHH]; omega) (w7.heap.size + 1) hHH ?_)
          intro g9 cap9 w9 hown9 hgr hat9 hlt9
          obtain ⟨hV, hcc, hb2, hvl⟩ := HA.out
          have hV9 := hV.push (xs := [z, 1 + x1, x2]) (m := 3) (c := 3) (k := k + 1) (cap := cap9) hvl (by omega) hb2 HOFF.out rfl hcc hgr hat9 HHH.out
          have b9 := BA.out.grown hgr (by rw [HHH.out]; omega) (fun q hq => (HRO.out.lt q hq).1)
          have D9 := Lib.hid (HDx.out.belowL b9 hcl)
          have W9 : OpsW w9 w.heap.size (.slice (some ⟨g9, 0, none⟩) (k + 1) cap9) (ops ++ [[z, 1 + x1, x2]]) := ⟨_, by rw [List.length_append, hl]; exact hown9, hV9⟩
          have W9 := Lib.hid W9
          have T9 := Lib.hid (three_push H3.out (xs := [z, 1 + x1, x2]) (by simp))
          have L9 := Lib.hid (show (ops ++ [[z, 1 + x1, x2]]).length = k + 1 by simp [hl])
          clear hV hcc hb2 hV9 b9 hown9 hgr hat9 hlt9 hro HRO HHH hHH NB BA HA HOFF Bx HDx HWx H3
          go_wp2
          exact ⟨⟨k + 1, by omega, by go_num, ops ++ [[z, 1 + x1, x2]], L9.out, T9.out, W9.out, D9.out⟩, by simp [intOf]; omega⟩
        · have HWx := HW6
          have HDx := HD6
          have Bx := B6
          clear HW6 HD6 B6 hs7 D3 HW3
          have hWa := HWx.out.allocL (.cells #[.slice (some ⟨w3.heap.size, 0, none⟩) 2 3] 29)
          obtain ⟨vs, hro, hV⟩ := hWa
          have hvl : vs.length = ops.length := by have := hro.1; omega
          have hb2 : w3.heap.size < (w6.alloc (.cells #[.slice (some ⟨w3.heap.size, 0, none⟩) 2 3] 29)).heap.size := by simp; omega
          have hcc := cells_ints (m := 2) (xs := [x0, 1 + x1]) (Bx.out.alloc (.cells #[.slice (some ⟨w3.heap.size, 0, none⟩) 2 3] 29)) rfl
          have hHH : (w6.alloc (.cells #[.slice (some ⟨w3.heap.size, 0, none⟩) 2 3] 29)).heap.size = w6.heap.size + 1 := by simp
          have HA := Lib.hid (And.intro hV (And.intro hcc (And.intro hb2 hvl)))
          have HRO := Lib.hid hro
          have HHH := Lib.hid hHH
          have NB := news_one (w := w6) (v := .slice (some ⟨w3.heap.size, 0, none⟩) 2 3) (t := 29) (s := w6.heap.size) (rfl)
          have BA := Lib.hid ((Below.refl w.heap.size w6).alloc (by omega) (.cells #[.slice (some ⟨w3.heap.size, 0, none⟩) 2 3] 29))
          clear hV hcc hb2
          go_wp2_with (at_builtin; refine wpList_append_lies _ rfl _ _ 24 rfl w.heap.size 29 i0 (.slice none 0 0) 1 24 Try.underlying24 Hi.out Hz0.out Hz1.out Hz2.out rfl (by decide) _ _ _ rfl hro ⟨w6.heap.size, 0, none⟩ 1 1 [.slice (some ⟨w3.heap.size, 0, none⟩) 2 3] rfl rfl NB (by intro u hu; simp at hu; subst hu; rfl) (by decide) (by unfold maxLen; omega) (by omega) (by rw [hHH]; omega) (w6.heap.size + 1) hHH ?_)
          intro g9 cap9 w9 hown9 hgr hat9 hlt9
          obtain ⟨hV, hcc, hb2, hvl⟩ := HA.out
          have hV9 := hV.push (xs := [x0, 1 + x1]) (m := 2) (c := 3) (k := k + 1) (cap := cap9) hvl (by omega) hb2 HOFF.out rfl hcc hgr hat9 HHH.out
          have b9 := BA.out.grown hgr (by rw [HHH.out]; omega) (fun q hq => (HRO.out.lt q hq).1)
          have D9 := Lib.hid (HDx.out.belowL b9 hcl)
          have W9 : OpsW w9 w.heap.size (.slice (some ⟨g9, 0, none⟩) (k + 1) cap9) (ops ++ [[x0, 1 + x1]]) := ⟨_, by rw [List.length_append, hl]; exact hown9, hV9⟩
          have W9 := Lib.hid W9
          have T9 := Lib.hid (three_push H3.out (xs := [x0, 1 + x1]) (by simp))
          have L9 := Lib.hid (show (ops ++ [[x0, 1 + x1]]).length = k + 1 by simp [hl])
          clear hV hcc hb2 hV9 b9 hown9 hgr hat9 hlt9 hro HRO HHH hHH NB BA HA HOFF Bx HDx HWx H3
          go_wp2
          exact ⟨⟨k + 1, by omega, by go_num, ops ++ [[x0, 1 + x1]], L9.out, T9.out, W9.out, D9.out⟩, by simp [intOf]; omega⟩
        · have hs8 := hs7.allocL (.cells #[.int .i64 0, .int .i64 8, .int .i64 9] 3)
          go_wp2_with fail
          refine (l01PickInt_any c n cp A g _ 0 3 3 (fun j => if j = 0 then 0 else if j = 1 then 8 else 9) _ hn hs8 (by omega) (by omega) (by omega) (by simp) (fun j hj => ?_)).mono ?_
          · have h5 : j = 0 ∨ j = 1 ∨ j = 2 := by omega
            rcases h5 with rfl | rfl | rfl <;> simp
          rintro e w7 ⟨z, _, rfl, hd7⟩
          have hd7 := hd7.firstL
          have hz7 := hd7.but.size
          have HWx := Lib.hid (OpsW.setFar HW3.out (fun k hk hl => (D3.out.trans hd7).but.block k hk (by omega)) (D3.out.trans hd7).but.size (Nat.le_refl _) 1 (.int .i64 z))
          have HDx := Lib.hid ((HD6.out.trans hd7).belowL ((Below.refl w.heap.size w7).setCell (p := ⟨w3.heap.size, 1, none⟩) (by show w.heap.size ≤ w3.heap.size; omega) (.int .i64 z)) hcl)
          have B7 := B6.out.drawnL hd7 (by omega)
          have Bx := Lib.hid (B7.set (j := 1) (.int .i64 z) (by simp))
          obtain ⟨d0, d1, d2, df⟩ := B7.c3
          have hfr := df 1
          have hb7 : w3.heap.size < w7.heap.size := by omega
          clear hs7 hs8 hd7 B7 HW6 HD6 B6 D3 HW3 df
          have hWa := HWx.out.allocL (.cells #[.slice (some ⟨w3.heap.size, 0, none⟩) 3 3] 29)
          obtain ⟨vs, hro, hV⟩ := hWa
          have hvl : vs.length = ops.length := by have := hro.1; omega
          have hb2 : w3.heap.size < ((w7.setCell ⟨w3.heap.size, 1, none⟩ (.int .i64 z)).alloc (.cells #[.slice (some ⟨w3.heap.size, 0, none⟩) 3 3] 29)).heap.size := by simp [World.setCell]; omega
          have hcc := cells_ints (m := 3) (xs := [x0, z, x2]) (Bx.out.alloc (.cells #[.slice (some ⟨w3.heap.size, 0, none⟩) 3 3] 29)) rfl
          have hHH : ((w7.setCell ⟨w3.heap.size, 1, none⟩ (.int .i64 z)).alloc (.cells #[.slice (some ⟨w3.heap.size, 0, none⟩) 3 3] 29)).heap.size = w7.heap.size + 1 := by simp [World.setCell]
          have HA := Lib.hid (And.intro hV (And.intro hcc (And.intro hb2 hvl)))
          have HRO := Lib.hid hro
          have HHH := Lib.hid hHH
          have NB := news_one (w := (w7.setCell ⟨w3.heap.size, 1, none⟩ (.int .i64 z))) (v := .slice (some ⟨w3.heap.size, 0, none⟩) 3 3) (t := 29) (s := w7.heap.size) (by simp [World.setCell])
          have BA := Lib.hid ((Below.refl w.heap.size (w7.setCell ⟨w3.heap.size, 1, none⟩ (.int .i64 z))).alloc (by simp [World.setCell]; omega) (.cells #[.slice (some ⟨w3.heap.size, 0, none⟩) 3 3] 29))
          clear hV hcc hb2
          go_wp2_with (at_builtin; refine wpList_append_lies _ rfl _ _ 24 rfl w.heap.size 29 i0 (.slice none 0 0) 1 24 Try.underlying24 Hi.out Hz0.out Hz1.out Hz2.out rfl (by decide) _ _ _ rfl hro ⟨w7.heap.size, 0, none⟩ 1 1 [.slice (some ⟨w3.heap.size, 0, none⟩) 3 3] rfl rfl NB (by intro u hu; simp at hu; subst hu; rfl) (by decide) (by unfold maxLen; omega) (by omega) (by rw [hHH]; omega) (w7.heap.size + 1) hHH ?_)
          intro g9 cap9 w9 hown9 hgr hat9 hlt9
          obtain ⟨hV, hcc, hb2, hvl⟩ := HA.out
          have hV9 := hV.push (xs := [x0, z, x2]) (m := 3) (c := 3) (k := k + 1) (cap := cap9) hvl (by omega) hb2 HOFF.out rfl hcc hgr hat9 HHH.out
          have b9 := BA.out.grown hgr (by rw [HHH.out]; omega) (fun q hq => (HRO.out.lt q hq).1)
          have D9 := Lib.hid (HDx.out.belowL b9 hcl)
          have W9 : OpsW w9 w.heap.size (.slice (some ⟨g9, 0, none⟩) (k + 1) cap9) (ops ++ [[x0, z, x2]]) := ⟨_, by rw [List.length_append, hl]; exact hown9, hV9⟩
          have W9 := Lib.hid W9
          have T9 := Lib.hid (three_push H3.out (xs := [x0, z, x2]) (by simp))
          have L9 := Lib.hid (show (ops ++ [[x0, z, x2]]).length = k + 1 by simp [hl])
          clear hV hcc hb2 hV9 b9 hown9 hgr hat9 hlt9 hro HRO HHH hHH NB BA HA HOFF Bx HDx HWx H3
          go_wp2
          exact ⟨⟨k + 1, by omega, by go_num, ops ++ [[x0, z, x2]], L9.out, T9.out, W9.out, D9.out⟩, by simp [intOf]; omega⟩
    · have hkz : ¬ (k : Int) < N := by omega
      have hlN : ops.length = N := by omega
      obtain ⟨A2, c2, rfl, hO⟩ := hW.out
      clear hl
      have HO := Lib.hid hO
      have HD := Lib.hid hd
      have H3 := Lib.hid h3
      have HL := Lib.hid hlN
      clear hO hd h3 hW hlN
      go_wp2
      go_ret
      exact ⟨A2, c2, ops, rfl, HL.out, H3.out, HO.out, HD.out⟩
end Go.Proofs.Ytmdonjkkpkcpnaa
