/- The program's store: setLock, storeOf. -/
import Derived.Test.YtkpkjcmoldkmmaaGreatRg
import Derived.Test.YtkpkjcmoldkmmaaGreatMp
import Derived.Test.YtkpkjcmoldkmmaaGreatTw
import Derived.Deep.RegionLaw
import Derived.Deep.RegionHeld3
namespace Go.Proofs.YtkpkjcmoldkmmaaGreat
open Go.RowKit
open Go.Maps (Keyed)

theorem keyI : Keyed Tryz.prog 3 := Go.Maps.int_keyed Tryz.underlying3
theorem keyI_of {x : Int} (h0 : -9223372036854775808 ≤ x) (h1 : x ≤ 9223372036854775807) : keyOf Tryz.prog 3 (.int .i64 x) = some (.int .i64 x) :=
  Go.Maps.keyOf_int_mk Tryz.underlying3 (WalkArith.wf_i64 (by omega))
theorem zeroSlot (w : World) : (zeroValue 261).run Tryz.prog w = .ok (.agg #[.int .i64 0, .int .i64 0]) w := by kernel_rfl
theorem zeroLock (w : World) : (zeroValue 65).run Tryz.prog w = .ok (.agg #[.slice none 0 0, .slice none 0 0]) w := by kernel_rfl

/-- nothing that was there has turned, but for blocks b1 and b2 -/
structure But2 (b1 b2 : Nat) (w w' : World) : Prop where
  os : w'.os = w.os
  tape : w'.tape = w.tape
  output : w'.output = w.output
  size : w.heap.size ≤ w'.heap.size
  block : ∀ k, k < w.heap.size → ¬ k = b1 → ¬ k = b2 → w'.heap[k]? = w.heap[k]?
section
variable {w w' w'' : World} {b1 b2 : Nat}
theorem But2.refl (b1 b2 : Nat) (w : World) : But2 b1 b2 w w := ⟨rfl, rfl, rfl, Nat.le_refl _, fun _ _ _ _ => rfl⟩
theorem But2.trans (h : But2 b1 b2 w w') (h' : But2 b1 b2 w' w'') : But2 b1 b2 w w'' :=
  ⟨h'.os.trans h.os, h'.tape.trans h.tape, h'.output.trans h.output, Nat.le_trans h.size h'.size, fun k hk h1 h2 => (h'.block k (Nat.lt_of_lt_of_le hk h.size) h1 h2).trans (h.block k hk h1 h2)⟩
theorem But2.of_below (h : Below w.heap.size w w') : But2 b1 b2 w w' := ⟨h.os, h.tape, h.output, h.size, fun k hk _ _ => h.block k hk⟩
theorem But2.of_turn1 (h : w.mapTurned w' b1) : But2 b1 b2 w w' := ⟨h.grown.os, h.grown.tape, h.grown.output, h.grown.size, fun k hk h1 _ => h.grown.block k hk (fun e => h1 (by cases e; rfl))⟩
theorem But2.of_turn2 (h : w.mapTurned w' b2) : But2 b1 b2 w w' := ⟨h.grown.os, h.grown.tape, h.grown.output, h.grown.size, fun k hk _ h2 => h.grown.block k hk (fun e => h2 (by cases e; rfl))⟩
theorem But2.below {L : Nat} (h : But2 b1 b2 w w') (h1 : L ≤ b1) (h2 : L ≤ b2) (hL : L ≤ w.heap.size) : Below L w w' := ⟨h.os, h.tape, h.output, h.size, fun k hk => h.block k (by omega) (by omega) (by omega)⟩
theorem Box.but {b : Nat} {cs : List Value} (k : Box w b cs) (h : But2 b1 b2 w w') (h1 : ¬ b = b1) (h2 : ¬ b = b2) : Box w' b cs := by
  have hk := h.block b k.lt h1 h2
  exact ⟨Nat.lt_of_lt_of_le k.lt h.size, fun j u hu => (World.cell?_of_block (a := ⟨b, j, none⟩) hk).trans (k.cell j u hu), fun q => (World.frozen?_of_block (a := ⟨b, q, none⟩) hk).trans (k.free q)⟩
theorem MapN.but {P : Program} {k : TypeId} {b n : Nat} {f : Int → Option Value} (h : MapN P k w b n f) (hb : But2 b1 b2 w w') (h1 : ¬ b = b1) (h2 : ¬ b = b2) : MapN P k w' b n f := h.block (hb.block b h.lt h1 h2)
end
def sv (x v : Int) : Value := .agg #[.int .i64 x, .int .i64 v]
def lkv (G : Option Addr) (n c : Nat) (G' : Option Addr) (n' c' : Nat) : Value := .agg #[.slice G n c, .slice G' n' c']
theorem word_pk (e s : Int) (h : Bool) (ho : wordOk e s = true) (w : World) :
    Calls Tryz.prog 217 #[.int .i64 (pk e s h)] w fun o w' => o = .returned (.agg #[.int .i64 e, .int .i64 s, .bool h]) ∧ Below w.heap.size w w' := by
  have hr := pk_range h ho
  refine (word_any _ hr.1 hr.2 w).mono ?_
  rintro o w' ⟨rfl, hb⟩
  refine ⟨?_, hb⟩
  have h0 := wordOk_iff.1 ho
  have e1 := pk_half e s h
  have e2 : pk e s h / 2 / 65536 = e := by rw [e1]; omega
  have e3 : pk e s h / 2 % 65536 = s := by rw [e1]; omega
  have e4 : (pk e s h % 2 == 1) = h := by
    cases h <;> simp [pk] <;> omega
  rw [e2, e3, e4]
/-- the two maps behind setLock -/
def SetL (w : World) (b1 b2 n m : Nat) (f g : Int → Option Value) (key v e s : Int) (hs : HL) (lv : Value) (o : Ending) (w' : World) : Prop :=
  o = .returned (.tuple #[]) ∧ MapN Tryz.prog 3 w' b1 n (upd f key (some (sv (pk e s (wrote hs)) v))) ∧ (∃ m', m' ≤ m + 1 ∧ MapN Tryz.prog 3 w' b2 m' (upd g key (if hs.length = 0 then none else some lv))) ∧ But2 b1 b2 w w'
set_option maxHeartbeats 1600000 in
set_option maxRecDepth 100000 in
theorem setLock_any (b1 b2 n m B : Nat) (f g : Int → Option Value) (key v e s : Int) (h0 : Bool) (G G' : Option Addr) (c c' : Nat) (hs ws : HL) (w : World) (hk0 : 0 ≤ key) (hk1 : key ≤ 7) (hn : hs.length ≤ 1048576)
    (hne : ¬ b1 = b2) (hf : f key = some (sv (pk e s h0) v)) (ho : wordOk e s = true) (hnn : n ≤ 1000) (hmm : m ≤ 1000) (h1 : MapN Tryz.prog 3 w b1 n f) (h2 : MapN Tryz.prog 3 w b2 m g) (hB : B ≤ w.heap.size) (hl : LAt w B G G' (hs, ws)) :
    Calls Tryz.prog 193 #[.agg #[.map (some b1), .map (some b2)], .int .i64 key, .agg #[.slice G hs.length c, .slice G' ws.length c']] w (SetL w b1 b2 n m f g key v e s hs (lkv G hs.length c G' ws.length c')) := by
  go_enter Tryz.func193, Tryz.ntmps193
  go_wp2_with (first | (at_lookup; refine wp_look _ rfl _ _ rfl keyI Tryz.underlying205 (zeroSlot _) rfl ((h1.next ((Below.refl _ _).alloc (Nat.le_refl _) _)).next ((Below.refl _ _).alloc (Nat.le_refl _) _)) key rfl (keyI_of (by omega) (by omega)) (.agg #[.int .i64 (pk e s h0), .int .i64 v]) (by rw [hf]; rfl) ?_) | fail)
  have hb0 := (((Below.refl w.heap.size w).alloc (Nat.le_refl _) (.cells #[.map (some b1), .map (some b2)] 208)).alloc (by simp) (.cells #[.slice G hs.length c, .slice G' ws.length c'] 65)).alloc (by simp; omega) (.cells #[.int .i64 (pk e s h0), .int .i64 v] 261)
  have X := ((Box.new (w := w) (c := #[.map (some b1), .map (some b2)]) (t := 208) rfl).alloc (.cells #[.slice G hs.length c, .slice G' ws.length c'] 65)).alloc (.cells #[.int .i64 (pk e s h0), .int .i64 v] 261)
  have Y := (Box.new (w := w.alloc (.cells #[.map (some b1), .map (some b2)] 208)) (b := w.heap.size + 1) (c := #[.slice G hs.length c, .slice G' ws.length c']) (t := 65) (by simp)).alloc (.cells #[.int .i64 (pk e s h0), .int .i64 v] 261)
  have Z := Box.new (w := (w.alloc (.cells #[.map (some b1), .map (some b2)] 208)).alloc (.cells #[.slice G hs.length c, .slice G' ws.length c'] 65)) (b := w.heap.size + 1 + 1) (c := #[.int .i64 (pk e s h0), .int .i64 v]) (t := 261) (by simp)
  generalize ((w.alloc (.cells #[.map (some b1), .map (some b2)] 208)).alloc (.cells #[.slice G hs.length c, .slice G' ws.length c'] 65)).alloc (.cells #[.int .i64 (pk e s h0), .int .i64 v] 261) = w0 at hb0 X Y Z ⊢
  refine (word_pk e s h0 ho _).mono ?_; rintro o w1 ⟨rfl, hb1⟩
  have hb1 := hb0.trans (hb1.mono hb0.size) |> fun h => And.intro hb1 h
  obtain ⟨hb1', hb1⟩ := hb1
  have X := X.next hb1'
  have Y := Y.next hb1'
  have Z := Z.next hb1'
  have zl1 : w.heap.size + 1 + 1 < w1.heap.size := Z.lt
  clear hb1' hb0
  obtain ⟨y0, y1, yf⟩ := Y.c2
  have yl := Y.lt
  clear yf
  go_wp2_with fail
  clear y0 y1
  have hA := (Below.refl w1.heap.size w1).alloc (Nat.le_refl _) (.cells #[.int .i64 e, .int .i64 s, .bool h0] 62)
  have V := Box.new (w := w1) (c := #[.int .i64 e, .int .i64 s, .bool h0]) (t := 62) rfl
  have X := X.next hA
  have Y := Y.next hA
  have Z := Z.next hA
  have hb2 := hb1.trans (hA.mono hb1.size)
  have hs1 := hb1.size
  generalize w1.alloc (.cells #[.int .i64 e, .int .i64 s, .bool h0] 62) = w2 at hA V X Y Z hb2 ⊢
  refine (writerHolds_any _ _ _ _ B hs ws _ hn (hl.keep hb2 hB)).mono ?_; rintro o w3 ⟨rfl, hb3⟩
  have V := V.next hb3
  have X := X.next hb3
  have Y := Y.next hb3
  have Z := Z.next hb3
  have hb3 := hb2.trans (hb3.mono hb2.size)
  clear hA hb2 hb1
  obtain ⟨v0, v1, v2, vf⟩ := V.c3
  have vl := V.lt
  clear yl
  go_wp2_with fail
  have V := V.set (j := 2) (.bool (wrote hs)) (by simp)
  have X := X.far (a := ⟨w1.heap.size, 2, none⟩) (.bool (wrote hs)) (by simp; omega)
  have Y := Y.far (a := ⟨w1.heap.size, 2, none⟩) (.bool (wrote hs)) (by simp; omega)
  have Z := Z.far (a := ⟨w1.heap.size, 2, none⟩) (.bool (wrote hs)) (by simp; omega)
  have hb4 := hb3.setCell (p := ⟨w1.heap.size, 2, none⟩) hs1 (.bool (wrote hs))
  clear v0 v1 v2 vf vl hb3
  generalize w3.setCell ⟨w1.heap.size, 2, none⟩ (.bool (wrote hs)) = w4 at V X Y Z hb4 ⊢
  have V : Box w4 w1.heap.size [.int .i64 e, .int .i64 s, .bool (wrote hs)] := V
  have hbl1 := h1.lt
  have hbl2 := h2.lt
  have M1 := Lib.hid ((h1.below hb4 hbl1).block (w' := w4.drew) rfl)
  have M2 := Lib.hid (h2.below hb4 hbl2)
  have HO := Lib.hid (wordOk_iff.1 ho)
  have HX := Lib.hid X.drew
  have HV := Lib.hid V.drew
  have HY := Lib.hid Y.drew
  have HZ := Lib.hid Z.drew
  have HB := Lib.hid hb4.drew
  have hS0 := Lib.hid (And.intro X.drew.c2.1 (And.intro V.drew.c3.1 (And.intro V.drew.c3.2.1 (And.intro V.drew.c3.2.2.1 Z.drew.c2.2.1))))
  have Hf := Lib.hid hf
  clear X V Y Z hb4 h1 h2 hf ho hl
  go_region_held3 (fun W => W.cell? ⟨w.heap.size, 0, none⟩ = some (.map (some b1)) ∧ W.cell? ⟨w1.heap.size, 0, none⟩ = some (.int .i64 e) ∧ W.cell? ⟨w1.heap.size, 1, none⟩ = some (.int .i64 s) ∧ W.cell? ⟨w1.heap.size, 2, none⟩ = some (.bool (wrote hs)) ∧ W.cell? ⟨w.heap.size + 1 + 1, 1, none⟩ = some (.int .i64 v)) (first | exact hS0.out | exact hS5.out | exact hS6.out) ((go_at_call 192; refine (packedOf_any e s (wrote hs) HO.out.1.1 HO.out.1.2 HO.out.2.1 HO.out.2.2 _).mono ?_; rintro o w5 ⟨rfl, hb5⟩; obtain ⟨w6, hrun, M6, hT6⟩ := (M1.out.next hb5).store keyI Tryz.underlying205 (by unfold maxLen; omega) (x := key) (keyI_of (by omega) (by omega)) (.agg #[.int .i64 (pk e s (wrote hs)), .int .i64 v]); have hU := But2.of_turn1 (b2 := b2) hT6; have hS5 := Lib.hid (And.intro (HX.out.next hb5).c2.1 (And.intro (HV.out.next hb5).c3.1 (And.intro (HV.out.next hb5).c3.2.1 (And.intro (HV.out.next hb5).c3.2.2.1 (HZ.out.next hb5).c2.2.1)))); have HX6 := Lib.hid ((HX.out.next hb5).but hU (by omega) (by omega)); have HY6 := Lib.hid ((HY.out.next hb5).but hU (by omega) (by omega)); have HV6 := (HV.out.next hb5).but hU (by omega) (by omega); have HZ6 := (HZ.out.next hb5).but hU (by omega) (by omega); have hS6 := Lib.hid (And.intro HX6.out.c2.1 (And.intro HV6.c3.1 (And.intro HV6.c3.2.1 (And.intro HV6.c3.2.2.1 HZ6.c2.2.1)))); have M6 := Lib.hid M6; have HU := Lib.hid hU; have M26 := Lib.hid ((MapN.next (M2.out.block (w' := w4.drew) rfl) hb5).kept hT6.grown (fun e => by injection e with e; exact hne e.symm)); have HB5 := Lib.hid hb5; clear hb5 hU HV6 HZ6 hT6))
  rename_i hS
  clear hS
  have hU6 := Lib.hid (But2.trans (But2.of_below (b1 := b1) (b2 := b2) HB.out) (But2.trans (But2.of_below HB5.out) HU.out))
  have M6s := M6.out
  rw [if_pos (show (f key).isSome = true by rw [Hf.out]; rfl)] at M6s
  have M6s := Lib.hid M6s
  obtain ⟨x0, x1, xf⟩ := HX6.out.c2
  obtain ⟨y0, y1, yf⟩ := HY6.out.c2
  clear hS0 hS5 hS6 hrun xf yf M6 HX HY HV HZ HB5 HB HU
  by_cases hz : hs.length = 0
  · have hz' : (hs.length : Int) = 0 := by omega
    rw [hz] at y0
    go_wp2_with (first | (at_delete; refine wp_drop _ rfl _ _ rfl keyI Tryz.underlying206 rfl M26.out key rfl (keyI_of (by omega) (by omega)) ?_; intro w7 n7 hn7 hM7 hT7) | fail)
    have HM6 := Lib.hid (M6s.out.kept hT7.grown (fun e => by injection e with e; exact hne e))
    have HU7 := Lib.hid (hU6.out.trans (But2.of_turn2 hT7))
    have HM7 := Lib.hid hM7
    clear hM7 hT7 M6s hU6 M26
    exact bodyPost_ret (v := .tuple #[]) (by simp [results, Tryz.results193, go_sem]) rfl ⟨rfl, HM6.out, ⟨n7, by omega, by rw [if_pos hz]; exact HM7.out⟩, HU7.out⟩
  · have hz' : ¬ (hs.length : Int) = 0 := by omega
    go_wp2_with (first | (at_mapUpdate; refine wp_store _ rfl _ _ _ rfl keyI Tryz.underlying206 rfl M26.out (by unfold maxLen; omega) key rfl (keyI_of (by omega) (by omega)) (.agg #[.slice G hs.length c, .slice G' ws.length c']) rfl ?_; intro w7 hM7 hT7) | fail)
    have HM6 := Lib.hid (M6s.out.kept hT7.grown (fun e => by injection e with e; exact hne e))
    have HU7 := Lib.hid (hU6.out.trans (But2.of_turn2 hT7))
    have HM7 := Lib.hid hM7
    clear hM7 hT7 M6s hU6 M26
    exact bodyPost_ret (v := .tuple #[]) (by simp [results, Tryz.results193, go_sem]) rfl ⟨rfl, HM6.out, ⟨if (g key).isSome then m else m + 1, by split <;> omega, by rw [if_neg hz]; exact HM7.out⟩, HU7.out⟩
end Go.Proofs.YtkpkjcmoldkmmaaGreat
