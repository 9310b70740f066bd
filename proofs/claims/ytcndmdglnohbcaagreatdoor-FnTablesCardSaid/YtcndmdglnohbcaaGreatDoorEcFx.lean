/- FnTables: a table of three cells through drawn operations, whatever the bytes that they are drawn from; the bytes read as before. The error variable reads as its own initialiser lays it (tied). -/
import Derived.Test.YtcndmdglnohbcaaGreatDoorFx
import Derived.Test.YtcndmdglnohbcaaGreatDoorCards
import Derived.Test.YtcndmdglnohbcaaGreatDoorTie
import Derived.ProofKit
import Derived.OpenShut
import Derived.ChangeOld
import Derived.Deep.DeepHandedRow
import Derived.Stop.LaidErr
import Derived.Lib.SmallJoins
import Derived.ShutString
namespace Go.Proofs.YtcndmdglnohbcaaGreatDoor
open Go.ChangeShapes Go.WideShapes Go.ChangeAt Go.RowKit Go.Joins Go.Deep

theorem cellsU8 : Tryz.prog.cellsOf 5 = 1 := by kernel_rfl

section
variable {H : Type} {enc : TypeId × Value → H} {W : World}

/-- a byte at every cell -/
theorem bytesAt_of {A : Addr} {N : Nat} (h : ∀ j, j < N → ∃ v : Int, (0 ≤ v ∧ v ≤ 255) ∧ W.cell? (A.add j) = some (.int .u8 v)) : ∃ g : Nat → Int, BytesAt W W.heap.size (some A) N g := by
  have hex : ∀ j, ∃ v : Int, (0 ≤ v ∧ v ≤ 255) ∧ (j < N → W.cell? (A.add j) = some (.int .u8 v)) := fun j => by
    by_cases hj : j < N
    · obtain ⟨v, hr, hv⟩ := h j hj
      exact ⟨v, hr, fun _ => hv⟩
    · exact ⟨0, ⟨by omega, by omega⟩, fun hj' => absurd hj' hj⟩
  refine ⟨fun j => Classical.choose (hex j), fun j => (Classical.choose_spec (hex j)).1, fun hN => ?_⟩
  have hc : ∀ j, j < N → W.cell? (A.add j) = some (.int .u8 (Classical.choose (hex j))) := fun j hj => (Classical.choose_spec (hex j)).2 hj
  obtain ⟨b, off, spot⟩ := A
  have h0 := hc 0 hN
  have hs : spot = none := by simpa [Addr.add] using World.cell?_spot h0
  subst hs
  refine ⟨b, off, rfl, by simpa [Addr.add] using World.block_lt_of_cell? _ _ h0, fun j hj => ?_⟩
  have := hc j hj
  by_cases hj0 : j = 0
  · subst hj0
    simpa [Addr.add] using this
  · simpa [Addr.add, hj0] using this

theorem open_bytesAt {A : Option Addr} {n cap : Nat} {d : DataW H} {p : List MemPlace} (h : DataW.Trod enc Tryz.prog W 0 (fun _ => true) true 22 (.slice A n cap) d p) :
    ∃ g : Nat → Int, BytesAt W W.heap.size A n g := by
  obtain ⟨fuel, hf⟩ := h
  rcases open_slice Tryz.underlying22 hf with ⟨hcs, _⟩ | ⟨a, len, cap', m, k, D, Pl, hcs, _, hl, hm, hmm, _, hi⟩
  · simp [Value.cells] at hcs
    obtain ⟨rfl, rfl, rfl⟩ := hcs
    exact ⟨fun _ => 0, fun _ => ⟨Int.le_refl 0, (by decide : (0 : Int) ≤ 255)⟩, fun h => absurd h (by omega)⟩
  · simp [Value.cells] at hcs
    obtain ⟨rfl, rfl, rfl⟩ := hcs
    exact bytesAt_of (W := W) (A := a) (N := n) (fun j hj => by
      obtain ⟨cs', hc, ht⟩ := hi j (by rw [hmm]; simp; omega)
      rw [cellsU8] at hc
      obtain ⟨_, hlen, hcell⟩ := World.cells?_some hc
      obtain ⟨v, e0, _, hwf⟩ := DataW.trod_int Tryz.underlying5 ht
      have hr : IntKind.u8.min ≤ v ∧ v ≤ IntKind.u8.max := by simpa [Lit.wf] using hwf
      refine ⟨v, ⟨hr.1, hr.2⟩, ?_⟩
      have := hcell 0 (by omega)
      rw [e0] at this
      simpa [add_add] using this)
end

theorem gErr : Tryz.prog.globalNamed "loop.example/g00771/impl.errFull" = some 0 := by kernel_rfl
theorem gErrType : (Tryz.prog.globals[0]?).map (·.type) = some 93 := by kernel_rfl
theorem cellsEs : Tryz.prog.cellsOf 189 = 1 := by kernel_rfl
theorem cellsStr : Tryz.prog.cellsOf 9 = 1 := by kernel_rfl
theorem star : "*errors.errorString" = "*" ++ "errors.errorString" := by decide
theorem rowEs (u : TypeId) (h : Tryz.prog.typeName? 3 u = some "*errors.errorString") : u = 165 :=
  typeName_ptr_named (nm := "errors.errorString") (by rw [← star]; kernel_rfl) (by kernel_rfl) (by decide) u (by rw [← star]; exact h)

abbrev errText : List UInt8 := [116, 104, 101, 32, 101, 112, 111, 99, 104, 32, 104, 97, 115, 32, 110, 111, 32, 102, 117, 114, 116, 104, 101, 114, 32, 115, 101, 113, 117, 101, 110, 99, 101, 32, 110, 117, 109, 98, 101, 114]
abbrev laidE : List (String × DataW Unit) := [("loop.example/g00771/impl.errFull", Rows.laid_loop_example_g00771_impl_errFull)]
abbrev errS : ByteArray := { data := #[116, 104, 101, 32, 101, 112, 111, 99, 104, 32, 104, 97, 115, 32, 110, 111, 32, 102, 117, 114, 116, 104, 101, 114, 32, 115, 101, 113, 117, 101, 110, 99, 101, 32, 110, 117, 109, 98, 101, 114] }
noncomputable def low : Nat := (World.holding Tryz.prog default ⟨#[], #[], []⟩).heap.size
/-- A WORLD FOR THE WITNESS: the settled one, the sentinel as its initialiser lays it. -/
noncomputable def laidWorldE (os : Os) (args : Array Value) : World :=
  let w0 := World.holding Tryz.prog os ⟨#[.cells #[.string errS] 189], args, []⟩
  { w0 with heap := w0.heap.modify 0 fun
      | .cells _ t frozen => .cells #[.iface 165 (.pointer (some ⟨low, 0, none⟩))] t frozen
      | o => o }
theorem laid_metE (os : Os) (args : Array Value) : laidMet Tryz.prog laidE ((laidWorldE os args).forCall (fun _ _ => 0) ⟨#[], args, []⟩).memory :=
  laidMet_of_run (ps := [.cell 0 0, .cell low 0]) 8 (by kernel_rfl) (by kernel_rfl) (by kernel_rfl)
/-- WHAT THE ROW's LIST GIVES -/
theorem fullOf {W : World} (h : laidMetH Tryz.prog laidE W) : ∃ a, Full W a ∧ W.var? Tryz.prog "loop.example/g00771/impl.errFull" = some #[.iface 165 (.pointer (some a))] := by
  obtain ⟨a0, s0, hv0, hc0, hs0, hz0⟩ := laid_sentinel h gErr gErrType Tryz.underlying93 rowEs Tryz.underlying165 Tryz.underlying189 rfl rfl Tryz.underlying9 cellsEs cellsStr
  exact ⟨a0, by have := World.var?_cell gErr hv0 0; simpa [Full] using this, hv0⟩
theorem var_below {W W' : World} {cs : Array Value} (h : W.var? Tryz.prog "loop.example/g00771/impl.errFull" = some cs) (hb : Below W.heap.size W W') : W'.var? Tryz.prog "loop.example/g00771/impl.errFull" = some cs := by
  unfold World.var? at h ⊢
  simp only [gErr, Option.bind_some] at h ⊢
  have hlt : 0 < W.heap.size := by
    rcases Nat.lt_or_ge 0 W.heap.size with h' | h'
    · exact h'
    · rw [Array.getElem?_eq_none h'] at h; cases h
  rw [hb.block _ hlt]
  exact h

set_option maxRecDepth 100000 in
theorem at_contract (H : Type) (enc : TypeId × Value → H) (W : World) (base : Nat) (args : Array Value) (ds gs : List (DataW H)) (before : List MemPlace)
    (hval : ∀ (j : Nat) t v, Tryz.f3.params[j]? = some t → args[j]? = some v → Value.okWide Tryz.prog W .any base t v)
    (hW : DataW.Whole enc Tryz.prog Tryz.f3.params.toList Rows.fnTablesSpec.vars false W args.toList ds gs before) (hL : laidMetH Tryz.prog laidE W) :
    Calls Tryz.prog 3 args W fun e W' => ∃ v, e = .returned v ∧ Rows.fnTablesSpec.post enc Tryz.prog Tryz.f3 false true false false W args v W' := by
  have hW' := hW
  obtain ⟨p, q, hA0, hV, rfl, hfz, hnd⟩ := hW
  have hA : DataW.TrodAll enc Tryz.prog W 0 (fun _ => true) true Tryz.f3.params.toList args.toList ds p := hA0
  rw [Tryz.params3] at hA hval
  obtain ⟨v0, vs0, d0, ds0, p0, q0, hargs, rfl, rfl, h0, rr0⟩ := trodAll_cons hA
  obtain ⟨rfl, rfl, rfl⟩ := trodAll_nil rr0
  obtain rfl : args = #[v0] := by cases args; simp_all
  have hV1 : DataW.TrodVars enc Tryz.prog W (fun _ => true) ["loop.example/g00771/impl.errFull"] gs q := hV
  obtain ⟨ad, hF, hv0⟩ := fullOf hL
  obtain ⟨rfl, rfl⟩ := hV1.unique (vars_read1 enc gErr gErrType Tryz.underlying93 hv0 trivial _)
  have k0 := h0
  have lt0 : ∀ x ∈ p0, x.block < W.heap.size := by obtain ⟨m, hm⟩ := k0; exact DataW.trod_lt m _ _ _ hm
  obtain ⟨A0, n0, c0, rfl⟩ := okWide_slice Tryz.underlying22 (hval 0 22 v0 rfl rfl)
  obtain ⟨g0, r0⟩ := open_bytesAt h0
  clear hA0
  refine (fnTables_walk A0 n0 c0 g0 W ad hF r0).mono fun e W' ⟨he, bel⟩ => ?_
  subst he
  exact ⟨_, rfl, _, _, _, [], _, [.cell 0 0], hW', trodAll_mk1 (shut_bool Tryz.underlying4 _), (trodAll_cons_mk (Below.trod laidOut (by kernel_rfl) (of_decide_eq_true (by kernel_rfl)) k0 bel lt0) (trodAll_mk0)), vars_read1 enc gErr gErrType Tryz.underlying93 (var_below hv0 bel) trivial _, bel.frame _, fun h => by cases h⟩

abbrev atArgs : Array Value := #[.slice none 0 0]
theorem at_reads (os : Os) {H : Type} (enc : TypeId × Value → H) : ∃ places, DataW.whole enc Tryz.prog ((laidWorldE os atArgs).forCall (fun _ _ => 0) ⟨#[], atArgs, []⟩).memory Tryz.f3.params.toList Rows.fnTablesSpec.vars false atArgs.toList 8 = some ([.nil], [tok enc (.iface 165 (.pointer (some ⟨low, 0, none⟩)))], places) :=
  ⟨[.cell 0 0], by kernel_rfl⟩

set_option maxRecDepth 100000 in
theorem at_lifted (os : Os) (started : os.Started) (H : Type) (enc : TypeId × Value → H) (F : Stop.Interp) :
    ReturnsInHanded {} Tryz.checked os 3 .any ((OpenSpec.ofChange Rows.fnTablesSpec).preRow enc Tryz.prog Tryz.f3 Rows.fnTablesRow.domain false Rows.fnTablesRow.laid) (((OpenSpec.ofChange Rows.fnTablesSpec).at F).post enc Tryz.prog Tryz.f3 false true false false) := by
  obtain ⟨places, hx⟩ := at_reads os enc
  refine returnsInHanded_of_row (C := Tryz.checked) (s := OpenSpec.ofChange Rows.fnTablesSpec) own started (by kernel_rfl) Tryz.func3
    (witness_row_at (enc := enc) (C := Tryz.checked) false (laidWorldE os atArgs) atArgs rfl (by kernel_rfl) (by kernel_rfl) (by kernel_rfl)
      (OpenSpec.preRow_of_cond 8 hx (by kernel_rfl) (fun k hk => by cases hk) (by kernel_rfl) (laid_metE os atArgs))) ?_
  intro W base args ds gs before hval hW _ _ _ hL _ _
  exact at_contract H enc W base args ds gs before hval hW hL

theorem at_said : Rows.FnTablesSaid :=
  OpenClaim.holds_of_cond 3 Tryz.f3 rfl rfl rfl rfl rfl rfl rfl ⟨rfl, rfl, rfl, rfl, rfl⟩ rfl rfl rfl rfl rfl (by kernel_rfl) Tryz.func3 (by kernel_rfl)
    (of_decide_eq_true (by kernel_rfl)) (by unfold Func.isWrapper; first | (rw [if_pos (by decide +kernel)]; kernel_rfl) | (rw [if_neg (by decide +kernel)]; exact ⟨rfl, rfl⟩))
    (fun os started H enc _ F => by rw [OpenClaim.pre_eq_preRow]; exact at_lifted os started H enc F)

theorem at_plain (f : FuncId) (fn : Func) (hf : Tryz.pinned.checked.prog.funcNamed "loop.example/g00771/laws.FnTables" = some f) (hfn : Tryz.pinned.checked.prog.funcs[f]? = some fn) :
    true = Tryz.pinned.checked.prog.looks [] ∧ ∀ (j : Nat) t, fn.params[j]? = some t → Tryz.pinned.checked.prog.wantsStandIn t = false := by
  obtain rfl : f = 3 := Option.some.inj ((show Tryz.prog.funcNamed "loop.example/g00771/laws.FnTables" = some 3 by kernel_rfl).symm.trans hf) |>.symm
  obtain rfl : fn = Tryz.f3 := (Option.some.inj (Tryz.func3.symm.trans hfn)).symm
  refine ⟨by kernel_rfl, fun j t ht => ?_⟩
  rw [Tryz.params3] at ht
  obtain rfl : t = 22 := by simpa using Array.mem_of_getElem? ht
  exact (show Tryz.prog.wantsStandIn 22 = false by kernel_rfl)

/-- FnTables: THE CARD -/
theorem fnTables_card : Rows.FnTablesCardSaid :=
  Claim7.holds_tied_plain_at .later [] _ _ _ _ at_said (fun _ h => by cases h) (by kernel_rfl) (fun _ h => by cases h) fnTables_row_tie rfl ⟨rfl, rfl⟩ (by kernel_rfl) rfl at_plain (by kernel_rfl)
#print axioms fnTables_card
end Go.Proofs.YtcndmdglnohbcaaGreatDoor
