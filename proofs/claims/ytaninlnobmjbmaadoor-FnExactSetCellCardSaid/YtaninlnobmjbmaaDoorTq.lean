/- ReadCell, the model's and the program's. -/
import Derived.Test.YtaninlnobmjbmaaDoorTt
import Derived.Test.YtaninlnobmjbmaaDoorTv
namespace Go.Proofs.YtaninlnobmjbmaaDoor
open Go.RowKit
open Go.Maps (Keyed)

theorem field_slots (a b : Option Nat) (w : World) : (Instr.field 80 (.agg #[.map a, .map b]) 0).run Tryd.prog w = .ok (.map a) w := by kernel_rfl
theorem field_locks (a b : Option Nat) (w : World) : (Instr.field 80 (.agg #[.map a, .map b]) 1).run Tryd.prog w = .ok (.map b) w := by kernel_rfl
theorem specThere_any (A : Option Addr) (c B : Nat) (T : TL) (key : Int) (w : World) (hs : TFit T) (hB : B ≤ w.heap.size) (h : TAt w B A T) :
    Calls Tryd.prog 25 #[.agg #[.slice A T.length c], .int .i64 key] w fun e w' => e = .returned (.bool (thereB T key)) ∧ Below w.heap.size w w' := by
  have hlen := hs.len
  go_enter Tryd.func25, Tryd.ntmps25
  go_wp2_with fail
  have b0 := (Below.refl w.heap.size w).alloc (Nat.le_refl _) (.cells #[.slice A T.length c] 28)
  have X := Box.new (w := w) (c := #[.slice A T.length c]) (t := 28) rfl
  generalize w.alloc (.cells #[.slice A T.length c] 28) = w0 at b0 X ⊢
  refine (specTabOk_any A c B T _ hs (Nat.le_trans hB b0.size) (h.keep b0 hB)).mono ?_; rintro e w1 ⟨rfl, hb1⟩
  have X := X.next hb1
  have b1 := b0.trans (hb1.mono b0.size)
  obtain ⟨x0, xf⟩ := X.c1
  clear b0 hb1 xf
  cases hT : tabOk T with
  | false =>
    have HE := Lib.hid (show thereB T key = false by simp [thereB, hT])
    clear hT
    go_wp2
    go_ret
    exact ⟨ret_bool HE.out.symm, b1⟩
  | true =>
    have HE := Lib.hid (show thereB T key = inB key 0 ((T.length : Int) - 1) by simp [thereB, hT])
    have hl8 := tabOk_len hT
    clear hT
    go_wp2_with fail
    refine (l01In_any _ _ _ _).mono ?_; rintro e w2 ⟨rfl, rfl⟩
    go_wp2
    go_ret
    exact ⟨ret_bool HE.out.symm, b1⟩

/-- what ReadCell gives: the cell, or the zero cell -/
def rc (T : TL) (key : Int) : CD := if thereB T key then cAt T key else CD.zero
def rcv (c : CD) (ok : Bool) : Value := .tuple #[.int .i64 c.v, .agg #[.int .i64 c.e, .int .i64 c.s, .bool c.h], .bool ok]
end Go.Proofs.YtaninlnobmjbmaaDoor
