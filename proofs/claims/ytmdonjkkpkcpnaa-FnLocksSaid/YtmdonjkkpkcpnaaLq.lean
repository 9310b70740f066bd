/- QueueOf, the model's and the program's. -/
import Derived.Test.YtmdonjkkpkcpnaaLi2
import Derived.Test.YtmdonjkkpkcpnaaLs2
namespace Go.Proofs.Ytmdonjkkpkcpnaa
open Go.RowKit

def queueL (hs ws : HL) : List Int := if lockOk hs ws then ids ws else []
theorem ws_len {hs ws : HL} (h : lockOk hs ws = true) : hs.length + ws.length ≤ 8 := ((lockOk_iff _ _).1 h).1.len
theorem queue_len (hs ws : HL) : (queueL hs ws).length ≤ 8 := by
  unfold queueL
  split
  · rename_i h; have := ws_len h; rw [ids_len']; omega
  · simp
/-- a slice of integers of the call's own -/
def RetI (w : World) (l : List Int) (e : Ending) (w' : World) : Prop := ∃ A cap, e = .returned (.slice A l.length cap) ∧ OwnI w' w.heap.size w'.heap.size A l.length (fun j => l.getD j 0) ∧ Below w.heap.size w w'
theorem RetI.nil {w w' : World} (h : Below w.heap.size w w') : RetI w [] (.returned (.slice none 0 0)) w' := ⟨none, 0, rfl, fun h => absurd h (by simp), h⟩
theorem RetI.of {w w' : World} {v : Value} {l : List Int} {lo : Nat} {e : TypeId} (h : w'.ownsRow lo e 1 v l.length (l.map (.int .i64))) (hlo : w.heap.size ≤ lo) (hb : Below w.heap.size w w') : RetI w l (.returned v) w' := by
  obtain ⟨A, cap, rfl, _, hI⟩ := OwnI.of_owns h
  exact ⟨A, cap, rfl, hI.more hlo (Nat.le_refl _), hb⟩

set_option maxHeartbeats 800000 in
set_option maxRecDepth 100000 in
theorem specQueue_any (A A' : Option Addr) (c c' B : Nat) (hs ws : HL) (w : World) (hn : hs.length ≤ 1048576) (hn' : ws.length ≤ 1048576) (h : LAt w B A A' (hs, ws)) :
    Calls Try.prog 42 #[.agg #[.slice A hs.length c, .slice A' ws.length c']] w (RetI w (queueL hs ws)) := by
  obtain ⟨h1, h2⟩ := h
  have h1 := h1.lt
  have h2 := h2.lt
  obtain ⟨i0, hi, hz0, hz1, hz2⟩ := info_parts infoInt
  have Hi := Lib.hid hi
  have Hz0 := Lib.hid hz0
  have Hz1 := Lib.hid hz1
  have Hz2 := Lib.hid hz2
  clear hi hz0 hz1 hz2
  go_enter Try.func42, Try.ntmps42
  go_wp2_with fail
  have b0 := ((Below.refl w.heap.size w).alloc (Nat.le_refl _) (.cells #[.slice A hs.length c, .slice A' ws.length c'] 28)).alloc (by simp) (.cells #[] 3)
  have X := (Box.new (w := w) (c := #[.slice A hs.length c, .slice A' ws.length c']) (t := 28) rfl).alloc (.cells #[] 3)
  have hown0 := World.ownsRow_made (base := w.heap.size + 1) (size := 1) (e := 3) (w.alloc (.cells #[.slice A hs.length c, .slice A' ws.length c'] 28)) #[] 0 (by simp) (Nat.zero_le _) rfl
  refine (specLockOk_any _ _ _ _ _ hs ws _ hn hn' ⟨h1.below b0 b0.size, h2.below b0 b0.size⟩).mono ?_; rintro e w1 ⟨rfl, hb1⟩
  have X := X.next hb1
  have b1 := b0.trans (hb1.mono b0.size)
  have hown := ownsRow_block' hown0 (fun k hk _ => hb1.block k hk)
  have Hown := Lib.hid (show w1.ownsRow (w.heap.size + 1) 3 1 (.slice (some ⟨w.heap.size + 1, 0, none⟩) 0 0) (ids (ws.take 0)).length ((ids (ws.take 0)).map (.int .i64)) by simpa [ids] using hown)
  clear hb1 b0 hown0 hown
  cases hl : lockOk hs ws with
  | false =>
    have HE := Lib.hid (show queueL hs ws = [] by simp [queueL, hl])
    clear hl
    go_wp2
    go_ret
    rw [HE.out]
    exact RetI.nil b1
  | true =>
    have HE := Lib.hid (show queueL hs ws = ids ws by simp [queueL, hl])
    have hlen := ws_len hl
    clear hl
    go_wp2
    go_loopw [3, 4] (fun v i wr => ∃ k : Nat, k ≤ ws.length ∧ i = .int .i64 k ∧ wr.ownsRow (w.heap.size + 1) 3 1 v (ids (ws.take k)).length ((ids (ws.take k)).map (.int .i64)) ∧ Below w.heap.size w wr ∧ Box wr w.heap.size [.slice A hs.length c, .slice A' ws.length c']) (fun _ i _ => ws.length - (intOf i).toNat)
    case atStart => exact ⟨0, Nat.zero_le _, rfl, Hown.out, b1, X⟩
    case round =>
      clear X b1 Hown
      obtain ⟨k, hk, rfl, hown, hb, X⟩ := hrel
      obtain ⟨x0, x1, xf⟩ := X.c2
      have hsz := hb.size
      have hlt := X.lt
      by_cases hkn : k < ws.length
      · obtain ⟨b, off, rfl, hB, hc⟩ := h2 (by omega)
        have hkz : (k : Int) < ws.length := by omega
        have d0 : wr.cell? ⟨b, off + k * 2, none⟩ = some (.int .i64 (hT ws k)) := (hb.cell (p := ⟨b, off + k * 2, none⟩) hB).trans (hc k hkn).1
        have hl2 : (ids (ws.take k)).length ≤ 8 := by rw [ids_len', List.length_take]; omega
        have HN := Lib.hid (take_ids hkn)
        clear hc h1 h2 xf
        generalize ids (ws.take k) = L at hown hl2 HN
        go_wp2_with (at_builtin; refine wpList_append_own _ rfl _ _ 29 rfl (w.heap.size + 1) 3 i0 (.int .i64 0) 1 8 Try.underlying29 Hi.out Hz0.out Hz1.out Hz2.out rfl (by decide) _ _ _ rfl (hown.alloc _) ⟨wr.heap.size, 0, none⟩ 1 1 [.int .i64 (hT ws k)] rfl rfl ?c1 ?c2 ?c3 ?c4 ?c5 ?_)
        case c1 =>
          intro j u hj
          match j, hj with
          | 0, hj => simp at hj; subst hj; simp [Addr.add]
        case c2 => intro u hu; simp at hu; subst hu; rfl
        case c3 => unfold maxLen; omega
        case c4 => omega
        case c5 => simp; omega
        intro v' w3 hown' hgrow _
        have X3 := (X.alloc (.cells #[.int .i64 (hT ws k)] 3)).grown hgrow (fun q hq => by have := (hown.lt q hq).1; omega)
        have hb3 := (hb.alloc hsz (.cells #[.int .i64 (hT ws k)] 3)).grown hgrow (by simp; omega) (fun q hq => by have := (hown.lt q hq).1; omega)
        have hown3 : w3.ownsRow (w.heap.size + 1) 3 1 v' (ids (ws.take (k + 1))).length ((ids (ws.take (k + 1))).map (.int .i64)) := by rw [HN.out]; simpa using hown'
        clear hown' hgrow hown hb X x0 x1 d0
        go_wp2
        exact ⟨⟨k + 1, by omega, by go_num, hown3, hb3, X3⟩, by simp [intOf]; omega⟩
      · obtain rfl : k = ws.length := by omega
        rw [List.take_length] at hown
        have HO := Lib.hid hown
        clear hown
        go_wp2
        go_ret
        rw [HE.out]
        exact RetI.of HO.out (by omega) hb

set_option maxHeartbeats 800000 in
set_option maxRecDepth 100000 in
theorem implQueue_any (A A' : Option Addr) (c c' B : Nat) (hs ws : HL) (w : World) (hn : hs.length ≤ 1048576) (hn' : ws.length ≤ 1048576) (h : LAt w B A A' (hs, ws)) :
    Calls Try.prog 19 #[.agg #[.slice A hs.length c, .slice A' ws.length c']] w (RetI w (queueL hs ws)) := by
  obtain ⟨h1, h2⟩ := h
  have h1 := h1.lt
  have h2 := h2.lt
  obtain ⟨i0, hi, hz0, hz1, hz2⟩ := info_parts infoInt
  have Hi := Lib.hid hi
  have Hz0 := Lib.hid hz0
  have Hz1 := Lib.hid hz1
  have Hz2 := Lib.hid hz2
  clear hi hz0 hz1 hz2
  go_enter Try.func19, Try.ntmps19
  go_wp2_with fail
  have b0 := (Below.refl w.heap.size w).alloc (Nat.le_refl _) (.cells #[.slice A hs.length c, .slice A' ws.length c'] 28)
  have X := Box.new (w := w) (c := #[.slice A hs.length c, .slice A' ws.length c']) (t := 28) rfl
  refine (implLockOk_any _ _ _ _ _ hs ws _ hn hn' ⟨h1.below b0 b0.size, h2.below b0 b0.size⟩).mono ?_; rintro e w1 ⟨rfl, hb1⟩
  have X := X.next hb1
  have b1 := b0.trans (hb1.mono b0.size)
  clear hb1 b0
  cases hl : lockOk hs ws with
  | false =>
    have HE := Lib.hid (show queueL hs ws = [] by simp [queueL, hl])
    clear hl
    go_wp2
    go_ret
    rw [HE.out]
    exact RetI.nil b1
  | true =>
    have HE := Lib.hid (show queueL hs ws = ids ws by simp [queueL, hl])
    have hlen := ws_len hl
    clear hl
    obtain ⟨x0, x1, xf⟩ := X.c2
    clear xf
    go_wp2
    go_loopw [3, 12] (fun v i wr => ∃ k : Nat, k ≤ ws.length ∧ i = .int .i64 k ∧ wr.ownsRow w.heap.size 3 1 v (ids (ws.take k)).length ((ids (ws.take k)).map (.int .i64)) ∧ Below w.heap.size w wr) (fun _ i _ => ws.length - (intOf i).toNat)
    case atStart => exact ⟨0, Nat.zero_le _, rfl, World.ownsRow_nil _ _ _ _, b1⟩
    case round =>
      clear X b1 x0 x1
      obtain ⟨k, hk, rfl, hown, hb⟩ := hrel
      have hsz := hb.size
      by_cases hkn : k < ws.length
      · obtain ⟨b, off, rfl, hB, hc⟩ := h2 (by omega)
        have hkz : (k : Int) < ws.length := by omega
        have d0 : wr.cell? ⟨b, off + k * 2, none⟩ = some (.int .i64 (hT ws k)) := (hb.cell (p := ⟨b, off + k * 2, none⟩) hB).trans (hc k hkn).1
        have d1 : wr.cell? ⟨b, off + k * 2 + 1, none⟩ = some (.bool (hW ws k)) := (hb.cell (p := ⟨b, off + k * 2 + 1, none⟩) hB).trans (hc k hkn).2
        have hl2 : (ids (ws.take k)).length ≤ 8 := by rw [ids_len', List.length_take]; omega
        have HN := Lib.hid (take_ids hkn)
        clear hc h1 h2
        generalize ids (ws.take k) = L at hown hl2 HN
        go_wp2_with (at_builtin; refine wpList_append_own _ rfl _ _ 29 rfl w.heap.size 3 i0 (.int .i64 0) 1 8 Try.underlying29 Hi.out Hz0.out Hz1.out Hz2.out rfl (by decide) _ _ _ rfl ((hown.alloc _).alloc _) ⟨wr.heap.size + 1, 0, none⟩ 1 1 [.int .i64 (hT ws k)] rfl rfl ?c1 ?c2 ?c3 ?c4 ?c5 ?_)
        case c1 =>
          intro j u hj
          match j, hj with
          | 0, hj => simp at hj; subst hj; simp [Addr.add]
        case c2 => intro u hu; simp at hu; subst hu; rfl
        case c3 => unfold maxLen; omega
        case c4 => omega
        case c5 => simp; omega
        intro v' w3 hown' hgrow _
        have hb3 := ((hb.alloc hsz (.cells #[.int .i64 (hT ws k), .bool (hW ws k)] 36)).alloc (by simp; omega) (.cells #[.int .i64 (hT ws k)] 3)).grown hgrow (by simp; omega) (fun q hq => (hown.lt q hq).1)
        have hown3 : w3.ownsRow w.heap.size 3 1 v' (ids (ws.take (k + 1))).length ((ids (ws.take (k + 1))).map (.int .i64)) := by rw [HN.out]; simpa using hown'
        clear hown' hgrow hown hb d0 d1
        go_wp2
        exact ⟨⟨k + 1, by omega, by go_num, hown3, hb3⟩, by simp [intOf]; omega⟩
      · obtain rfl : k = ws.length := by omega
        rw [List.take_length] at hown
        have HO := Lib.hid hown
        clear hown
        go_wp2
        go_ret
        rw [HE.out]
        exact RetI.of HO.out (Nat.le_refl _) hb
end Go.Proofs.Ytmdonjkkpkcpnaa
