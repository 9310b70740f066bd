/- The program's queue: nodes linked by pointers. -/
import Derived.Test.YtcndmdglnohbcaaGreatDoorLi4
namespace Go.Proofs.YtcndmdglnohbcaaGreatDoor
open Go.RowKit

def ptr (o : Option Nat) : Value := .pointer (o.map fun b => ⟨b, 0, none⟩)
/-- nodes in these blocks hold these items, each bears the next one's address -/
def Nodes (w : World) : List Nat → HL → Prop
  | [], [] => True
  | b :: bs, x :: l => Box w b [.int .i64 x.1, .bool x.2, ptr bs.head?] ∧ Nodes w bs l
  | _, _ => False
theorem Nodes.keep {w w' : World} : ∀ {bs : List Nat} {l : HL}, Nodes w bs l → (∀ b ∈ bs, ∀ cs, Box w b cs → Box w' b cs) → Nodes w' bs l
  | [], [], _, _ => trivial
  | b :: bs, x :: l, h, k => ⟨k b (by simp) _ h.1, Nodes.keep h.2 (fun c hc => k c (by simp [hc]))⟩
theorem Nodes.nil {w : World} {l : HL} (h : Nodes w [] l) : l = [] := by
  cases l with
  | nil => rfl
  | cons x l => exact absurd h id
theorem Nodes.cons {w : World} {b : Nat} {bs : List Nat} {l : HL} (h : Nodes w (b :: bs) l) : ∃ x r, l = x :: r ∧ Box w b [.int .i64 x.1, .bool x.2, ptr bs.head?] ∧ Nodes w bs r := by
  cases l with
  | nil => exact absurd h id
  | cons x l => exact ⟨x, l, rfl, h.1, h.2⟩
theorem Nodes.len {w : World} : ∀ {bs : List Nat} {l : HL}, Nodes w bs l → bs.length = l.length
  | [], [], _ => rfl
  | b :: bs, x :: l, h => by simp [Nodes.len h.2]
/-- one node more behind the last -/
theorem Nodes.snoc {w W : World} {nb : Nat} {x : Int × Bool} : ∀ {bs : List Nat} {l : HL} {last : Nat}, Nodes w bs l → bs.getLast? = some last → bs.Nodup →
    (∀ c ∈ bs, ¬ c = last → ∀ cs, Box w c cs → Box W c cs) → (∀ a b c, Box w last [a, b, c] → Box W last [a, b, ptr (some nb)]) → Box W nb [.int .i64 x.1, .bool x.2, ptr none] →
    Nodes W (bs ++ [nb]) (l ++ [x])
  | [b], [y], last, h, hl, hd, hk, hs, hb => by
    have e : last = b := by simpa using hl.symm
    subst e
    exact ⟨hs _ _ _ h.1, hb, trivial⟩
  | b :: b2 :: bs, y :: y2 :: l, last, h, hl, hd, hk, hs, hb => by
    have hl2 : (b2 :: bs).getLast? = some last := by simpa using hl
    have hne : ¬ b = last := fun e => by
      have hm := List.mem_of_getLast? hl2
      rw [List.nodup_cons] at hd
      exact hd.1 (e ▸ hm)
    exact ⟨hk b (by simp) hne _ h.1, Nodes.snoc h.2 hl2 (List.nodup_cons.1 hd).2 (fun c hc => hk c (by simp only [List.mem_cons] at hc ⊢; exact .inr hc)) hs hb⟩
  | [], _, _, _, hl, _, _, _, _ => by cases hl
  | [b], y :: y2 :: l, _, h, _, _, _, _, _ => absurd h.2 id
  | b :: b2 :: bs, [y], _, h, _, _, _, _, _ => absurd h.2 id

theorem nodes_cell {w : World} : ∀ {bs : List Nat} {l : HL} {b : Nat}, Nodes w bs l → b ∈ bs → ∃ u, w.cell? ⟨b, 2, none⟩ = some u ∧ ∀ o, w.frozen? ⟨b, o, none⟩ = false
  | c :: bs, x :: l, b, h, hm => by
    rcases List.mem_cons.1 hm with rfl | hm
    · exact ⟨_, h.1.c3.2.2.1, h.1.c3.2.2.2⟩
    · exact nodes_cell h.2 hm
  | [], _, _, _, hm => by cases hm
  | _ :: _, [], _, h, _ => absurd h id
structure QAt (w : World) (lo q : Nat) (bs : List Nat) (l : HL) : Prop where
  box : ∃ z, Box w q [ptr bs.head?, z] ∧ ∀ b, bs.getLast? = some b → z = ptr (some b)
  nodes : Nodes w bs l
  nd : bs.Nodup
  far : ∀ b ∈ bs, lo ≤ b ∧ ¬ b = q ∧ b < w.heap.size
  lo : lo ≤ q
theorem QAt.keep {w w' : World} {lo q : Nat} {bs : List Nat} {l : HL} (h : QAt w lo q bs l) (hs : w.heap.size ≤ w'.heap.size) (k : ∀ b, lo ≤ b → b < w.heap.size → ∀ cs, Box w b cs → Box w' b cs) : QAt w' lo q bs l := by
  obtain ⟨z, hb, hz⟩ := h.box
  exact ⟨⟨z, k q h.lo hb.lt _ hb, hz⟩, h.nodes.keep (fun b hm cs hc => k b (h.far b hm).1 (h.far b hm).2.2 cs hc), h.nd, fun b hm => ⟨(h.far b hm).1, (h.far b hm).2.1, Nat.lt_of_lt_of_le (h.far b hm).2.2 hs⟩, h.lo⟩
theorem QAt.next {w w' : World} {lo q : Nat} {bs : List Nat} {l : HL} (h : QAt w lo q bs l) (hb : Below w.heap.size w w') : QAt w' lo q bs l := h.keep hb.size (fun _ _ _ _ hc => hc.next hb)
theorem QAt.lt {w : World} {lo q : Nat} {bs : List Nat} {l : HL} (h : QAt w lo q bs l) : q < w.heap.size := by obtain ⟨z, hb, _⟩ := h.box; exact hb.lt
theorem ptr_some (b : Nat) : ptr (some b) = .pointer (some ⟨b, 0, none⟩) := rfl
theorem ptr_none : ptr none = .pointer none := rfl

theorem ptrU : Tryz.prog.underlying 109 = some (.pointer (Tryz.prog.pointee 109)) := by kernel_rfl
theorem eqNil (p : Option Addr) (w : World) : (binOp .eql 109 (.pointer p) (.pointer none)).run Tryz.prog w = .ok (.bool p.isNone) w := run_eql_pointer_nil _ _ _ ptrU
theorem neNil (p : Option Addr) (w : World) : (binOp .neq 109 (.pointer p) (.pointer none)).run Tryz.prog w = .ok (.bool (!p.isNone)) w := run_neq_pointer_nil _ _ _ ptrU

/-- the queue has one item more -/
def Added (lo q : Nat) (bs : List Nat) (l : HL) (x : Int × Bool) (w : World) (e : Ending) (w' : World) : Prop := e = .returned (.tuple #[]) ∧ ∃ nb, QAt w' lo q (bs ++ [nb]) (l ++ [x]) ∧ Below lo w w'
theorem sz_set (w : World) (a : Addr) (v : Value) : (w.setCell a v).heap.size = w.heap.size := by simp [World.setCell]

set_option maxHeartbeats 1600000 in
set_option maxRecDepth 100000 in
theorem add_any (lo q : Nat) (bs : List Nat) (l : HL) (x : Int × Bool) (w : World) (h : QAt w lo q bs l) :
    Calls Tryz.prog 51 #[.pointer (some ⟨q, 0, none⟩), .agg #[.int .i64 x.1, .bool x.2]] w (Added lo q bs l x w) := by
  obtain ⟨z, hbx, hz⟩ := h.box
  have hq := h.lt
  have hlo := h.lo
  have heq := eqNil
  cases bs with
  | nil =>
    have hl := h.nodes.nil
    subst hl
    have Q2 := Lib.hid hbx
    obtain ⟨q0', q1, qf⟩ := (hbx.c2)
    have q0 : w.cell? ⟨q, 0, none⟩ = some (.pointer none) := q0'
    clear hbx h q0'
    go_enter Tryz.func51, Tryz.ntmps51
    go_wp2
    go_end0
    refine ⟨rfl, w.heap.size + 1, ⟨⟨ptr (some (w.heap.size + 1)), (((Q2.out.set (j := 0) (ptr (some (w.heap.size + 1))) (by simp)).set (j := 1) (ptr (some (w.heap.size + 1))) (by simp)).alloc _).alloc _, fun b hb => ?_⟩, ⟨Box.new (by simp), trivial⟩, by simp, fun b hb => ?_, hlo⟩, ?_⟩
    · have : w.heap.size + 1 = b := by simpa using hb
      rw [this]
    · have : b = w.heap.size + 1 := by simpa using hb
      subst this
      refine ⟨by omega, by omega, ?_⟩
      simp
    · exact ((((Below.refl lo w).setCell hlo _).setCell hlo _).alloc (by rw [sz_set, sz_set]; omega) _).alloc (by simp; omega) _
  | cons b bs =>
    obtain ⟨last, hlast⟩ : ∃ last, (b :: bs).getLast? = some last := ⟨_, List.getLast?_eq_some_getLast (by simp)⟩
    have hzl := hz last hlast
    subst hzl
    have hfar := h.far last (List.mem_of_getLast? hlast)
    have Q2 := Lib.hid hbx
    have H2 := Lib.hid h
    obtain ⟨q0', q1', qf⟩ := (hbx.c2)
    have q0 : w.cell? ⟨q, 0, none⟩ = some (.pointer (some ⟨b, 0, none⟩)) := q0'
    have q1 : w.cell? ⟨q, 1, none⟩ = some (.pointer (some ⟨last, 0, none⟩)) := q1'
    clear q0' q1'
    have hlc : ∃ u, w.cell? ⟨last, 2, none⟩ = some u ∧ ∀ o, w.frozen? ⟨last, o, none⟩ = false := nodes_cell h.nodes (List.mem_of_getLast? hlast)
    obtain ⟨u, l0, lf⟩ := hlc
    have lf2 := lf 2
    have hnd := h.nd
    have HF := Lib.hid h.far
    have hlq : ¬ last = q := hfar.2.1
    have hql : ¬ q = last := fun e => hlq e.symm
    have hll := hfar.2.2
    have HL := Lib.hid hlast
    clear hbx h hz hlast lf
    go_enter Tryz.func51, Tryz.ntmps51
    go_wp2
    go_end0
    have hn : ¬ (w.heap.size + 1) ∈ (b :: bs) := fun hm => by have := (HF.out _ hm).2.2; omega
    refine ⟨rfl, w.heap.size + 1, ⟨⟨ptr (some (w.heap.size + 1)), (((Q2.out.far _ hlq).set (j := 1) (ptr (some (w.heap.size + 1))) (by simp)).alloc _).alloc _, fun c hc => ?_⟩, Nodes.snoc (nb := w.heap.size + 1) H2.out.nodes HL.out hnd (fun c hc hne cs hb => (((hb.far _ (fun e => hne e.symm)).far _ (fun e => (HF.out c hc).2.1 e.symm)).alloc _).alloc _) (fun a b c hb => (((hb.set (j := 2) (ptr (some (w.heap.size + 1))) (by simp)).far _ (fun e => hql e)).alloc _).alloc _) (Box.new (by simp)), ?_, fun c hm => ?_, hlo⟩, ?_⟩
    · have hcc : ((b :: bs) ++ [w.heap.size + 1]).getLast? = some (w.heap.size + 1) := List.getLast?_concat
      rw [hcc] at hc
      injection hc with hc
      rw [hc]
    · rw [List.nodup_append]
      exact ⟨hnd, by simp, fun a ha c hc e => hn (by rw [List.mem_singleton.1 hc] at e; rw [← e]; exact ha)⟩
    · rcases List.mem_append.1 hm with hm | hm
      · have := HF.out _ hm
        refine ⟨this.1, this.2.1, ?_⟩
        simp; omega
      · have := List.mem_singleton.1 hm
        subst this
        refine ⟨by omega, by omega, ?_⟩
        simp
    · exact ((((Below.refl lo w).setCell hfar.1 _).setCell hlo _).alloc (by rw [sz_set, sz_set]; omega) _).alloc (by simp; omega) _

/-- a queue of these items -/
def IsQueue (lo : Nat) (l : HL) (w : World) (e : Ending) (w' : World) : Prop := ∃ q bs, e = .returned (.pointer (some ⟨q, 0, none⟩)) ∧ QAt w' lo q bs l ∧ Below lo w w'

set_option maxHeartbeats 1600000 in
set_option maxRecDepth 100000 in
theorem queueFrom_any (A : Option Addr) (c B : Nat) (l : HL) (w : World) (hn : l.length ≤ 1048576) (h : HAt w B A l) :
    Calls Tryz.prog 50 #[.slice A l.length c] w (IsQueue w.heap.size l w) := by
  have h := h.lt
  go_enter Tryz.func50, Tryz.ntmps50
  go_wp2
  go_loopw [10] (fun i wr => ∃ k : Nat, k ≤ l.length ∧ i = .int .i64 k ∧ (∃ bs, QAt wr w.heap.size w.heap.size bs (l.take k)) ∧ Below w.heap.size w wr) (fun i _ => l.length - (intOf i).toNat)
  case atStart => exact ⟨0, Nat.zero_le _, rfl, ⟨[], ⟨⟨_, Box.new rfl, fun b hb => (by cases hb)⟩, trivial, by simp, (fun b hb => (by cases hb)), Nat.le_refl _⟩⟩, (Below.refl _ _).alloc (Nat.le_refl _) _⟩
  case round =>
    obtain ⟨k, hk, rfl, ⟨bs, hq⟩, hb⟩ := hrel
    have hsz := hb.size
    by_cases hkn : k < l.length
    · obtain ⟨b, off, rfl, hB, hc⟩ := h (by omega)
      have hkz : (k : Int) < l.length := by omega
      have d0 : wr.cell? ⟨b, off + k * 2, none⟩ = some (.int .i64 (hT l k)) := (hb.cell (p := ⟨b, off + k * 2, none⟩) hB).trans (hc k hkn).1
      have d1 : wr.cell? ⟨b, off + k * 2 + 1, none⟩ = some (.bool (hW l k)) := (hb.cell (p := ⟨b, off + k * 2 + 1, none⟩) hB).trans (hc k hkn).2
      have HN := Lib.hid (show l.take (k + 1) = l.take k ++ [(hT l k, hW l k)] by rw [List.take_succ_eq_append_getElem hkn, hT_get hkn])
      have hq2 := hq.next ((Below.refl wr.heap.size wr).alloc (Nat.le_refl _) (.cells #[.int .i64 (hT l k), .bool (hW l k)] 77))
      have hb2 := hb.alloc hsz (.cells #[.int .i64 (hT l k), .bool (hW l k)] 77)
      clear hc h hq
      go_wp2_with fail
      refine (add_any _ _ bs (l.take k) (hT l k, hW l k) _ hq2).mono ?_; rintro e w2 ⟨rfl, nb, hq3, hb3⟩
      have Q3 := Lib.hid (show ∃ bs, QAt w2 w.heap.size w.heap.size bs (l.take (k + 1)) from ⟨_, by rw [HN.out]; exact hq3⟩)
      have hb4 := hb2.trans hb3
      clear hq3 hq2 hb2 hb3 d0 d1
      go_wp2
      exact ⟨⟨k + 1, by omega, by go_num, Q3.out, hb4⟩, by simp [intOf]; omega⟩
    · obtain rfl : k = l.length := by omega
      rw [List.take_length] at hq
      have HQ := Lib.hid hq
      clear hq
      go_wp2
      go_ret
      exact ⟨_, bs, rfl, HQ.out, hb⟩

/-- the first item taken -/
def Took (lo q : Nat) (bs : List Nat) (l : HL) (x : Int × Bool) (w : World) (e : Ending) (w' : World) : Prop := e = .returned (.agg #[.int .i64 x.1, .bool x.2]) ∧ QAt w' lo q bs l ∧ w.grownBy w' (some q)
theorem grownBy_refl (w : World) (r : Option Nat) : w.grownBy w r := ⟨rfl, rfl, rfl, Nat.le_refl _, fun _ _ _ => rfl⟩

set_option maxHeartbeats 1600000 in
set_option maxRecDepth 100000 in
theorem takeFirst_any (lo q b : Nat) (bs : List Nat) (l : HL) (x : Int × Bool) (w : World) (h : QAt w lo q (b :: bs) (x :: l)) :
    Calls Tryz.prog 74 #[.pointer (some ⟨q, 0, none⟩)] w (Took lo q bs l x w) := by
  obtain ⟨z, hbx, hz⟩ := h.box
  have hq := h.lt
  obtain ⟨y, r, e, hnb, hnodes⟩ := h.nodes.cons
  injection e with e1 e2
  subst e1 e2
  have hfar := h.far b (by simp)
  have hlt := hfar.2.2
  have Q2 := Lib.hid hbx
  have HH := Lib.hid h
  have HZ := Lib.hid hz
  have HN := Lib.hid hnodes
  obtain ⟨q0', q1, qf⟩ := hbx.c2
  obtain ⟨n0, n1, n2, nf⟩ := hnb.c3
  have q0 : w.cell? ⟨q, 0, none⟩ = some (.pointer (some ⟨b, 0, none⟩)) := q0'
  obtain ⟨p, hp⟩ : ∃ p, ptr bs.head? = .pointer p := ⟨_, rfl⟩
  have HP := Lib.hid hp
  rw [hp] at n2
  clear hbx h hz hnodes hnb q0' hp
  go_enter Tryz.func74, Tryz.ntmps74
  go_wp2
  refine bodyPost_ret (v := .agg #[.int .i64 x.1, .bool x.2]) (by simp [results, Tryz.results74, go_sem]) rfl ⟨rfl, ⟨⟨z, ?_, fun c hc => HZ.out c ?_⟩, ?_, (List.nodup_cons.1 HH.out.nd).2, fun c hm => ?_, HH.out.lo⟩, ?_⟩
  · rw [HP.out]
    exact ((Q2.out.set (j := 0) (.pointer p) (by simp)).alloc _).alloc _
  · rw [List.getLast?_cons, hc]; rfl
  · exact HN.out.keep (fun c hm cs hb => ((hb.far _ (fun e => (HH.out.far c (by simp [hm])).2.1 e.symm)).alloc _).alloc _)
  · have := HH.out.far c (by simp [hm])
    refine ⟨this.1, this.2.1, ?_⟩
    simp; omega
  · refine ⟨rfl, rfl, rfl, by simp; omega, fun k hk hne => ?_⟩
    have hkq : ¬ k = q := fun e => hne (by rw [e])
    rw [heap_alloc_old _ _ (by simp; omega), heap_alloc_old _ _ (by simp; omega)]
    exact Below.heap_setCell _ _ _ _ hkq

theorem OwnH.more {w' : World} {lo : Nat} {v' : Value} {l : HL} {x : Int × Bool} (h : w'.ownsRow lo 77 2 v' (l.length + 1) (hcs l ++ [.int .i64 x.1, .bool x.2])) : OwnH w' lo v' (l ++ [x]) := by
  unfold OwnH
  rw [hcs_append, List.length_append]
  exact h
/-- a fresh row of these holds -/
def Fresh (l : HL) (w : World) (e : Ending) (w' : World) : Prop := ∃ v, e = .returned v ∧ OwnH w' w.heap.size v l ∧ Below w.heap.size w w'
def ItemsR (w : World) (l got : HL) (p v : Value) (gk : Nat) (wr : World) : Prop := ∃ bs2 rest, rest.length = gk ∧ p = ptr bs2.head? ∧ Nodes w bs2 rest ∧ l = got ++ rest ∧ OwnH wr w.heap.size v got ∧ Below w.heap.size w wr

set_option maxHeartbeats 1600000 in
set_option maxRecDepth 100000 in
theorem items_any (lo q : Nat) (bs : List Nat) (l : HL) (w : World) (hl8 : l.length ≤ 1048576) (h : QAt w lo q bs l) :
    Calls Tryz.prog 77 #[.pointer (some ⟨q, 0, none⟩)] w (Fresh l w) := by
  obtain ⟨z, hbx, _⟩ := h.box
  have hnodes := Lib.hid h.nodes
  obtain ⟨i0, hi, hz0, hz1, hz2⟩ := info_parts infoHold
  have Hi := Lib.hid hi
  have Hz0 := Lib.hid hz0
  have Hz1 := Lib.hid hz1
  have Hz2 := Lib.hid hz2
  obtain ⟨q0, q1, qf⟩ := hbx.c2
  have hne := neNil
  clear hi hz0 hz1 hz2 h hbx
  go_enter Tryz.func77, Tryz.ntmps77
  go_wp2
  clear q0 q1 qf
  go_loopg [3, 4] l.length (fun gk v p wr => ∃ got, ItemsR w l got p v gk wr)
  case atStart => exact ⟨[], bs, l, rfl, rfl, hnodes.out, rfl, OwnH.nil _ _, Below.refl _ _⟩
  case round =>
    obtain ⟨got, bs2, rest, hgk, rfl, hnd, hlg, hown, hb⟩ := hrel
    have Hlg := Lib.hid hlg
    have Hgk := Lib.hid hgk
    have hsz := hb.size
    clear hlg hgk
    cases bs2 with
    | nil =>
      have hr := hnd.nil
      subst hr
      have HE := Lib.hid (show got = l by rw [Hlg.out]; simp)
      rw [show ptr ([] : List Nat).head? = .pointer none from rfl]
      go_wp2
      go_ret
      exact ⟨_, rfl, by rw [← HE.out]; exact hown, hb⟩
    | cons b bs2 =>
      obtain ⟨x, r, e, hbx, hnd2⟩ := hnd.cons
      subst e
      obtain ⟨n0', n1', n2', nf⟩ := (hbx.next (Below.refl _ _)).c3
      have hlt := hbx.lt
      have n0 : wr.cell? ⟨b, 0, none⟩ = some (.int .i64 x.1) := (hb.cell (p := ⟨b, 0, none⟩) hlt).trans n0'
      have n1 : wr.cell? ⟨b, 1, none⟩ = some (.bool x.2) := (hb.cell (p := ⟨b, 1, none⟩) hlt).trans n1'
      obtain ⟨p, hp⟩ : ∃ p, ptr bs2.head? = .pointer p := ⟨_, rfl⟩
      have n2 : w.cell? ⟨b, 2, none⟩ = some (.pointer p) := by rw [← hp]; exact n2'
      have HP := Lib.hid hp
      have HND := Lib.hid hnd2
      have hgl : got.length ≤ 1048576 := by have := congrArg List.length Hlg.out; simp at this; omega
      rw [show ptr (b :: bs2).head? = .pointer (some ⟨b, 0, none⟩) from rfl]
      clear hbx hnd hnd2 n0' n1' n2' nf hp
      go_wp2_with (at_builtin; refine wpList_append_own _ rfl _ _ 38 rfl w.heap.size 77 i0 (.agg #[.int .i64 0, .bool false]) 2 16 Tryz.underlying38 Hi.out Hz0.out Hz1.out Hz2.out rfl (by decide) _ _ _ rfl (World.ownsRow.alloc hown _) ⟨wr.heap.size, 0, none⟩ 1 1 [.int .i64 x.1, .bool x.2] rfl rfl ?c1 ?c2 ?c3 ?c4 ?c5 ?_)
      try
        case c1 =>
          intro j u hj
          match j, hj with
          | 0, hj => simp at hj; subst hj; simp [Addr.add]
          | 1, hj => simp at hj; subst hj; simp [Addr.add]
      case c2 =>
        first
        | exact ⟨rfl, rfl⟩
        | (intro u hu; simp at hu; rcases hu with rfl | rfl <;> rfl)
      case c3 => unfold maxLen; omega
      case c4 => omega
      case c5 => first | omega | (simp; omega)
      intro v' w3 hown' hgrow _
      have hb3 := (hb.alloc hsz (.cells #[.int .i64 x.1, .bool x.2] 77)).grown hgrow (by simp; omega) (fun q hq => (World.ownsRow.lt hown q hq).1)
      have hown3 := OwnH.more (x := x) hown'
      have m2 : w3.cell? ⟨b, 2, none⟩ = some (.pointer p) := (hb3.cell (p := ⟨b, 2, none⟩) hlt).trans n2
      have HO := Lib.hid hown3
      clear hown' hgrow hown hown3 n0 n1 n2 hb
      go_wp2
      go_roundg r.length
      case measure => have := Hgk.out; simp at this; omega
      case rel => exact ⟨got ++ [x], bs2, r, rfl, HP.out.symm, HND.out, by rw [Hlg.out]; simp, HO.out, hb3⟩
end Go.Proofs.YtcndmdglnohbcaaGreatDoor
