/-
  Slices of texts that came in or that a call made: how they are read; the laws' own helpers for them.
-/
import Derived.Test.YtkoikofaebfbjaaChkP
import Derived.Test.YtkoikofaebfbjaaAps
import Derived.SliceStrings
import Derived.Deep.QuietTactic
import Derived.BigQuiet
import Derived.Laws.OwnMore
namespace Go.Proofs.Ytkoikofaebfbjaa
open Go.RowKit

theorem Try.info9p : (Try.prog.info? 9).map (fun i => (i.zero, i.size, i.bytes)) = some (some (.string ⟨#[]⟩), 1, 16) := by kernel_rfl
/-- The slice v holds the texts l. -/
def StrsP (w : World) (v : Value) (l : List ByteArray) : Prop := ∃ a cap, v = .slice a l.length cap ∧ l.length ≤ cap ∧ cap ≤ maxLen ∧ (0 < l.length → ∃ g o, a = some ⟨g, o, none⟩ ∧ g < w.heap.size ∧ ∀ j (hj : j < l.length), w.cell? ⟨g, o + j, none⟩ = some (.string l[j]))
theorem StrsP.kept {w w' : World} {v : Value} {l : List ByteArray} (h : StrsP w v l) (hb : Below w.heap.size w w') : StrsP w' v l := by
  obtain ⟨a, cap, h1, h2, h3, h4⟩ := h
  refine ⟨a, cap, h1, h2, h3, fun h0 => ?_⟩
  obtain ⟨g, o, h5, h6, h7⟩ := h4 h0
  exact ⟨g, o, h5, Nat.lt_of_lt_of_le h6 hb.size, fun j hj => (hb.cell (p := ⟨g, o + j, none⟩) h6).trans (h7 j hj)⟩
theorem StrsP.drew {w : World} {v : Value} {l : List ByteArray} (h : StrsP w v l) : StrsP w.drew v l := h
/-- The value v owns the texts l, in a block from B on. -/
def OwnsP (w : World) (B : Nat) (v : Value) (l : List ByteArray) : Prop := w.ownsRow B 9 1 v l.length (l.map Value.string)
theorem OwnsP.strs {w : World} {B : Nat} {v : Value} {l : List ByteArray} (h : OwnsP w B v l) : StrsP w v l := by
  have hh := h
  rcases h.2 with ⟨rfl, h0⟩ | ⟨g, cap, cur, rfl, hb, hg, hc, hm, rest⟩
  · exact ⟨none, 0, by rw [h0], by omega, Nat.zero_le _, fun x => by omega⟩
  · refine ⟨_, cap, rfl, hc, hm, fun _ => ⟨g, 0, rfl, (Array.getElem?_eq_some_iff.1 hg).1, fun j hj => ?_⟩⟩
    have := World.ownsRow.cells hh (g := g) rfl j (.string l[j]) (by rw [List.getElem?_map, List.getElem?_eq_getElem hj]; rfl)
    rw [addr_add] at this
    exact this
theorem sumP_take (l : List ByteArray) (k : Nat) : sumP (l.take k) ≤ sumP l := by
  induction l generalizing k with
  | nil => simp
  | cons p l ih =>
    cases k with
    | zero => simp [sumP]
    | succ k => rw [List.take_succ_cons, sumP_cons, sumP_cons]; have := ih k; omega
theorem sumP_next {l : List ByteArray} {k : Nat} (h : k < l.length) : sumP (l.take (k + 1)) = sumP (l.take k) + l[k].size := by
  rw [List.take_succ_eq_append_getElem h, sumP_snoc]
theorem sumP_at {l : List ByteArray} {k : Nat} (h : k < l.length) : l[k].size ≤ sumP l := by
  have := sumP_next h
  have := sumP_take l (k + 1)
  omega
theorem ret_i64p {a b : Int} (h : a = b) : Ending.returned (.int .i64 a) = .returned (.int .i64 b) := by rw [h]

/-- The law's own measure. -/
def szP (l : List ByteArray) : Int := if l.length + sumP l ≤ 1048576 then 1048576 - (l.length : Int) - (sumP l : Int) else -1
theorem szP_yes {l : List ByteArray} (h : l.length + sumP l ≤ 1048576) : (1048576 : Int) - (l.length : Int) - (sumP l : Int) = szP l := by unfold szP; rw [if_pos h]
theorem szP_no {l : List ByteArray} (h : ¬ l.length + sumP l ≤ 1048576) : (-1 : Int) = szP l := by unfold szP; rw [if_neg h]
set_option maxHeartbeats 1000000 in
theorem lawSzS (v : Value) (l : List ByteArray) (w : World) (h : StrsP w v l) (hz : ∀ p ∈ l, p.size ≤ maxLen) :
    Calls Try.prog 16 #[v, .int .i64 1048576] w fun e w' => e = .returned (.int .i64 (szP l)) ∧ Below w.heap.size w w' := by
  obtain ⟨a, cap, rfl, h1, h2, h3⟩ := h
  unfold maxLen at h2
  have hw0 : IntKind.i64.wrap ((1048576 : Int) - (l.length : Int)) = 1048576 - (l.length : Int) := by rw [IntKind.wrap_i64]; omega
  by_cases hbig : 1048576 < l.length
  · have hbig' : (1048576 : Int) - (l.length : Int) < 0 := by omega
    have HR : Hid ((-1 : Int) = szP l) := szP_no (by omega)
    clear h3 hz
    go_enter Try.func16, Try.ntmps16
    go_wp2
    go_ret
    exact ⟨ret_i64p HR.out, Below.refl _ _⟩
  · have hbig' : ¬ (1048576 : Int) - (l.length : Int) < 0 := by omega
    have H3 : Hid _ := h3
    have HZ : Hid _ := hz
    clear h3 hz
    go_enter Try.func16, Try.ntmps16
    go_wp2
    go_loop [1, 5] (fun m i => ∃ (k : Nat) (z : Int), m = .int .i64 z ∧ i = .int .i64 k ∧ k ≤ l.length ∧ 0 ≤ z ∧ z ≤ 1048576 ∧ Hid (z = 1048576 - (l.length : Int) - (sumP (l.take k) : Int))) (fun _ i => l.length - (intOf i).toNat)
    case atStart => exact ⟨0, _, rfl, rfl, Nat.zero_le _, by omega, by omega, by simp [Hid, sumP]⟩
    case round =>
      obtain ⟨k, z, rfl, rfl, hk, z0, z1, hzz⟩ := hrel
      by_cases hlt : k < l.length
      · obtain ⟨g, o, rfl, hg, hc⟩ := H3.out (by omega)
        have hcj := hc k hlt
        have hpm := HZ.out l[k] (List.getElem_mem hlt)
        unfold maxLen at hpm
        have hnx := sumP_next hlt
        have htk := sumP_take l (k + 1)
        have hze : z = 1048576 - (l.length : Int) - (sumP (l.take k) : Int) := hzz.out
        have hwz : IntKind.i64.wrap (z - (l[k].size : Int)) = z - (l[k].size : Int) := by rw [IntKind.wrap_i64]; omega
        by_cases hneg : z - (l[k].size : Int) < 0
        · have HR : Hid ((-1 : Int) = szP l) := szP_no (by omega)
          clear hc hze hnx htk hzz
          go_wp2
          go_ret
          exact ⟨ret_i64p HR.out, Below.refl _ _⟩
        · have hn : Hid (z - (l[k].size : Int) = 1048576 - (l.length : Int) - (sumP (l.take (k + 1)) : Int)) := by show _ = _; omega
          clear hc hze hnx htk hzz
          go_wp2
          go_round
          case rel => exact ⟨k + 1, _, rfl, by go_num, by omega, by omega, by omega, hn⟩
          case measure => simp [intOf]; omega
      · obtain rfl : k = l.length := by omega
        have hze : z = 1048576 - (l.length : Int) - (sumP (l.take l.length) : Int) := hzz.out
        rw [List.take_length] at hze
        have HR : Hid (z = szP l) := by show z = szP l; rw [hze]; exact szP_yes (by omega)
        clear hze hzz
        go_wp2
        go_ret
        exact ⟨ret_i64p HR.out, Below.refl _ _⟩

/-- Turned so far: the first k, and behind them empty ones. -/
def turnP (l : List ByteArray) (k : Nat) : List ByteArray := l.take k ++ List.replicate (l.length - k) ⟨#[]⟩
theorem turnP_length (l : List ByteArray) (k : Nat) (hk : k ≤ l.length) : (turnP l k).length = l.length := by unfold turnP; simp; omega
theorem turnP_all (l : List ByteArray) : turnP l l.length = l := by simp [turnP]
theorem turnP_next (l : List ByteArray) (k : Nat) (hk : k < l.length) : (turnP l k).set k l[k] = turnP l (k + 1) := by
  unfold turnP
  have e : (l.take k).length = k := by simp; omega
  rw [List.set_append_right _ _ (by omega), e, Nat.sub_self, List.take_succ_eq_append_getElem hk, List.append_assoc]
  congr 1
  rw [show l.length - k = (l.length - (k + 1)) + 1 from by omega, List.replicate_succ, List.set_cons_zero]
  rfl
theorem OwnsP.put {w : World} {B g cap n : Nat} {l : List ByteArray} (h : OwnsP w B (.slice (some ⟨g, 0, none⟩) n cap) l) (hn : n = l.length) (k : Nat) (s : ByteArray) : OwnsP (w.setCell ⟨g, k, none⟩ (.string s)) B (.slice (some ⟨g, 0, none⟩) n cap) (l.set k s) := by
  subst hn
  rcases h.2 with ⟨e, _⟩ | ⟨g', cap', cur, e, hb, hg, hc, hm, hz, rest⟩
  · cases e
  · obtain ⟨rfl, rfl⟩ : g = g' ∧ cap = cap' := by simpa using e
    refine ⟨by simp, .inr ⟨g, cap, cur.setIfInBounds k (.string s), by simp, hb, ?_, by simpa using hc, hm, by simpa using hz, ?_⟩⟩
    · rw [setCell_eq_setRow w g k cur 9 (0, 0) _ hg]
      exact setRow_heap w g cur _ 9 _ hg
    · simp only [Nat.mul_one] at rest ⊢
      rw [List.length_set, Array.toList_setIfInBounds, List.take_set, rest, List.map_set]
theorem OwnsP.at {w : World} {B g cap n : Nat} {l : List ByteArray} (h : OwnsP w B (.slice (some ⟨g, 0, none⟩) n cap) l) (hn : n = l.length) (k : Nat) (hk : k < l.length) : w.cell? ⟨g, k, none⟩ = some (.string l[k]) ∧ w.frozen? ⟨g, k, none⟩ = false := by
  subst hn
  refine ⟨?_, World.ownsRow.frozenAt h k⟩
  have := World.ownsRow.cells h (g := g) rfl k (.string l[k]) (by rw [List.getElem?_map, List.getElem?_eq_getElem hk]; rfl)
  rw [addr_add, Nat.zero_add] at this
  exact this
theorem made_strs (n : Nat) : (madeCells (Value.cells (.string ⟨#[]⟩)) (n * 1)).toList = (List.replicate n (⟨#[]⟩ : ByteArray)).map Value.string := by
  have e := toList_madeCells_one (.string ⟨#[]⟩) (n * 1)
  rw [show (Value.string ⟨#[]⟩).cells = #[.string ⟨#[]⟩] from rfl, e, Nat.mul_one, List.map_replicate]
theorem make_strs (w : World) (n : Nat) (hn : n ≤ 1048576) : ∃ w', (Instr.makeSlice 34 (.int .i64 (n : Int)) (.int .i64 (n : Int))).run Try.prog w = .ok (.slice (some ⟨w.heap.size, 0, none⟩) n n) w' ∧ OwnsP w' w.heap.size (.slice (some ⟨w.heap.size, 0, none⟩) n n) (List.replicate n ⟨#[]⟩) ∧ Below w.heap.size w w' := by
  obtain ⟨i0, hi, hz0, hz1, hz2⟩ := info_parts Try.info9p
  obtain ⟨w0, hrun, hown, hgr⟩ := run_make_full (P := Try.prog) w w.heap.size 34 9 i0 (.string ⟨#[]⟩) 1 Try.underlying34 hi hz0 hz1 .i64 .i64 n (by rw [hz2]; omega) (by unfold maxLen; omega) (Nat.le_refl _)
  rw [made_strs] at hown
  refine ⟨w0, hrun, ?_, (Below.refl _ w).grown hgr (Nat.le_refl _) (fun j hj => by cases hj)⟩
  unfold OwnsP
  rw [List.length_replicate]
  exact hown

set_option maxHeartbeats 1000000 in
theorem lawToS (v : Value) (l : List ByteArray) (w : World) (h : StrsP w v l) (hl : l.length ≤ 1048576) :
    Calls Try.prog 18 #[v] w fun e w' => ∃ u, e = .returned u ∧ OwnsP w' w.heap.size u l ∧ Below w.heap.size w w' := by
  obtain ⟨a, cap, rfl, h1, h2, h3⟩ := h
  unfold maxLen at h2
  obtain ⟨w0, hrun, hown0, hb0⟩ := make_strs w l.length hl
  have h00 : turnP l 0 = List.replicate l.length ⟨#[]⟩ := by simp [turnP]
  rw [← h00] at hown0
  have H3 : Hid _ := h3
  clear h3 h00
  go_enter Try.func18, Try.ntmps18
  go_wp2
  go_loopw [4] (fun i wr => ∃ k : Nat, k ≤ l.length ∧ i = .int .i64 k ∧ OwnsP wr w.heap.size (.slice (some ⟨w.heap.size, 0, none⟩) l.length l.length) (turnP l k) ∧ Below w.heap.size w wr) (fun i _ => l.length - (intOf i).toNat)
  case atStart => exact ⟨0, Nat.zero_le _, rfl, hown0, hb0⟩
  case round =>
    clear hown0 hb0 hrun
    obtain ⟨k, hk, rfl, ho, hb⟩ := hrel
    by_cases hlt : k < l.length
    · obtain ⟨g, o, rfl, hg, hc⟩ := H3.out (by omega)
      have c1 := (hb.cell (p := ⟨g, o + k, none⟩) hg).trans (hc k hlt)
      have hnx := turnP_next l k hlt
      have hln := turnP_length l k hk
      generalize l[k] = f at c1 hnx
      generalize hl2 : turnP l (k + 1) = l2 at hnx
      generalize turnP l k = l1 at ho hnx hln
      obtain ⟨d1, d2⟩ := ho.at hln.symm k (by omega)
      have hp := ho.put hln.symm k f
      rw [hnx] at hp
      have HP : Hid _ := hp
      clear hc hp hnx
      go_wp2
      go_roundw
      case rel => exact ⟨k + 1, by omega, by go_num, by rw [hl2]; exact HP.out, hb.setCell (Nat.le_refl _) _⟩
      case measure => simp [intOf]; omega
    · obtain rfl : k = l.length := by omega
      rw [turnP_all] at ho
      go_wp2
      go_ret
      exact ⟨_, rfl, ho, hb⟩

set_option maxHeartbeats 1000000 in
theorem lawEqS (va vb : Value) (l : List ByteArray) (w : World) (ha : StrsP w va l) (hb : StrsP w vb l) (hl : l.length ≤ 1048576) :
    Calls Try.prog 20 #[va, vb] w fun e w' => e = .returned (.bool true) ∧ ∃ n, w' = w.drewN n := by
  obtain ⟨a, ca, rfl, a1, a2, a3⟩ := ha
  obtain ⟨b, cb, rfl, b1, b2, b3⟩ := hb
  unfold maxLen at a2 b2
  have HA : Hid _ := a3
  have HB : Hid _ := b3
  clear a3 b3
  go_enter Try.func20, Try.ntmps20
  go_wp2
  go_loopw [5] (fun i wr => ∃ (k q : Nat), k ≤ l.length ∧ i = .int .i64 k ∧ wr = w.drewN q) (fun i _ => l.length - (intOf i).toNat)
  case atStart => exact ⟨0, 0, Nat.zero_le _, rfl, rfl⟩
  case round =>
    obtain ⟨k, q, hk, rfl, rfl⟩ := hrel
    by_cases hlt : k < l.length
    · obtain ⟨g, o, rfl, hg, hc⟩ := HA.out (by omega)
      obtain ⟨g', o', rfl, hg', hc'⟩ := HB.out (by omega)
      have c1 := hc k hlt
      have c2 := hc' k hlt
      clear hc hc'
      go_wp2
      go_quiet (fail)
      go_wp2
      go_roundw
      case rel => exact ⟨k + 1, q + nq, by omega, by go_num, rfl⟩
      case measure => simp [intOf]; omega
    · go_wp2
      go_ret
      exact ⟨rfl, q, rfl⟩
end Go.Proofs.Ytkoikofaebfbjaa
