/-
  The contracts of the program's set of names: names that are put in, and whether one is there.
-/
import Derived.Test.YtnkalamfekkmbaaDoorFldK2
import Derived.Test.YtnkalamfekkmbaaDoorFldP
import Derived.Maps.OwnSet
import Derived.Maps.AppendAt
import Derived.Handy
namespace Go.Proofs.YtnkalamfekkmbaaDoor
open Go.RowKit Go.Sort Go.Maps Go.ChangeMaps Go.WideMaps

theorem lowS_size (s : ByteArray) : (lowS s).size = s.size := by
  show ((s.data.toList.map lowB).toArray).size = s.size
  simp

/-- The slice v reads as the texts ns. -/
def Strs (w : World) (v : Value) (ns : List ByteArray) : Prop :=
  ∃ a cap, v = .slice a ns.length cap ∧ ns.length ≤ cap ∧ cap ≤ maxLen ∧ (0 < ns.length → ∃ g o, a = some ⟨g, o, none⟩ ∧ g < w.heap.size ∧ ∀ j (hj : j < ns.length), w.cell? ⟨g, o + j, none⟩ = some (.string ns[j]))
theorem OwnsS.strs {w : World} {B : Nat} {v : Value} {l : List ByteArray} (h : OwnsS w B v l) : Strs w v l := by
  have hh := h
  obtain ⟨⟨g, cap, rfl, _, hg⟩, h2⟩ := h
  rcases h2.2 with ⟨h0, _⟩ | ⟨g', cap', cur, hv, _, _, hc, hm, _⟩
  · cases h0
  · simp only [Value.slice.injEq, Option.some.injEq, Addr.mk.injEq, and_true, true_and] at hv
    obtain ⟨_, rfl⟩ := hv
    exact ⟨_, cap, rfl, hc, hm, fun _ => ⟨g, 0, rfl, hg, fun j hj => by rw [Nat.zero_add]; exact hh.at rfl j hj⟩⟩
/-- A slice that is written out. -/
theorem strs_lit (w : World) (ns : List ByteArray) (hn : ns.length ≤ 1000) : Strs (w.alloc (.cells (ns.map Value.string).toArray 9)) (.slice (some ⟨w.heap.size, 0, none⟩) ns.length ns.length) ns := by
  refine ⟨_, ns.length, rfl, Nat.le_refl _, by unfold maxLen; omega, fun _ => ⟨w.heap.size, 0, rfl, by simp, fun j hj => ?_⟩⟩
  rw [Nat.zero_add, World.cell?_alloc_mark]
  simp [hj]
theorem Strs.kept {w w' : World} {v : Value} {l : List ByteArray} (h : Strs w v l) (hb : Below w.heap.size w w') : Strs w' v l := by
  obtain ⟨a, cap, hv, h1, h2, h3⟩ := h
  refine ⟨a, cap, hv, h1, h2, fun h0 => ?_⟩
  obtain ⟨g, o, ha, hg, hc⟩ := h3 h0
  exact ⟨g, o, ha, Nat.lt_of_lt_of_le hg hb.size, fun j hj => (hb.cell (p := ⟨g, o + j, none⟩) hg).trans (hc j hj)⟩

theorem lawK : Keyed Tryd.prog 9 := string_keyed Tryd.underlying9
theorem zeroU (w : World) : (zeroValue 84).run Tryd.prog w = .ok (.agg #[]) w := by kernel_rfl
def keyL (s : ByteArray) : Lit := .string s.data.toList
theorem keyL_of {s : ByteArray} (hs : s.size ≤ maxLen) : keyOf Tryd.prog 9 (.string s) = some (keyL s) := keyOf_string_mk Tryd.underlying9 hs
/-- Block b is the set of the names acc. -/
def SetIs (w : World) (b : Nat) (acc : List ByteArray) : Prop := w.ownsMap Tryd.prog 9 (unitElem (H := Unit)) b acc.length (setOf (.agg []) (acc.map keyL))
theorem SetIs.made (w : World) : SetIs (w.alloc (.map #[] 0)) w.heap.size [] := World.ownsMap_made _ _ _ _
theorem SetIs.lt {w : World} {b : Nat} {acc : List ByteArray} (h : SetIs w b acc) : b < w.heap.size := World.ownsMap.lt h
theorem SetIs.kept {w w' : World} {b : Nat} {acc : List ByteArray} (h : SetIs w b acc) (hb : Below w.heap.size w w') : SetIs w' b acc :=
  World.ownsMap.kept h (row := none) ⟨hb.os, hb.tape, hb.output, hb.size, fun k hk _ => hb.block k hk⟩ (by simp)
theorem SetIs.grown {w w' : World} {b : Nat} {acc : List ByteArray} {r : Option Nat} (h : SetIs w b acc) (hg : w.grownBy w' r) (hne : some b ≠ r) : SetIs w' b acc := World.ownsMap.kept h hg hne
theorem keyL_same (a b : ByteArray) : (keyL a).sameKey (keyL b) = decide (a = b) := by
  by_cases h : a = b
  · subst h
    rw [decide_eq_true rfl]
    simp [keyL, Lit.sameKey]
  · rw [decide_eq_false h]
    exact sameKey_ne fun e => h (ext_bytes (by simpa [keyL] using e))
theorem set_has (acc : List ByteArray) (x : ByteArray) : Maps.has (setOf (H := Unit) (.agg []) (acc.map keyL)) (keyL x) = acc.any fun n => decide (n = x) := by
  rw [has_setOf _ _ _ (by intro y hy; obtain ⟨n, _, rfl⟩ := List.mem_map.1 hy; trivial), List.any_map]
  congr 1
  funext n
  exact keyL_same n x

set_option maxHeartbeats 1000000 in
theorem implHas (b : Nat) (acc : List ByteArray) (s : ByteArray) (w : World) (h : SetIs w b acc) (hs : s.size ≤ 1048576) :
    Calls Tryd.prog 79 #[.map (some b), .string s] w fun e w' => e = .returned (.bool (acc.any fun n => decide (n = lowS s))) ∧ Below w.heap.size w w' := by
  have hsm : s.size ≤ maxLen := by unfold maxLen; omega
  have hlz := lowS_size s
  have hkey := keyL_of (s := lowS s) (by rw [hlz]; exact hsm)
  have HH : Hid (Maps.has (setOf (H := Unit) (.agg []) (acc.map keyL)) (keyL (lowS s)) = acc.any fun n => decide (n = lowS s)) := set_has acc (lowS s)
  go_enter Tryd.func79, Tryd.ntmps79
  go_wp2_with (first
    | (go_at_call 58; refine (implLow _ _ hsm).mono ?_; rintro e w1 ⟨rfl, hb1⟩; have h1 := h.kept hb1)
    | (at_lookup; refine wpList_lookup_own_unit _ rfl _ _ 71 rfl 9 84 lawK Tryd.underlying71 (zeroU _) b acc.length _ rfl h1 _ _ rfl hkey ?_))
  go_ret
  refine ⟨ret_bool HH.out, ?_⟩
  exact hb1.alloc hb1.size _
theorem SetIs.put {w : World} {b : Nat} {acc : List ByteArray} {x : ByteArray} (h : w.ownsMap Tryd.prog 9 (unitElem (H := Unit)) b (acc.length + 1) ((setOf (H := Unit) (.agg []) (acc.map keyL)).put (keyL x) (.agg []))) : SetIs w b (acc ++ [x]) := by
  unfold SetIs
  rw [List.map_append, List.length_append, show [x].map keyL = [keyL x] from rfl, setOf_snoc]
  exact h

set_option maxHeartbeats 1000000 in
theorem implAdd (b : Nat) (acc : List ByteArray) (v : Value) (ns : List ByteArray) (w : World) (h : SetIs w b acc) (hv : Strs w v ns) (hne : ∀ k, v.ownBlock = some k → k ≠ b) (hs : ∀ n ∈ ns, n.size ≤ 1048576) (hl : acc.length + ns.length ≤ 1000000) :
    Calls Tryd.prog 59 #[.map (some b), v] w fun e w' => e = .returned (.tuple #[]) ∧ SetIs w' b (acc ++ ns.map lowS) ∧ w.grownBy w' (some b) := by
  obtain ⟨a, cap, rfl, h1, h2, h3⟩ := hv
  unfold maxLen at h2
  go_enter Tryd.func59, Tryd.ntmps59
  go_wp2
  go_loopw [8] (fun i wr => ∃ (k : Nat), k ≤ ns.length ∧ i = .int .i64 k ∧ SetIs wr b (acc ++ (ns.take k).map lowS) ∧ w.grownBy wr (some b)) (fun i _ => ns.length - (intOf i).toNat)
  case atStart => exact ⟨0, Nat.zero_le _, rfl, by simpa using h, grown_self _ _⟩
  case round =>
    clear h
    obtain ⟨k, hk, rfl, ho, hgr⟩ := hrel
    by_cases hlt : k < ns.length
    · obtain ⟨g, o, rfl, hg, hc⟩ := h3 (by omega)
      have c1 := hgr.cell (hc k hlt) (fun e => hne g rfl (by simpa using e))
      have hsz := hs ns[k] (List.getElem_mem hlt)
      have HN : Hid (acc ++ (ns.take (k + 1)).map lowS = acc ++ (ns.take k).map lowS ++ [lowS ns[k]]) := by show _ = _; rw [List.take_succ_eq_append_getElem hlt, List.map_append, List.append_assoc]; rfl
      have hcl : (acc ++ (ns.take k).map lowS).length ≤ 1000000 := by simp; omega
      generalize ns[k] = x at c1 hsz HN
      generalize acc ++ (ns.take k).map lowS = ac at ho HN hcl
      have hxm : x.size ≤ maxLen := by unfold maxLen; omega
      have hlz := lowS_size x
      have hkey := keyL_of (s := lowS x) (by rw [hlz]; exact hxm)
      clear hc h3 hs
      go_wp2_with (first
        | (go_at_call 58; refine (implLow _ _ hxm).mono ?_; rintro e w1 ⟨rfl, hb1⟩; have h1 := ho.kept hb1; have hg1 := grown_below hgr hb1)
        | (at_mapUpdate; refine wpList_mapUpdate_own _ rfl _ _ _ 71 rfl 9 84 lawK Tryd.underlying71 (unitElem (H := Unit)) b ac.length _ rfl h1 (by unfold maxLen; omega) _ _ _ rfl rfl hkey _ [] unitElem_mk ?_; intro w2 ho2 hg2))
      have ho3 := SetIs.put ho2
      rw [← HN.out] at ho3
      have hg3 := hg1.trans hg2
      clear ho h1 ho2 hg1 hg2 hb1 hgr c1
      go_roundw
      case rel => exact ⟨k + 1, by omega, by go_num, ho3, hg3⟩
      case measure => simp [intOf]; omega
    · rw [List.take_of_length_le (by omega)] at ho
      go_wp2
      go_returns
      exact ⟨rfl, ho, hgr⟩
end Go.Proofs.YtnkalamfekkmbaaDoor
