/-
  The contracts of the law's own helpers that mark fields, and ask for the marks.
  The contracts of the program's set of names: names that are put in, and whether one is there.
  The contract of the program's Get.
  The contracts of the program's parts that leave fields out.
  The contracts of Without, the specification's and the program's.
  One field appended: in a region that draws its order; to a slice that has no room.
  Rows and responses in memory: what a store leaves.
-/
import Derived.Test.YtkaogmdhjcgcdaaGreatDoorH10
import Derived.Test.YtkaogmdhjcgcdaaGreatDoorH06
import Derived.Maps.OwnSet
import Derived.Maps.AppendAt
import Derived.Handy
import Derived.Test.YtkaogmdhjcgcdaaGreatDoorH07
import Derived.Deep.RegionLaw
import Derived.Laws.Append
namespace Go.Proofs.YtkaogmdhjcgcdaaGreatDoor
open Go.RowKit Go.Sort

theorem grown_below {a w w' : World} {r : Option Nat} (h : a.grownBy w r) (hb : Below w.heap.size w w') : a.grownBy w' r :=
  ⟨hb.os.trans h.os, hb.tape.trans h.tape, hb.output.trans h.output, Nat.le_trans h.size hb.size, fun k hk hne => (hb.block k (Nat.lt_of_lt_of_le hk h.size)).trans (h.block k hk hne)⟩
theorem grown_self (w : World) (r : Option Nat) : w.grownBy w r := ⟨rfl, rfl, rfl, Nat.le_refl _, fun _ _ _ => rfl⟩

end Go.Proofs.YtkaogmdhjcgcdaaGreatDoor
namespace Go.Proofs.YtkaogmdhjcgcdaaGreatDoor
open Go.RowKit Go.Sort Go.Maps Go.ChangeMaps Go.WideMaps

theorem lowS_size (s : ByteArray) : (lowS s).size = s.size := by
  show ((s.data.toList.map lowB).toArray).size = s.size
  simp

/-- The slice v reads as the texts ns. -/
def Strs (w : World) (v : Value) (ns : List ByteArray) : Prop :=
  ∃ a cap, v = .slice a ns.length cap ∧ ns.length ≤ cap ∧ cap ≤ maxLen ∧ (0 < ns.length → ∃ g o, a = some ⟨g, o, none⟩ ∧ g < w.heap.size ∧ ∀ j (hj : j < ns.length), w.cell? ⟨g, o + j, none⟩ = some (.string ns[j]))
/-- A slice that is written out. -/
theorem strs_lit (w : World) (ns : List ByteArray) (hn : ns.length ≤ 1000) : Strs (w.alloc (.cells (ns.map Value.string).toArray 9)) (.slice (some ⟨w.heap.size, 0, none⟩) ns.length ns.length) ns := by
  refine ⟨_, ns.length, rfl, Nat.le_refl _, by unfold maxLen; omega, fun _ => ⟨w.heap.size, 0, rfl, by simp, fun j hj => ?_⟩⟩
  rw [Nat.zero_add, World.cell?_alloc_mark]
  simp [hj]
theorem Strs.kept {w w' : World} {v : Value} {l : List ByteArray} (h : Strs w v l) (hb : Below w.heap.size w w') : Strs w' v l := by
  obtain ⟨a, cap, hv, h1, h2, h3⟩ := h
  refine ⟨a, cap, hv, h1, h2, fun h0 => ?_⟩
  obtain ⟨g, o, ha, hg, hc⟩ := h3 h0
  exact ⟨g, o, ha, Nat.lt_of_lt_of_le hg hb.size, fun j hj => (hb.cell (p := ⟨g, o + j, none⟩) hg).trans (hc j hj)⟩

theorem lawK : Keyed Tryz.prog 9 := string_keyed Tryz.underlying9
theorem zeroU (w : World) : (zeroValue 163).run Tryz.prog w = .ok (.agg #[]) w := by kernel_rfl
def keyL (s : ByteArray) : Lit := .string s.data.toList
theorem keyL_of {s : ByteArray} (hs : s.size ≤ maxLen) : keyOf Tryz.prog 9 (.string s) = some (keyL s) := keyOf_string_mk Tryz.underlying9 hs
/-- Block b is the set of the names acc. -/
def SetIs (w : World) (b : Nat) (acc : List ByteArray) : Prop := w.ownsMap Tryz.prog 9 (unitElem (H := Unit)) b acc.length (setOf (.agg []) (acc.map keyL))
theorem SetIs.made (w : World) : SetIs (w.alloc (.map #[] 0)) w.heap.size [] := World.ownsMap_made _ _ _ _
theorem SetIs.lt {w : World} {b : Nat} {acc : List ByteArray} (h : SetIs w b acc) : b < w.heap.size := World.ownsMap.lt h
theorem SetIs.kept {w w' : World} {b : Nat} {acc : List ByteArray} (h : SetIs w b acc) (hb : Below w.heap.size w w') : SetIs w' b acc :=
  World.ownsMap.kept h (row := none) ⟨hb.os, hb.tape, hb.output, hb.size, fun k hk _ => hb.block k hk⟩ (by simp)
theorem SetIs.grown {w w' : World} {b : Nat} {acc : List ByteArray} {r : Option Nat} (h : SetIs w b acc) (hg : w.grownBy w' r) (hne : some b ≠ r) : SetIs w' b acc := World.ownsMap.kept h hg hne
theorem keyL_same (a b : ByteArray) : (keyL a).sameKey (keyL b) = decide (a = b) := by
  by_cases h : a = b
  · subst h
    rw [decide_eq_true rfl]
    simp [keyL, Lit.sameKey]
  · rw [decide_eq_false h]
    exact sameKey_ne fun e => h (ext_bytes (by simpa [keyL] using e))
theorem set_has (acc : List ByteArray) (x : ByteArray) : Maps.has (setOf (H := Unit) (.agg []) (acc.map keyL)) (keyL x) = acc.any fun n => decide (n = x) := by
  rw [has_setOf _ _ _ (by intro y hy; obtain ⟨n, _, rfl⟩ := List.mem_map.1 hy; trivial), List.any_map]
  congr 1
  funext n
  exact keyL_same n x

set_option maxHeartbeats 1000000 in
theorem implHas (b : Nat) (acc : List ByteArray) (s : ByteArray) (w : World) (h : SetIs w b acc) (hs : s.size ≤ 1048576) :
    Calls Tryz.prog 138 #[.map (some b), .string s] w fun e w' => e = .returned (.bool (acc.any fun n => decide (n = lowS s))) ∧ Below w.heap.size w w' := by
  have hsm : s.size ≤ maxLen := by unfold maxLen; omega
  have hlz := lowS_size s
  have hkey := keyL_of (s := lowS s) (by rw [hlz]; exact hsm)
  have HH : Hid (Maps.has (setOf (H := Unit) (.agg []) (acc.map keyL)) (keyL (lowS s)) = acc.any fun n => decide (n = lowS s)) := set_has acc (lowS s)
  go_enter Tryz.func138, Tryz.ntmps138
  go_wp2_with (first
    | (go_at_call 129; refine (implLow _ _ hsm).mono ?_; rintro e w1 ⟨rfl, hb1⟩; have h1 := h.kept hb1)
    | (at_lookup; refine wpList_lookup_own_unit _ rfl _ _ 138 rfl 9 163 lawK Tryz.underlying138 (zeroU _) b acc.length _ rfl h1 _ _ rfl hkey ?_))
  go_ret
  refine ⟨ret_bool HH.out, ?_⟩
  exact hb1.alloc hb1.size _
theorem SetIs.put {w : World} {b : Nat} {acc : List ByteArray} {x : ByteArray} (h : w.ownsMap Tryz.prog 9 (unitElem (H := Unit)) b (acc.length + 1) ((setOf (H := Unit) (.agg []) (acc.map keyL)).put (keyL x) (.agg []))) : SetIs w b (acc ++ [x]) := by
  unfold SetIs
  rw [List.map_append, List.length_append, show [x].map keyL = [keyL x] from rfl, setOf_snoc]
  exact h

set_option maxHeartbeats 1000000 in
theorem implAdd (b : Nat) (acc : List ByteArray) (v : Value) (ns : List ByteArray) (w : World) (h : SetIs w b acc) (hv : Strs w v ns) (hne : ∀ k, v.ownBlock = some k → k ≠ b) (hs : ∀ n ∈ ns, n.size ≤ 1048576) (hl : acc.length + ns.length ≤ 1000000) :
    Calls Tryz.prog 114 #[.map (some b), v] w fun e w' => e = .returned (.tuple #[]) ∧ SetIs w' b (acc ++ ns.map lowS) ∧ w.grownBy w' (some b) := by
  obtain ⟨a, cap, rfl, h1, h2, h3⟩ := hv
  unfold maxLen at h2
  go_enter Tryz.func114, Tryz.ntmps114
  go_wp2
  go_loopw [8] (fun i wr => ∃ (k : Nat), k ≤ ns.length ∧ i = .int .i64 k ∧ SetIs wr b (acc ++ (ns.take k).map lowS) ∧ w.grownBy wr (some b)) (fun i _ => ns.length - (intOf i).toNat)
  case atStart => exact ⟨0, Nat.zero_le _, rfl, by simpa using h, grown_self _ _⟩
  case round =>
    clear h
    obtain ⟨k, hk, rfl, ho, hgr⟩ := hrel
    by_cases hlt : k < ns.length
    · obtain ⟨g, o, rfl, hg, hc⟩ := h3 (by omega)
      have c1 := hgr.cell (hc k hlt) (fun e => hne g rfl (by simpa using e))
      have hsz := hs ns[k] (List.getElem_mem hlt)
      have HN : Hid (acc ++ (ns.take (k + 1)).map lowS = acc ++ (ns.take k).map lowS ++ [lowS ns[k]]) := by show _ = _; rw [List.take_succ_eq_append_getElem hlt, List.map_append, List.append_assoc]; rfl
      have hcl : (acc ++ (ns.take k).map lowS).length ≤ 1000000 := by simp; omega
      generalize ns[k] = x at c1 hsz HN
      generalize acc ++ (ns.take k).map lowS = ac at ho HN hcl
      have hxm : x.size ≤ maxLen := by unfold maxLen; omega
      have hlz := lowS_size x
      have hkey := keyL_of (s := lowS x) (by rw [hlz]; exact hxm)
      clear hc h3 hs
      go_wp2_with (first
        | (go_at_call 129; refine (implLow _ _ hxm).mono ?_; rintro e w1 ⟨rfl, hb1⟩; have h1 := ho.kept hb1; have hg1 := grown_below hgr hb1)
        | (at_mapUpdate; refine wpList_mapUpdate_own _ rfl _ _ _ 138 rfl 9 163 lawK Tryz.underlying138 (unitElem (H := Unit)) b ac.length _ rfl h1 (by unfold maxLen; omega) _ _ _ rfl rfl hkey _ [] unitElem_mk ?_; intro w2 ho2 hg2))
      have ho3 := SetIs.put ho2
      rw [← HN.out] at ho3
      have hg3 := hg1.trans hg2
      clear ho h1 ho2 hg1 hg2 hb1 hgr c1
      go_roundw
      case rel => exact ⟨k + 1, by omega, by go_num, ho3, hg3⟩
      case measure => simp [intOf]; omega
    · rw [List.take_of_length_le (by omega)] at ho
      go_wp2
      go_returns
      exact ⟨rfl, ho, hgr⟩
end Go.Proofs.YtkaogmdhjcgcdaaGreatDoor
namespace Go.Proofs.YtkaogmdhjcgcdaaGreatDoor
open Go.RowKit Go.Sort

theorem data_app (a b : ByteArray) : (a ++ b).data.toList = a.data.toList ++ b.data.toList := by rw [ByteArray.data_append, Array.toList_append]
theorem text_of (x : ByteArray) : (⟨x.data.toList.toArray⟩ : ByteArray) = x := by cases x; simp
theorem len_of (x : ByteArray) : x.data.toList.length = x.size := by simp

set_option maxHeartbeats 1000000 in
theorem implGet (v : Value) (l : List Fl) (n : ByteArray) (w : World) (h : Fls w v l) (hz : szL l ≤ 1048576) (hn : n.size ≤ 1048576) :
    Calls Tryz.prog 103 #[v, .string n] w fun e w' => e = .returned (getE (getA l n)) ∧ Below w.heap.size w w' := by
  have hh := h
  obtain ⟨a, cap, rfl, h1, h2, h3⟩ := hh
  unfold maxLen at h2
  have hnm : n.size ≤ maxLen := by unfold maxLen; omega
  cases hok : fldsOk l with
  | false =>
    have HN : Hid ((⟨#[]⟩, false) = getA l n) := getA_no n hok
    go_enter Tryz.func103, Tryz.ntmps103
    go_wp2_with (go_at_call 60; refine (implOk _ l _ h hz).mono ?_; rw [hok]; rintro e w1 ⟨rfl, hb1⟩)
    go_ret2
    exact ⟨ret_get HN.out, hb1⟩
  | true =>
    obtain ⟨hl, hfs⟩ := fldsOk_parts hok
    have HG : Hid (getF l n = getA l n) := getA_yes n hok
    go_enter Tryz.func103, Tryz.ntmps103
    go_wp2_with (first | (go_at_call 60; refine (implOk _ l _ h hz).mono ?_; rw [hok]; rintro e w1 ⟨rfl, hb1⟩) | (go_at_call 129; refine (implLow _ _ hnm).mono ?_; rintro e w2 ⟨rfl, hb2⟩))
    have hb02 := hb1.trans (hb2.mono hb1.size)
    clear hb1 hb2
    go_loopw [7, 8, 18] (fun s b i wr => ∃ (k : Nat) (x : ByteArray) (fd : Bool), k ≤ l.length ∧ i = .int .i64 k ∧ b = .bool fd ∧ x.size ≤ 402 * k ∧ OwnsB wr w.heap.size s x.data.toList ∧ Hid (getF (l.take k) n = (x, fd)) ∧ Below w.heap.size w wr) (fun _ _ i _ => l.length - (intOf i).toNat)
    case atStart => exact ⟨0, ⟨#[]⟩, false, Nat.zero_le _, rfl, rfl, Nat.le_refl _, OwnsB.nil _ _, rfl, hb02⟩
    case round =>
      clear hb02
      obtain ⟨k, x, fd, hk, rfl, rfl, hxs, hown, hget, hb⟩ := hrel
      have hxl := len_of x
      by_cases hlt : k < l.length
      · obtain ⟨g, o, rfl, hg, hc⟩ := h3 (by omega)
        have c1 := (hb.cell (p := ⟨g, o + k * 2, none⟩) hg).trans (hc k hlt).1
        have c2 := (hb.cell (p := ⟨g, o + k * 2 + 1, none⟩) hg).trans (hc k hlt).2
        have hsz := fldOk_size (hfs l[k] (List.getElem_mem hlt))
        have hnx := getF_next n hlt
        rw [hget.out] at hnx
        generalize l[k] = f at c1 c2 hsz hnx
        have z1 : f.1.size ≤ maxLen := by unfold maxLen; omega
        have d1 := box1 wr f 105
        have bl := box_lt wr (.cells #[.string f.1, .string f.2] 105)
        have hba := hb.alloc hb.size (.cells #[.string f.1, .string f.2] 105)
        have hoa := hown.alloc (.cells #[.string f.1, .string f.2] 105)
        have hun := OwnsB.under hown
        clear hc h3 hfs h
        by_cases he : lowS f.1 = lowS n
        · have hq := same_yes he
          cases fd with
          | false =>
            rw [gStep_first he] at hnx
            have HN : Hid (getF (l.take (k + 1)) n = (x ++ f.2, true)) := hnx
            clear hnx he
            go_wp2_with (first
              | (go_at_call 129; refine (implLow _ _ z1).mono ?_; rintro e w1 ⟨rfl, hb1⟩; have e1 := (hb1.cell (p := ⟨wr.heap.size, 1, none⟩) bl).trans d1; have ho1 := hoa.kept hb1; have hb01 := hba.trans (hb1.mono hba.size))
              | (at_builtin; refine wpList_pushStr _ rfl _ _ rfl w.heap.size _ _ _ rfl ho1 rfl (by omega) hb01.size ?_; intro v2 w2 ho2 hg2))
            have hb02 := hb01.grown hg2 hb01.size (OwnsB.from ho1)
            rw [← data_app] at ho2
            clear hown hoa ho1 hb hb1 hba hb01 hg2 c1 c2 d1 e1
            go_roundw
            case rel => exact ⟨k + 1, _, true, by omega, by go_num, rfl, by rw [ByteArray.size_append]; omega, ho2, HN, hb02⟩
            case measure => simp [intOf]; omega
          | true =>
            rw [gStep_more he] at hnx
            have HN : Hid (getF (l.take (k + 1)) n = (x ++ ⟨#[44, 32]⟩ ++ f.2, true)) := hnx
            have zz : (x ++ (⟨#[44, 32]⟩ : ByteArray)).size = x.size + 2 := by rw [ByteArray.size_append]; rfl
            clear hnx he
            go_wp2_with (first
              | (go_at_call 129; refine (implLow _ _ z1).mono ?_; rintro e w1 ⟨rfl, hb1⟩; have e1 := (hb1.cell (p := ⟨wr.heap.size, 1, none⟩) bl).trans d1; have ho1 := hoa.kept hb1; have hb01 := hba.trans (hb1.mono hba.size))
              | (at_builtin; refine wpList_pushStr _ rfl _ _ rfl w.heap.size _ _ _ rfl ho1 rfl (by show _ + 2 ≤ _; omega) hb01.size ?_; intro v2 w2 ho2 hg2; have e2 := grown_cell hg2 e1 (Nat.lt_of_lt_of_le bl hb1.size) (fun j hj => Nat.ne_of_lt (hun j hj)); have hb02 := hb01.grown hg2 hb01.size (OwnsB.from ho1); rw [← data_app] at ho2)
              | (at_builtin; refine wpList_pushStr _ rfl _ _ rfl w.heap.size _ _ _ rfl ho2 rfl (by rw [len_of, zz]; omega) hb02.size ?_; intro v3 w3 ho3 hg3))
            have hb03 := hb02.grown hg3 hb02.size (OwnsB.from ho2)
            rw [← data_app] at ho3
            clear hown hoa ho1 ho2 hb hb1 hba hb01 hb02 hg2 hg3 c1 c2 d1 e1 e2
            go_roundw
            case rel => exact ⟨k + 1, _, true, by omega, by go_num, rfl, by rw [ByteArray.size_append, zz]; omega, ho3, HN, hb03⟩
            case measure => simp [intOf]; omega
        · have hq := same_no he
          rw [gStep_no he] at hnx
          have HN : Hid (getF (l.take (k + 1)) n = (x, fd)) := hnx
          clear hnx he
          go_wp2_with (go_at_call 129; refine (implLow _ _ z1).mono ?_; rintro e w1 ⟨rfl, hb1⟩; have ho1 := hoa.kept hb1; have hb01 := hba.trans (hb1.mono hba.size))
          clear hown hoa hb hb1 hba c1 c2 d1
          go_roundw
          case rel => exact ⟨k + 1, _, fd, by omega, by go_num, rfl, by omega, ho1, HN, hb01⟩
          case measure => simp [intOf]; omega
      · have HN : Hid ((x, fd) = getA l n) := by rw [← HG.out, ← getF_end n hlt]; exact hget.out.symm
        have ht := hown.text
        rw [text_of] at ht
        go_wp2
        go_ret2
        exact ⟨ret_get HN.out, hb⟩
end Go.Proofs.YtkaogmdhjcgcdaaGreatDoor
namespace Go.Proofs.YtkaogmdhjcgcdaaGreatDoor
open Go.RowKit Go.Sort Go.Maps

theorem clone (s : ByteArray) (w : World) (hs : s.size ≤ 1048576) :
    Calls Tryz.prog 77 #[.string s] w fun e w' => e = .returned (.string s) ∧ Below w.heap.size w w' := by
  go_enter Tryz.func77, Tryz.ntmps77
  go_wp2_with (go_at_call 112; refine (Tryz.stringslite_Clone s _ (by omega)).mono ?_; rintro e w1 ⟨rfl, hb1⟩)
  go_ret
  exact ⟨rfl, hb1⟩

set_option maxHeartbeats 1000000 in
theorem implNew (n v : ByteArray) (w : World) (hn : n.size ≤ 1048576) (hv : v.size ≤ 1048576) :
    Calls Tryz.prog 115 #[.string n, .string v] w fun e w' => e = .returned (.agg #[.string n, .string v]) ∧ Below w.heap.size w w' := by
  have b0 : (w.alloc (.cells #[.string ⟨#[]⟩, .string ⟨#[]⟩] 105)).heap[w.heap.size]? = some (.cells #[.string ⟨#[]⟩, .string ⟨#[]⟩] 105) := heap_alloc_new w _
  have bl := box_lt w (.cells #[.string ⟨#[]⟩, .string ⟨#[]⟩] 105)
  have hbb := (Below.refl w.heap.size w).alloc (Nat.le_refl _) (.cells #[.string ⟨#[]⟩, .string ⟨#[]⟩] 105)
  go_enter Tryz.func115, Tryz.ntmps115
  go_wp2_with fail
  refine (clone n _ (by omega)).mono ?_
  rintro e w1 ⟨rfl, hb1⟩
  go_wp2_with fail
  refine (clone v _ (by omega)).mono ?_
  rintro e w2 ⟨rfl, hb2⟩
  have b2 : w2.heap[w.heap.size]? = some (.cells #[.string ⟨#[]⟩, .string ⟨#[]⟩] 105) := by
    rw [hb2.block _ (Nat.lt_of_lt_of_le bl hb1.size), hb1.block _ bl]; exact b0
  have c0 : w2.cell? ⟨w.heap.size, 0, none⟩ = some (.string ⟨#[]⟩) := by rw [cell_of_row w2 _ 0 _ _ _ b2]; rfl
  have c1 : w2.cell? ⟨w.heap.size, 1, none⟩ = some (.string ⟨#[]⟩) := by rw [cell_of_row w2 _ 1 _ _ _ b2]; rfl
  have f0 := frozen_of_row w2 w.heap.size 0 _ _ b2
  have f1 := frozen_of_row w2 w.heap.size 1 _ _ b2
  have hbw : Below w.heap.size w w2 := (hbb.trans (hb1.mono (Nat.le_of_lt bl))).trans (hb2.mono (Nat.le_trans (Nat.le_of_lt bl) hb1.size))
  clear b2 b0 hb1 hb2 hbb
  go_wp2
  refine bodyPost_ret (v := .agg #[.string n, .string v]) (by simp [results, Tryz.results115, go_sem, c0, c1]) rfl ⟨rfl, ?_⟩
  exact (hbw.setCell (Nat.le_refl _) _).setCell (Nat.le_refl _) _

theorem implRoom (g n cap : Nat) (w : World) (h : n ≤ cap) :
    Calls Tryz.prog 116 #[.slice (some ⟨g, 0, none⟩) n cap] w fun e w' => e = .returned (.slice (some ⟨g, 0, none⟩) n n) ∧ w = w' := by
  go_enter Tryz.func116, Tryz.ntmps116
  go_wp2
  go_ret
  exact ⟨rfl, rfl⟩

/-- What is left without the names acc. -/
def restB (acc : List ByteArray) (f : Fl) : Bool := !(acc.any fun n => decide (n = lowS f.1))
theorem OwnsF.solid {w : World} {B : Nat} {v : Value} {l : List Fl} (h : OwnsF w B v l) (hl : 0 < l.length) : ∃ g cap, v = .slice (some ⟨g, 0, none⟩) l.length cap ∧ l.length ≤ cap ∧ cap ≤ maxLen := by
  rcases h.2 with ⟨_, h0⟩ | ⟨g, cap, cur, rfl, hb, hg, hc, hm, rest⟩
  · omega
  · exact ⟨g, cap, rfl, hc, hm⟩

set_option maxHeartbeats 1000000 in
theorem implAllButN (v : Value) (l : List Fl) (b : Nat) (acc : List ByteArray) (w : World) (hf : Fls w v l) (hl : l.length ≤ 900000) (hfs : ∀ f ∈ l, f.1.size ≤ 1048576 ∧ f.2.size ≤ 1048576) (hset : SetIs w b acc) :
    Calls Tryz.prog 113 #[v, .map (some b)] w fun e w' => (∃ g, e = .returned (.slice (some ⟨g, 0, none⟩) (l.filter (restB acc)).length (l.filter (restB acc)).length) ∧ HasF w' w.heap.size (.slice (some ⟨g, 0, none⟩) (l.filter (restB acc)).length (l.filter (restB acc)).length) (l.filter (restB acc))) ∧ Below w.heap.size w w' := by
  obtain ⟨a, cap, rfl, h1, h2, h3⟩ := hf
  unfold maxLen at h2
  obtain ⟨i0, hi, hz0, hz1, hz2⟩ := info_parts Tryz.infoF
  obtain ⟨w0, hrun, hown, hgr⟩ := run_make_own (P := Tryz.prog) w w.heap.size 24 105 i0 (.agg #[.string ⟨#[]⟩, .string ⟨#[]⟩]) 2 Tryz.underlying24 hi hz0 hz1 .i64 .i64 l.length (by rw [hz2]; omega) (by unfold maxLen; omega) (Nat.le_refl _)
  have hown0 : OwnsF w0 w.heap.size (.slice (some ⟨w.heap.size, 0, none⟩) 0 l.length) [] := hown
  have hb0 : Below w.heap.size w w0 := (Below.refl _ w).grown hgr (Nat.le_refl _) (fun j hj => by cases hj)
  clear hown hgr hi hz0 hz1 hz2
  go_enter Tryz.func113, Tryz.ntmps113
  go_wp2
  go_loopw [5, 13] (fun u i wr => ∃ (k g c : Nat), k ≤ l.length ∧ i = .int .i64 k ∧ u = .slice (some ⟨g, 0, none⟩) ((l.take k).filter (restB acc)).length c ∧ ((l.take k).filter (restB acc)).length ≤ c ∧ c ≤ maxLen ∧ OwnsF wr w.heap.size u ((l.take k).filter (restB acc)) ∧ Below w.heap.size w wr) (fun _ i _ => l.length - (intOf i).toNat)
  case atStart => exact ⟨0, w.heap.size, l.length, Nat.zero_le _, rfl, rfl, Nat.zero_le _, by unfold maxLen; omega, hown0, hb0⟩
  case round =>
    clear hown0 hb0 hrun
    obtain ⟨k, gu, c, hk, rfl, rfl, hcl, hcm, hown, hb⟩ := hrel
    have hfl := filter_le l k (restB acc)
    by_cases hlt : k < l.length
    · obtain ⟨g, o, rfl, hg, hc⟩ := h3 (by omega)
      have c1 := (hb.cell (p := ⟨g, o + k * 2, none⟩) hg).trans (hc k hlt).1
      have c2 := (hb.cell (p := ⟨g, o + k * 2 + 1, none⟩) hg).trans (hc k hlt).2
      have hsz := hfs l[k] (List.getElem_mem hlt)
      have hs1 := hset.kept hb
      have hsa := hs1.kept ((Below.refl wr.heap.size wr).alloc (Nat.le_refl _) (.cells #[.string l[k].1, .string l[k].2] 105))
      cases hr : restB acc l[k] with
      | true =>
        have HN : Hid ((l.take (k + 1)).filter (restB acc) = (l.take k).filter (restB acc) ++ [l[k]]) := filter_yes hlt hr
        have hany : (acc.any fun n => decide (n = lowS l[k].1)) = false := by unfold restB at hr; simpa using hr
        clear hr
        generalize l[k] = f at c1 c2 hsz HN hany hsa
        generalize (l.take k).filter (restB acc) = s0 at hown hcl hfl HN
        have d0 := box0 wr f 105
        have d1 := box1 wr f 105
        have bl := box_lt wr (.cells #[.string f.1, .string f.2] 105)
        have hba := hb.alloc hb.size (.cells #[.string f.1, .string f.2] 105)
        have hoa := hown.alloc (.cells #[.string f.1, .string f.2] 105)
        clear hc h3 hfs
        go_wp2_with (first
          | (go_at_call 138; refine (implHas b acc f.1 _ hsa (by omega)).mono ?_; rw [hany]; rintro e w1 ⟨rfl, hb1⟩; have e0 := (hb1.cell (p := ⟨wr.heap.size, 0, none⟩) bl).trans d0; have e1 := (hb1.cell (p := ⟨wr.heap.size, 1, none⟩) bl).trans d1; have ho1 := hoa.kept hb1; have hb01 := hba.trans (hb1.mono hba.size))
          | (go_at_call 115; refine (implNew f.1 f.2 _ (by omega) (by omega)).mono ?_; rintro e w2 ⟨rfl, hb2⟩; have ho2 := ho1.kept hb2; have hb02 := hb01.trans (hb2.mono hb01.size))
          | (at_builtin; refine wpList_pushF _ rfl (.tmp 22) (.tmp 28) rfl w.heap.size _ _ f rfl ho2 rfl (by omega) hb02.size ?_; intro v3 w3 ho3 hg3))
        have hb03 := hb02.grown hg3 hb02.size (OwnsF.from ho2)
        obtain ⟨g3, c3, rfl, hc3, hm3⟩ := ho3.solid (by simp)
        rw [← HN.out] at ho3 hc3
        clear hown hoa ho1 ho2 hb hb1 hb2 hba hb01 hb02 hg3 c1 c2 d0 d1 e0 e1 hs1 hsa
        go_roundw
        case rel => exact ⟨k + 1, g3, c3, by omega, by go_num, by rw [HN.out], hc3, hm3, by rw [HN.out] at ho3 ⊢; exact ho3, hb03⟩
        case measure => simp [intOf]; omega
      | false =>
        have HN : Hid ((l.take (k + 1)).filter (restB acc) = (l.take k).filter (restB acc)) := filter_no hlt hr
        have hany : (acc.any fun n => decide (n = lowS l[k].1)) = true := by unfold restB at hr; simpa using hr
        clear hr
        generalize l[k] = f at c1 c2 hsz HN hany hsa
        generalize (l.take k).filter (restB acc) = s0 at hown hcl hfl HN
        have d0 := box0 wr f 105
        have hba := hb.alloc hb.size (.cells #[.string f.1, .string f.2] 105)
        have hoa := hown.alloc (.cells #[.string f.1, .string f.2] 105)
        clear hc h3 hfs
        go_wp2_with (go_at_call 138; refine (implHas b acc f.1 _ hsa (by omega)).mono ?_; rw [hany]; rintro e w1 ⟨rfl, hb1⟩; have ho1 := hoa.kept hb1; have hb01 := hba.trans (hb1.mono hba.size))
        clear hown hoa hb hb1 hba c1 c2 d0 hs1 hsa
        go_roundw
        case rel => exact ⟨k + 1, gu, c, by omega, by go_num, by rw [HN.out], by rw [HN.out]; exact hcl, hcm, by rw [HN.out]; exact ho1, hb01⟩
        case measure => simp [intOf]; omega
    · have HN : Hid ((l.take k).filter (restB acc) = l.filter (restB acc)) := filter_end hlt
      rw [HN.out] at hcl hown
      rw [HN.out]
      have hr := fun w => implRoom gu (l.filter (restB acc)).length c w hcl
      go_wp2_with (go_at_call 116; refine (hr _).mono ?_; rintro e w1 ⟨rfl, rfl⟩)
      go_ret
      exact ⟨⟨gu, rfl, hown.has.cut rfl⟩, hb⟩
end Go.Proofs.YtkaogmdhjcgcdaaGreatDoor
namespace Go.Proofs.YtkaogmdhjcgcdaaGreatDoor
open Go.RowKit Go.Sort Go.Maps

theorem rest_one (l : List Fl) (n : ByteArray) : l.filter (restB [lowS n]) = wo l n := by
  unfold wo
  congr 1
  funext f
  unfold restB keepB
  by_cases h : lowS f.1 = lowS n
  · simp [h]
  · have h' : ¬ lowS n = lowS f.1 := fun e => h e.symm
    simp [h, h']
theorem strs_one (w : World) (n : ByteArray) : Strs ((w.alloc (.map #[] 0)).alloc (.cells #[.string n] 9)) (.slice (some ⟨w.heap.size + 1, 0, none⟩) 1 1) [n] := by
  have h := strs_lit (w.alloc (.map #[] 0)) [n] (by simp)
  have e : (w.alloc (.map #[] 0)).heap.size = w.heap.size + 1 := by simp
  rw [e] at h
  exact h
/-- A slice of fields as the program answers it. -/
def GivesF (w w' : World) (e : Ending) (l : List Fl) : Prop := (∃ g, e = .returned (.slice (some ⟨g, 0, none⟩) l.length l.length) ∧ HasF w' w.heap.size (.slice (some ⟨g, 0, none⟩) l.length l.length) l) ∧ Below w.heap.size w w'
theorem GivesF.any {w w' : World} {e : Ending} {l : List Fl} (h : GivesF w w' e l) : ∃ u, e = .returned u ∧ HasF w' w.heap.size u l ∧ Below w.heap.size w w' := by
  obtain ⟨⟨g, he, hh⟩, hb⟩ := h
  exact ⟨_, he, hh, hb⟩
end Go.Proofs.YtkaogmdhjcgcdaaGreatDoor
namespace Go.Proofs.YtkaogmdhjcgcdaaGreatDoor
open Go.RowKit Go.Sort Go.Maps

theorem cells_of (l : List Fl) {w : World} {g : Nat} (hc : ∀ j (hj : j < l.length), w.cell? ⟨g, j * 2, none⟩ = some (.string l[j].1) ∧ w.cell? ⟨g, j * 2 + 1, none⟩ = some (.string l[j].2)) : ∀ j u, (cellsF l)[j]? = some u → w.cell? ((⟨g, 0, none⟩ : Addr).add j) = some u := by
  intro j u hu
  have hj : j < (cellsF l).length := (List.getElem?_eq_some_iff.1 hu).1
  rw [cellsF_length] at hj
  rw [addr_add, Nat.zero_add, ← hu]
  obtain ⟨c1, c2⟩ := cellsF_at l (j / 2) (by omega)
  obtain ⟨d1, d2⟩ := hc (j / 2) (by omega)
  have h2 : j = j / 2 * 2 ∨ j = j / 2 * 2 + 1 := by omega
  rcases h2 with h2 | h2
  · rw [h2, c1]; exact d1
  · rw [h2, c2]; exact d2

end Go.Proofs.YtkaogmdhjcgcdaaGreatDoor
namespace Go.Proofs.YtkaogmdhjcgcdaaGreatDoor
open Go.RowKit Go.Sort
set_option linter.unusedVariables false

theorem newAt (x : World) (o : Obj) : (x.alloc o).heap[x.heap.size]? = some o := heap_alloc_new x o
theorem rowCell {w : World} {g k : Nat} {c : Array Value} {ty : TypeId} {fr : Nat × Nat} (h : w.heap[g]? = some (.cells c ty fr)) : w.cell? ⟨g, k, none⟩ = c[k]? := by simp [World.cell?, h]
/-- A store into a block of another type leaves the row. -/
theorem OwnsF.besides10 {w : World} {B g k : Nat} {v : Value} {l : List Fl} {c : Array Value} {T : TypeId} {fr : Nat × Nat} (h : OwnsF w B v l) (hg : w.heap[g]? = some (.cells c T fr)) (hT : T ≠ 105) (x : Value) : OwnsF (w.setCell ⟨g, k, none⟩ x) B v l := by
  refine ⟨h.1, ?_⟩
  rcases h.2 with h0 | ⟨g', cap, cur, hv, hbg, hg', rest⟩
  · exact .inl h0
  · refine .inr ⟨g', cap, cur, hv, hbg, ?_, rest⟩
    rw [Below.heap_setCell _ _ _ _ (show g' ≠ g from fun e => by subst e; rw [hg] at hg'; injection hg' with e; injection e with _ e _; exact hT e)]
    exact hg'
theorem OwnsF.putlow10 {w : World} {B g : Nat} {v : Value} {l : List Fl} (h : OwnsF w B v l) (hg : g < B) (k : Nat) (x : Value) : OwnsF (w.setCell ⟨g, k, none⟩ x) B v l := by
  refine ⟨h.1, ?_⟩
  rcases h.2 with h0 | ⟨g2, cap, cur, hv, hbg, hg2, rest⟩
  · exact .inl h0
  · exact .inr ⟨g2, cap, cur, hv, hbg, (Below.heap_setCell _ _ _ _ (by show g2 ≠ g; omega)).trans hg2, rest⟩
theorem RsB.put2 {w : World} {b : Nat} {r : Rs} {v : Value} (h : RsB w b r v) (t : ByteArray) : RsB (w.setCell ⟨b, 2, none⟩ (.string t)) b ⟨r.s, r.l, t⟩ v where
  c0 := by rw [World.cell?_setCell_other _ _ _ _ (by simp)]; exact h.c0
  c1 := by rw [World.cell?_setCell_other _ _ _ _ (by simp)]; exact h.c1
  c2 := World.cell?_setCell_same _ _ _ h.c2
  fz := fun k => by rw [World.frozen?_setCell]; exact h.fz k
  hi := by rw [World.size_setCell]; exact h.hi
theorem RsB.puts10 {w : World} {b : Nat} {r0 : Rs} {v0 : Value} (h : RsB w b r0 v0) (r : Rs) (v : Value) : RsB (((w.setCell ⟨b, 0, none⟩ (.int .i64 r.s)).setCell ⟨b, 1, none⟩ v).setCell ⟨b, 2, none⟩ (.string r.b)) b r v where
  c0 := by rw [World.cell?_setCell_other _ _ _ _ (by simp), World.cell?_setCell_other _ _ _ _ (by simp)]; exact World.cell?_setCell_same _ _ _ h.c0
  c1 := by rw [World.cell?_setCell_other _ _ _ _ (by simp)]; exact World.cell?_setCell_same _ _ _ (by rw [World.cell?_setCell_other _ _ _ _ (by simp)]; exact h.c1)
  c2 := World.cell?_setCell_same _ _ _ (by rw [World.cell?_setCell_other _ _ _ _ (by simp), World.cell?_setCell_other _ _ _ _ (by simp)]; exact h.c2)
  fz := fun k => by rw [World.frozen?_setCell, World.frozen?_setCell, World.frozen?_setCell]; exact h.fz k
  hi := by rw [World.size_setCell, World.size_setCell, World.size_setCell]; exact h.hi
end Go.Proofs.YtkaogmdhjcgcdaaGreatDoor
