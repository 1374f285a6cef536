/-
  The contracts of the program's set of names: names that are put in, and whether one is there.
  The contract of the program's Get.
  The contracts of ShowFields, the specification's and the program's.
-/
import Derived.Test.YtmgmphkncgochaaGreatDoorG13
import Derived.Test.YtmgmphkncgochaaGreatDoorG05
import Derived.Maps.OwnSet
import Derived.Maps.AppendAt
import Derived.Handy
import Derived.Test.YtmgmphkncgochaaGreatDoorG11
import Derived.Deep.RegionLaw
namespace Go.Proofs.YtmgmphkncgochaaGreatDoor
open Go.RowKit Go.Sort Go.Maps Go.ChangeMaps Go.WideMaps

theorem lowS_size (s : ByteArray) : (lowS s).size = s.size := by
  show ((s.data.toList.map lowB).toArray).size = s.size
  simp

/-- The slice v reads as the texts ns. -/
def Strs (w : World) (v : Value) (ns : List ByteArray) : Prop :=
  ∃ a cap, v = .slice a ns.length cap ∧ ns.length ≤ cap ∧ cap ≤ maxLen ∧ (0 < ns.length → ∃ g o, a = some ⟨g, o, none⟩ ∧ g < w.heap.size ∧ ∀ j (hj : j < ns.length), w.cell? ⟨g, o + j, none⟩ = some (.string ns[j]))
theorem OwnsS.strs {w : World} {B : Nat} {v : Value} {l : List ByteArray} (h : OwnsS w B v l) : Strs w v l := by
  have hh := h
  obtain ⟨⟨g, cap, rfl, _, hg⟩, h2⟩ := h
  rcases h2.2 with ⟨h0, _⟩ | ⟨g', cap', cur, hv, _, _, hc, hm, _⟩
  · cases h0
  · simp only [Value.slice.injEq, Option.some.injEq, Addr.mk.injEq, and_true, true_and] at hv
    obtain ⟨_, rfl⟩ := hv
    exact ⟨_, cap, rfl, hc, hm, fun _ => ⟨g, 0, rfl, hg, fun j hj => by rw [Nat.zero_add]; exact hh.at rfl j hj⟩⟩
/-- A slice that is written out. -/
theorem strs_lit (w : World) (ns : List ByteArray) (hn : ns.length ≤ 1000) : Strs (w.alloc (.cells (ns.map Value.string).toArray 9)) (.slice (some ⟨w.heap.size, 0, none⟩) ns.length ns.length) ns := by
  refine ⟨_, ns.length, rfl, Nat.le_refl _, by unfold maxLen; omega, fun _ => ⟨w.heap.size, 0, rfl, by simp, fun j hj => ?_⟩⟩
  rw [Nat.zero_add, World.cell?_alloc_mark]
  simp [hj]
theorem Strs.kept {w w' : World} {v : Value} {l : List ByteArray} (h : Strs w v l) (hb : Below w.heap.size w w') : Strs w' v l := by
  obtain ⟨a, cap, hv, h1, h2, h3⟩ := h
  refine ⟨a, cap, hv, h1, h2, fun h0 => ?_⟩
  obtain ⟨g, o, ha, hg, hc⟩ := h3 h0
  exact ⟨g, o, ha, Nat.lt_of_lt_of_le hg hb.size, fun j hj => (hb.cell (p := ⟨g, o + j, none⟩) hg).trans (hc j hj)⟩

theorem lawK : Keyed Tryz.prog 9 := string_keyed Tryz.underlying9
theorem zeroU (w : World) : (zeroValue 131).run Tryz.prog w = .ok (.agg #[]) w := by kernel_rfl
def keyL (s : ByteArray) : Lit := .string s.data.toList
theorem keyL_of {s : ByteArray} (hs : s.size ≤ maxLen) : keyOf Tryz.prog 9 (.string s) = some (keyL s) := keyOf_string_mk Tryz.underlying9 hs
/-- Block b is the set of the names acc. -/
def SetIs (w : World) (b : Nat) (acc : List ByteArray) : Prop := w.ownsMap Tryz.prog 9 (unitElem (H := Unit)) b acc.length (setOf (.agg []) (acc.map keyL))
theorem SetIs.made (w : World) : SetIs (w.alloc (.map #[] 0)) w.heap.size [] := World.ownsMap_made _ _ _ _
theorem SetIs.lt {w : World} {b : Nat} {acc : List ByteArray} (h : SetIs w b acc) : b < w.heap.size := World.ownsMap.lt h
theorem SetIs.kept {w w' : World} {b : Nat} {acc : List ByteArray} (h : SetIs w b acc) (hb : Below w.heap.size w w') : SetIs w' b acc :=
  World.ownsMap.kept h (row := none) ⟨hb.os, hb.tape, hb.output, hb.size, fun k hk _ => hb.block k hk⟩ (by simp)
theorem SetIs.grown {w w' : World} {b : Nat} {acc : List ByteArray} {r : Option Nat} (h : SetIs w b acc) (hg : w.grownBy w' r) (hne : some b ≠ r) : SetIs w' b acc := World.ownsMap.kept h hg hne
theorem keyL_same (a b : ByteArray) : (keyL a).sameKey (keyL b) = decide (a = b) := by
  by_cases h : a = b
  · subst h
    rw [decide_eq_true rfl]
    simp [keyL, Lit.sameKey]
  · rw [decide_eq_false h]
    exact sameKey_ne fun e => h (ext_bytes (by simpa [keyL] using e))
theorem set_has (acc : List ByteArray) (x : ByteArray) : Maps.has (setOf (H := Unit) (.agg []) (acc.map keyL)) (keyL x) = acc.any fun n => decide (n = x) := by
  rw [has_setOf _ _ _ (by intro y hy; obtain ⟨n, _, rfl⟩ := List.mem_map.1 hy; trivial), List.any_map]
  congr 1
  funext n
  exact keyL_same n x

set_option maxHeartbeats 1000000 in
theorem implHas (b : Nat) (acc : List ByteArray) (s : ByteArray) (w : World) (h : SetIs w b acc) (hs : s.size ≤ 1048576) :
    Calls Tryz.prog 126 #[.map (some b), .string s] w fun e w' => e = .returned (.bool (acc.any fun n => decide (n = lowS s))) ∧ Below w.heap.size w w' := by
  have hsm : s.size ≤ maxLen := by unfold maxLen; omega
  have hlz := lowS_size s
  have hkey := keyL_of (s := lowS s) (by rw [hlz]; exact hsm)
  have HH : Hid (Maps.has (setOf (H := Unit) (.agg []) (acc.map keyL)) (keyL (lowS s)) = acc.any fun n => decide (n = lowS s)) := set_has acc (lowS s)
  go_enter Tryz.func126, Tryz.ntmps126
  go_wp2_with (first
    | (go_at_call 67; refine (implLow _ _ hsm).mono ?_; rintro e w1 ⟨rfl, hb1⟩; have h1 := h.kept hb1)
    | (at_lookup; refine wpList_lookup_own_unit _ rfl _ _ 105 rfl 9 131 lawK Tryz.underlying105 (zeroU _) b acc.length _ rfl h1 _ _ rfl hkey ?_))
  go_ret
  refine ⟨ret_bool HH.out, ?_⟩
  exact hb1.alloc hb1.size _
theorem SetIs.put {w : World} {b : Nat} {acc : List ByteArray} {x : ByteArray} (h : w.ownsMap Tryz.prog 9 (unitElem (H := Unit)) b (acc.length + 1) ((setOf (H := Unit) (.agg []) (acc.map keyL)).put (keyL x) (.agg []))) : SetIs w b (acc ++ [x]) := by
  unfold SetIs
  rw [List.map_append, List.length_append, show [x].map keyL = [keyL x] from rfl, setOf_snoc]
  exact h

set_option maxHeartbeats 1000000 in
theorem implAdd (b : Nat) (acc : List ByteArray) (v : Value) (ns : List ByteArray) (w : World) (h : SetIs w b acc) (hv : Strs w v ns) (hne : ∀ k, v.ownBlock = some k → k ≠ b) (hs : ∀ n ∈ ns, n.size ≤ 1048576) (hl : acc.length + ns.length ≤ 1000000) :
    Calls Tryz.prog 99 #[.map (some b), v] w fun e w' => e = .returned (.tuple #[]) ∧ SetIs w' b (acc ++ ns.map lowS) ∧ w.grownBy w' (some b) := by
  obtain ⟨a, cap, rfl, h1, h2, h3⟩ := hv
  unfold maxLen at h2
  go_enter Tryz.func99, Tryz.ntmps99
  go_wp2
  go_loopw [8] (fun i wr => ∃ (k : Nat), k ≤ ns.length ∧ i = .int .i64 k ∧ SetIs wr b (acc ++ (ns.take k).map lowS) ∧ w.grownBy wr (some b)) (fun i _ => ns.length - (intOf i).toNat)
  case atStart => exact ⟨0, Nat.zero_le _, rfl, by simpa using h, grown_self _ _⟩
  case round =>
    clear h
    obtain ⟨k, hk, rfl, ho, hgr⟩ := hrel
    by_cases hlt : k < ns.length
    · obtain ⟨g, o, rfl, hg, hc⟩ := h3 (by omega)
      have c1 := hgr.cell (hc k hlt) (fun e => hne g rfl (by simpa using e))
      have hsz := hs ns[k] (List.getElem_mem hlt)
      have HN : Hid (acc ++ (ns.take (k + 1)).map lowS = acc ++ (ns.take k).map lowS ++ [lowS ns[k]]) := by show _ = _; rw [List.take_succ_eq_append_getElem hlt, List.map_append, List.append_assoc]; rfl
      have hcl : (acc ++ (ns.take k).map lowS).length ≤ 1000000 := by simp; omega
      generalize ns[k] = x at c1 hsz HN
      generalize acc ++ (ns.take k).map lowS = ac at ho HN hcl
      have hxm : x.size ≤ maxLen := by unfold maxLen; omega
      have hlz := lowS_size x
      have hkey := keyL_of (s := lowS x) (by rw [hlz]; exact hxm)
      clear hc h3 hs
      go_wp2_with (first
        | (go_at_call 67; refine (implLow _ _ hxm).mono ?_; rintro e w1 ⟨rfl, hb1⟩; have h1 := ho.kept hb1; have hg1 := grown_below hgr hb1)
        | (at_mapUpdate; refine wpList_mapUpdate_own _ rfl _ _ _ 105 rfl 9 131 lawK Tryz.underlying105 (unitElem (H := Unit)) b ac.length _ rfl h1 (by unfold maxLen; omega) _ _ _ rfl rfl hkey _ [] unitElem_mk ?_; intro w2 ho2 hg2))
      have ho3 := SetIs.put ho2
      rw [← HN.out] at ho3
      have hg3 := hg1.trans hg2
      clear ho h1 ho2 hg1 hg2 hb1 hgr c1
      go_roundw
      case rel => exact ⟨k + 1, by omega, by go_num, ho3, hg3⟩
      case measure => simp [intOf]; omega
    · rw [List.take_of_length_le (by omega)] at ho
      go_wp2
      go_returns
      exact ⟨rfl, ho, hgr⟩
end Go.Proofs.YtmgmphkncgochaaGreatDoor
namespace Go.Proofs.YtmgmphkncgochaaGreatDoor
open Go.RowKit Go.Sort

theorem data_app (a b : ByteArray) : (a ++ b).data.toList = a.data.toList ++ b.data.toList := by rw [ByteArray.data_append, Array.toList_append]
theorem text_of (x : ByteArray) : (⟨x.data.toList.toArray⟩ : ByteArray) = x := by cases x; simp
theorem len_of (x : ByteArray) : x.data.toList.length = x.size := by simp

set_option maxHeartbeats 1000000 in
theorem implGet (v : Value) (l : List Fl) (n : ByteArray) (w : World) (h : Fls w v l) (hz : szL l ≤ 1048576) (hn : n.size ≤ 1048576) :
    Calls Tryz.prog 65 #[v, .string n] w fun e w' => e = .returned (getE (getA l n)) ∧ Below w.heap.size w w' := by
  have hh := h
  obtain ⟨a, cap, rfl, h1, h2, h3⟩ := hh
  unfold maxLen at h2
  have hnm : n.size ≤ maxLen := by unfold maxLen; omega
  cases hok : fldsOk l with
  | false =>
    have HN : Hid ((⟨#[]⟩, false) = getA l n) := getA_no n hok
    go_enter Tryz.func65, Tryz.ntmps65
    go_wp2_with (go_at_call 64; refine (implOk _ l _ h hz).mono ?_; rw [hok]; rintro e w1 ⟨rfl, hb1⟩)
    go_ret2
    exact ⟨ret_get HN.out, hb1⟩
  | true =>
    obtain ⟨hl, hfs⟩ := fldsOk_parts hok
    have HG : Hid (getF l n = getA l n) := getA_yes n hok
    go_enter Tryz.func65, Tryz.ntmps65
    go_wp2_with (first | (go_at_call 64; refine (implOk _ l _ h hz).mono ?_; rw [hok]; rintro e w1 ⟨rfl, hb1⟩) | (go_at_call 67; refine (implLow _ _ hnm).mono ?_; rintro e w2 ⟨rfl, hb2⟩))
    have hb02 := hb1.trans (hb2.mono hb1.size)
    clear hb1 hb2
    go_loopw [7, 8, 18] (fun s b i wr => ∃ (k : Nat) (x : ByteArray) (fd : Bool), k ≤ l.length ∧ i = .int .i64 k ∧ b = .bool fd ∧ x.size ≤ 402 * k ∧ OwnsB wr w.heap.size s x.data.toList ∧ Hid (getF (l.take k) n = (x, fd)) ∧ Below w.heap.size w wr) (fun _ _ i _ => l.length - (intOf i).toNat)
    case atStart => exact ⟨0, ⟨#[]⟩, false, Nat.zero_le _, rfl, rfl, Nat.le_refl _, OwnsB.nil _ _, rfl, hb02⟩
    case round =>
      clear hb02
      obtain ⟨k, x, fd, hk, rfl, rfl, hxs, hown, hget, hb⟩ := hrel
      have hxl := len_of x
      by_cases hlt : k < l.length
      · obtain ⟨g, o, rfl, hg, hc⟩ := h3 (by omega)
        have c1 := (hb.cell (p := ⟨g, o + k * 2, none⟩) hg).trans (hc k hlt).1
        have c2 := (hb.cell (p := ⟨g, o + k * 2 + 1, none⟩) hg).trans (hc k hlt).2
        have hsz := fldOk_size (hfs l[k] (List.getElem_mem hlt))
        have hnx := getF_next n hlt
        rw [hget.out] at hnx
        generalize l[k] = f at c1 c2 hsz hnx
        have z1 : f.1.size ≤ maxLen := by unfold maxLen; omega
        have d1 := box1 wr f 81
        have bl := box_lt wr (.cells #[.string f.1, .string f.2] 81)
        have hba := hb.alloc hb.size (.cells #[.string f.1, .string f.2] 81)
        have hoa := hown.alloc (.cells #[.string f.1, .string f.2] 81)
        have hun := OwnsB.under hown
        clear hc h3 hfs h
        by_cases he : lowS f.1 = lowS n
        · have hq := same_yes he
          cases fd with
          | false =>
            rw [gStep_first he] at hnx
            have HN : Hid (getF (l.take (k + 1)) n = (x ++ f.2, true)) := hnx
            clear hnx he
            go_wp2_with (first
              | (go_at_call 67; refine (implLow _ _ z1).mono ?_; rintro e w1 ⟨rfl, hb1⟩; have e1 := (hb1.cell (p := ⟨wr.heap.size, 1, none⟩) bl).trans d1; have ho1 := hoa.kept hb1; have hb01 := hba.trans (hb1.mono hba.size))
              | (at_builtin; refine wpList_pushStr _ rfl _ _ rfl w.heap.size _ _ _ rfl ho1 rfl (by omega) hb01.size ?_; intro v2 w2 ho2 hg2))
            have hb02 := hb01.grown hg2 hb01.size (OwnsB.from ho1)
            rw [← data_app] at ho2
            clear hown hoa ho1 hb hb1 hba hb01 hg2 c1 c2 d1 e1
            go_roundw
            case rel => exact ⟨k + 1, _, true, by omega, by go_num, rfl, by rw [ByteArray.size_append]; omega, ho2, HN, hb02⟩
            case measure => simp [intOf]; omega
          | true =>
            rw [gStep_more he] at hnx
            have HN : Hid (getF (l.take (k + 1)) n = (x ++ ⟨#[44, 32]⟩ ++ f.2, true)) := hnx
            have zz : (x ++ (⟨#[44, 32]⟩ : ByteArray)).size = x.size + 2 := by rw [ByteArray.size_append]; rfl
            clear hnx he
            go_wp2_with (first
              | (go_at_call 67; refine (implLow _ _ z1).mono ?_; rintro e w1 ⟨rfl, hb1⟩; have e1 := (hb1.cell (p := ⟨wr.heap.size, 1, none⟩) bl).trans d1; have ho1 := hoa.kept hb1; have hb01 := hba.trans (hb1.mono hba.size))
              | (at_builtin; refine wpList_pushStr _ rfl _ _ rfl w.heap.size _ _ _ rfl ho1 rfl (by show _ + 2 ≤ _; omega) hb01.size ?_; intro v2 w2 ho2 hg2; have e2 := grown_cell hg2 e1 (Nat.lt_of_lt_of_le bl hb1.size) (fun j hj => Nat.ne_of_lt (hun j hj)); have hb02 := hb01.grown hg2 hb01.size (OwnsB.from ho1); rw [← data_app] at ho2)
              | (at_builtin; refine wpList_pushStr _ rfl _ _ rfl w.heap.size _ _ _ rfl ho2 rfl (by rw [len_of, zz]; omega) hb02.size ?_; intro v3 w3 ho3 hg3))
            have hb03 := hb02.grown hg3 hb02.size (OwnsB.from ho2)
            rw [← data_app] at ho3
            clear hown hoa ho1 ho2 hb hb1 hba hb01 hb02 hg2 hg3 c1 c2 d1 e1 e2
            go_roundw
            case rel => exact ⟨k + 1, _, true, by omega, by go_num, rfl, by rw [ByteArray.size_append, zz]; omega, ho3, HN, hb03⟩
            case measure => simp [intOf]; omega
        · have hq := same_no he
          rw [gStep_no he] at hnx
          have HN : Hid (getF (l.take (k + 1)) n = (x, fd)) := hnx
          clear hnx he
          go_wp2_with (go_at_call 67; refine (implLow _ _ z1).mono ?_; rintro e w1 ⟨rfl, hb1⟩; have ho1 := hoa.kept hb1; have hb01 := hba.trans (hb1.mono hba.size))
          clear hown hoa hb hb1 hba c1 c2 d1
          go_roundw
          case rel => exact ⟨k + 1, _, fd, by omega, by go_num, rfl, by omega, ho1, HN, hb01⟩
          case measure => simp [intOf]; omega
      · have HN : Hid ((x, fd) = getA l n) := by rw [← HG.out, ← getF_end n hlt]; exact hget.out.symm
        have ht := hown.text
        rw [text_of] at ht
        go_wp2
        go_ret2
        exact ⟨ret_get HN.out, hb⟩
end Go.Proofs.YtmgmphkncgochaaGreatDoor
namespace Go.Proofs.YtmgmphkncgochaaGreatDoor
open Go.RowKit Go.Sort

theorem showF_text (f : Fl) : (f.1 ++ (⟨#[58, 32]⟩ : ByteArray) ++ f.2 ++ (⟨#[13, 10]⟩ : ByteArray)).data.toList = showF f := by
  rw [data_app, data_app, data_app]; rfl
theorem showF_size (f : Fl) : (f.1 ++ (⟨#[58, 32]⟩ : ByteArray) ++ f.2 ++ (⟨#[13, 10]⟩ : ByteArray)).size = f.1.size + f.2.size + 4 := by
  rw [ByteArray.size_append, ByteArray.size_append, ByteArray.size_append]
  show f.1.size + 2 + f.2.size + 2 = _
  omega

/-- The block of a field is no block of bytes. -/
theorem boxNe {w : World} {B b : Nat} {v : Value} {l : List UInt8} {f : Fl} (h : OwnsB w B v l) (hb : w.heap[b]? = some (.cells #[.string f.1, .string f.2] 81)) : ∀ j, v.ownBlock = some j → j ≠ b := by
  intro j hj e
  subst e
  rcases h.2 with ⟨rfl, _⟩ | ⟨g, cap, cur, rfl, _, hg, _⟩
  · simp [Value.ownBlock] at hj
  · simp only [Value.ownBlock, Option.some.injEq] at hj
    subst hj
    rw [hg] at hb
    simp at hb
theorem boxAt {w : World} {b : Nat} {f : Fl} (hb : w.heap[b]? = some (.cells #[.string f.1, .string f.2] 81)) : w.cell? ⟨b, 1, none⟩ = some (.string f.2) := by
  rw [cell_of_row w b 1 _ _ _ hb]; rfl
theorem boxStays {w w' : World} {b : Nat} {r : Option Nat} {f : Fl} (hb : w.heap[b]? = some (.cells #[.string f.1, .string f.2] 81)) (hg : w.grownBy w' r) (hne : ∀ j, r = some j → j ≠ b) : w'.heap[b]? = some (.cells #[.string f.1, .string f.2] 81) := by
  rw [hg.block b (Array.getElem?_eq_some_iff.1 hb).1 (fun e => hne b e.symm rfl)]; exact hb

set_option maxHeartbeats 1000000 in
theorem specShowL (v : Value) (l : List Fl) (w : World) (h : Fls w v l) (hok : fldsOk l = true) :
    Calls Tryz.prog 88 #[v] w fun e w' => e = .returned (.string ⟨(showL l).toArray⟩) ∧ Below w.heap.size w w' := by
  obtain ⟨a, cap, rfl, h1, h2, h3⟩ := h
  unfold maxLen at h2
  obtain ⟨hl, hfs⟩ := fldsOk_parts hok
  go_enter Tryz.func88, Tryz.ntmps88
  go_wp2
  go_loopw [3, 4] (fun b i wr => ∃ (k : Nat), k ≤ l.length ∧ i = .int .i64 k ∧ OwnsB wr w.heap.size b (showL (l.take k)) ∧ Below w.heap.size w wr) (fun _ i _ => l.length - (intOf i).toNat)
  case atStart => exact ⟨0, Nat.zero_le _, rfl, OwnsB.empty w, (Below.refl _ _).alloc (Nat.le_refl _) _⟩
  case round =>
    obtain ⟨k, hk, rfl, hown, hb⟩ := hrel
    have hsl := showL_length l hfs k hk
    by_cases hlt : k < l.length
    · obtain ⟨g, o, rfl, hg, hc⟩ := h3 (by omega)
      have c1 := (hb.cell (p := ⟨g, o + k * 2, none⟩) hg).trans (hc k hlt).1
      have c2 := (hb.cell (p := ⟨g, o + k * 2 + 1, none⟩) hg).trans (hc k hlt).2
      have hsz := fldOk_size (hfs l[k] (List.getElem_mem hlt))
      have HN : Hid (showL (l.take (k + 1)) = showL (l.take k) ++ showF l[k]) := showL_next hlt
      generalize l[k] = f at c1 c2 hsz HN
      have hst := showF_size f
      have z1 : (f.1 ++ (⟨#[58, 32]⟩ : ByteArray)).size = f.1.size + 2 := by rw [ByteArray.size_append]; rfl
      have z2 : (f.1 ++ (⟨#[58, 32]⟩ : ByteArray) ++ f.2).size = f.1.size + 2 + f.2.size := by rw [ByteArray.size_append, z1]
      generalize showL (l.take k) = s0 at hown hsl HN
      have q1 : ¬ 9223372036854775807 < f.1.size + 2 := by omega
      have q2 : ¬ 9223372036854775807 < f.1.size + 2 + f.2.size := by omega
      have q3 : ¬ 9223372036854775807 < f.1.size + 2 + f.2.size + 2 := by omega
      clear hc h3 hfs
      go_wp2
      go_region_law (refine step_ownStr rfl (.tmp 12) (.tmp 25) rfl w.heap.size _ s0 (f.1 ++ (⟨#[58, 32]⟩ : ByteArray) ++ f.2 ++ (⟨#[13, 10]⟩ : ByteArray)) (by first | rfl | (simp [Act.eval]; done)) (OwnsB.drew hown) (by first | rfl | (simp [Act.eval]; done)) (by omega) hb.size ?_; intro v2 w2 ho2 hg2)
      all_goals
        have hb02 := hb.grown (show wr.grownBy w2 _ from ⟨hg2.os, hg2.tape, hg2.output, hg2.size, hg2.block⟩) hb.size (OwnsB.from hown)
        rw [showF_text, ← HN.out] at ho2
        clear hown hb hg2 c1 c2 hst z1 z2
        go_wp2
        go_roundw
        case rel => exact ⟨k + 1, by omega, by go_num, ho2, hb02⟩
        case measure => simp [intOf]; omega
    · rw [showL_end hlt] at hown
      have ht := hown.text
      go_wp2
      go_ret
      exact ⟨rfl, hb⟩

theorem specShow (v : Value) (l : List Fl) (w : World) (h : Fls w v l) (hz : szL l ≤ 1048576) :
    Calls Tryz.prog 102 #[v] w fun e w' => e = .returned (.string (showA l)) ∧ Below w.heap.size w w' := by
  have hh := h
  obtain ⟨a, cap, rfl, _⟩ := hh
  cases hok : fldsOk l with
  | false =>
    have HN : Hid (⟨#[]⟩ = showA l) := showA_no hok
    go_enter Tryz.func102, Tryz.ntmps102
    go_wp2_with (go_at_call 68; refine (specOk _ l _ h hz).mono ?_; rw [hok]; rintro e w1 ⟨rfl, hb1⟩)
    go_ret
    exact ⟨ret_strT HN.out, hb1⟩
  | true =>
    have HN : Hid (⟨(showL l).toArray⟩ = showA l) := showA_yes hok
    have hgf := fun w1 h1 => specShowL (.slice a l.length cap) l w1 h1 hok
    generalize (⟨(showL l).toArray⟩ : ByteArray) = p at hgf HN
    go_enter Tryz.func102, Tryz.ntmps102
    go_wp2_with (first | (go_at_call 68; refine (specOk _ l _ h hz).mono ?_; rw [hok]; rintro e w1 ⟨rfl, hb1⟩) | (go_at_call 88; refine (hgf _ (h.kept hb1)).mono ?_; rintro e w2 ⟨rfl, hb2⟩))
    go_ret
    exact ⟨ret_strT HN.out, hb1.trans (hb2.mono hb1.size)⟩

set_option maxHeartbeats 1000000 in
theorem implShow (v : Value) (l : List Fl) (w : World) (h : Fls w v l) (hz : szL l ≤ 1048576) :
    Calls Tryz.prog 86 #[v] w fun e w' => e = .returned (.string (showA l)) ∧ Below w.heap.size w w' := by
  have hh := h
  obtain ⟨a, cap, rfl, h1, h2, h3⟩ := hh
  unfold maxLen at h2
  cases hok : fldsOk l with
  | false =>
    have HN : Hid (⟨#[]⟩ = showA l) := showA_no hok
    go_enter Tryz.func86, Tryz.ntmps86
    go_wp2_with (go_at_call 64; refine (implOk _ l _ h hz).mono ?_; rw [hok]; rintro e w1 ⟨rfl, hb1⟩)
    go_ret
    exact ⟨ret_strT HN.out, hb1⟩
  | true =>
    obtain ⟨hl, hfs⟩ := fldsOk_parts hok
    have HG : Hid (⟨(showL l).toArray⟩ = showA l) := showA_yes hok
    go_enter Tryz.func86, Tryz.ntmps86
    go_wp2_with (go_at_call 64; refine (implOk _ l _ h hz).mono ?_; rw [hok]; rintro e w1 ⟨rfl, hb1⟩)
    go_loopw [3, 11] (fun b i wr => ∃ (k : Nat), k ≤ l.length ∧ i = .int .i64 k ∧ OwnsB wr w.heap.size b (showL (l.take k)) ∧ Below w.heap.size w wr) (fun _ i _ => l.length - (intOf i).toNat)
    case atStart => exact ⟨0, Nat.zero_le _, rfl, OwnsB.nil _ _, hb1⟩
    case round =>
      clear hb1 h
      obtain ⟨k, hk, rfl, hown, hb⟩ := hrel
      have hsl := showL_length l hfs k hk
      by_cases hlt : k < l.length
      · obtain ⟨g, o, rfl, hg, hc⟩ := h3 (by omega)
        have c1 := (hb.cell (p := ⟨g, o + k * 2, none⟩) hg).trans (hc k hlt).1
        have c2 := (hb.cell (p := ⟨g, o + k * 2 + 1, none⟩) hg).trans (hc k hlt).2
        have hsz := fldOk_size (hfs l[k] (List.getElem_mem hlt))
        have HN : Hid (showL (l.take (k + 1)) = showL (l.take k) ++ showF l[k]) := showL_next hlt
        generalize l[k] = f at c1 c2 hsz HN
        generalize showL (l.take k) = s0 at hown hsl HN
        have d1 : (wr.alloc (.cells #[.string f.1, .string f.2] 81)).heap[wr.heap.size]? = some (.cells #[.string f.1, .string f.2] 81) := heap_alloc_new wr _
        have bl := box_lt wr (.cells #[.string f.1, .string f.2] 81)
        have hba := hb.alloc hb.size (.cells #[.string f.1, .string f.2] 81)
        have hoa := hown.alloc (.cells #[.string f.1, .string f.2] 81)
        have hun := OwnsB.under hown
        have l1 := len_of f.1
        have l2 := len_of f.2
        clear hc h3 hfs
        go_wp2_with (first
          | (at_builtin; refine wpList_pushStr _ rfl _ _ rfl w.heap.size _ _ f.1 rfl hoa rfl (by omega) hba.size ?_; intro v2 w2 ho2 hg2; have d2 := boxStays d1 hg2 (boxNe hoa d1); have hb2 := hba.grown hg2 hba.size (OwnsB.from hoa); have n2 : (s0 ++ f.1.data.toList).length ≤ 20000 := by rw [List.length_append]; omega)
          | (at_builtin; refine wpList_pushStr _ rfl _ _ rfl w.heap.size _ _ ⟨#[58, 32]⟩ rfl ho2 rfl (by show _ + 2 ≤ _; omega) hb2.size ?_; intro v3 w3 ho3 hg3; have d3 := boxAt (boxStays d2 hg3 (boxNe ho2 d2)); have hb3 := hb2.grown hg3 hb2.size (OwnsB.from ho2))
          | (at_builtin; refine wpList_pushStr _ rfl _ _ rfl w.heap.size _ _ f.2 rfl ho3 rfl (by rw [List.length_append]; show _ + 2 + _ ≤ _; omega) hb3.size ?_; intro v4 w4 ho4 hg4; have hb4 := hb3.grown hg4 hb3.size (OwnsB.from ho3))
          | (at_builtin; refine wpList_pushStr _ rfl _ _ rfl w.heap.size _ _ ⟨#[13, 10]⟩ rfl ho4 rfl (by rw [List.length_append, List.length_append]; show _ + 2 + _ + 2 ≤ _; omega) hb4.size ?_; intro v5 w5 ho5 hg5; have hb5 := hb4.grown hg5 hb4.size (OwnsB.from ho4)))
        have HX : Hid (s0 ++ f.1.data.toList ++ [58, 32] ++ f.2.data.toList ++ [13, 10] = showL (l.take (k + 1))) := by
          show _ = _
          rw [HN.out]
          simp [showF]
        have ho6 : OwnsB w5 w.heap.size v5 (showL (l.take (k + 1))) := by rw [← HX.out]; exact ho5
        clear hown hoa ho2 ho3 ho4 ho5 hb hba hb2 hb3 hb4 hg2 hg3 hg4 hg5 c1 c2 d1 d2 d3 HX HN
        go_roundw
        case rel => exact ⟨k + 1, by omega, by go_num, ho6, hb5⟩
        case measure => simp [intOf]; omega
      · rw [showL_end hlt] at hown
        have ht := hown.text
        have HN := HG
        go_wp2
        go_ret
        exact ⟨ret_strT HN.out, hb⟩
end Go.Proofs.YtmgmphkncgochaaGreatDoor
