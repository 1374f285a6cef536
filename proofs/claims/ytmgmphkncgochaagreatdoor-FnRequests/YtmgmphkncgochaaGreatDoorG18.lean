/-
  Rows of texts and of fields put behind one another; how large items are.
  DERIVED: THE SHELF's CONTRACTS AT THIS DUMP, IN PLAIN WORDS (tools/lay-plain.mjs out of 'YtmgmphkncgochaaGreatDoorShelfC.lean', which tools/lay-shelf.mjs wrote): THE SAME DECLARATIONS UNDER THE SAME NAMES: 'import', 'namespace', 'open', 'def', 'theorem' AND NOTHING ELSE: no command of the shelf's: FOR A HAND-IN. Each laying: the table of numbers ('.._ren') and one theorem, a field a fact of the dump's own or the kernel's comparison; each contract: ONE APPLICATION.
  A slice of fields that came in, opened.
-/
import Derived.Test.YtmgmphkncgochaaGreatDoorG16
import Derived.Test.YtmgmphkncgochaaGreatDoorG17
import Derived.Laws.AppendOwnNone
import Derived.Shelf.LaysM
import Derived.Shelf.Strings.Cut
import Derived.Test.YtmgmphkncgochaaGreatDoorProg
import Derived.Test.YtmgmphkncgochaaGreatDoorG02
import Derived.Deep.SlicePairs
import Derived.ChangeArms
import Derived.Lib.LaidU8
namespace Go.Proofs.YtmgmphkncgochaaGreatDoor
open Go.RowKit Go.Sort Go.Maps

/-- Texts appended to texts. -/
theorem wpList_catS {ops : Array Oper} {rest : List Oper} {o : Oper} {a : Act} {Q : Exit → Act → World → Prop} (w : World) (hgd : o.guard = none) (s x : Operand)
    (ho : o.op = .call { callee := .builtin .append, args := #[s, x], argTypes := #[74, 74] }) (B Bx : Nat) (v vx : Value) (l m : List ByteArray) (hs : a.eval s = v) (hown : OwnsS w B v l)
    (hx : a.eval x = vx) (hm : OwnsS w Bx vx m) (hlen : l.length + m.length ≤ 1000000) (hB : B ≤ w.heap.size)
    (h : ∀ v' w', OwnsS w' B v' (l ++ m) → w.grownBy w' v.ownBlock → wpList Tryz.prog ops Q rest (a.put o.dst v') w') :
    wpList Tryz.prog ops Q (o :: rest) a w := by
  obtain ⟨i0, hi, hz0, hz1, hz2⟩ := info_parts Tryz.info9
  have hm2 := hm
  obtain ⟨⟨g, cap, rfl, _, _⟩, _⟩ := hm
  have hat := hm2.at rfl
  refine wpList_append_own _ hgd s x 74 ho B 9 i0 (.string ⟨#[]⟩) 1 16 Tryz.underlying74 hi hz0 hz1 hz2 rfl (by decide) v l.length (l.map Value.string) hs hown.2 ⟨g, 0, none⟩ m.length cap (m.map Value.string) hx (by simp) ?_
    (by intro u hu; obtain ⟨c, _, rfl⟩ := List.mem_map.1 hu; rfl) (by unfold maxLen; omega) (by omega) hB ?_
  · intro j u hu
    have hj : j < m.length := by have := (List.getElem?_eq_some_iff.1 hu).1; simpa using this
    rw [addr_add, Nat.zero_add, hat j hj, ← hu]
    simp [hj]
  intro v' w' h1 h2 h3
  refine h v' w' ?_ h2
  have h1' : w'.ownsRow B 9 1 v' (l ++ m).length ((l ++ m).map Value.string) := by
    rw [List.map_append, List.length_append]
    exact h1
  refine ⟨?_, h1'⟩
  rcases h1'.2 with ⟨h0, _⟩ | ⟨g', cap', cur, hv, hb, hg, rest⟩
  · have hv := (h3.1 h0).1
    obtain ⟨g2, c2, e, _⟩ := hown.1
    rw [e] at hv
    cases hv
  · exact ⟨g', cap', hv, hb, (Array.getElem?_eq_some_iff.1 hg).1⟩

/-- Fields appended to fields. -/
theorem wpList_catF {ops : Array Oper} {rest : List Oper} {o : Oper} {a : Act} {Q : Exit → Act → World → Prop} (w : World) (hgd : o.guard = none) (s x : Operand)
    (ho : o.op = .call { callee := .builtin .append, args := #[s, x], argTypes := #[24, 24] }) (B Bx : Nat) (v vx : Value) (l m : List Fl) (hs : a.eval s = v) (hown : OwnsF w B v l)
    (hx : a.eval x = vx) (hm : HasF w Bx vx m) (hlen : l.length + m.length ≤ 1000000) (hB : B ≤ w.heap.size)
    (h : ∀ v' w', OwnsF w' B v' (l ++ m) → w.grownBy w' v.ownBlock → wpList Tryz.prog ops Q rest (a.put o.dst v') w') :
    wpList Tryz.prog ops Q (o :: rest) a w := by
  obtain ⟨i0, hi, hz0, hz1, hz2⟩ := info_parts Tryz.infoF
  have hm2 := hm
  rcases hm with ⟨rfl, rfl⟩ | ⟨g, cap, cur, rfl, _, _⟩
  · refine wpList_append_own_none hgd s x 24 ho B 81 i0 2 Tryz.underlying24 hi v l.length (cellsF l) hs hown hx ?_
    refine h v w (by rw [List.append_nil]; exact hown) (grown_self _ _)
  · refine wpList_append_own _ hgd s x 24 ho B 81 i0 (.agg #[.string ⟨#[]⟩, .string ⟨#[]⟩]) 2 32 Tryz.underlying24 hi hz0 hz1 hz2 rfl (by decide) v l.length (cellsF l) hs hown ⟨g, 0, none⟩ m.length cap (cellsF m) hx (cellsF_length m) (cells_of m hm2.at)
      (cellsF_one m) (by unfold maxLen; omega) (by omega) hB ?_
    intro v' w' h1 h2 _
    refine h v' w' ?_ h2
    unfold OwnsF
    rw [cellsF_append, List.length_append]
    exact h1

theorem partsF_size : ∀ (n : Nat) (l cur : List UInt8) (op : Bool), l.length ≤ n → ∀ p ∈ partsF cur op l, p.length ≤ cur.length + l.length := by
  intro n
  induction n with
  | zero =>
    intro l cur op h p hp
    have e : l = [] := List.eq_nil_of_length_eq_zero (by omega)
    subst e
    rw [partsF_nil] at hp
    rw [List.mem_singleton.1 hp]; simp
  | succ n ih =>
    intro l cur op h p hp
    cases l with
    | nil => rw [partsF_nil] at hp; rw [List.mem_singleton.1 hp]; simp
    | cons c r =>
      simp only [List.length_cons] at h ⊢
      by_cases h1 : op = false ∧ c.toNat = 44
      · obtain ⟨rfl, h1⟩ := h1
        rw [partsF_comma _ _ h1] at hp
        rcases List.mem_cons.1 hp with rfl | hp
        · omega
        · have := ih r [] false (by omega) p hp
          simp at this
          omega
      · by_cases h2 : c.toNat = 34
        · rw [partsF_quote _ _ _ h2] at hp
          have := ih r (cur ++ [c]) (!op) (by omega) p hp
          simp at this
          omega
        · by_cases h3 : op = true ∧ c.toNat = 92
          · obtain ⟨rfl, h3⟩ := h3
            rw [partsF_take _ _ h3] at hp
            cases r with
            | nil => simp at hp; subst hp; simp
            | cons d r =>
              simp only [List.length_cons] at h ⊢
              have := ih r (cur ++ [c] ++ [d]) true (by omega) p hp
              simp at this
              omega
          · rw [partsF_plain _ _ _ h1 h2 h3] at hp
            have := ih r (cur ++ [c]) op (by omega) p hp
            simp at this
            omega
theorem items_size (s : ByteArray) : ∀ x ∈ itemsA s, x.size ≤ 400 := by
  intro x hx
  cases h : visB s with
  | false => rw [← itemsA_no h] at hx; cases hx
  | true =>
    rw [← itemsA_yes h] at hx
    unfold itemsT itemsOf at hx
    obtain ⟨p, hp, hxp⟩ := List.mem_flatMap.1 hx
    have h1 := partsF_size s.data.toList.length s.data.toList [] false (Nat.le_refl _) p hp
    have h2 := visB_size h
    have h3 : s.data.toList.length = s.size := by simp
    unfold one at hxp
    split at hxp
    · rw [List.mem_singleton.1 hxp]
      have h4 := trimB_size ⟨p.toArray⟩
      have h5 : (⟨p.toArray⟩ : ByteArray).size = p.length := by show p.toArray.size = _; simp
      simp at h1
      omega
    · cases hxp
theorem rest_hop (ns : List ByteArray) : restB (ns.map lowS) = hopP ns := by
  funext f
  rw [hopP_any]
  unfold restB
  rw [List.any_map]
  rfl
theorem hopN_size : ∀ n ∈ hopN, n.size ≤ 400 := by decide
theorem strs_hop (w : World) : Strs ((w.alloc (.map #[] 0)).alloc (.cells (hopN.map Value.string).toArray 9)) (.slice (some ⟨w.heap.size + 1, 0, none⟩) 7 7) hopN := by
  have h := strs_lit (w.alloc (.map #[] 0)) hopN (by decide)
  have e : (w.alloc (.map #[] 0)).heap.size = w.heap.size + 1 := by simp
  rw [e] at h
  exact h
theorem owns_hop (w : World) : OwnsS (w.alloc (.cells (hopN.map Value.string).toArray 9)) w.heap.size (.slice (some ⟨w.heap.size, 0, none⟩) 7 7) hopN :=
  ⟨⟨w.heap.size, 7, rfl, Nat.le_refl _, by simp⟩, World.ownsRow_lit w (hopN.map Value.string).toArray 7 (Nat.le_refl _) (by unfold maxLen; decide) rfl⟩
theorem hopA_length (l : List Fl) : (hopA l).length ≤ 30 := (fldsOk_parts (hopA_ok l)).1
end Go.Proofs.YtmgmphkncgochaaGreatDoor
namespace Go.Proofs
open Go.Shelf
def Tryz.lays145_ren : Go.Shelf.Ren := ⟨fun | 145 => 121 | 220 => 144 | 219 => 163 | 217 => 176 | 225 => 159 | 224 => 158 | 267 => 180 | 266 => 192 | 314 => 194 | n => n, fun | 9 => 9 | 4 => 4 | 59 => 125 | 3 => 3 | 5 => 5 | 46 => 133 | 146 => 185 | 51 => 162 | n => n, fun | 1 => 1 | n => n⟩
theorem Tryz.lays145 : Go.Proofs.LaysM.n145 Tryz.prog Tryz.lays145_ren := {
  mixed := by kernel_rfl
  f145 := Tryz.func121.trans (congrArg some (by kernel_rfl))
  f217 := Tryz.func176.trans (congrArg some (by kernel_rfl))
  f219 := Tryz.func163.trans (congrArg some (by kernel_rfl))
  f220 := Tryz.func144.trans (congrArg some (by kernel_rfl))
  f224 := Tryz.func158.trans (congrArg some (by kernel_rfl))
  f225 := Tryz.func159.trans (congrArg some (by kernel_rfl))
  f266 := Tryz.func192.trans (congrArg some (by kernel_rfl))
  f267 := Tryz.func180.trans (congrArg some (by kernel_rfl))
  f314 := Tryz.func194.trans (congrArg some (by kernel_rfl))
  t3 := Tryz.underlying3
  a3 := Tryz.isAgg3
  z3 := Tryz.sizeOf3
  v3 := Tryz.zeroValue3
  t4 := Tryz.underlying4
  a4 := Tryz.isAgg4
  z4 := Tryz.sizeOf4
  v4 := Tryz.zeroValue4
  t5 := Tryz.underlying5
  a5 := Tryz.isAgg5
  z5 := Tryz.sizeOf5
  v5 := Tryz.zeroValue5
  t9 := Tryz.underlying9
  a9 := Tryz.isAgg9
  z9 := Tryz.sizeOf9
  v9 := Tryz.zeroValue9
  t46 := Tryz.underlying133
  a46 := Tryz.isAgg133
  z46 := Tryz.sizeOf133
  v46 := Tryz.zeroValue133
  t51 := Tryz.underlying162
  a51 := Tryz.isAgg162
  z51 := Tryz.sizeOf162
  v51 := Tryz.zeroValue162
  t59 := Tryz.underlying125
  a59 := Tryz.isAgg125
  z59 := Tryz.sizeOf125
  v59 := Tryz.zeroValue125
  t146 := Tryz.underlying185
  a146 := Tryz.isAgg185
  z146 := Tryz.sizeOf185
  v146 := Tryz.zeroValue185
  g1 := by kernel_rfl
  i3 := by kernel_rfl
  i4 := by kernel_rfl
  i5 := by kernel_rfl
  i9 := by kernel_rfl
  i46 := by kernel_rfl
  i51 := by kernel_rfl
  i59 := by kernel_rfl
  i146 := by kernel_rfl
  m1 := by kernel_rfl
  s1_3 := fun w h => Go.Proofs.cell_of_shapedOpen_int (zero := #[.int .i64 0]) (t := 3) h (of_decide_eq_true (by kernel_rfl)) (by kernel_rfl) rfl (by kernel_rfl) (by kernel_rfl) Tryz.underlying3 }
open Go.RowKit Go.Lib in
theorem Tryz.strings_Cut (s sep : ByteArray) (m : Int) (w : World) (hs : s.size < 4294967281) (hm : w.cell? ⟨1, 0, none⟩ = some (.int .i64 m)) :
    Calls Tryz.prog 121 #[.string s, .string sep] w fun e w' => e = .returned (.tuple #[.string ⟨(Lib.cut s.data.toList sep.data.toList).1.toArray⟩, .string ⟨(Lib.cut s.data.toList sep.data.toList).2.1.toArray⟩, .bool (Lib.cut s.data.toList sep.data.toList).2.2]) ∧ ∃ n, w' = w.drewN n :=
  Any.strings_Cut { Tryz.lays145 with } s sep m w hs hm
theorem Tryz.maxLen_cell (w : World) (h : w.ShapedOpen Tryz.prog) : ∃ m, w.cell? ⟨1, 0, none⟩ = some (.int .i64 m) := Tryz.lays145.s1_3 w h
end Go.Proofs
namespace Go.Proofs.YtmgmphkncgochaaGreatDoor
open Go.RowKit Go.ChangeShapes Go.WideShapes

theorem cell_lt {w : World} {b o : Nat} {v : Value} (h : w.cell? ⟨b, o, none⟩ = some v) : b < w.heap.size := by
  cases e : w.heap[b]? with
  | none => simp [World.cell?, e] at h
  | some x => exact (Array.getElem?_eq_some_iff.1 e).1
def strOf : Value → ByteArray
  | .string s => s
  | _ => ⟨#[]⟩
end Go.Proofs.YtmgmphkncgochaaGreatDoor
