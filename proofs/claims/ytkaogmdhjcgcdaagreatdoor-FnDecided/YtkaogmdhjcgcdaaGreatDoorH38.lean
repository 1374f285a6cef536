/-
  The program's Renewed by its contract: fields copied, fields laid over others.
  The program's methodOk, targetOk, statusOk, isBodiless, Framing, isUnframed, RequestOk and ResponseOk by their contracts.
  The program's policy by its contracts: keys, moments, what is a right object.
  A region that draws its order, as in RgH; what holds all along may speak of what the operations have left.
  The program's Renewed by its contract.
  A directive that is cut at its first = : what the specification reads of it.
  A map of methods that are bound to one struct, by texts: put together key by key, and asked.
-/
import Derived.Test.YtkaogmdhjcgcdaaGreatDoorH11
import Derived.Test.YtkaogmdhjcgcdaaGreatDoorH30
import Derived.Test.YtkaogmdhjcgcdaaGreatDoorH10
import Derived.Shelf.Strings.IndexAnyAll
import Derived.Test.YtkaogmdhjcgcdaaGreatDoorProg
import Derived.Test.YtkaogmdhjcgcdaaGreatDoorH14
import Derived.Test.YtkaogmdhjcgcdaaGreatDoorH07
import Derived.Test.YtkaogmdhjcgcdaaGreatDoorH01
import Derived.Test.YtkaogmdhjcgcdaaGreatDoorH16
import Derived.Lib.IndexMore
import Derived.Maps.OwnSet
import Derived.Handy
namespace Go.Proofs.YtkaogmdhjcgcdaaGreatDoor
open Go.RowKit Go.Sort Go.Maps
set_option linter.unusedVariables false
set_option linter.unusedSimpArgs false

/-- An append of one field to a full row: the row is made anew, wherever the field lies. -/
theorem wpList_growG {ops : Array Oper} {rest : List Oper} {o : Oper} {a : Act} {Q : Exit → Act → World → Prop} (w : World) (hgd : o.guard = none) (s x : Operand)
    (ho : o.op = .call { callee := .builtin .append, args := #[s, x], argTypes := #[24, 24] }) (B g gg : Nat) (l : List Fl) (f : Fl) (hs : a.eval s = .slice (some ⟨g, 0, none⟩) l.length l.length)
    (hown : HasF w B (.slice (some ⟨g, 0, none⟩) l.length l.length) l) (hx : a.eval x = .slice (some ⟨gg, 0, none⟩) 1 1) (hgg : w.heap[gg]? = some (.cells #[.string f.1, .string f.2] 105 (0, 0))) (hlen : l.length ≤ 1000)
    (h : ∀ g' cap w', OwnsF w' w.heap.size (.slice (some ⟨g', 0, none⟩) (l.length + 1) cap) (l ++ [f]) → l.length + 1 ≤ cap → w.grownBy w' none → wpList Tryz.prog ops Q rest (a.put o.dst (.slice (some ⟨g', 0, none⟩) (l.length + 1) cap)) w') :
    wpList Tryz.prog ops Q (o :: rest) a w := by
  obtain ⟨i0, hi, hz0, hz1, hz2⟩ := info_parts Tryz.infoF
  have hr := run_append_grow (P := Tryz.prog) w 24 o.type 105 i0 (.agg #[.string ⟨#[]⟩, .string ⟨#[]⟩]) Tryz.underlying24 hi hz0 ⟨g, 0, none⟩ l.length l.length (cellsF l) (by rw [cellsF_length, hz1]) (cells_of l hown.at)
    ⟨gg, 0, none⟩ 1 1 [.string f.1, .string f.2] (by rw [hz1]; rfl) (by
      intro j u hu
      rw [addr_add, Nat.zero_add, rowCell hgg]
      simpa using hu) (by omega) (by omega) (by rw [hz2]; exact growslice_fits (by omega) (by omega))
  refine wpList_plain hgd fun K hK => ?_
  unfold Oper.wp
  simp [execOp, ho, resolve, invoke, builtin, hs, hx, hr, Result.andThen]
  generalize hcap : grownCap w (l.length + 1) l.length 105 = cap
  have hge : l.length + 1 ≤ cap := by rw [← hcap]; exact grownCap_ge _ _ _ _
  have hle : cap ≤ maxLen := by rw [← hcap]; exact grownCap_le_maxLen _ _ _ _ (by unfold maxLen; omega)
  refine hK _ _ (h _ cap _ ?_ hge ⟨rfl, rfl, rfl, by simp, fun k hk _ => ?_⟩)
  · refine ⟨by rw [cellsF_length], .inr ⟨_, cap, _, by simp, by simp, heap_alloc_new _ _, by simpa using hge, hle, ?_, ?_⟩⟩
    · have := cellsF_length l
      simp [Builtin.zeroCells, Value.cells, this]
      omega
    · rw [cellsF_append]
      have := cellsF_length l
      rw [Array.toList_append]
      exact List.take_left' (l₁ := cellsF l ++ [.string f.1, .string f.2]) (i := (l ++ [f]).length * 2) (by simp [this]; omega)
  · rw [Below.heap_alloc _ _ _ (show k < w.drew.heap.size by simp; omega)]
    rfl
theorem rest_none (l : List Fl) : l.filter (restB []) = l := List.filter_eq_self.2 fun _ _ => rfl
theorem implCopied (v : Value) (l : List Fl) (w : World) (h : Fls w v l) (hl : l.length ≤ 900000) (hfs : ∀ f ∈ l, f.1.size ≤ 1048576 ∧ f.2.size ≤ 1048576) :
    Calls Tryz.prog 78 #[v] w fun e w' => (∃ g, e = .returned (.slice (some ⟨g, 0, none⟩) l.length l.length) ∧ HasF w' w.heap.size (.slice (some ⟨g, 0, none⟩) l.length l.length) l) ∧ Below w.heap.size w w' := by
  have hmm := @run_makeMap Tryz.prog
  obtain ⟨a, cap, rfl, _⟩ := id h
  have b0 := (Below.refl w.heap.size w).alloc (Nat.le_refl _) (.map #[] 0)
  have hc := implAllButN (.slice a l.length cap) l w.heap.size [] (w.alloc (.map #[] 0)) (h.kept b0) hl hfs (SetIs.made w)
  rw [rest_none] at hc
  have B0 : Hid (Below w.heap.size w (w.alloc (.map #[] 0))) := b0
  clear h b0 hfs
  go_enter Tryz.func78, Tryz.ntmps78
  go_wp2_with fail
  refine hc.mono ?_
  rintro e w1 ⟨⟨g, rfl, ho⟩, hb⟩
  have HO : Hid (HasF w1 w.heap.size (.slice (some ⟨g, 0, none⟩) l.length l.length) l) := ho.low (by simp)
  have HB : Hid (Below w.heap.size w w1) := past6 B0.out hb
  clear ho hb
  go_wp2
  go_ret
  exact ⟨⟨g, rfl, HO.out⟩, HB.out⟩
def frOv (l r : List Fl) (L : List Fl) (f : Fl) (va : Option Addr) (vc rc gr q g0 g5 c5 nr n3 k : Nat) (u32 u33 : Value) (t : Nat → Value) : Act := { tmps := #[.slice va l.length vc, .slice (some ⟨gr, q, none⟩) r.length rc, undef, undef, .slice none 0 0, .slice (some ⟨g5, 0, none⟩) L.length c5, undef, .pointer (some ⟨nr, 0, none⟩), .map (some (nr + 1)), .slice va l.length vc, .slice (some ⟨g0, 0, none⟩) l.length l.length, .slice (some ⟨gr, q, none⟩) r.length rc, .int .i64 (r.length : Int), .int .i64 (k : Int), .bool true, .pointer (some ⟨gr, q + k * 2, none⟩), .agg #[.string f.1, .string f.2], .map (some (nr + 1)), .map (some (nr + 1)), .pointer (some ⟨nr, 0, none⟩), .string f.1, .slice (some ⟨nr + 1 + 1, 0, none⟩) 1 1, .tuple #[], t 23, t 24, t 25, t 26, t 27, t 28, t 29, t 30, t 31, u32, u33, undef, undef], defers := [] }
def dOv (i : Nat) : Nat := if i = 0 then 23 else if i = 1 then 24 else if i = 2 then 25 else if i = 3 then 26 else if i = 4 then 27 else if i = 5 then 28 else if i = 6 then 29 else if i = 7 then 30 else if i = 8 then 31 else i + 5000
def GOv (l r : List Fl) (L : List Fl) (f : Fl) (va : Option Addr) (vc rc gr q g0 g5 c5 nr n3 k : Nat) (u32 u33 : Value) (i : Nat) (x : World) (v : Value) : Prop := match i with
  | 0 => v = (.slice (some ⟨g5, 0, none⟩) L.length c5)
  | 1 => v = (.map (some (nr + 1)))
  | 2 => ∃ gn, v = .slice (some ⟨gn, 0, none⟩) (wo L f.1).length (wo L f.1).length ∧ HasF x n3 (.slice (some ⟨gn, 0, none⟩) (wo L f.1).length (wo L f.1).length) (wo L f.1)
  | 3 => v = (.pointer (some ⟨nr, 0, none⟩))
  | 4 => v = (.string f.1)
  | 5 => v = (.pointer (some ⟨nr, 1, none⟩))
  | 6 => v = (.string f.2)
  | 7 => v = .agg #[.string f.1, .string f.2]
  | 8 => ∃ gg, v = .slice (some ⟨gg, 0, none⟩) 1 1 ∧ x.heap[gg]? = some (.cells #[.string f.1, .string f.2] 105 (0, 0))
  | _ => True
theorem GOv.keep (l r : List Fl) (L : List Fl) (f : Fl) (va : Option Addr) (vc rc gr q g0 g5 c5 nr n3 k : Nat) (u32 u33 : Value) {x y : World} (hb : Below x.heap.size x y) (j : Nat) (v : Value) (hj : j < 9) (h : GOv l r L f va vc rc gr q g0 g5 c5 nr n3 k u32 u33 j x v) : GOv l r L f va vc rc gr q g0 g5 c5 nr n3 k u32 u33 j y v := by
  rcases (show j = 0 ∨ j = 1 ∨ j = 2 ∨ j = 3 ∨ j = 4 ∨ j = 5 ∨ j = 6 ∨ j = 7 ∨ j = 8 by omega) with rfl | rfl | rfl | rfl | rfl | rfl | rfl | rfl | rfl
  · exact h
  · exact h
  · obtain ⟨gn, h1, h2⟩ := h; exact ⟨gn, h1, h2.kept hb⟩
  · exact h
  · exact h
  · exact h
  · exact h
  · exact h
  · obtain ⟨gg, h1, h2⟩ := h; exact ⟨gg, h1, (hb.block gg (Array.getElem?_eq_some_iff.1 h2).1).trans h2⟩
theorem dOv_ne {i j : Nat} (hi : i < 9) (hj : j < 9) (h : j ≠ i) : dOv j ≠ dOv i := by
  rcases (show i = 0 ∨ i = 1 ∨ i = 2 ∨ i = 3 ∨ i = 4 ∨ i = 5 ∨ i = 6 ∨ i = 7 ∨ i = 8 by omega) with rfl | rfl | rfl | rfl | rfl | rfl | rfl | rfl | rfl <;> rcases (show j = 0 ∨ j = 1 ∨ j = 2 ∨ j = 3 ∨ j = 4 ∨ j = 5 ∨ j = 6 ∨ j = 7 ∨ j = 8 by omega) with rfl | rfl | rfl | rfl | rfl | rfl | rfl | rfl | rfl <;> first | (exact absurd rfl h) | decide
set_option maxRecDepth 100000 in
set_option maxHeartbeats 8000000 in
theorem implOver (v x : Value) (l r : List Fl) (w : World) (h : Fls w v l) (hr : Fls w x r) (hl : l.length ≤ 100) (hrl : r.length ≤ 100) (hls : ∀ f ∈ l, f.1.size ≤ 1048576 ∧ f.2.size ≤ 1048576) (hrs : ∀ f ∈ r, f.1.size ≤ 1048576 ∧ f.2.size ≤ 1048576) :
    Calls Tryz.prog 79 #[v, x] w fun e w' => (∃ g, e = .returned (.slice (some ⟨g, 0, none⟩) (ovrL l r).length (ovrL l r).length) ∧ HasF w' w.heap.size (.slice (some ⟨g, 0, none⟩) (ovrL l r).length (ovrL l r).length) (ovrL l r)) ∧ Below w.heap.size w w' := by
  have hmm := @run_makeMap Tryz.prog
  have hcp := implCopied v l w h (by omega) hls
  obtain ⟨va, vc, rfl, _⟩ := id h
  obtain ⟨ra, rc, rfl, hx1, hx2, hx3⟩ := id hr
  have HX : Hid (Fls w (.slice ra r.length rc) r) := hr
  clear h hr
  go_enter Tryz.func79, Tryz.ntmps79
  go_wp2_with fail
  refine hcp.mono ?_
  rintro e w1 ⟨⟨g0, rfl, ho1⟩, hb1⟩
  clear hcp
  go_wp2_with fail
  go_loopw [5, 13] (fun u i wr => ∃ (k g c : Nat), k ≤ r.length ∧ i = .int .i64 k ∧ u = .slice (some ⟨g, 0, none⟩) (ovrL l (r.take k)).length c ∧ (ovrL l (r.take k)).length ≤ c ∧ Hid (HasF wr w.heap.size u (ovrL l (r.take k))) ∧ Hid (Below w.heap.size w wr)) (fun _ i _ => r.length - (intOf i).toNat)
  case atStart => exact ⟨0, g0, l.length, Nat.zero_le _, rfl, rfl, Nat.le_refl _, ho1, hb1⟩
  case round =>
    clear ho1 hb1
    obtain ⟨k, g5, c5, hk, rfl, rfl, hc5, hown, hb⟩ := hrel
    by_cases hlt : k < r.length
    · obtain ⟨gr, q, rfl, hg, hc⟩ := hx3 (by omega)
      have c1 := (hb.out.cell (p := ⟨gr, q + k * 2, none⟩) hg).trans (hc k hlt).1
      have c2 := (hb.out.cell (p := ⟨gr, q + k * 2 + 1, none⟩) hg).trans (hc k hlt).2
      have HNX : Hid (ovrL l (r.take (k + 1)) = wo (ovrL l (r.take k)) r[k].1 ++ [r[k]]) := ovrL_next _ hlt
      have hsz := ovrL_size (r.take k) l
      have hme := ovrL_mem (r.take k) l
      have hLl : (ovrL l (r.take k)).length ≤ 200 := by
        have h1 := hsz.1
        rw [List.length_take] at h1
        omega
      have hLs : Hid (∀ f ∈ ovrL l (r.take k), f.1.size ≤ 1048576 ∧ f.2.size ≤ 1048576) := fun f hf => by
        rcases hme f hf with h1 | h1
        · exact hls f h1
        · exact hrs f (List.mem_of_mem_take h1)
      have hfn := hrs r[k] (List.getElem_mem hlt)
      have hlr : k < r.length := hlt
      clear hsz hme hc
      generalize r[k] = f at c1 c2 HNX hfn
      generalize hLL : ovrL l (r.take k) = L at hown HNX hLl hLs hc5 ⊢
      clear hLL
      have lgr : gr < wr.heap.size := by have := hb.out.size; omega
      have hst : Strs (((wr.alloc (.cells #[.string f.1, .string f.2] 105)).alloc (.map #[] 0)).alloc (.cells #[.string f.1] 9)) (.slice (some ⟨wr.heap.size + 1 + 1, 0, none⟩) 1 1) [f.1] := by
        have := strs_one (wr.alloc (.cells #[.string f.1, .string f.2] 105)) f.1
        simp only [World.size_alloc] at this
        exact this
      have hs0 : SetIs (((wr.alloc (.cells #[.string f.1, .string f.2] 105)).alloc (.map #[] 0)).alloc (.cells #[.string f.1] 9)) (wr.heap.size + 1) [] := by
        have := (SetIs.made (wr.alloc (.cells #[.string f.1, .string f.2] 105))).kept ((Below.refl _ _).alloc (Nat.le_refl _) (.cells #[.string f.1] 9))
        simp only [World.size_alloc] at this
        exact this
      have bw : Below wr.heap.size wr (((wr.alloc (.cells #[.string f.1, .string f.2] 105)).alloc (.map #[] 0)).alloc (.cells #[.string f.1] 9)) := (((Below.refl _ wr).alloc (Nat.le_refl _) _).alloc (by simp) _).alloc (by simp; omega) _
      have d0 : (((wr.alloc (.cells #[.string f.1, .string f.2] 105)).alloc (.map #[] 0)).alloc (.cells #[.string f.1] 9)).heap[wr.heap.size]? = some (.cells #[.string f.1, .string f.2] 105 (0, 0)) := by
        have e1 := newAt wr (.cells #[.string f.1, .string f.2] 105)
        have e2 := (((Below.refl _ (wr.alloc (.cells #[.string f.1, .string f.2] 105))).alloc (Nat.le_refl _) (.map #[] 0)).alloc (by simp) (.cells #[.string f.1] 9)).block wr.heap.size (by simp)
        exact e2.trans e1
      have ha := implAdd (wr.heap.size + 1) [] _ [f.1] (((wr.alloc (.cells #[.string f.1, .string f.2] 105)).alloc (.map #[] 0)).alloc (.cells #[.string f.1] 9)) hs0 hst (fun j hj => by simp [Value.ownBlock] at hj; omega) (by simpa using hfn.1) (by simp)
      have HB3 : Hid (Below wr.heap.size wr (((wr.alloc (.cells #[.string f.1, .string f.2] 105)).alloc (.map #[] 0)).alloc (.cells #[.string f.1] 9))) := bw
      have HD3 : Hid ((((wr.alloc (.cells #[.string f.1, .string f.2] 105)).alloc (.map #[] 0)).alloc (.cells #[.string f.1] 9)).heap[wr.heap.size]? = some (.cells #[.string f.1, .string f.2] 105 (0, 0))) := d0
      clear hst hs0 bw d0
      go_wp2_with fail
      generalize (((wr.alloc (.cells #[.string f.1, .string f.2] 105)).alloc (.map #[] 0)).alloc (.cells #[.string f.1] 9)) = ws at ha HB3 HD3 ⊢
      refine ha.mono ?_
      rintro e w3 ⟨rfl, hs3, hg3⟩
      have hwz := HB3.out.size
      have hb3 : Hid (Below wr.heap.size wr w3) := belowE10 HB3.out hg3 HB3.out.size (fun j hj => by cases hj; omega)
      have hD : Hid (w3.heap[wr.heap.size]? = some (.cells #[.string f.1, .string f.2] 105 (0, 0))) := (hg3.block wr.heap.size (Array.getElem?_eq_some_iff.1 HD3.out).1 (by simp)).trans HD3.out
      have hS3 : Hid (SetIs w3 (wr.heap.size + 1) [lowS f.1]) := hs3
      clear ha HB3 HD3 hg3 hs3 hwz
      go_upto_region 7 with fail
      refine region_heads 9 mixed (by decide) (by kernel_rfl) (by kernel_rfl) (by kernel_rfl) (by kernel_rfl) (frOv l r L f va vc rc gr q g0 g5 c5 wr.heap.size w3.heap.size k u32 u33) dOv (Below w3.heap.size w3) (GOv l r L f va vc rc gr q g0 g5 c5 wr.heap.size w3.heap.size k u32 u33) (fun i j hi hj h => dOv_ne hi hj h) ?put (fun i => if i = 23 then u23 else if i = 24 then u24 else if i = 25 then u25 else if i = 26 then u26 else if i = 27 then u27 else if i = 28 then u28 else if i = 29 then u29 else if i = 30 then u30 else if i = 31 then u31 else undef) rfl ?hS ?step ?done
      case put =>
        intro i o hi ho t v
        rcases (show i = 0 ∨ i = 1 ∨ i = 2 ∨ i = 3 ∨ i = 4 ∨ i = 5 ∨ i = 6 ∨ i = 7 ∨ i = 8 by omega) with rfl | rfl | rfl | rfl | rfl | rfl | rfl | rfl | rfl
        all_goals
          obtain rfl := Option.some.inj ho
          rfl
      case step =>
        intro i o hi ho t x hS hdep K hK
        rcases (show i = 0 ∨ i = 1 ∨ i = 2 ∨ i = 3 ∨ i = 4 ∨ i = 5 ∨ i = 6 ∨ i = 7 ∨ i = 8 by omega) with rfl | rfl | rfl | rfl | rfl | rfl | rfl | rfl | rfl
        all_goals obtain rfl := Option.some.inj ho
        · have HK : Hid (K ((frOv l r L f va vc rc gr q g0 g5 c5 wr.heap.size w3.heap.size k u32 u33 t).put (some 23) (.slice (some ⟨g5, 0, none⟩) L.length c5)) x) := hK _ _ hS (fun j u hj hne h => h) rfl
          have h2 := HK.out
          unfold frOv at h2 ⊢
          go_simp
          simpa [Act.put, Act.put] using h2
        · have HK : Hid (K ((frOv l r L f va vc rc gr q g0 g5 c5 wr.heap.size w3.heap.size k u32 u33 t).put (some 24) (.map (some (wr.heap.size + 1)))) x) := hK _ _ hS (fun j u hj hne h => h) rfl
          have h2 := HK.out
          unfold frOv at h2 ⊢
          go_simp
          simpa [Act.put, Act.put] using h2
        · have e0 : t 23 = (.slice (some ⟨g5, 0, none⟩) L.length c5) := hdep { on := 0, ground := Ground.data } (by simp) rfl
          have e1 : t 24 = (.map (some (wr.heap.size + 1))) := hdep { on := 1, ground := Ground.data } (by simp) rfl
          have hcb := implAllButN (.slice (some ⟨g5, 0, none⟩) L.length c5) L (wr.heap.size + 1) [lowS f.1] x (((hown.out.fls.kept hb3.out).kept hS)) (by omega) hLs.out (hS3.out.kept hS)
          rw [rest_one] at hcb
          refine step_call2 rfl 113 (.tmp 23) (.tmp 24) _ rfl _ _ e0 e1 (Go.Proofs.enters_of Tryz.func113 (by kernel_rfl) rfl _) (fun v y => (∃ gn, v = .slice (some ⟨gn, 0, none⟩) (wo L f.1).length (wo L f.1).length ∧ HasF y w3.heap.size (.slice (some ⟨gn, 0, none⟩) (wo L f.1).length (wo L f.1).length) (wo L f.1)) ∧ Below x.heap.size x y) (hcb.mono ?_) ?_
          · rintro e y ⟨⟨gn, h0, h1⟩, h2⟩
            exact ⟨_, h0, ⟨gn, rfl, h1.low hS.size⟩, h2⟩
          · rintro v y ⟨h1, h2⟩
            exact hK v y (hS.trans (h2.mono hS.size)) (fun j u hj hne h => GOv.keep l r L f va vc rc gr q g0 g5 c5 wr.heap.size w3.heap.size k u32 u33 h2 j u hj h) h1
        · have HK : Hid (K ((frOv l r L f va vc rc gr q g0 g5 c5 wr.heap.size w3.heap.size k u32 u33 t).put (some 26) (.pointer (some ⟨wr.heap.size, 0, none⟩))) x) := hK _ _ hS (fun j u hj hne h => h) rfl
          have h2 := HK.out
          unfold frOv at h2 ⊢
          go_simp
          simpa [Act.put, Act.put] using h2
        · have e3 : t 26 = (.pointer (some ⟨wr.heap.size, 0, none⟩)) := hdep { on := 3, ground := Ground.data } (by simp) rfl
          have c0 : x.cell? ⟨wr.heap.size, 0, none⟩ = some (.string f.1) := rowCell ((hS.block wr.heap.size (Array.getElem?_eq_some_iff.1 hD.out).1).trans hD.out)
          have HK : Hid (K ((frOv l r L f va vc rc gr q g0 g5 c5 wr.heap.size w3.heap.size k u32 u33 t).put (some 27) (.string f.1)) x) := hK _ _ hS (fun j u hj hne h => h) rfl
          have h2 := HK.out
          unfold frOv at h2 ⊢
          go_simp
          simpa [Act.put, e3, c0] using h2
        · have HK : Hid (K ((frOv l r L f va vc rc gr q g0 g5 c5 wr.heap.size w3.heap.size k u32 u33 t).put (some 28) (.pointer (some ⟨wr.heap.size, 1, none⟩))) x) := hK _ _ hS (fun j u hj hne h => h) rfl
          have h2 := HK.out
          unfold frOv at h2 ⊢
          go_simp
          simpa [Act.put, Act.put] using h2
        · have e5 : t 28 = (.pointer (some ⟨wr.heap.size, 1, none⟩)) := hdep { on := 5, ground := Ground.data } (by simp) rfl
          have c0 : x.cell? ⟨wr.heap.size, 1, none⟩ = some (.string f.2) := rowCell ((hS.block wr.heap.size (Array.getElem?_eq_some_iff.1 hD.out).1).trans hD.out)
          have HK : Hid (K ((frOv l r L f va vc rc gr q g0 g5 c5 wr.heap.size w3.heap.size k u32 u33 t).put (some 29) (.string f.2)) x) := hK _ _ hS (fun j u hj hne h => h) rfl
          have h2 := HK.out
          unfold frOv at h2 ⊢
          go_simp
          simpa [Act.put, e5, c0] using h2
        · have e4 : t 27 = .string f.1 := hdep { on := 4, ground := Ground.data } (by simp) rfl
          have e6 : t 29 = .string f.2 := hdep { on := 6, ground := Ground.data } (by simp) rfl
          refine step_call2 rfl 115 (.tmp 27) (.tmp 29) _ rfl _ _ e4 e6 (Go.Proofs.enters_of Tryz.func115 (by kernel_rfl) rfl _) (fun v y => v = .agg #[.string f.1, .string f.2] ∧ Below x.heap.size x y) ((implNew f.1 f.2 x hfn.1 hfn.2).mono ?_) ?_
          · rintro e y ⟨h0, h2⟩
            exact ⟨_, h0, rfl, h2⟩
          · rintro v y ⟨h1, h2⟩
            exact hK v y (hS.trans (h2.mono hS.size)) (fun j u hj hne h => GOv.keep l r L f va vc rc gr q g0 g5 c5 wr.heap.size w3.heap.size k u32 u33 h2 j u hj h) h1
        · have e7 : t 30 = .agg #[.string f.1, .string f.2] := hdep { on := 7, ground := Ground.data } (by simp) rfl
          have hba := (Below.refl x.heap.size x).alloc (Nat.le_refl _) (.cells #[.string f.1, .string f.2] 105)
          have HK : Hid (K ((frOv l r L f va vc rc gr q g0 g5 c5 wr.heap.size w3.heap.size k u32 u33 t).put (some 31) (.slice (some ⟨x.heap.size, 0, none⟩) 1 1)) (x.alloc (.cells #[.string f.1, .string f.2] 105))) := hK _ _ (hS.trans (hba.mono hS.size)) (fun j u hj hne h => GOv.keep l r L f va vc rc gr q g0 g5 c5 wr.heap.size w3.heap.size k u32 u33 hba j u hj h) ⟨x.heap.size, rfl, newAt x _⟩
          have h2 := HK.out
          unfold frOv at h2 ⊢
          go_simp
          simpa [Act.put, e7] using h2
      case hS => exact ⟨rfl, rfl, rfl, Nat.le_refl _, fun _ _ => rfl⟩
      case done =>
        intro t x hS hG
        obtain ⟨gn, e25, hn⟩ : ∃ gn, t 25 = .slice (some ⟨gn, 0, none⟩) (wo L f.1).length (wo L f.1).length ∧ HasF x w3.heap.size (.slice (some ⟨gn, 0, none⟩) (wo L f.1).length (wo L f.1).length) (wo L f.1) := hG 2 (by decide)
        obtain ⟨gg, e31, hgg⟩ : ∃ gg, t 31 = .slice (some ⟨gg, 0, none⟩) 1 1 ∧ x.heap[gg]? = some (.cells #[.string f.1, .string f.2] 105 (0, 0)) := hG 8 (by decide)
        have hwl := wo_length L f.1
        have HX1 : Hid (Below w.heap.size w x) := (hb.out.trans (hb3.out.mono hb.out.size)).trans (hS.mono (by have := hb.out.size; have := hb3.out.size; omega))
        have hwz : w.heap.size ≤ x.heap.size := HX1.out.size
        show wpList Tryz.prog _ _ [_, _] _ x
        unfold frOv
        rw [e25, e31]
        generalize wo L f.1 = M at hn HNX hwl
        clear e25 e31 hG hS hown hLs hD hS3 hb3 hb
        refine wpList_growG _ rfl (.tmp 25) (.tmp 31) rfl w3.heap.size gn gg M f rfl hn rfl hgg (by omega) ?_
        intro g6 c6 w6 ho6 hc6 hg6
        have HX6 : Hid (Below w.heap.size w w6) := belowE10 HX1.out hg6 hwz (fun j hj => by cases hj)
        have HO6 : Hid (HasF w6 w.heap.size (.slice (some ⟨g6, 0, none⟩) (M.length + 1) c6) (M ++ [f])) := (ho6.low hwz).has
        clear ho6 hg6 HX1 hn hgg
        go_wp2_with fail
        go_roundw
        case rel => exact ⟨k + 1, g6, c6, by omega, by go_num, by rw [HNX.out]; simp, by rw [HNX.out]; simpa using hc6, by rw [HNX.out]; exact HO6, HX6⟩
        case measure => simp [intOf]; omega
    · have HN : Hid (ovrL l (r.take k) = ovrL l r) := by show _ = _; rw [List.take_of_length_le (by omega)]
      rw [HN.out] at hc5 hown
      rw [HN.out]
      have hroom := fun w => implRoom g5 (ovrL l r).length c5 w hc5
      go_wp2_with fail
      refine (hroom _).mono ?_
      rintro e w2 ⟨rfl, rfl⟩
      go_wp2
      go_ret
      exact ⟨⟨g5, rfl, hown.out.cut rfl⟩, hb.out⟩
end Go.Proofs.YtkaogmdhjcgcdaaGreatDoor
namespace Go.Proofs.YtkaogmdhjcgcdaaGreatDoor
open Go.RowKit
theorem implSta (x : Int) (w : World) :
    Calls Tryz.prog 95 #[.int .i64 x] w fun e w' => e = .returned (.bool (decide (200 ≤ x ∧ x ≤ 599))) ∧ w = w' := by
  obtain ⟨b, hb⟩ : ∃ b, decide (200 ≤ x ∧ x ≤ 599) = b := ⟨_, rfl⟩
  rw [hb]
  by_cases h1 : 200 ≤ x
  · have H0 : Hid (decide (x ≤ 599) = b) := by show decide (x ≤ 599) = b; rw [← hb]; simp [h1]
    have d1 : decide (200 ≤ x) = true := by simpa using h1
    clear hb
    go_enter Tryz.func95, Tryz.ntmps95
    go_wp2
    go_ret
    exact ⟨ret_bool H0.out, rfl⟩
  · have H0 : Hid (false = b) := by show false = b; rw [← hb]; simp [h1]
    have d1 : decide (200 ≤ x) = false := by simpa using h1
    clear hb
    go_enter Tryz.func95, Tryz.ntmps95
    go_wp2
    go_ret
    exact ⟨ret_bool H0.out, rfl⟩
theorem implBare (s : Int) (w : World) :
    Calls Tryz.prog 94 #[.int .i64 s] w fun e w' => e = .returned (.bool (bareB s)) ∧ w = w' := by
  by_cases h1 : s = 204
  · subst h1
    have H0 : Hid (true = bareB 204) := rfl
    go_enter Tryz.func94, Tryz.ntmps94
    go_wp2
    go_ret
    exact ⟨ret_bool H0.out, rfl⟩
  · have d1 : (s == 204) = false := by simp [h1]
    by_cases h2 : s = 304
    · subst h2
      have H0 : Hid (true = bareB 304) := rfl
      go_enter Tryz.func94, Tryz.ntmps94
      go_wp2
      go_ret
      exact ⟨ret_bool H0.out, rfl⟩
    · have d2 : (s == 304) = false := by simp [h2]
      have H0 : Hid (false = bareB s) := by show false = bareB s; unfold bareB; simp [h1, h2]
      go_enter Tryz.func94, Tryz.ntmps94
      go_wp2
      go_ret
      exact ⟨ret_bool H0.out, rfl⟩

/-! ### Where it ends -/
theorem fold_void (n : ByteArray) : ∀ (l : List Fl) (p : ByteArray × Bool), (l.foldl (gStep n) p).2 = false → l.foldl (gStep n) p = p
  | [], _, _ => rfl
  | f :: l, p, h => by
    rw [List.foldl_cons] at h ⊢
    have e := fold_void n l _ h
    rw [e] at h ⊢
    unfold gStep at h ⊢
    split
    · rename_i hh; rw [if_pos hh] at h; cases h
    · rfl
theorem getF_void {l : List Fl} {n : ByteArray} (h : (getF l n).2 = false) : (getF l n).1 = ⟨#[]⟩ := by
  have := fold_void n l _ h
  unfold getF
  rw [this]
theorem low_void : lowS ⟨#[]⟩ = ⟨#[]⟩ := rfl
theorem void_ch : ¬ lowS ⟨#[]⟩ = chS := by rw [low_void]; intro e; have := congrArg ByteArray.size e; revert this; decide
theorem num_void : numOk 10 15 ⟨#[]⟩ = false := by decide +kernel
set_option maxHeartbeats 1000000 in
theorem implFrm (v : Value) (l : List Fl) (w : World) (h : Fits w v l) :
    Calls Tryz.prog 124 #[v] w fun e w' => e = .returned (frmE (frm l)) ∧ Below w.heap.size w w' := by
  have hz := h.2.1
  obtain ⟨a, cap, rfl, hcap⟩ := h.1
  have HF : Hid (Fits w (.slice a l.length cap) l) := h
  clear h hcap
  cases hok : fldsOk l with
  | false =>
    have H0 : Hid ((3, 0) = frm l) := frm_bad hok
    go_enter Tryz.func124, Tryz.ntmps124
    go_wp2_with (go_at_call 60; refine (implOk _ l _ HF.out.1 hz).mono ?_; rw [hok]; rintro e w1 ⟨rfl, hb1⟩)
    go_ret2
    exact ⟨ret_frm H0.out, hb1⟩
  | true =>
    have F0 := @frm_neither l hok
    have F1 := @frm_both l hok
    have F2 := @frm_len l hok
    have F3 := @frm_nolen l hok
    have F4 := @frm_ch l hok
    have F5 := @frm_noch l hok
    have zx := getF_fits clS hok
    have zy := getF_fits teS hok
    have vx : (getF l clS).2 = false → (getF l clS).1 = ⟨#[]⟩ := getF_void
    have vy : (getF l teS).2 = false → (getF l teS).1 = ⟨#[]⟩ := getF_void
    have hg1 : Hid (∀ w, Fits w (.slice a l.length cap) l → Calls Tryz.prog 103 #[.slice a l.length cap, .string clS] w fun e w' => e = .returned (.tuple #[.string (getF l clS).1, .bool (getF l clS).2]) ∧ Below w.heap.size w w') := fun w h => by have := implGet _ l clS w h.1 h.2.1 (by decide); unfold getE at this; rw [← getA_yes clS hok] at this; exact this
    have hg2 : Hid (∀ w, Fits w (.slice a l.length cap) l → Calls Tryz.prog 103 #[.slice a l.length cap, .string teS] w fun e w' => e = .returned (.tuple #[.string (getF l teS).1, .bool (getF l teS).2]) ∧ Below w.heap.size w w') := fun w h => by have := implGet _ l teS w h.1 h.2.1 (by decide); unfold getE at this; rw [← getA_yes teS hok] at this; exact this
    generalize frm l = fr at F0 F1 F2 F3 F4 F5 ⊢
    generalize getF l clS = gx at F0 F1 F2 F3 F4 F5 zx vx hg1
    generalize getF l teS = gy at F0 F1 F2 F3 F4 F5 zy vy hg2
    obtain ⟨x, p⟩ := gx
    obtain ⟨y, q⟩ := gy
    simp only at F0 F1 F2 F3 F4 F5 zx zy vx vy hg1 hg2
    have G0 : Hid _ := F0
    have G1 : Hid _ := F1
    have G2 : Hid _ := F2
    have G3 : Hid _ := F3
    have G4 : Hid _ := F4
    have G5 : Hid _ := F5
    have VX : Hid (p = false → x = ⟨#[]⟩) := vx
    have VY : Hid (q = false → y = ⟨#[]⟩) := vy
    clear F0 F1 F2 F3 F4 F5 vx vy
    unfold clS at hg1
    unfold teS at hg2
    go_enter Tryz.func124, Tryz.ntmps124
    go_wp2_with fail
    refine (implOk _ l _ HF.out.1 hz).mono ?_
    rw [hok]
    rintro e w1 ⟨rfl, hb1⟩
    have HF1 : Hid (Fits w1 (.slice a l.length cap) l) := HF.out.kept hb1
    clear HF
    go_wp2_with fail
    refine (hg1.out _ HF1.out).mono ?_
    rintro e w2 ⟨rfl, hb2'⟩
    have hb2 := past6 hb1 hb2'
    have HF2 : Hid (Fits w2 (.slice a l.length cap) l) := HF1.out.kept hb2'
    clear hb1 hb2' hg1 HF1
    go_wp2_with fail
    refine (hg2.out _ HF2.out).mono ?_
    rintro e w3 ⟨rfl, hb3'⟩
    have hb3 := past6 hb2 hb3'
    clear hb2 hb3' hg2 HF2
    go_wp2_with fail
    refine (implDig x _ (le_max (by omega))).mono ?_
    unfold numE
    rintro e w4 ⟨rfl, hb4'⟩
    have hb4 : Below w.heap.size w w4 := past6 hb3 hb4'
    clear hb3 hb4'
    cases p with
    | false =>
      cases q with
      | false =>
        have H0 : Hid ((0, 0) = fr) := G0.out rfl rfl
        clear G0 G1 G2 G3 G4 G5
        go_wp2
        go_ret2
        exact ⟨ret_frm H0.out, hb4⟩
      | true =>
        have hn0 : numOk 10 15 x = false := by rw [VX.out rfl]; exact num_void
        rw [hn0]
        generalize numV 10 15 x = n0
        clear hn0
        by_cases hc : lowS y = chS
        · have H0 : Hid ((2, 0) = fr) := G4.out rfl rfl hc
          have hq := same_ch (same_yes hc)
          clear G0 G1 G2 G3 G4 G5 hc
          go_wp2_with (go_at_call 129; refine (implLow y _ (le_max (by omega))).mono ?_; rintro e w5 ⟨rfl, hb5⟩)
          go_ret2
          exact ⟨ret_frm H0.out, past6 hb4 hb5⟩
        · have H0 : Hid ((3, 0) = fr) := G5.out rfl rfl hc
          have hq := same_ch (same_no hc)
          clear G0 G1 G2 G3 G4 G5 hc
          go_wp2_with (go_at_call 129; refine (implLow y _ (le_max (by omega))).mono ?_; rintro e w5 ⟨rfl, hb5⟩)
          go_ret2
          exact ⟨ret_frm H0.out, past6 hb4 hb5⟩
    | true =>
      cases q with
      | true =>
        have H0 : Hid ((3, 0) = fr) := G1.out rfl rfl
        clear G0 G1 G2 G3 G4 G5
        go_wp2
        go_ret2
        exact ⟨ret_frm H0.out, hb4⟩
      | false =>
        have g2 := G2.out rfl rfl
        have g3 := G3.out rfl rfl
        have hy : Hid (y = ⟨#[]⟩) := VY.out rfl
        have hq : ((lowS y).toList == [99, 104, 117, 110, 107, 101, 100]) = false := by rw [hy.out]; exact same_ch (same_no void_ch)
        generalize numV 10 15 x = n at g2 g3 ⊢
        generalize numOk 10 15 x = o at g2 g3 ⊢
        clear G0 G1 G2 G3 G4 G5
        cases o with
        | false =>
          have H0 : Hid ((3, 0) = fr) := g3 (by simp)
          clear g2 g3
          go_wp2_with (go_at_call 129; refine (implLow y _ (le_max (by omega))).mono ?_; rintro e w5 ⟨rfl, hb5⟩)
          go_ret2
          exact ⟨ret_frm H0.out, past6 hb4 hb5⟩
        | true =>
          by_cases hn : n ≤ 4000
          · have H0 : Hid ((1, n) = fr) := g2 ⟨rfl, hn⟩
            have d1 : decide (n ≤ 4000) = true := by simpa using hn
            clear g2 g3
            go_wp2
            go_ret2
            exact ⟨ret_frm H0.out, hb4⟩
          · have H0 : Hid ((3, 0) = fr) := g3 (by simp [hn])
            have d1 : decide (n ≤ 4000) = false := by simpa using hn
            clear g2 g3
            go_wp2_with (go_at_call 129; refine (implLow y _ (le_max (by omega))).mono ?_; rintro e w5 ⟨rfl, hb5⟩)
            go_ret2
            exact ⟨ret_frm H0.out, past6 hb4 hb5⟩
theorem own_frm (l : List Fl) : ((frm l).1 == 0) = ownB l := by
  unfold ownB frm
  cases fldsOk l with
  | false => rfl
  | true =>
    rw [if_pos rfl]
    cases (getF l clS).2 with
    | true =>
      rw [if_pos rfl]
      split
      · rfl
      · split <;> rfl
    | false =>
      rw [if_neg (by decide)]
      cases (getF l teS).2 with
      | true => rw [if_pos rfl]; split <;> rfl
      | false => rw [if_neg (by decide)]; rfl
theorem implUnf (v : Value) (l : List Fl) (w : World) (h : Fits w v l) :
    Calls Tryz.prog 96 #[v] w fun e w' => e = .returned (.bool (ownB l)) ∧ Below w.heap.size w w' := by
  have hf := implFrm v l w h
  have H0 : Hid (((frm l).1 == 0) = ownB l) := own_frm l
  obtain ⟨a, cap, rfl, hcap⟩ := h.1
  clear hcap h
  unfold frmE at hf
  generalize frm l = fr at hf H0
  obtain ⟨k, n⟩ := fr
  simp only at hf H0
  go_enter Tryz.func96, Tryz.ntmps96
  go_wp2_with (go_at_call 124; refine hf.mono ?_; rintro e w1 ⟨rfl, hb1⟩)
  go_ret
  exact ⟨ret_bool H0.out, hb1⟩
theorem rsOk_bad {r : Rs} (h4 : bareB r.s = true) (h5 : ¬ r.b.size = 0) : false = rsOk r := by unfold rsOk; rw [h4, decide_eq_false h5]; simp
theorem rsOk_is2 {r : Rs} (h : decide (200 ≤ r.s ∧ r.s ≤ 599) = true) (h2 : ownB r.l = true) (h4 : bareB r.s = false ∨ r.b.size = 0) : decide ((r.b.size : Int) ≤ 4000) = rsOk r := by
  unfold rsOk
  rw [h, h2]
  have e : (!bareB r.s || decide (r.b.size = 0)) = true := by rcases h4 with h4 | h4 <;> simp [h4]
  rw [e]
  by_cases hb : r.b.size ≤ 4000
  · rw [decide_eq_true hb, decide_eq_true (by omega)]; rfl
  · rw [decide_eq_false hb, decide_eq_false (by omega)]; rfl
set_option maxHeartbeats 1000000 in
theorem implRsOk_tail (r : Rs) (v : Value) (w : World) (h : RsIn w v r) (h4 : bareB r.s = false ∨ r.b.size = 0) :
    Calls Tryz.prog 56 #[rsV r v] w fun e w' => e = .returned (.bool (rsOk r)) ∧ Below w.heap.size w w' := by
  obtain ⟨hf, z3⟩ := h
  have hfs := hf.1
  obtain ⟨a, cap, rfl, hcap⟩ := hfs
  clear hcap
  unfold rsV
  have F0 : Hid (Fits (w.alloc (.cells #[.int .i64 r.s, .slice a r.l.length cap, .string r.b] 26)) (.slice a r.l.length cap) r.l) := hf.alloc _
  have Q0 : Hid (RsB (w.alloc (.cells #[.int .i64 r.s, .slice a r.l.length cap, .string r.b] 26)) w.heap.size r (.slice a r.l.length cap)) := RsB.new w r _ _
  have B0 : Hid (Below w.heap.size w (w.alloc (.cells #[.int .i64 r.s, .slice a r.l.length cap, .string r.b] 26))) := (Below.refl _ w).alloc (Nat.le_refl _) _
  clear hf
  have hq1 : r.b.size ≤ 9223372036854775807 := by omega
  have H4 : Hid (bareB r.s = false ∨ r.b.size = 0) := h4
  have hbe : bareB r.s = true → r.b.toList.isEmpty = true := fun hb => by rw [void_emp]; rcases h4 with h4 | h4; · rw [h4] at hb; cases hb
                                                                          · exact decide_eq_true h4
  clear h4
  go_enter Tryz.func56, Tryz.ntmps56
  go_wp2_with fail
  refine (implBare _ _).mono ?_
  rintro e w1 ⟨rfl, rfl⟩
  cases hba : bareB r.s with
  | true =>
    have hb1 := hbe hba
    have hb2 : r.b.toList = [] := by simpa using hb1
    clear hbe
    go_wp2_with fail
    refine (implSta _ _).mono ?_
    rintro e w1 ⟨rfl, rfl⟩
    clear hb1 hb2
    cases h1 : decide (200 ≤ r.s ∧ r.s ≤ 599) with
    | false =>
      have H0 : Hid (false = rsOk r) := rsOk_no1 h1
      go_wp2
      go_ret
      exact ⟨ret_bool H0.out, B0.out⟩
    | true =>
      go_wp2_with fail
      refine (implUnf _ r.l _ F0.out).mono ?_
      rintro e w2 ⟨rfl, hb2⟩
      have Q2 : Hid (RsB w2 w.heap.size r (.slice a r.l.length cap)) := Q0.out.next hb2
      have B2 : Hid (Below w.heap.size w w2) := past6 B0.out hb2
      clear Q0 B0 F0 hb2
      have a2 := Q2.out.c2
      cases h2 : ownB r.l with
      | false =>
        have H0 : Hid (false = rsOk r) := rsOk_no2 h1 h2
        go_wp2
        go_ret
        exact ⟨ret_bool H0.out, B2.out⟩
      | true =>
        have H0 : Hid (decide ((r.b.size : Int) ≤ 4000) = rsOk r) := rsOk_is2 h1 h2 H4.out
        go_wp2
        go_ret
        exact ⟨ret_bool H0.out, B2.out⟩
  | false =>
    clear hbe
    go_wp2_with fail
    refine (implSta _ _).mono ?_
    rintro e w1 ⟨rfl, rfl⟩
    cases h1 : decide (200 ≤ r.s ∧ r.s ≤ 599) with
    | false =>
      have H0 : Hid (false = rsOk r) := rsOk_no1 h1
      go_wp2
      go_ret
      exact ⟨ret_bool H0.out, B0.out⟩
    | true =>
      go_wp2_with fail
      refine (implUnf _ r.l _ F0.out).mono ?_
      rintro e w2 ⟨rfl, hb2⟩
      have Q2 : Hid (RsB w2 w.heap.size r (.slice a r.l.length cap)) := Q0.out.next hb2
      have B2 : Hid (Below w.heap.size w w2) := past6 B0.out hb2
      clear Q0 B0 F0 hb2
      have a2 := Q2.out.c2
      cases h2 : ownB r.l with
      | false =>
        have H0 : Hid (false = rsOk r) := rsOk_no2 h1 h2
        go_wp2
        go_ret
        exact ⟨ret_bool H0.out, B2.out⟩
      | true =>
        have H0 : Hid (decide ((r.b.size : Int) ≤ 4000) = rsOk r) := rsOk_is2 h1 h2 H4.out
        go_wp2
        go_ret
        exact ⟨ret_bool H0.out, B2.out⟩
set_option maxHeartbeats 1000000 in
theorem implRsOk (r : Rs) (v : Value) (w : World) (h : RsIn w v r) :
    Calls Tryz.prog 56 #[rsV r v] w fun e w' => e = .returned (.bool (rsOk r)) ∧ Below w.heap.size w w' := by
  by_cases h4 : bareB r.s = false ∨ r.b.size = 0
  · exact implRsOk_tail r v w h h4
  · have hba : bareB r.s = true := by cases e : bareB r.s with
      | false => exact absurd (.inl e) h4
      | true => rfl
    have hbz : ¬ r.b.size = 0 := fun e => h4 (.inr e)
    have hbe : r.b.toList.isEmpty = false := by rw [void_emp]; exact decide_eq_false hbz
    have hbl : ¬ r.b.toList = [] := by simpa using hbe
    have H0 : Hid (false = rsOk r) := rsOk_bad hba hbz
    obtain ⟨hf, z3⟩ := h
    have hfs := hf.1
    obtain ⟨a, cap, rfl, hcap⟩ := hfs
    clear hcap hf h4 hbz
    unfold rsV
    have Q0 : Hid (RsB (w.alloc (.cells #[.int .i64 r.s, .slice a r.l.length cap, .string r.b] 26)) w.heap.size r (.slice a r.l.length cap)) := RsB.new w r _ _
    have B0 : Hid (Below w.heap.size w (w.alloc (.cells #[.int .i64 r.s, .slice a r.l.length cap, .string r.b] 26))) := (Below.refl _ w).alloc (Nat.le_refl _) _
    go_enter Tryz.func56, Tryz.ntmps56
    go_wp2_with fail
    refine (implBare _ _).mono ?_
    rw [hba]
    rintro e w1 ⟨rfl, rfl⟩
    go_wp2
    go_ret
    exact ⟨ret_bool H0.out, B0.out⟩
end Go.Proofs.YtkaogmdhjcgcdaaGreatDoor
namespace Go.Proofs.YtkaogmdhjcgcdaaGreatDoor
open Go.RowKit Go.Sort
set_option linter.unusedVariables false

set_option maxHeartbeats 1000000 in
theorem implSol (s : ByteArray) (w : World) (hs : s.size ≤ 1048576) :
    Calls Tryz.prog 59 #[.string s, .int .i64 500] w fun e w' => e = .returned (.bool (keyO s)) ∧ w = w' := by
  have HK : Hid (keyO s = (allB keyN s.data.toList && decide (s.size ≤ 500))) := rfl
  generalize keyO s = K at HK ⊢
  by_cases h5 : (500 : Int) < (s.size : Int)
  · have HF : Hid (false = K) := by show _ = _; rw [HK.out, decide_eq_false (by omega), Bool.and_false]
    go_enter Tryz.func59, Tryz.ntmps59
    go_wp2
    go_ret
    exact ⟨ret_bool HF.out, rfl⟩
  · go_enter Tryz.func59, Tryz.ntmps59
    go_wp2
    go_loop [12] (fun i => ∃ k : Nat, k ≤ s.size ∧ i = .int .i64 k ∧ Hid (allB keyN (s.data.toList.take k) = true)) (fun i => s.size - (intOf i).toNat)
    case atStart => exact ⟨0, Nat.zero_le _, rfl, allB_nil _ _⟩
    case round =>
      obtain ⟨k, hk, rfl, ha⟩ := hrel
      by_cases hlt : k < s.size
      · by_cases hl : (s[k].toNat : Int) < 33
        · have HF : Hid (false = K) := by show _ = _; rw [HK.out, ← allB_not (p := keyN) hlt (keyN_no (by omega))]; rfl
          go_wp2
          go_ret
          exact ⟨ret_bool HF.out, rfl⟩
        · by_cases hg : 126 < (s[k].toNat : Int)
          · have HF : Hid (false = K) := by show _ = _; rw [HK.out, ← allB_not (p := keyN) hlt (keyN_no (by omega))]; rfl
            go_wp2
            go_ret
            exact ⟨ret_bool HF.out, rfl⟩
          · have HV : Hid (allB keyN (s.data.toList.take (k + 1)) = true) := allB_step hlt ha.out (keyN_yes (by omega))
            go_wp2
            go_round
            case rel => exact ⟨k + 1, by omega, by go_num, HV⟩
            case measure => simp [intOf]; omega
      · have HE : Hid (true = K) := by
          show _ = _
          have e : s.data.toList.take k = s.data.toList := List.take_of_length_le (by simp; omega)
          have h2 := ha.out
          rw [e] at h2
          rw [HK.out, h2, Bool.true_and, decide_eq_true (by omega)]
        go_wp2
        go_ret
        exact ⟨ret_bool HE.out, rfl⟩
theorem implMomB (n : Int) (w : World) : Calls Tryz.prog 45 #[.int .i64 n] w fun e w' => e = .returned (.bool (momB n)) ∧ w = w' := by
  have HB : Hid (momB n = (decide (0 ≤ n) && decide (n ≤ 253402300799))) := rfl
  generalize momB n = b at HB ⊢
  by_cases h0 : 0 ≤ n
  · have HR : Hid (decide (n ≤ 253402300799) = b) := by show _ = _; rw [HB.out, decide_eq_true h0, Bool.true_and]
    go_enter Tryz.func45, Tryz.ntmps45
    go_wp2
    go_ret
    exact ⟨ret_bool HR.out, rfl⟩
  · have HR : Hid (false = b) := by show _ = _; rw [HB.out, decide_eq_false h0, Bool.false_and]
    go_enter Tryz.func45, Tryz.ntmps45
    go_wp2
    go_ret
    exact ⟨ret_bool HR.out, rfl⟩
set_option maxHeartbeats 4000000 in
theorem implObOk (o : Ob) (v u : Value) (w : World) (h : ObIn w v u o) :
    Calls Tryz.prog 19 #[obV o v u] w fun e w' => e = .returned (.bool (obB o)) ∧ Below w.heap.size w w' := by
  have HB : Hid (obB o = (keyO o.k && (fldsOk o.l && (rsOk o.r && (momB o.asked && (momB o.got && (decide (o.asked ≤ o.got) && (decide (0 ≤ o.ep) && decide (o.ep ≤ 100000))))))))) := rfl
  have j1 := fun W => implSol o.k W h.2.2
  have j2 := fun W (hW : Fits W v o.l) => implOk v o.l W hW.1 hW.2.1
  have j3 := fun W hW => implRsOk o.r u W hW
  have j4 := fun W => implMomB o.asked W
  have j5 := fun W => implMomB o.got W
  skip
  generalize obB o = R at HB ⊢
  generalize keyO o.k = b1 at HB j1
  generalize fldsOk o.l = b2 at HB j2
  generalize rsOk o.r = b3 at HB j3
  generalize momB o.asked = b4 at HB j4
  generalize momB o.got = b5 at HB j5
  obtain ⟨va, vc, rfl⟩ := h.1.form
  obtain ⟨ua, uc, rfl⟩ := h.2.1.1.form
  have Q0 : Hid (ObB (w.alloc (.cells #[.string o.k, .slice va o.l.length vc, .int .i64 o.r.s, .slice ua o.r.l.length uc, .string o.r.b, .int .i64 o.asked, .int .i64 o.got, .int .i64 o.ep] 28)) w.heap.size o (.slice va o.l.length vc) (.slice ua o.r.l.length uc)) := ObB.new w o _ _ _
  have B0 : Hid (Below w.heap.size w (w.alloc (.cells #[.string o.k, .slice va o.l.length vc, .int .i64 o.r.s, .slice ua o.r.l.length uc, .string o.r.b, .int .i64 o.asked, .int .i64 o.got, .int .i64 o.ep] 28))) := (Below.refl _ w).alloc (Nat.le_refl _) _
  have I0 : Hid (ObIn (w.alloc (.cells #[.string o.k, .slice va o.l.length vc, .int .i64 o.r.s, .slice ua o.r.l.length uc, .string o.r.b, .int .i64 o.asked, .int .i64 o.got, .int .i64 o.ep] 28)) (.slice va o.l.length vc) (.slice ua o.r.l.length uc) o) := h.kept B0.out
  clear h
  unfold obV
  unfold rsV at j3
  go_enter Tryz.func19, Tryz.ntmps19
  go_wp2_with fail
  refine (j1 _).mono ?_
  rintro e w1 ⟨rfl, rfl⟩
  clear j1
  cases b1 with
  | false =>
    have HR : Hid (false = R) := HB.out.symm
    go_wp2
    go_ret
    exact ⟨ret_bool HR.out, B0.out⟩
  | true =>
    go_wp2_with fail
    refine (j2 _ I0.out.1).mono ?_
    rintro e w2 ⟨rfl, hb2⟩
    have Q2 : Hid (ObB w2 w.heap.size o (.slice va o.l.length vc) (.slice ua o.r.l.length uc)) := Q0.out.next hb2
    have B2 : Hid (Below w.heap.size w w2) := past6 B0.out hb2
    have I2 : Hid (ObIn w2 (.slice va o.l.length vc) (.slice ua o.r.l.length uc) o) := I0.out.kept hb2
    clear hb2 Q0 B0 I0 j2
    cases b2 with
    | false =>
      have HR : Hid (false = R) := HB.out.symm
      go_wp2
      go_ret
      exact ⟨ret_bool HR.out, B2.out⟩
    | true =>
      have d2 := Q2.out.c2
      have d3 := Q2.out.c3
      have d4 := Q2.out.c4
      go_wp2_with fail
      refine (j3 _ I2.out.2.1).mono ?_
      rintro e w3 ⟨rfl, hb3⟩
      have Q3 : Hid (ObB w3 w.heap.size o (.slice va o.l.length vc) (.slice ua o.r.l.length uc)) := Q2.out.next hb3
      have B3 : Hid (Below w.heap.size w w3) := past6 B2.out hb3
      clear hb3 Q2 B2 I2 j3 d2 d3 d4
      have d5 := Q3.out.c5
      have d6 := Q3.out.c6
      have d7 := Q3.out.c7
      cases b3 with
      | false =>
        have HR : Hid (false = R) := HB.out.symm
        go_wp2
        go_ret
        exact ⟨ret_bool HR.out, B3.out⟩
      | true =>
        go_wp2_with fail
        refine (j4 _).mono ?_
        rintro e w4 ⟨rfl, rfl⟩
        clear j4
        cases b4 with
        | false =>
          have HR : Hid (false = R) := HB.out.symm
          go_wp2
          go_ret
          exact ⟨ret_bool HR.out, B3.out⟩
        | true =>
          go_wp2_with fail
          refine (j5 _).mono ?_
          rintro e w5 ⟨rfl, rfl⟩
          clear j5
          cases b5 with
          | false =>
            have HR : Hid (false = R) := HB.out.symm
            go_wp2
            go_ret
            exact ⟨ret_bool HR.out, B3.out⟩
          | true =>
            by_cases hag : o.asked ≤ o.got
            · have da : decide (o.asked ≤ o.got) = true := decide_eq_true hag
              by_cases h0 : 0 ≤ o.ep
              · have d0 : decide (0 ≤ o.ep) = true := decide_eq_true h0
                have HR : Hid (decide (o.ep ≤ 100000) = R) := by show _ = _; rw [HB.out, da, d0]; simp
                go_wp2
                go_ret
                exact ⟨ret_bool HR.out, B3.out⟩
              · have d0 : decide (0 ≤ o.ep) = false := decide_eq_false h0
                have HR : Hid (false = R) := by show _ = _; rw [HB.out, da, d0]; simp
                go_wp2
                go_ret
                exact ⟨ret_bool HR.out, B3.out⟩
            · have da : decide (o.asked ≤ o.got) = false := decide_eq_false hag
              have HR : Hid (false = R) := by show _ = _; rw [HB.out, da]; simp
              go_wp2
              go_ret
              exact ⟨ret_bool HR.out, B3.out⟩
end Go.Proofs.YtkaogmdhjcgcdaaGreatDoor
namespace Go.Proofs.YtkaogmdhjcgcdaaGreatDoor
open Go Go.RowKit Go.Sort
set_option linter.unusedVariables false

section
variable {P : Program}
theorem any_headsT {l : List Oper} {Q : Exit → Act → World → Prop} (n : Nat) (hn : n < l.length) (hs : Region.sinkB .any l.toArray n = true) (hc : Region.chainB .any l.toArray n = true)
    (hq : Region.seqB .any l.toArray (l.length - n) n (Array.replicate n true ++ Array.replicate (l.length - n) false) = true) (hb : backB l.toArray n = true)
    (F : (Nat → Value) → Act) (d : Nat → Nat) (S : (Nat → Value) → World → Prop) (G : Nat → World → Value → Prop) (hinj : ∀ i j, i < n → j < n → j ≠ i → d j ≠ d i) (hput : ∀ (i : Nat) (o : Oper), i < n → l[i]? = some o → ∀ (t : Nat → Value) (v : Value), (F t).put o.dst v = F (updH t (d i) v))
    (hstep : ∀ (i : Nat) (o : Oper), i < n → l[i]? = some o → ∀ (t : Nat → Value) (x : World), S t x → (∀ e ∈ o.after, Region.binds .any e = true → G e.on x (t (d e.on))) → ∀ K : Act → World → Prop,
      (∀ v y, S (updH t (d i) v) y → (∀ j u, j < n → j ≠ i → G j x u → G j y u) → G i y v → K ((F t).put o.dst v) y) →
      if Region.wanted o (yielded l.toArray (F t).tmps) = true then Oper.wp P o (F t) x K Q else K ((F t).put o.dst undef) x)
    (hdone : ∀ (t : Nat → Value) (x : World), S t x → (∀ j, j < n → G j x (t (d j))) → wpList P l.toArray Q (l.drop n) (F t) x) :
    ∀ (f : Nat) (listed : Array Bool) (t : Nat → Value) (x : World), leftH listed = f → HeadInv .any l.toArray n listed → S t x → (∀ j, j < n → listed.getD j false = true → G j x (t (d j))) → wpAny P .any l.toArray Q f listed (F t) x := by
  have hsz : l.toArray.size = n + (l.length - n) := by simp; omega
  have hn2 : n < l.toArray.size := by simpa using hn
  intro f
  induction f with
  | zero =>
    intro listed t x hf inv hS hG
    have h1 := inv.tail n (Nat.le_refl _) hn2
    have := leftH_set h1
    omega
  | succ f ih =>
    intro listed t x hf inv hS hG
    by_cases hall : ∀ i, i < n → listed.getD i false = true
    · have e := allListed (inv.size.trans hsz) hall (fun u h1 h2 => inv.tail u h1 (by omega))
      have hl : leftH listed = l.length - n := by rw [e]; unfold leftH; simp [List.count_replicate]
      have hf2 : f + 1 = (l.drop n).length := by rw [List.length_drop]; omega
      rw [hf2]
      refine wpAny_of_seq (md := .any) (Q' := Q) (l.drop n) n listed (F t) x (fun j => by simp [List.getElem?_drop]) ?_ (hdone t x hS fun j hj => hG j hj (hall j hj))
      rw [List.length_drop, e]
      exact hq
    · obtain ⟨i0, hi0, hu0⟩ : ∃ i, i < n ∧ listed.getD i false = false := by
        refine Classical.byContradiction fun hno => hall fun i hi => ?_
        cases h : listed.getD i false with
        | true => rfl
        | false => exact absurd ⟨i, hi, h⟩ hno
      have hu0' : listed.getD i0 true = false := getD_in (by rw [inv.size]; omega) hu0
      refine ⟨fun hr => absurd (firsts inv.size hn2 hb hr) hall, fun i hi => ?_⟩
      have hin : i < n := by
        rcases Nat.lt_or_ge i n with h | h
        · exact h
        · exact absurd hi (tail_waits hs hc hn2 inv _ i0 rfl hi0 hu0' i h)
      obtain ⟨h1, o, ho, hdep⟩ := mem_ready.1 hi
      have hdn : ∀ e ∈ o.after, Region.binds .any e = true → e.on < i := backB_spec hb hin ho
      have ho2 : l[i]? = some o := by simpa using ho
      have hc1 := leftH_set h1
      have key := hstep i o hin ho2 t x hS (fun e he hbd => hG e.on (by have := hdn e he hbd; omega) (hdep e he hbd)) (wpAny P .any l.toArray Q f (listed.setIfInBounds i true)) (fun v y hSy hkeep hGi => by
        rw [hput i o hin ho2 t v]
        refine ih _ _ y (by omega) (inv.set hi hin) hSy fun j hj hl => ?_
        by_cases hji : j = i
        · subst hji
          rw [updH_same]
          exact hGi
        · rw [updH_other _ _ (hinj i j hin hj hji)]
          rw [getD_set_ne false (Ne.symm hji)] at hl
          exact hkeep j _ hj hji (hG j hj hl))
      unfold wpOp
      rw [ho]
      show if Region.wanted o (yielded l.toArray (F t).tmps) = true then _ else _
      split
      · rename_i hw
        rw [if_pos hw] at key
        exact Or.inl key
      · rename_i hw
        rw [if_neg hw] at key
        exact key
/-- The first n operations come whichever way; what each leaves (G) is good for as long as the others leave it so; then the rest, in order. -/
theorem region_headsT {l : List Oper} {Q : Exit → Act → World → Prop} {id : Nat} {a : Act} {w : World} (n : Nat) (hm : P.follows .mixedOrders = true) (hn : n < l.length) (hs : Region.sinkB .any l.toArray n = true) (hc : Region.chainB .any l.toArray n = true)
    (hq : Region.seqB .any l.toArray (l.length - n) n (Array.replicate n true ++ Array.replicate (l.length - n) false) = true) (hb : backB l.toArray n = true)
    (F : (Nat → Value) → Act) (d : Nat → Nat) (S : (Nat → Value) → World → Prop) (G : Nat → World → Value → Prop) (hinj : ∀ i j, i < n → j < n → j ≠ i → d j ≠ d i) (hput : ∀ (i : Nat) (o : Oper), i < n → l[i]? = some o → ∀ (t : Nat → Value) (v : Value), (F t).put o.dst v = F (updH t (d i) v)) (t0 : Nat → Value) (h0 : a = F t0) (hS : S t0 w.drew)
    (hstep : ∀ (i : Nat) (o : Oper), i < n → l[i]? = some o → ∀ (t : Nat → Value) (x : World), S t x → (∀ e ∈ o.after, Region.binds .any e = true → G e.on x (t (d e.on))) → ∀ K : Act → World → Prop,
      (∀ v y, S (updH t (d i) v) y → (∀ j u, j < n → j ≠ i → G j x u → G j y u) → G i y v → K ((F t).put o.dst v) y) →
      if Region.wanted o (yielded l.toArray (F t).tmps) = true then Oper.wp P o (F t) x K Q else K ((F t).put o.dst undef) x)
    (hdone : ∀ (t : Nat → Value) (x : World), S t x → (∀ j, j < n → G j x (t (d j))) → wpList P l.toArray Q (l.drop n) (F t) x) : (Code.region id l.toArray true).wp P Q a w := by
  subst h0
  refine wp_region_any hm ?_
  have inv0 : HeadInv .any l.toArray n (Array.replicate l.toArray.size false) := ⟨by simp, fun j oj _ hl => (by rw [getD_replicate_false] at hl; cases hl), fun t _ ht => getD_in (by simpa using ht) (getD_replicate_false _ _)⟩
  exact any_headsT n hn hs hc hq hb F d S G hinj hput hstep hdone _ _ t0 _ (by unfold leftH; simp) inv0 hS (fun j _ hl => by rw [getD_replicate_false] at hl; cases hl)
end
end Go.Proofs.YtkaogmdhjcgcdaaGreatDoor
namespace Go.Proofs.YtkaogmdhjcgcdaaGreatDoor
open Go.RowKit Go.Sort Go.Maps
set_option linter.unusedVariables false
set_option linter.unusedSimpArgs false

theorem HasF.none10 (w : World) (B : Nat) : HasF w B (.slice none 0 0) [] := .inl ⟨rfl, rfl⟩
theorem HasF.besides10 {w : World} {B g k : Nat} {v : Value} {l : List Fl} {c : Array Value} {T : TypeId} {fr : Nat × Nat} (h : HasF w B v l) (hg : w.heap[g]? = some (.cells c T fr)) (hT : T ≠ 105) (x : Value) : HasF (w.setCell ⟨g, k, none⟩ x) B v l := by
  rcases h with h0 | ⟨g', cap, cur, hv, hbg, hg', rest⟩
  · exact .inl h0
  · refine .inr ⟨g', cap, cur, hv, hbg, ?_, rest⟩
    rw [Below.heap_setCell _ _ _ _ (show g' ≠ g from fun e => by subst e; rw [hg] at hg'; injection hg' with e; injection e with _ e _; exact hT e)]
    exact hg'
/-- A store into a block that is not the row's. -/
theorem HasF.putL11 {B g : Nat} {v : Value} {l : List Fl} (hg : ∀ j, v.ownBlock = some j → j ≠ g) : ∀ {w : World} (h : HasF w B v l) (vs : List Value) (i : Nat), HasF (putL w g vs i) B v l
  | w, h, [], _ => h
  | w, h, x :: vs, i => by
    refine HasF.putL11 hg ?_ vs (i + 1)
    rcases h with h0 | ⟨g', cap, cur, rfl, hbg, hg', rest⟩
    · exact .inl h0
    · exact .inr ⟨g', cap, cur, rfl, hbg, (Below.heap_setCell _ _ _ _ (show g' ≠ g from hg g' rfl)).trans hg', rest⟩
/-- The block of a slice in a struct. -/
def fB (v : Value) (i : Nat) : Option Nat := match v with
  | .agg cs => (cs[i]?).bind Value.ownBlock
  | _ => none
def aB (t : Nat → Value) (g : Nat) : Prop := (t 30).ownBlock = some g ∨ fB (t 49) 1 = some g
def bB (t : Nat → Value) (g : Nat) : Prop := (t 39).ownBlock = some g ∨ fB (t 44) 1 = some g ∨ fB (t 49) 3 = some g
/-- What holds of the two rows all along. -/
structure SRn (w3 : World) (t : Nat → Value) (x : World) : Prop where
  lo : Below w3.heap.size w3 x
  a : ∀ g, aB t g → g < x.heap.size
  b : ∀ g, bB t g → g < x.heap.size
  ab : ∀ g, aB t g → ¬ bB t g
theorem SRn.to {w3 x y : World} {t s : Nat → Value} (h : SRn w3 t x) (hb : Below x.heap.size x y) (ha : ∀ g, aB s g → aB t g) (hc : ∀ g, bB s g → bB t g) : SRn w3 s y :=
  ⟨h.lo.trans (hb.mono h.lo.size), fun g hg => Nat.lt_of_lt_of_le (h.a g (ha g hg)) hb.size, fun g hg => Nat.lt_of_lt_of_le (h.b g (hc g hg)) hb.size, fun g hg hk => h.ab g (ha g hg) (hc g hk)⟩
theorem SRn.upd {w3 x y : World} {t : Nat → Value} (h : SRn w3 t x) {k : Nat} (v : Value) (h1 : k ≠ 30 ∧ k ≠ 39 ∧ k ≠ 44 ∧ k ≠ 49) (hb : Below x.heap.size x y) : SRn w3 (updH t k v) y := by
  have e1 : updH t k v 30 = t 30 := updH_other _ _ (Ne.symm h1.1)
  have e2 : updH t k v 39 = t 39 := updH_other _ _ (Ne.symm h1.2.1)
  have e3 : updH t k v 44 = t 44 := updH_other _ _ (Ne.symm h1.2.2.1)
  have e4 : updH t k v 49 = t 49 := updH_other _ _ (Ne.symm h1.2.2.2)
  exact h.to hb (fun g hg => by unfold aB at hg ⊢; rw [e1, e4] at hg; exact hg) (fun g hg => by unfold bB at hg ⊢; rw [e2, e3, e4] at hg; exact hg)
theorem SRn.upA {w3 x y : World} {t : Nat → Value} (h : SRn w3 t x) {g : Nat} {n c : Nat} (hb : Below x.heap.size x y) (h1 : x.heap.size ≤ g) (h2 : g < y.heap.size) : SRn w3 (updH t 30 (.slice (some ⟨g, 0, none⟩) n c)) y := by
  have e1 : updH t 30 (.slice (some ⟨g, 0, none⟩) n c) 30 = .slice (some ⟨g, 0, none⟩) n c := updH_same _ _ _
  have e2 : updH t 30 (.slice (some ⟨g, 0, none⟩) n c) 39 = t 39 := updH_other _ _ (by decide)
  have e3 : updH t 30 (.slice (some ⟨g, 0, none⟩) n c) 44 = t 44 := updH_other _ _ (by decide)
  have e4 : updH t 30 (.slice (some ⟨g, 0, none⟩) n c) 49 = t 49 := updH_other _ _ (by decide)
  have ka : ∀ j, aB (updH t 30 (.slice (some ⟨g, 0, none⟩) n c)) j → j = g ∨ aB t j := fun j hj => by
    unfold aB at hj
    rw [e1, e4] at hj
    rcases hj with hj | hj
    · cases hj; exact .inl rfl
    · exact .inr (.inr hj)
  have kb : ∀ j, bB (updH t 30 (.slice (some ⟨g, 0, none⟩) n c)) j → bB t j := fun j hj => by
    unfold bB at hj ⊢
    rw [e2, e3, e4] at hj
    exact hj
  refine ⟨h.lo.trans (hb.mono h.lo.size), fun j hj => ?_, fun j hj => Nat.lt_of_lt_of_le (h.b j (kb j hj)) hb.size, fun j hj hk => ?_⟩
  · rcases ka j hj with rfl | hj
    · exact h2
    · exact Nat.lt_of_lt_of_le (h.a j hj) hb.size
  · rcases ka j hj with rfl | hj
    · have := h.b j (kb j hk); omega
    · exact h.ab j hj (kb j hk)
theorem SRn.upB {w3 x y : World} {t : Nat → Value} (h : SRn w3 t x) {g : Nat} {n c : Nat} (hb : Below x.heap.size x y) (h1 : x.heap.size ≤ g) (h2 : g < y.heap.size) : SRn w3 (updH t 39 (.slice (some ⟨g, 0, none⟩) n c)) y := by
  have e1 : updH t 39 (.slice (some ⟨g, 0, none⟩) n c) 30 = t 30 := updH_other _ _ (by decide)
  have e2 : updH t 39 (.slice (some ⟨g, 0, none⟩) n c) 39 = .slice (some ⟨g, 0, none⟩) n c := updH_same _ _ _
  have e3 : updH t 39 (.slice (some ⟨g, 0, none⟩) n c) 44 = t 44 := updH_other _ _ (by decide)
  have e4 : updH t 39 (.slice (some ⟨g, 0, none⟩) n c) 49 = t 49 := updH_other _ _ (by decide)
  have ka : ∀ j, aB (updH t 39 (.slice (some ⟨g, 0, none⟩) n c)) j → aB t j := fun j hj => by
    unfold aB at hj ⊢
    rw [e1, e4] at hj
    exact hj
  have kb : ∀ j, bB (updH t 39 (.slice (some ⟨g, 0, none⟩) n c)) j → j = g ∨ bB t j := fun j hj => by
    unfold bB at hj
    rw [e2, e3, e4] at hj
    rcases hj with hj | hj
    · cases hj; exact .inl rfl
    · exact .inr (.inr hj)
  refine ⟨h.lo.trans (hb.mono h.lo.size), fun j hj => Nat.lt_of_lt_of_le (h.a j (ka j hj)) hb.size, fun j hj => ?_, fun j hj hk => ?_⟩
  · rcases kb j hj with rfl | hj
    · exact h2
    · exact Nat.lt_of_lt_of_le (h.b j hj) hb.size
  · rcases kb j hk with rfl | hk
    · have := h.a j (ka j hj); omega
    · exact h.ab j (ka j hj) hk
theorem SRn.upC {w3 x : World} {t : Nat → Value} (h : SRn w3 t x) {v0 v1 v2 : Value} (e : t 39 = v1) : SRn w3 (updH t 44 (.agg #[v0, v1, v2])) x := by
  have e1 : updH t 44 (.agg #[v0, v1, v2]) 30 = t 30 := updH_other _ _ (by decide)
  have e2 : updH t 44 (.agg #[v0, v1, v2]) 39 = t 39 := updH_other _ _ (by decide)
  have e3 : updH t 44 (.agg #[v0, v1, v2]) 44 = .agg #[v0, v1, v2] := updH_same _ _ _
  have e4 : updH t 44 (.agg #[v0, v1, v2]) 49 = t 49 := updH_other _ _ (by decide)
  refine h.to (Below.refl _ _) (fun g hg => by unfold aB at hg ⊢; rw [e1, e4] at hg; exact hg) (fun g hg => ?_)
  unfold bB at hg ⊢
  rw [e2, e3, e4] at hg
  rcases hg with hg | hg | hg
  · exact .inl hg
  · exact .inl (by rw [e]; exact hg)
  · exact .inr (.inr hg)
theorem SRn.upD {w3 x : World} {t : Nat → Value} (h : SRn w3 t x) {v0 v1 v2 v3 v4 v5 v6 v7 a0 a2 : Value} (e : t 30 = v1) (e' : t 44 = .agg #[a0, v3, a2]) : SRn w3 (updH t 49 (.agg #[v0, v1, v2, v3, v4, v5, v6, v7])) x := by
  have e1 : updH t 49 (.agg #[v0, v1, v2, v3, v4, v5, v6, v7]) 30 = t 30 := updH_other _ _ (by decide)
  have e2 : updH t 49 (.agg #[v0, v1, v2, v3, v4, v5, v6, v7]) 39 = t 39 := updH_other _ _ (by decide)
  have e3 : updH t 49 (.agg #[v0, v1, v2, v3, v4, v5, v6, v7]) 44 = t 44 := updH_other _ _ (by decide)
  have e4 : updH t 49 (.agg #[v0, v1, v2, v3, v4, v5, v6, v7]) 49 = .agg #[v0, v1, v2, v3, v4, v5, v6, v7] := updH_same _ _ _
  refine h.to (Below.refl _ _) (fun g hg => ?_) (fun g hg => ?_)
  · unfold aB at hg ⊢
    rw [e1, e4] at hg
    rcases hg with hg | hg
    · exact .inl hg
    · exact .inl (by rw [e]; exact hg)
  · unfold bB at hg ⊢
    rw [e2, e3, e4] at hg
    rcases hg with hg | hg | hg
    · exact .inl hg
    · exact .inr (.inl hg)
    · exact .inr (.inl (by rw [e']; exact hg))
theorem HasF.own {w : World} {B g n c : Nat} {l : List Fl} (h : HasF w B (.slice (some ⟨g, 0, none⟩) n c) l) : B ≤ g ∧ g < w.heap.size := by
  rcases h with ⟨h0, _⟩ | ⟨g', cap, cur, hv, hbg, hg', rest⟩
  · cases h0
  · cases hv; exact ⟨hbg, (Array.getElem?_eq_some_iff.1 hg').1⟩
theorem HasF.fitsR {w : World} {B : Nat} {v : Value} {l : List Fl} (h : HasF w B v l) (h1 : szL l ≤ 1048576) (h2 : l.length ≤ 1048576) : Fits w v l := ⟨h.fls, h1, h2, fun n c e => by
  rcases h with ⟨e2, _⟩ | ⟨g, cap, cur, e2, _⟩
  · rw [e] at e2; injection e2
  · rw [e] at e2; cases e2⟩
theorem sml10 {l : List Fl} (h : fldsOk l = true) : ∀ f ∈ l, f.1.size ≤ 1048576 ∧ f.2.size ≤ 1048576 := fun f hf => by
  have := fldOk_size ((fldsOk_parts h).2 f hf)
  omega
def frRn (o : Ob) (r : Rs) (asked got : Int) (va ua xa : Option Addr) (vc uc xc n0 n2 : Nat) (t : Nat → Value) : Act := { tmps := #[.agg #[.string o.k, .slice va o.l.length vc, .int .i64 o.r.s, .slice ua o.r.l.length uc, .string o.r.b, .int .i64 o.asked, .int .i64 o.got, .int .i64 o.ep], .agg #[.int .i64 r.s, .slice xa r.l.length xc, .string r.b], .int .i64 asked, .int .i64 got, .pointer (some ⟨n0, 0, none⟩), .pointer (some ⟨n0 + 1, 0, none⟩), undef, undef, .pointer (some ⟨n0 + 1 + 1, 0, none⟩), .bool false, t 10, .agg #[.string o.k, .slice va o.l.length vc, .int .i64 o.r.s, .slice ua o.r.l.length uc, .string o.r.b, .int .i64 o.asked, .int .i64 o.got, .int .i64 o.ep], .bool true, .bool false, .bool false, .agg #[.int .i64 r.s, .slice xa r.l.length xc, .string r.b], .bool true, .bool false, .bool false, .bool false, .pointer (some ⟨n0 + 1, 0, none⟩), .int .i64 304, .bool false, .bool false, undef, t 25, t 26, t 27, t 28, t 29, t 30, t 31, t 32, t 33, t 34, t 35, t 36, t 37, t 38, t 39, t 40, t 41, t 42, t 43, t 44, t 45, t 46, t 47, t 48, t 49, undef, undef, undef, undef, undef], defers := [] }
def dRn (i : Nat) : Nat := if i = 0 then 25 else if i = 1 then 26 else if i = 2 then 27 else if i = 3 then 28 else if i = 4 then 29 else if i = 5 then 30 else if i = 6 then 31 else if i = 7 then 32 else if i = 8 then 33 else if i = 9 then 34 else if i = 10 then 35 else if i = 11 then 36 else if i = 12 then 37 else if i = 13 then 38 else if i = 14 then 39 else if i = 15 then 40 else if i = 16 then 41 else if i = 17 then 42 else if i = 18 then 43 else if i = 19 then 44 else if i = 20 then 45 else if i = 21 then 46 else if i = 22 then 47 else if i = 23 then 48 else if i = 24 then 49 else if i = 25 then 10 else i + 5000
def GRn (o : Ob) (r : Rs) (asked got : Int) (va ua xa : Option Addr) (vc uc xc n0 n2 : Nat) (i : Nat) (x : World) (v : Value) : Prop := match i with
  | 0 => v = (.pointer (some ⟨n0, 0, none⟩))
  | 1 => v = (.string o.k)
  | 2 => v = (.string o.k)
  | 3 => v = (.pointer (some ⟨n0, 1, none⟩))
  | 4 => v = (.slice va o.l.length vc)
  | 5 => ∃ g1, v = (.slice (some ⟨g1, 0, none⟩) o.l.length o.l.length) ∧ HasF x n2 (.slice (some ⟨g1, 0, none⟩) o.l.length o.l.length) o.l
  | 6 => v = (.pointer (some ⟨n0, 2, none⟩))
  | 7 => v = (.pointer (some ⟨n0, 2, none⟩))
  | 8 => v = (.int .i64 o.r.s)
  | 9 => v = (.pointer (some ⟨n0, 2, none⟩))
  | 10 => v = (.pointer (some ⟨n0, 3, none⟩))
  | 11 => v = (.slice ua o.r.l.length uc)
  | 12 => v = (.pointer (some ⟨n0 + 1, 1, none⟩))
  | 13 => v = (.slice xa r.l.length xc)
  | 14 => ∃ g1, v = (.slice (some ⟨g1, 0, none⟩) (ovrL o.r.l r.l).length (ovrL o.r.l r.l).length) ∧ HasF x n2 (.slice (some ⟨g1, 0, none⟩) (ovrL o.r.l r.l).length (ovrL o.r.l r.l).length) (ovrL o.r.l r.l)
  | 15 => v = (.pointer (some ⟨n0, 2, none⟩))
  | 16 => v = (.pointer (some ⟨n0, 4, none⟩))
  | 17 => v = (.string o.r.b)
  | 18 => v = (.string o.r.b)
  | 19 => ∃ g1, v = .agg #[.int .i64 o.r.s, .slice (some ⟨g1, 0, none⟩) (ovrL o.r.l r.l).length (ovrL o.r.l r.l).length, .string o.r.b] ∧ HasF x n2 (.slice (some ⟨g1, 0, none⟩) (ovrL o.r.l r.l).length (ovrL o.r.l r.l).length) (ovrL o.r.l r.l)
  | 20 => v = (.int .i64 asked)
  | 21 => v = (.int .i64 got)
  | 22 => v = (.pointer (some ⟨n0, 7, none⟩))
  | 23 => v = (.int .i64 o.ep)
  | 24 => ∃ g1 g2, v = .agg #[.string o.k, .slice (some ⟨g1, 0, none⟩) o.l.length o.l.length, .int .i64 o.r.s, .slice (some ⟨g2, 0, none⟩) (ovrL o.r.l r.l).length (ovrL o.r.l r.l).length, .string o.r.b, .int .i64 asked, .int .i64 got, .int .i64 o.ep] ∧ HasF x n2 (.slice (some ⟨g1, 0, none⟩) o.l.length o.l.length) o.l ∧ HasF x n2 (.slice (some ⟨g2, 0, none⟩) (ovrL o.r.l r.l).length (ovrL o.r.l r.l).length) (ovrL o.r.l r.l)
  | 25 => ∃ gb, v = .pointer (some ⟨gb, 0, none⟩) ∧ x.heap[gb]? = some (.cells #[.string ⟨#[]⟩, .slice none 0 0, .int .i64 0, .slice none 0 0, .string ⟨#[]⟩, .int .i64 0, .int .i64 0, .int .i64 0] 28 (0, 0)) ∧ n2 ≤ gb
  | _ => True
theorem GRn.keep (o : Ob) (r : Rs) (asked got : Int) (va ua xa : Option Addr) (vc uc xc n0 n2 : Nat) {x y : World} (hb : Below x.heap.size x y) (j : Nat) (v : Value) (hj : j < 26) (h : GRn o r asked got va ua xa vc uc xc n0 n2 j x v) : GRn o r asked got va ua xa vc uc xc n0 n2 j y v := by
  rcases (show j = 0 ∨ j = 1 ∨ j = 2 ∨ j = 3 ∨ j = 4 ∨ j = 5 ∨ j = 6 ∨ j = 7 ∨ j = 8 ∨ j = 9 ∨ j = 10 ∨ j = 11 ∨ j = 12 ∨ j = 13 ∨ j = 14 ∨ j = 15 ∨ j = 16 ∨ j = 17 ∨ j = 18 ∨ j = 19 ∨ j = 20 ∨ j = 21 ∨ j = 22 ∨ j = 23 ∨ j = 24 ∨ j = 25 by omega) with rfl | rfl | rfl | rfl | rfl | rfl | rfl | rfl | rfl | rfl | rfl | rfl | rfl | rfl | rfl | rfl | rfl | rfl | rfl | rfl | rfl | rfl | rfl | rfl | rfl | rfl
  · exact h
  · exact h
  · exact h
  · exact h
  · exact h
  · obtain ⟨g1, h1, h2⟩ := h; exact ⟨g1, h1, h2.kept hb⟩
  · exact h
  · exact h
  · exact h
  · exact h
  · exact h
  · exact h
  · exact h
  · exact h
  · obtain ⟨g1, h1, h2⟩ := h; exact ⟨g1, h1, h2.kept hb⟩
  · exact h
  · exact h
  · exact h
  · exact h
  · obtain ⟨g1, h1, h2⟩ := h; exact ⟨g1, h1, h2.kept hb⟩
  · exact h
  · exact h
  · exact h
  · exact h
  · obtain ⟨g1, g2, h1, h2, h3⟩ := h; exact ⟨g1, g2, h1, h2.kept hb, h3.kept hb⟩
  · obtain ⟨g1, h1, h2, h3⟩ := h; exact ⟨g1, h1, (hb.block g1 (Array.getElem?_eq_some_iff.1 h2).1).trans h2, h3⟩
theorem dRn_ne {i j : Nat} (hi : i < 26) (hj : j < 26) (h : j ≠ i) : dRn j ≠ dRn i := by
  rcases (show i = 0 ∨ i = 1 ∨ i = 2 ∨ i = 3 ∨ i = 4 ∨ i = 5 ∨ i = 6 ∨ i = 7 ∨ i = 8 ∨ i = 9 ∨ i = 10 ∨ i = 11 ∨ i = 12 ∨ i = 13 ∨ i = 14 ∨ i = 15 ∨ i = 16 ∨ i = 17 ∨ i = 18 ∨ i = 19 ∨ i = 20 ∨ i = 21 ∨ i = 22 ∨ i = 23 ∨ i = 24 ∨ i = 25 by omega) with rfl | rfl | rfl | rfl | rfl | rfl | rfl | rfl | rfl | rfl | rfl | rfl | rfl | rfl | rfl | rfl | rfl | rfl | rfl | rfl | rfl | rfl | rfl | rfl | rfl | rfl <;> rcases (show j = 0 ∨ j = 1 ∨ j = 2 ∨ j = 3 ∨ j = 4 ∨ j = 5 ∨ j = 6 ∨ j = 7 ∨ j = 8 ∨ j = 9 ∨ j = 10 ∨ j = 11 ∨ j = 12 ∨ j = 13 ∨ j = 14 ∨ j = 15 ∨ j = 16 ∨ j = 17 ∨ j = 18 ∨ j = 19 ∨ j = 20 ∨ j = 21 ∨ j = 22 ∨ j = 23 ∨ j = 24 ∨ j = 25 by omega) with rfl | rfl | rfl | rfl | rfl | rfl | rfl | rfl | rfl | rfl | rfl | rfl | rfl | rfl | rfl | rfl | rfl | rfl | rfl | rfl | rfl | rfl | rfl | rfl | rfl | rfl <;> first | (exact absurd rfl h) | decide
set_option maxRecDepth 100000 in
set_option maxHeartbeats 8000000 in
theorem implRen (o : Ob) (v u : Value) (r : Rs) (x : Value) (asked got : Int) (w : World) (h : ObIn w v u o) (hr : RsIn w x r) :
    Calls Tryz.prog 27 #[obV o v u, rsV r x, .int .i64 asked, .int .i64 got] w fun e w' => ∃ v' u', e = .returned (.tuple #[obV (renV o r asked got).1 v' u', .bool (renV o r asked got).2]) ∧ HasF w' w.heap.size v' (renV o r asked got).1.l ∧ HasF w' w.heap.size u' (renV o r asked got).1.r.l ∧ (∀ g, v'.ownBlock = some g → u'.ownBlock ≠ some g) ∧ Below w.heap.size w w' := by
  have HN : Hid (¬ (obB o = true ∧ rsOk r = true ∧ r.s = 304 ∧ obB (renO o r asked got) = true) → renV o r asked got = (noO, false)) := renV_no
  have HY : Hid (obB o = true ∧ rsOk r = true ∧ r.s = 304 ∧ obB (renO o r asked got) = true → renV o r asked got = (renO o r asked got, true)) := renV_is
  generalize renV o r asked got = R at HN HY ⊢
  have j1 := fun W hW => implObOk o v u W hW
  have j2 := fun W hW => implRsOk r x W hW
  have K1 : Hid (obB o = true → keyO o.k = true ∧ fldsOk o.l = true ∧ rsOk o.r = true ∧ momB o.asked = true ∧ momB o.got = true) := obB_all
  have K2 : Hid (rsOk r = true → fldsOk r.l = true) := rsOk_flds
  have K3 : Hid (rsOk o.r = true → fldsOk o.r.l = true) := rsOk_flds
  obtain ⟨va, vc, rfl⟩ := h.1.form
  obtain ⟨ua, uc, rfl⟩ := h.2.1.1.form
  obtain ⟨xa, xc, rfl⟩ := hr.1.form
  have Q0 : Hid (ObB (((w.alloc (.cells #[.string o.k, .slice va o.l.length vc, .int .i64 o.r.s, .slice ua o.r.l.length uc, .string o.r.b, .int .i64 o.asked, .int .i64 o.got, .int .i64 o.ep] 28)).alloc (.cells #[.int .i64 r.s, .slice xa r.l.length xc, .string r.b] 26)).alloc (.cells #[.string ⟨#[]⟩, .slice none 0 0, .int .i64 0, .slice none 0 0, .string ⟨#[]⟩, .int .i64 0, .int .i64 0, .int .i64 0] 28)) w.heap.size o (.slice va o.l.length vc) (.slice ua o.r.l.length uc)) := ((ObB.new w o _ _ _).alloc _).alloc _
  have R0 : Hid (RsB (((w.alloc (.cells #[.string o.k, .slice va o.l.length vc, .int .i64 o.r.s, .slice ua o.r.l.length uc, .string o.r.b, .int .i64 o.asked, .int .i64 o.got, .int .i64 o.ep] 28)).alloc (.cells #[.int .i64 r.s, .slice xa r.l.length xc, .string r.b] 26)).alloc (.cells #[.string ⟨#[]⟩, .slice none 0 0, .int .i64 0, .slice none 0 0, .string ⟨#[]⟩, .int .i64 0, .int .i64 0, .int .i64 0] 28)) (w.heap.size + 1) r (.slice xa r.l.length xc)) := by
    have := (RsB.new (w.alloc (.cells #[.string o.k, .slice va o.l.length vc, .int .i64 o.r.s, .slice ua o.r.l.length uc, .string o.r.b, .int .i64 o.asked, .int .i64 o.got, .int .i64 o.ep] 28)) r (.slice xa r.l.length xc) 26).alloc (.cells #[.string ⟨#[]⟩, .slice none 0 0, .int .i64 0, .slice none 0 0, .string ⟨#[]⟩, .int .i64 0, .int .i64 0, .int .i64 0] 28)
    simp only [World.size_alloc] at this
    exact this
  have Z0 : Hid (ObB (((w.alloc (.cells #[.string o.k, .slice va o.l.length vc, .int .i64 o.r.s, .slice ua o.r.l.length uc, .string o.r.b, .int .i64 o.asked, .int .i64 o.got, .int .i64 o.ep] 28)).alloc (.cells #[.int .i64 r.s, .slice xa r.l.length xc, .string r.b] 26)).alloc (.cells #[.string ⟨#[]⟩, .slice none 0 0, .int .i64 0, .slice none 0 0, .string ⟨#[]⟩, .int .i64 0, .int .i64 0, .int .i64 0] 28)) (w.heap.size + 1 + 1) noO (.slice none 0 0) (.slice none 0 0)) := by
    have := ObB.new ((w.alloc (.cells #[.string o.k, .slice va o.l.length vc, .int .i64 o.r.s, .slice ua o.r.l.length uc, .string o.r.b, .int .i64 o.asked, .int .i64 o.got, .int .i64 o.ep] 28)).alloc (.cells #[.int .i64 r.s, .slice xa r.l.length xc, .string r.b] 26)) noO (.slice none 0 0) (.slice none 0 0) 28
    simp only [World.size_alloc] at this
    exact this
  have B0 : Hid (Below w.heap.size w (((w.alloc (.cells #[.string o.k, .slice va o.l.length vc, .int .i64 o.r.s, .slice ua o.r.l.length uc, .string o.r.b, .int .i64 o.asked, .int .i64 o.got, .int .i64 o.ep] 28)).alloc (.cells #[.int .i64 r.s, .slice xa r.l.length xc, .string r.b] 26)).alloc (.cells #[.string ⟨#[]⟩, .slice none 0 0, .int .i64 0, .slice none 0 0, .string ⟨#[]⟩, .int .i64 0, .int .i64 0, .int .i64 0] 28))) := (((Below.refl _ w).alloc (Nat.le_refl _) _).alloc (by simp) _).alloc (by simp; omega) _
  have I0 : Hid (ObIn (((w.alloc (.cells #[.string o.k, .slice va o.l.length vc, .int .i64 o.r.s, .slice ua o.r.l.length uc, .string o.r.b, .int .i64 o.asked, .int .i64 o.got, .int .i64 o.ep] 28)).alloc (.cells #[.int .i64 r.s, .slice xa r.l.length xc, .string r.b] 26)).alloc (.cells #[.string ⟨#[]⟩, .slice none 0 0, .int .i64 0, .slice none 0 0, .string ⟨#[]⟩, .int .i64 0, .int .i64 0, .int .i64 0] 28)) (.slice va o.l.length vc) (.slice ua o.r.l.length uc) o) := h.kept B0.out
  have J0 : Hid (RsIn (((w.alloc (.cells #[.string o.k, .slice va o.l.length vc, .int .i64 o.r.s, .slice ua o.r.l.length uc, .string o.r.b, .int .i64 o.asked, .int .i64 o.got, .int .i64 o.ep] 28)).alloc (.cells #[.int .i64 r.s, .slice xa r.l.length xc, .string r.b] 26)).alloc (.cells #[.string ⟨#[]⟩, .slice none 0 0, .int .i64 0, .slice none 0 0, .string ⟨#[]⟩, .int .i64 0, .int .i64 0, .int .i64 0] 28)) (.slice xa r.l.length xc) r) := hr.kept B0.out
  have HSZ : Hid (o.k.size ≤ 1048576 ∧ o.r.b.size ≤ 1048576) := ⟨h.2.2, h.2.1.2⟩
  clear h hr
  generalize hB1 : obB o = b1 at HN HY j1 K1
  generalize hB2 : rsOk r = b2 at HN HY j2 K2
  clear hB1 hB2
  unfold obV rsV
  unfold obV at j1
  unfold rsV at j2
  go_enter Tryz.func27, Tryz.ntmps27
  go_wp2_with fail
  refine (j1 _ I0.out).mono ?_
  rintro e w1 ⟨rfl, hb1⟩
  have Q1 : Hid (ObB w1 w.heap.size o (.slice va o.l.length vc) (.slice ua o.r.l.length uc)) := Q0.out.next hb1
  have R1 : Hid (RsB w1 (w.heap.size + 1) r (.slice xa r.l.length xc)) := R0.out.next hb1
  have Z1 : Hid (ObB w1 (w.heap.size + 1 + 1) noO (.slice none 0 0) (.slice none 0 0)) := Z0.out.next hb1
  have B1 : Hid (Below w.heap.size w w1) := past6 B0.out hb1
  have I1 : Hid (ObIn w1 (.slice va o.l.length vc) (.slice ua o.r.l.length uc) o) := I0.out.kept hb1
  have J1 : Hid (RsIn w1 (.slice xa r.l.length xc) r) := J0.out.kept hb1
  clear hb1 Q0 R0 Z0 B0 I0 J0
  clear j1
  cases b1 with
  | false =>
    have HR : Hid (R = (noO, false)) := HN.out (fun h => by cases h.1)
    obtain ⟨z0, z1, z2, z3, z4, z5, z6, z7, zf, zh⟩ := Z1.out
    have HP : Hid (ObB (putL w1 (w.heap.size + 1 + 1) (obL noO (.slice none 0 0) (.slice none 0 0)) 0) (w.heap.size + 1 + 1) noO (.slice none 0 0) (.slice none 0 0)) := Z1.out.puts noO (.slice none 0 0) (.slice none 0 0)
    have BP : Hid (Below w.heap.size w (putL w1 (w.heap.size + 1 + 1) (obL noO (.slice none 0 0) (.slice none 0 0)) 0)) := putL_below (by omega) _ 0 B1.out
    simp only [noO, noS] at z0 z1 z2 z3 z4 z5 z6 z7
    go_wp2
    obtain ⟨p0, p1, p2, p3, p4, p5, p6, p7, pf, ph⟩ := HP.out
    have bp := BP.out
    simp only [obL, noO, noS, putL, Nat.zero_add, Nat.reduceAdd] at p0 p1 p2 p3 p4 p5 p6 p7 bp
    refine bodyPost_ret (v := .tuple #[obV noO (.slice none 0 0) (.slice none 0 0), .bool false]) (by unfold obV noO noS; simp [results, Tryz.results27, go_sem, p0, p1, p2, p3, p4, p5, p6, p7]) rfl ⟨(.slice none 0 0), (.slice none 0 0), by rw [HR.out]; rfl, by rw [HR.out]; exact HasF.none10 _ _, by rw [HR.out]; exact HasF.none10 _ _, (fun g h => by cases h), bp⟩
    
  | true =>
    obtain ⟨y0, y1, y2, yf, yh⟩ := R1.out
    go_wp2_with fail
    refine (j2 _ J1.out).mono ?_
    rintro e w2 ⟨rfl, hb2⟩
    have Q2 : Hid (ObB w2 w.heap.size o (.slice va o.l.length vc) (.slice ua o.r.l.length uc)) := Q1.out.next hb2
    have R2 : Hid (RsB w2 (w.heap.size + 1) r (.slice xa r.l.length xc)) := R1.out.next hb2
    have Z2 : Hid (ObB w2 (w.heap.size + 1 + 1) noO (.slice none 0 0) (.slice none 0 0)) := Z1.out.next hb2
    have B2 : Hid (Below w.heap.size w w2) := past6 B1.out hb2
    have I2 : Hid (ObIn w2 (.slice va o.l.length vc) (.slice ua o.r.l.length uc) o) := I1.out.kept hb2
    have J2 : Hid (RsIn w2 (.slice xa r.l.length xc) r) := J1.out.kept hb2
    clear hb2 Q1 R1 Z1 B1 I1 J1
    clear j2 y0 y1 y2 yf yh
    cases b2 with
    | false =>
      have HR : Hid (R = (noO, false)) := HN.out (fun h => by cases h.2.1)
      obtain ⟨z0, z1, z2, z3, z4, z5, z6, z7, zf, zh⟩ := Z2.out
      have HP : Hid (ObB (putL w2 (w.heap.size + 1 + 1) (obL noO (.slice none 0 0) (.slice none 0 0)) 0) (w.heap.size + 1 + 1) noO (.slice none 0 0) (.slice none 0 0)) := Z2.out.puts noO (.slice none 0 0) (.slice none 0 0)
      have BP : Hid (Below w.heap.size w (putL w2 (w.heap.size + 1 + 1) (obL noO (.slice none 0 0) (.slice none 0 0)) 0)) := putL_below (by omega) _ 0 B2.out
      simp only [noO, noS] at z0 z1 z2 z3 z4 z5 z6 z7
      go_wp2
      obtain ⟨p0, p1, p2, p3, p4, p5, p6, p7, pf, ph⟩ := HP.out
      have bp := BP.out
      simp only [obL, noO, noS, putL, Nat.zero_add, Nat.reduceAdd] at p0 p1 p2 p3 p4 p5 p6 p7 bp
      refine bodyPost_ret (v := .tuple #[obV noO (.slice none 0 0) (.slice none 0 0), .bool false]) (by unfold obV noO noS; simp [results, Tryz.results27, go_sem, p0, p1, p2, p3, p4, p5, p6, p7]) rfl ⟨(.slice none 0 0), (.slice none 0 0), by rw [HR.out]; rfl, by rw [HR.out]; exact HasF.none10 _ _, by rw [HR.out]; exact HasF.none10 _ _, (fun g h => by cases h), bp⟩
      
    | true =>
      obtain ⟨y0, y1, y2, yf, yh⟩ := R2.out
      by_cases h304 : r.s = 304
      · obtain ⟨kk, kf, kr, km1, km2⟩ := K1.out (by decide)
        have kx := K2.out (by decide)
        have kq := K3.out kr
        rw [h304] at y0
        have HN' : Hid (¬ obB (renO o r asked got) = true → R = (noO, false)) := fun hh => HN.out (fun h => hh h.2.2.2)
        have HY' : Hid (obB (renO o r asked got) = true → R = (renO o r asked got, true)) := fun hh => HY.out ⟨by decide, by decide, h304, hh⟩
        have FK : Hid (keyO o.k = true ∧ fldsOk o.l = true ∧ fldsOk r.l = true ∧ fldsOk o.r.l = true) := ⟨kk, kf, kx, kq⟩
        clear HN HY K1 K2 K3 kk kf kr km1 km2 kx kq h304
        go_upto_region 3 with fail
        clear y0 y1 y2 yf yh
        refine region_headsT 26 mixed (by decide) (by kernel_rfl) (by kernel_rfl) (by kernel_rfl) (by kernel_rfl) (frRn o r asked got va ua xa vc uc xc w.heap.size w2.heap.size) dRn (SRn w2) (GRn o r asked got va ua xa vc uc xc w.heap.size w2.heap.size) (fun i j hi hj h => dRn_ne hi hj h) ?put (fun _ => undef) rfl ?hS ?step ?done
        case put =>
          intro i o hi ho t v
          rcases (show i = 0 ∨ i = 1 ∨ i = 2 ∨ i = 3 ∨ i = 4 ∨ i = 5 ∨ i = 6 ∨ i = 7 ∨ i = 8 ∨ i = 9 ∨ i = 10 ∨ i = 11 ∨ i = 12 ∨ i = 13 ∨ i = 14 ∨ i = 15 ∨ i = 16 ∨ i = 17 ∨ i = 18 ∨ i = 19 ∨ i = 20 ∨ i = 21 ∨ i = 22 ∨ i = 23 ∨ i = 24 ∨ i = 25 by omega) with rfl | rfl | rfl | rfl | rfl | rfl | rfl | rfl | rfl | rfl | rfl | rfl | rfl | rfl | rfl | rfl | rfl | rfl | rfl | rfl | rfl | rfl | rfl | rfl | rfl | rfl
          all_goals
            obtain rfl := Option.some.inj ho
            rfl
        case step =>
          intro i o hi ho t x hS hdep K hK
          rcases (show i = 0 ∨ i = 1 ∨ i = 2 ∨ i = 3 ∨ i = 4 ∨ i = 5 ∨ i = 6 ∨ i = 7 ∨ i = 8 ∨ i = 9 ∨ i = 10 ∨ i = 11 ∨ i = 12 ∨ i = 13 ∨ i = 14 ∨ i = 15 ∨ i = 16 ∨ i = 17 ∨ i = 18 ∨ i = 19 ∨ i = 20 ∨ i = 21 ∨ i = 22 ∨ i = 23 ∨ i = 24 ∨ i = 25 by omega) with rfl | rfl | rfl | rfl | rfl | rfl | rfl | rfl | rfl | rfl | rfl | rfl | rfl | rfl | rfl | rfl | rfl | rfl | rfl | rfl | rfl | rfl | rfl | rfl | rfl | rfl
          all_goals obtain rfl := Option.some.inj ho
          · have HK : Hid (K ((frRn o r asked got va ua xa vc uc xc w.heap.size w2.heap.size t).put (some 25) (.pointer (some ⟨w.heap.size, 0, none⟩))) x) := hK _ _ (hS.upd _ (by decide) (Below.refl _ _)) (fun j u hj hne h => h) rfl
            have h2 := HK.out
            unfold frRn at h2 ⊢
            go_simp
            simpa [Act.put, Act.put] using h2
          · have e0 : t 25 = (.pointer (some ⟨w.heap.size, 0, none⟩)) := hdep { on := 0, ground := Ground.data } (by simp) rfl
            have c0 : x.cell? ⟨w.heap.size, 0, none⟩ = some (.string o.k) := (Q2.out.next hS.lo).c0
            have HK : Hid (K ((frRn o r asked got va ua xa vc uc xc w.heap.size w2.heap.size t).put (some 26) (.string o.k)) x) := hK _ _ (hS.upd _ (by decide) (Below.refl _ _)) (fun j u hj hne h => h) rfl
            have h2 := HK.out
            unfold frRn at h2 ⊢
            go_simp
            simpa [Act.put, e0, c0] using h2
          · have e1 : t 26 = (.string o.k) := hdep { on := 1, ground := Ground.data } (by simp) rfl
            refine step_call1 rfl 77 (.tmp 26) _ rfl (.string o.k) e1 (Go.Proofs.enters_of Tryz.func77 (by kernel_rfl) rfl _) (fun v y => v = (.string o.k) ∧ Below x.heap.size x y) ((clone _ x (by have := HSZ.out; omega)).mono ?_) ?_
            · rintro e y ⟨h0, h2⟩
              exact ⟨_, h0, rfl, h2⟩
            · rintro v y ⟨h1, h2⟩
              exact hK v y (hS.upd v (by decide) h2) (fun j u hj hne h => GRn.keep o r asked got va ua xa vc uc xc w.heap.size w2.heap.size h2 j u hj h) h1
          · have HK : Hid (K ((frRn o r asked got va ua xa vc uc xc w.heap.size w2.heap.size t).put (some 28) (.pointer (some ⟨w.heap.size, 1, none⟩))) x) := hK _ _ (hS.upd _ (by decide) (Below.refl _ _)) (fun j u hj hne h => h) rfl
            have h2 := HK.out
            unfold frRn at h2 ⊢
            go_simp
            simpa [Act.put, Act.put] using h2
          · have e3 : t 28 = (.pointer (some ⟨w.heap.size, 1, none⟩)) := hdep { on := 3, ground := Ground.data } (by simp) rfl
            have c0 : x.cell? ⟨w.heap.size, 1, none⟩ = some (.slice va o.l.length vc) := (Q2.out.next hS.lo).c1
            have HK : Hid (K ((frRn o r asked got va ua xa vc uc xc w.heap.size w2.heap.size t).put (some 29) (.slice va o.l.length vc)) x) := hK _ _ (hS.upd _ (by decide) (Below.refl _ _)) (fun j u hj hne h => h) rfl
            have h2 := HK.out
            unfold frRn at h2 ⊢
            go_simp
            simpa [Act.put, e3, c0] using h2
          · have e4 : t 29 = (.slice va o.l.length vc) := hdep { on := 4, ground := Ground.data } (by simp) rfl
            refine step_call1 rfl 78 (.tmp 29) _ rfl (.slice va o.l.length vc) e4 (Go.Proofs.enters_of Tryz.func78 (by kernel_rfl) rfl _) (fun v y => (∃ g1, v = (.slice (some ⟨g1, 0, none⟩) o.l.length o.l.length) ∧ HasF y x.heap.size (.slice (some ⟨g1, 0, none⟩) o.l.length o.l.length) o.l) ∧ Below x.heap.size x y) ((implCopied (.slice va o.l.length vc) o.l x ((I2.out.kept hS.lo).1.1) (by have := (fldsOk_parts FK.out.2.1).1; omega) (sml10 FK.out.2.1)).mono ?_) ?_
            · rintro e y ⟨⟨g1, h0, h1⟩, h2⟩
              exact ⟨_, h0, ⟨g1, rfl, h1⟩, h2⟩
            · rintro v y ⟨⟨g1, h0, h1⟩, h2⟩
              have hS2 : SRn w2 (updH t 30 v) y := by rw [h0]; exact hS.upA h2 h1.own.1 h1.own.2
              exact hK v y hS2 (fun j u hj hne h => GRn.keep o r asked got va ua xa vc uc xc w.heap.size w2.heap.size h2 j u hj h) ⟨g1, h0, h1.low hS.lo.size⟩
          · have HK : Hid (K ((frRn o r asked got va ua xa vc uc xc w.heap.size w2.heap.size t).put (some 31) (.pointer (some ⟨w.heap.size, 2, none⟩))) x) := hK _ _ (hS.upd _ (by decide) (Below.refl _ _)) (fun j u hj hne h => h) rfl
            have h2 := HK.out
            unfold frRn at h2 ⊢
            go_simp
            simpa [Act.put, Act.put] using h2
          · have e6 : t 31 = (.pointer (some ⟨w.heap.size, 2, none⟩)) := hdep { on := 6, ground := Ground.data } (by simp) rfl
            have HK : Hid (K ((frRn o r asked got va ua xa vc uc xc w.heap.size w2.heap.size t).put (some 32) (.pointer (some ⟨w.heap.size, 2, none⟩))) x) := hK _ _ (hS.upd _ (by decide) (Below.refl _ _)) (fun j u hj hne h => h) rfl
            have h2 := HK.out
            unfold frRn at h2 ⊢
            go_simp
            simpa [Act.put, e6] using h2
          · have e7 : t 32 = (.pointer (some ⟨w.heap.size, 2, none⟩)) := hdep { on := 7, ground := Ground.data } (by simp) rfl
            have c0 : x.cell? ⟨w.heap.size, 2, none⟩ = some (.int .i64 o.r.s) := (Q2.out.next hS.lo).c2
            have HK : Hid (K ((frRn o r asked got va ua xa vc uc xc w.heap.size w2.heap.size t).put (some 33) (.int .i64 o.r.s)) x) := hK _ _ (hS.upd _ (by decide) (Below.refl _ _)) (fun j u hj hne h => h) rfl
            have h2 := HK.out
            unfold frRn at h2 ⊢
            go_simp
            simpa [Act.put, e7, c0] using h2
          · have HK : Hid (K ((frRn o r asked got va ua xa vc uc xc w.heap.size w2.heap.size t).put (some 34) (.pointer (some ⟨w.heap.size, 2, none⟩))) x) := hK _ _ (hS.upd _ (by decide) (Below.refl _ _)) (fun j u hj hne h => h) rfl
            have h2 := HK.out
            unfold frRn at h2 ⊢
            go_simp
            simpa [Act.put, Act.put] using h2
          · have e9 : t 34 = (.pointer (some ⟨w.heap.size, 2, none⟩)) := hdep { on := 9, ground := Ground.data } (by simp) rfl
            have HK : Hid (K ((frRn o r asked got va ua xa vc uc xc w.heap.size w2.heap.size t).put (some 35) (.pointer (some ⟨w.heap.size, 3, none⟩))) x) := hK _ _ (hS.upd _ (by decide) (Below.refl _ _)) (fun j u hj hne h => h) rfl
            have h2 := HK.out
            unfold frRn at h2 ⊢
            go_simp
            simpa [Act.put, e9] using h2
          · have e10 : t 35 = (.pointer (some ⟨w.heap.size, 3, none⟩)) := hdep { on := 10, ground := Ground.data } (by simp) rfl
            have c0 : x.cell? ⟨w.heap.size, 3, none⟩ = some (.slice ua o.r.l.length uc) := (Q2.out.next hS.lo).c3
            have HK : Hid (K ((frRn o r asked got va ua xa vc uc xc w.heap.size w2.heap.size t).put (some 36) (.slice ua o.r.l.length uc)) x) := hK _ _ (hS.upd _ (by decide) (Below.refl _ _)) (fun j u hj hne h => h) rfl
            have h2 := HK.out
            unfold frRn at h2 ⊢
            go_simp
            simpa [Act.put, e10, c0] using h2
          · have HK : Hid (K ((frRn o r asked got va ua xa vc uc xc w.heap.size w2.heap.size t).put (some 37) (.pointer (some ⟨w.heap.size + 1, 1, none⟩))) x) := hK _ _ (hS.upd _ (by decide) (Below.refl _ _)) (fun j u hj hne h => h) rfl
            have h2 := HK.out
            unfold frRn at h2 ⊢
            go_simp
            simpa [Act.put, Act.put] using h2
          · have e12 : t 37 = (.pointer (some ⟨w.heap.size + 1, 1, none⟩)) := hdep { on := 12, ground := Ground.data } (by simp) rfl
            have c0 : x.cell? ⟨w.heap.size + 1, 1, none⟩ = some (.slice xa r.l.length xc) := (R2.out.next hS.lo).c1
            have HK : Hid (K ((frRn o r asked got va ua xa vc uc xc w.heap.size w2.heap.size t).put (some 38) (.slice xa r.l.length xc)) x) := hK _ _ (hS.upd _ (by decide) (Below.refl _ _)) (fun j u hj hne h => h) rfl
            have h2 := HK.out
            unfold frRn at h2 ⊢
            go_simp
            simpa [Act.put, e12, c0] using h2
          · have e11 : t 36 = (.slice ua o.r.l.length uc) := hdep { on := 11, ground := Ground.data } (by simp) rfl
            have e13 : t 38 = (.slice xa r.l.length xc) := hdep { on := 13, ground := Ground.data } (by simp) rfl
            refine step_call2 rfl 79 (.tmp 36) (.tmp 38) _ rfl (.slice ua o.r.l.length uc) (.slice xa r.l.length xc) e11 e13 (Go.Proofs.enters_of Tryz.func79 (by kernel_rfl) rfl _) (fun v y => (∃ g1, v = (.slice (some ⟨g1, 0, none⟩) (ovrL o.r.l r.l).length (ovrL o.r.l r.l).length) ∧ HasF y x.heap.size (.slice (some ⟨g1, 0, none⟩) (ovrL o.r.l r.l).length (ovrL o.r.l r.l).length) (ovrL o.r.l r.l)) ∧ Below x.heap.size x y) ((implOver (.slice ua o.r.l.length uc) (.slice xa r.l.length xc) o.r.l r.l x ((I2.out.kept hS.lo).2.1.1.1) ((J2.out.kept hS.lo).1.1) (by have := (fldsOk_parts FK.out.2.2.2).1; omega) (by have := (fldsOk_parts FK.out.2.2.1).1; omega) (sml10 FK.out.2.2.2) (sml10 FK.out.2.2.1)).mono ?_) ?_
            · rintro e y ⟨⟨g1, h0, h1⟩, h2⟩
              exact ⟨_, h0, ⟨g1, rfl, h1⟩, h2⟩
            · rintro v y ⟨⟨g1, h0, h1⟩, h2⟩
              have hS2 : SRn w2 (updH t 39 v) y := by rw [h0]; exact hS.upB h2 h1.own.1 h1.own.2
              exact hK v y hS2 (fun j u hj hne h => GRn.keep o r asked got va ua xa vc uc xc w.heap.size w2.heap.size h2 j u hj h) ⟨g1, h0, h1.low hS.lo.size⟩
          · have HK : Hid (K ((frRn o r asked got va ua xa vc uc xc w.heap.size w2.heap.size t).put (some 40) (.pointer (some ⟨w.heap.size, 2, none⟩))) x) := hK _ _ (hS.upd _ (by decide) (Below.refl _ _)) (fun j u hj hne h => h) rfl
            have h2 := HK.out
            unfold frRn at h2 ⊢
            go_simp
            simpa [Act.put, Act.put] using h2
          · have e15 : t 40 = (.pointer (some ⟨w.heap.size, 2, none⟩)) := hdep { on := 15, ground := Ground.data } (by simp) rfl
            have HK : Hid (K ((frRn o r asked got va ua xa vc uc xc w.heap.size w2.heap.size t).put (some 41) (.pointer (some ⟨w.heap.size, 4, none⟩))) x) := hK _ _ (hS.upd _ (by decide) (Below.refl _ _)) (fun j u hj hne h => h) rfl
            have h2 := HK.out
            unfold frRn at h2 ⊢
            go_simp
            simpa [Act.put, e15] using h2
          · have e16 : t 41 = (.pointer (some ⟨w.heap.size, 4, none⟩)) := hdep { on := 16, ground := Ground.data } (by simp) rfl
            have c0 : x.cell? ⟨w.heap.size, 4, none⟩ = some (.string o.r.b) := (Q2.out.next hS.lo).c4
            have HK : Hid (K ((frRn o r asked got va ua xa vc uc xc w.heap.size w2.heap.size t).put (some 42) (.string o.r.b)) x) := hK _ _ (hS.upd _ (by decide) (Below.refl _ _)) (fun j u hj hne h => h) rfl
            have h2 := HK.out
            unfold frRn at h2 ⊢
            go_simp
            simpa [Act.put, e16, c0] using h2
          · have e17 : t 42 = (.string o.r.b) := hdep { on := 17, ground := Ground.data } (by simp) rfl
            refine step_call1 rfl 77 (.tmp 42) _ rfl (.string o.r.b) e17 (Go.Proofs.enters_of Tryz.func77 (by kernel_rfl) rfl _) (fun v y => v = (.string o.r.b) ∧ Below x.heap.size x y) ((clone _ x (by have := HSZ.out; omega)).mono ?_) ?_
            · rintro e y ⟨h0, h2⟩
              exact ⟨_, h0, rfl, h2⟩
            · rintro v y ⟨h1, h2⟩
              exact hK v y (hS.upd v (by decide) h2) (fun j u hj hne h => GRn.keep o r asked got va ua xa vc uc xc w.heap.size w2.heap.size h2 j u hj h) h1
          · have e8 : t 33 = (.int .i64 o.r.s) := hdep { on := 8, ground := Ground.data } (by simp) rfl
            have e18 : t 43 = (.string o.r.b) := hdep { on := 18, ground := Ground.data } (by simp) rfl
            have e14 : ∃ g1, t 39 = (.slice (some ⟨g1, 0, none⟩) (ovrL o.r.l r.l).length (ovrL o.r.l r.l).length) ∧ HasF x w2.heap.size (.slice (some ⟨g1, 0, none⟩) (ovrL o.r.l r.l).length (ovrL o.r.l r.l).length) (ovrL o.r.l r.l) := hdep { on := 14, ground := Ground.data } (by simp) rfl
            obtain ⟨g1, e14, h14⟩ := e14
            have hS2 : SRn w2 (updH t 44 (.agg #[.int .i64 o.r.s, .slice (some ⟨g1, 0, none⟩) (ovrL o.r.l r.l).length (ovrL o.r.l r.l).length, .string o.r.b])) x := hS.upC e14
            have HK : Hid (K ((frRn o r asked got va ua xa vc uc xc w.heap.size w2.heap.size t).put (some 44) (.agg #[.int .i64 o.r.s, .slice (some ⟨g1, 0, none⟩) (ovrL o.r.l r.l).length (ovrL o.r.l r.l).length, .string o.r.b])) x) := hK _ _ hS2 (fun j u hj hne h => h) ⟨g1, rfl, h14⟩
            have h2 := HK.out
            unfold frRn at h2 ⊢
            go_simp
            simpa [Act.put, e8, e18, e14] using h2
          · have HK : Hid (K ((frRn o r asked got va ua xa vc uc xc w.heap.size w2.heap.size t).put (some 45) (.int .i64 asked)) x) := hK _ _ (hS.upd _ (by decide) (Below.refl _ _)) (fun j u hj hne h => h) rfl
            have h2 := HK.out
            unfold frRn at h2 ⊢
            go_simp
            simpa [Act.put, Act.put] using h2
          · have HK : Hid (K ((frRn o r asked got va ua xa vc uc xc w.heap.size w2.heap.size t).put (some 46) (.int .i64 got)) x) := hK _ _ (hS.upd _ (by decide) (Below.refl _ _)) (fun j u hj hne h => h) rfl
            have h2 := HK.out
            unfold frRn at h2 ⊢
            go_simp
            simpa [Act.put, Act.put] using h2
          · have HK : Hid (K ((frRn o r asked got va ua xa vc uc xc w.heap.size w2.heap.size t).put (some 47) (.pointer (some ⟨w.heap.size, 7, none⟩))) x) := hK _ _ (hS.upd _ (by decide) (Below.refl _ _)) (fun j u hj hne h => h) rfl
            have h2 := HK.out
            unfold frRn at h2 ⊢
            go_simp
            simpa [Act.put, Act.put] using h2
          · have e22 : t 47 = (.pointer (some ⟨w.heap.size, 7, none⟩)) := hdep { on := 22, ground := Ground.data } (by simp) rfl
            have c0 : x.cell? ⟨w.heap.size, 7, none⟩ = some (.int .i64 o.ep) := (Q2.out.next hS.lo).c7
            have HK : Hid (K ((frRn o r asked got va ua xa vc uc xc w.heap.size w2.heap.size t).put (some 48) (.int .i64 o.ep)) x) := hK _ _ (hS.upd _ (by decide) (Below.refl _ _)) (fun j u hj hne h => h) rfl
            have h2 := HK.out
            unfold frRn at h2 ⊢
            go_simp
            simpa [Act.put, e22, c0] using h2
          · have e2 : t 27 = (.string o.k) := hdep { on := 2, ground := Ground.data } (by simp) rfl
            have e20 : t 45 = (.int .i64 asked) := hdep { on := 20, ground := Ground.data } (by simp) rfl
            have e21 : t 46 = (.int .i64 got) := hdep { on := 21, ground := Ground.data } (by simp) rfl
            have e23 : t 48 = (.int .i64 o.ep) := hdep { on := 23, ground := Ground.data } (by simp) rfl
            have e5 : ∃ g1, t 30 = (.slice (some ⟨g1, 0, none⟩) o.l.length o.l.length) ∧ HasF x w2.heap.size (.slice (some ⟨g1, 0, none⟩) o.l.length o.l.length) o.l := hdep { on := 5, ground := Ground.data } (by simp) rfl
            obtain ⟨g1, e5, h5⟩ := e5
            have e19 : ∃ g2, t 44 = .agg #[.int .i64 o.r.s, .slice (some ⟨g2, 0, none⟩) (ovrL o.r.l r.l).length (ovrL o.r.l r.l).length, .string o.r.b] ∧ HasF x w2.heap.size (.slice (some ⟨g2, 0, none⟩) (ovrL o.r.l r.l).length (ovrL o.r.l r.l).length) (ovrL o.r.l r.l) := hdep { on := 19, ground := Ground.data } (by simp) rfl
            obtain ⟨g2, e19, h19⟩ := e19
            have hS2 : SRn w2 (updH t 49 (.agg #[.string o.k, .slice (some ⟨g1, 0, none⟩) o.l.length o.l.length, .int .i64 o.r.s, .slice (some ⟨g2, 0, none⟩) (ovrL o.r.l r.l).length (ovrL o.r.l r.l).length, .string o.r.b, .int .i64 asked, .int .i64 got, .int .i64 o.ep])) x := hS.upD e5 e19
            have HK : Hid (K ((frRn o r asked got va ua xa vc uc xc w.heap.size w2.heap.size t).put (some 49) (.agg #[.string o.k, .slice (some ⟨g1, 0, none⟩) o.l.length o.l.length, .int .i64 o.r.s, .slice (some ⟨g2, 0, none⟩) (ovrL o.r.l r.l).length (ovrL o.r.l r.l).length, .string o.r.b, .int .i64 asked, .int .i64 got, .int .i64 o.ep])) x) := hK _ _ hS2 (fun j u hj hne h => h) ⟨g1, g2, rfl, h5, h19⟩
            have h2 := HK.out
            unfold frRn at h2 ⊢
            go_simp
            simpa [Act.put, e2, e5, e19, e20, e21, e23] using h2
          · have hba := (Below.refl x.heap.size x).alloc (Nat.le_refl _) (.cells #[.string ⟨#[]⟩, .slice none 0 0, .int .i64 0, .slice none 0 0, .string ⟨#[]⟩, .int .i64 0, .int .i64 0, .int .i64 0] 28)
            have HK : Hid (K ((frRn o r asked got va ua xa vc uc xc w.heap.size w2.heap.size t).put (some 10) (.pointer (some ⟨x.heap.size, 0, none⟩))) (x.alloc (.cells #[.string ⟨#[]⟩, .slice none 0 0, .int .i64 0, .slice none 0 0, .string ⟨#[]⟩, .int .i64 0, .int .i64 0, .int .i64 0] 28))) := hK _ _ (hS.upd _ (by decide) hba) (fun j u hj hne h => GRn.keep o r asked got va ua xa vc uc xc w.heap.size w2.heap.size hba j u hj h) ⟨x.heap.size, rfl, newAt x _, hS.lo.size⟩
            unfold frRn
            go_simp
            exact HK.out
        case hS =>
          refine ⟨⟨rfl, rfl, rfl, Nat.le_refl _, fun _ _ => rfl⟩, fun g hg => ?_, fun g hg => ?_, fun g hg => ?_⟩
          · rcases hg with hg | hg <;> cases hg
          · rcases hg with hg | hg | hg <;> cases hg
          · rcases hg with hg | hg <;> cases hg
        case done =>
          intro t x hS hG
          obtain ⟨g1, g2, e49, hA, hB⟩ : ∃ g1 g2, t 49 = .agg #[.string o.k, .slice (some ⟨g1, 0, none⟩) o.l.length o.l.length, .int .i64 o.r.s, .slice (some ⟨g2, 0, none⟩) (ovrL o.r.l r.l).length (ovrL o.r.l r.l).length, .string o.r.b, .int .i64 asked, .int .i64 got, .int .i64 o.ep] ∧ HasF x w2.heap.size (.slice (some ⟨g1, 0, none⟩) o.l.length o.l.length) o.l ∧ HasF x w2.heap.size (.slice (some ⟨g2, 0, none⟩) (ovrL o.r.l r.l).length (ovrL o.r.l r.l).length) (ovrL o.r.l r.l) := hG 24 (by decide)
          obtain ⟨gb, e10, hX, hgb⟩ : ∃ gb, t 10 = .pointer (some ⟨gb, 0, none⟩) ∧ x.heap[gb]? = some (.cells #[.string ⟨#[]⟩, .slice none 0 0, .int .i64 0, .slice none 0 0, .string ⟨#[]⟩, .int .i64 0, .int .i64 0, .int .i64 0] 28 (0, 0)) ∧ w2.heap.size ≤ gb := hG 25 (by decide)
          have hne : g1 ≠ g2 := fun e => by
            refine hS.ab g1 (.inr (by rw [e49]; rfl)) (.inr (.inr ?_))
            rw [e49, e]
            rfl
          have hn2 : w.heap.size + 1 + 1 < w2.heap.size := Z2.out.hi
          have X0 : ObB x gb noO (.slice none 0 0) (.slice none 0 0) := ⟨rowCell hX, rowCell hX, rowCell hX, rowCell hX, rowCell hX, rowCell hX, rowCell hX, rowCell hX, fun k => by simp [World.frozen?, hX], (Array.getElem?_eq_some_iff.1 hX).1⟩
          have hbx : Below w.heap.size w x := past6 B2.out hS.lo
          have nA : ∀ j, (Value.ownBlock (.slice (some ⟨g1, 0, none⟩) o.l.length o.l.length)) = some j → j ≠ gb := fun j hj e => by
            cases hj
            rcases hA with ⟨h0, _⟩ | ⟨g', cap, cur, hv, hbg, hg', rest⟩
            · cases h0
            · cases hv
              have e' : g1 = gb := e
              rw [e', hX] at hg'
              injection hg' with e2
              injection e2 with _ e3 _
              exact absurd e3 (by decide)
          have nB : ∀ j, (Value.ownBlock (.slice (some ⟨g2, 0, none⟩) (ovrL o.r.l r.l).length (ovrL o.r.l r.l).length)) = some j → j ≠ gb := fun j hj e => by
            cases hj
            rcases hB with ⟨h0, _⟩ | ⟨g', cap, cur, hv, hbg, hg', rest⟩
            · cases h0
            · cases hv
              have e' : g2 = gb := e
              rw [e', hX] at hg'
              injection hg' with e2
              injection e2 with _ e3 _
              exact absurd e3 (by decide)
          have N1 : Hid (ObB (putL x gb (obL (renO o r asked got) (.slice (some ⟨g1, 0, none⟩) o.l.length o.l.length) (.slice (some ⟨g2, 0, none⟩) (ovrL o.r.l r.l).length (ovrL o.r.l r.l).length)) 0) gb (renO o r asked got) (.slice (some ⟨g1, 0, none⟩) o.l.length o.l.length) (.slice (some ⟨g2, 0, none⟩) (ovrL o.r.l r.l).length (ovrL o.r.l r.l).length)) := X0.puts (renO o r asked got) (.slice (some ⟨g1, 0, none⟩) o.l.length o.l.length) (.slice (some ⟨g2, 0, none⟩) (ovrL o.r.l r.l).length (ovrL o.r.l r.l).length)
          have H1 : Hid (HasF (putL x gb (obL (renO o r asked got) (.slice (some ⟨g1, 0, none⟩) o.l.length o.l.length) (.slice (some ⟨g2, 0, none⟩) (ovrL o.r.l r.l).length (ovrL o.r.l r.l).length)) 0) w2.heap.size (.slice (some ⟨g1, 0, none⟩) o.l.length o.l.length) o.l) := HasF.putL11 nA hA _ 0
          have H2 : Hid (HasF (putL x gb (obL (renO o r asked got) (.slice (some ⟨g1, 0, none⟩) o.l.length o.l.length) (.slice (some ⟨g2, 0, none⟩) (ovrL o.r.l r.l).length (ovrL o.r.l r.l).length)) 0) w2.heap.size (.slice (some ⟨g2, 0, none⟩) (ovrL o.r.l r.l).length (ovrL o.r.l r.l).length) (ovrL o.r.l r.l)) := HasF.putL11 nB hB _ 0
          have BC : Hid (Below w.heap.size w (putL x gb (obL (renO o r asked got) (.slice (some ⟨g1, 0, none⟩) o.l.length o.l.length) (.slice (some ⟨g2, 0, none⟩) (ovrL o.r.l r.l).length (ovrL o.r.l r.l).length)) 0)) := putL_below (by omega) _ 0 hbx
          have ZC : Hid (ObB (putL x gb (obL (renO o r asked got) (.slice (some ⟨g1, 0, none⟩) o.l.length o.l.length) (.slice (some ⟨g2, 0, none⟩) (ovrL o.r.l r.l).length (ovrL o.r.l r.l).length)) 0) (w.heap.size + 1 + 1) noO (.slice none 0 0) (.slice none 0 0)) := (Z2.out.next hS.lo).same (putL_block gb _ 0 x _ (by omega)) (by rw [putL_size]; exact Nat.le_refl _)
          obtain ⟨z0, z1, z2, z3, z4, z5, z6, z7, zf, zh⟩ := X0
          simp only [noO, noS] at z0 z1 z2 z3 z4 z5 z6 z7
          have ePL : (putL x gb (obL (renO o r asked got) (.slice (some ⟨g1, 0, none⟩) o.l.length o.l.length) (.slice (some ⟨g2, 0, none⟩) (ovrL o.r.l r.l).length (ovrL o.r.l r.l).length)) 0) = ((((((((x.setCell ⟨gb, 0, none⟩ (.string o.k)).setCell ⟨gb, 1, none⟩ (.slice (some ⟨g1, 0, none⟩) o.l.length o.l.length)).setCell ⟨gb, 2, none⟩ (.int .i64 o.r.s)).setCell ⟨gb, 3, none⟩ (.slice (some ⟨g2, 0, none⟩) (ovrL o.r.l r.l).length (ovrL o.r.l r.l).length)).setCell ⟨gb, 4, none⟩ (.string o.r.b)).setCell ⟨gb, 5, none⟩ (.int .i64 asked)).setCell ⟨gb, 6, none⟩ (.int .i64 got)).setCell ⟨gb, 7, none⟩ (.int .i64 o.ep)) := rfl
          rw [ePL] at N1 H1 H2 BC ZC
          have jO : ∀ W, ObIn W (.slice (some ⟨g1, 0, none⟩) o.l.length o.l.length) (.slice (some ⟨g2, 0, none⟩) (ovrL o.r.l r.l).length (ovrL o.r.l r.l).length) (renO o r asked got) → Calls Tryz.prog 19 #[.agg #[.string o.k, .slice (some ⟨g1, 0, none⟩) o.l.length o.l.length, .int .i64 o.r.s, .slice (some ⟨g2, 0, none⟩) (ovrL o.r.l r.l).length (ovrL o.r.l r.l).length, .string o.r.b, .int .i64 asked, .int .i64 got, .int .i64 o.ep]] W fun e w' => e = .returned (.bool (obB (renO o r asked got))) ∧ Below W.heap.size W w' := fun W hW => implObOk (renO o r asked got) (.slice (some ⟨g1, 0, none⟩) o.l.length o.l.length) (.slice (some ⟨g2, 0, none⟩) (ovrL o.r.l r.l).length (ovrL o.r.l r.l).length) W hW
          clear hA hB nA nB hX hbx hS hG ePL
          show wpList Tryz.prog _ _ [_] _ x
          unfold frRn
          rw [e49, e10]
          clear e49 e10
          go_upto_region 4 with fail
          clear z0 z1 z2 z3 z4 z5 z6 z7 zf zh
          generalize ((((((((x.setCell ⟨gb, 0, none⟩ (.string o.k)).setCell ⟨gb, 1, none⟩ (.slice (some ⟨g1, 0, none⟩) o.l.length o.l.length)).setCell ⟨gb, 2, none⟩ (.int .i64 o.r.s)).setCell ⟨gb, 3, none⟩ (.slice (some ⟨g2, 0, none⟩) (ovrL o.r.l r.l).length (ovrL o.r.l r.l).length)).setCell ⟨gb, 4, none⟩ (.string o.r.b)).setCell ⟨gb, 5, none⟩ (.int .i64 asked)).setCell ⟨gb, 6, none⟩ (.int .i64 got)).setCell ⟨gb, 7, none⟩ (.int .i64 o.ep)) = w5 at N1 H1 H2 BC ZC ⊢
          have hO5 : Hid (ObIn w5 (.slice (some ⟨g1, 0, none⟩) o.l.length o.l.length) (.slice (some ⟨g2, 0, none⟩) (ovrL o.r.l r.l).length (ovrL o.r.l r.l).length) (renO o r asked got)) := by
            have s1 := szL_flds FK.out.2.1
            have s2 := szL_flds FK.out.2.2.2
            have s3 := szL_flds FK.out.2.2.1
            have s4 := (ovrL_size r.l o.r.l)
            have l1 := (fldsOk_parts FK.out.2.1).1
            have l2 := (fldsOk_parts FK.out.2.2.2).1
            have l3 := (fldsOk_parts FK.out.2.2.1).1
            exact ⟨H1.out.fitsR (by show szL o.l ≤ _; omega) (by show o.l.length ≤ _; omega), ⟨H2.out.fitsR (by show szL (ovrL o.r.l r.l) ≤ _; omega) (by show (ovrL o.r.l r.l).length ≤ _; omega), HSZ.out.2⟩, HSZ.out.1⟩
          generalize hbo : obB (renO o r asked got) = b3 at HN' HY' jO
          clear hbo
          obtain ⟨n0', n1', n2', n3', n4', n5', n6', n7', nf', nh'⟩ := N1.out
          simp only [renO] at n0' n1' n2' n3' n4' n5' n6' n7'
          go_wp2_with fail
          refine (jO _ hO5.out).mono ?_
          rintro e w6 ⟨rfl, hb6⟩
          have N6 : Hid (ObB w6 gb (renO o r asked got) (.slice (some ⟨g1, 0, none⟩) o.l.length o.l.length) (.slice (some ⟨g2, 0, none⟩) (ovrL o.r.l r.l).length (ovrL o.r.l r.l).length)) := N1.out.next hb6
          have H16 : Hid (HasF w6 w2.heap.size (.slice (some ⟨g1, 0, none⟩) o.l.length o.l.length) o.l) := H1.out.kept hb6
          have H26 : Hid (HasF w6 w2.heap.size (.slice (some ⟨g2, 0, none⟩) (ovrL o.r.l r.l).length (ovrL o.r.l r.l).length) (ovrL o.r.l r.l)) := H2.out.kept hb6
          have B6 : Hid (Below w.heap.size w w6) := past6 BC.out hb6
          have Z6 : Hid (ObB w6 (w.heap.size + 1 + 1) noO (.slice none 0 0) (.slice none 0 0)) := ZC.out.next hb6
          clear hb6 N1 H1 H2 BC ZC hO5 jO n0' n1' n2' n3' n4' n5' n6' n7' nf' nh'
          cases b3 with
          | false =>
            have HR : Hid (R = (noO, false)) := HN'.out (by simp)
            obtain ⟨z0, z1, z2, z3, z4, z5, z6, z7, zf, zh⟩ := Z6.out
            have HP : Hid (ObB (putL w6 (w.heap.size + 1 + 1) (obL noO (.slice none 0 0) (.slice none 0 0)) 0) (w.heap.size + 1 + 1) noO (.slice none 0 0) (.slice none 0 0)) := Z6.out.puts noO (.slice none 0 0) (.slice none 0 0)
            have BP : Hid (Below w.heap.size w (putL w6 (w.heap.size + 1 + 1) (obL noO (.slice none 0 0) (.slice none 0 0)) 0)) := putL_below (by omega) _ 0 B6.out
            simp only [noO, noS] at z0 z1 z2 z3 z4 z5 z6 z7
            go_wp2
            obtain ⟨p0, p1, p2, p3, p4, p5, p6, p7, pf, ph⟩ := HP.out
            have bp := BP.out
            simp only [obL, noO, noS, putL, Nat.zero_add, Nat.reduceAdd] at p0 p1 p2 p3 p4 p5 p6 p7 bp
            refine bodyPost_ret (v := .tuple #[obV noO (.slice none 0 0) (.slice none 0 0), .bool false]) (by unfold obV noO noS; simp [results, Tryz.results27, go_sem, p0, p1, p2, p3, p4, p5, p6, p7]) rfl ⟨(.slice none 0 0), (.slice none 0 0), by rw [HR.out]; rfl, by rw [HR.out]; exact HasF.none10 _ _, by rw [HR.out]; exact HasF.none10 _ _, (fun g h => by cases h), bp⟩
            
          | true =>
            have HR : Hid (R = ((renO o r asked got), true)) := HY'.out (by simp)
            obtain ⟨n0', n1', n2', n3', n4', n5', n6', n7', nf', nh'⟩ := N6.out
            simp only [renO] at n0' n1' n2' n3' n4' n5' n6' n7'
            obtain ⟨z0, z1, z2, z3, z4, z5, z6, z7, zf, zh⟩ := Z6.out
            have HP : Hid (ObB (putL w6 (w.heap.size + 1 + 1) (obL (renO o r asked got) (.slice (some ⟨g1, 0, none⟩) o.l.length o.l.length) (.slice (some ⟨g2, 0, none⟩) (ovrL o.r.l r.l).length (ovrL o.r.l r.l).length)) 0) (w.heap.size + 1 + 1) (renO o r asked got) (.slice (some ⟨g1, 0, none⟩) o.l.length o.l.length) (.slice (some ⟨g2, 0, none⟩) (ovrL o.r.l r.l).length (ovrL o.r.l r.l).length)) := Z6.out.puts (renO o r asked got) (.slice (some ⟨g1, 0, none⟩) o.l.length o.l.length) (.slice (some ⟨g2, 0, none⟩) (ovrL o.r.l r.l).length (ovrL o.r.l r.l).length)
            have BP : Hid (Below w.heap.size w (putL w6 (w.heap.size + 1 + 1) (obL (renO o r asked got) (.slice (some ⟨g1, 0, none⟩) o.l.length o.l.length) (.slice (some ⟨g2, 0, none⟩) (ovrL o.r.l r.l).length (ovrL o.r.l r.l).length)) 0)) := putL_below (by omega) _ 0 B6.out
            have P1 : Hid (HasF (putL w6 (w.heap.size + 1 + 1) (obL (renO o r asked got) (.slice (some ⟨g1, 0, none⟩) o.l.length o.l.length) (.slice (some ⟨g2, 0, none⟩) (ovrL o.r.l r.l).length (ovrL o.r.l r.l).length)) 0) w.heap.size (.slice (some ⟨g1, 0, none⟩) o.l.length o.l.length) o.l) := (HasF.putL11 (fun j hj => by cases hj; show g1 ≠ _; have := H16.out.own.1; omega) H16.out _ 0).low (by omega)
            have P2 : Hid (HasF (putL w6 (w.heap.size + 1 + 1) (obL (renO o r asked got) (.slice (some ⟨g1, 0, none⟩) o.l.length o.l.length) (.slice (some ⟨g2, 0, none⟩) (ovrL o.r.l r.l).length (ovrL o.r.l r.l).length)) 0) w.heap.size (.slice (some ⟨g2, 0, none⟩) (ovrL o.r.l r.l).length (ovrL o.r.l r.l).length) (ovrL o.r.l r.l)) := (HasF.putL11 (fun j hj => by cases hj; show g2 ≠ _; have := H26.out.own.1; omega) H26.out _ 0).low (by omega)
            simp only [noO, noS] at z0 z1 z2 z3 z4 z5 z6 z7
            have HNE : Hid (g1 ≠ g2) := hne
            clear hne HN' HY' H16 H26 B6 N6 Z6
            go_wp2
            obtain ⟨p0, p1, p2, p3, p4, p5, p6, p7, pf, ph⟩ := HP.out
            have bp := BP.out
            have q1 := P1.out
            have q2 := P2.out
            simp only [obL, renO, putL, Nat.zero_add, Nat.reduceAdd] at p0 p1 p2 p3 p4 p5 p6 p7 bp q1 q2
            refine bodyPost_ret (v := .tuple #[obV (renO o r asked got) (.slice (some ⟨g1, 0, none⟩) o.l.length o.l.length) (.slice (some ⟨g2, 0, none⟩) (ovrL o.r.l r.l).length (ovrL o.r.l r.l).length), .bool true]) (by unfold obV renO; simp [results, Tryz.results27, go_sem, p0, p1, p2, p3, p4, p5, p6, p7]) rfl ⟨(.slice (some ⟨g1, 0, none⟩) o.l.length o.l.length), (.slice (some ⟨g2, 0, none⟩) (ovrL o.r.l r.l).length (ovrL o.r.l r.l).length), by rw [HR.out]; rfl, by rw [HR.out]; exact q1, by rw [HR.out]; exact q2, (fun g h1 h2 => by cases h1; cases h2; exact HNE.out rfl), bp⟩
      · have k304 : (r.s != 304) = true := by rw [bne_iff_ne]; exact h304
        have HR : Hid (R = (noO, false)) := HN.out (fun h => h304 h.2.2.1)
        obtain ⟨z0, z1, z2, z3, z4, z5, z6, z7, zf, zh⟩ := Z2.out
        have HP : Hid (ObB (putL w2 (w.heap.size + 1 + 1) (obL noO (.slice none 0 0) (.slice none 0 0)) 0) (w.heap.size + 1 + 1) noO (.slice none 0 0) (.slice none 0 0)) := Z2.out.puts noO (.slice none 0 0) (.slice none 0 0)
        have BP : Hid (Below w.heap.size w (putL w2 (w.heap.size + 1 + 1) (obL noO (.slice none 0 0) (.slice none 0 0)) 0)) := putL_below (by omega) _ 0 B2.out
        simp only [noO, noS] at z0 z1 z2 z3 z4 z5 z6 z7
        go_wp2
        obtain ⟨p0, p1, p2, p3, p4, p5, p6, p7, pf, ph⟩ := HP.out
        have bp := BP.out
        simp only [obL, noO, noS, putL, Nat.zero_add, Nat.reduceAdd] at p0 p1 p2 p3 p4 p5 p6 p7 bp
        refine bodyPost_ret (v := .tuple #[obV noO (.slice none 0 0) (.slice none 0 0), .bool false]) (by unfold obV noO noS; simp [results, Tryz.results27, go_sem, p0, p1, p2, p3, p4, p5, p6, p7]) rfl ⟨(.slice none 0 0), (.slice none 0 0), by rw [HR.out]; rfl, by rw [HR.out]; exact HasF.none10 _ _, by rw [HR.out]; exact HasF.none10 _ _, (fun g h => by cases h), bp⟩
        
end Go.Proofs.YtkaogmdhjcgcdaaGreatDoor
namespace Go.Proofs.YtkaogmdhjcgcdaaGreatDoor
open Go.RowKit
set_option linter.unusedVariables false

theorem cutE_hit {b : UInt8} {l sub : List UInt8} (h : sub.isPrefixOf (b :: l) = true) : Lib.cut (b :: l) sub = ([], (b :: l).drop sub.length, true) := by
  unfold Lib.cut
  rw [Lib.index, if_pos h]
  simp
theorem cutE_miss {b : UInt8} {l sub : List UInt8} (h : sub.isPrefixOf (b :: l) = false) : Lib.cut (b :: l) sub = if (Lib.cut l sub).2.2 = true then (b :: (Lib.cut l sub).1, (Lib.cut l sub).2.1, true) else (b :: l, [], false) := by
  have hg := Lib.index_ge l sub
  have hi : Lib.index (b :: l) sub = if Lib.index l sub == -1 then -1 else Lib.index l sub + 1 := by
    rw [Lib.index, if_neg (by rw [h]; decide)]
  unfold Lib.cut
  rw [hi]
  by_cases h1 : Lib.index l sub = -1
  · rw [h1]; simp
  · obtain ⟨n, hn⟩ : ∃ n : Nat, Lib.index l sub = n := ⟨(Lib.index l sub).toNat, by omega⟩
    rw [hn]
    have e1 : ((n : Int) == -1) = false := by simp
    have e2 : ((n : Int) + 1).toNat = n + 1 := by omega
    simp only [e1, Bool.false_eq_true, if_false, if_pos (show (0 : Int) ≤ (n : Int) + 1 by omega), if_pos (show (0 : Int) ≤ (n : Int) by omega), if_true, e2, Int.toNat_natCast, List.take_succ_cons]
    rw [show n + 1 + sub.length = (n + sub.length) + 1 from by omega, List.drop_succ_cons]
/-- A text cut at its first sign c. -/
theorem cutE_is (c : UInt8) : ∀ l : List UInt8, c ∉ (Lib.cut l [c]).1 ∧ (((Lib.cut l [c]).2.2 = true ∧ l = (Lib.cut l [c]).1 ++ c :: (Lib.cut l [c]).2.1) ∨ ((Lib.cut l [c]).2.2 = false ∧ l = (Lib.cut l [c]).1 ∧ (Lib.cut l [c]).2.1 = []))
  | [] => ⟨by simp [Lib.cut, Lib.index], .inr ⟨rfl, rfl, rfl⟩⟩
  | b :: t => by
    by_cases h : b = c
    · subst h
      rw [cutE_hit (by simp [List.isPrefixOf])]
      exact ⟨by simp, .inl ⟨rfl, by simp⟩⟩
    · have hp : ([c] : List UInt8).isPrefixOf (b :: t) = false := by
        simp [List.isPrefixOf]
        exact fun e => h e.symm
      obtain ⟨h1, h2⟩ := cutE_is c t
      rw [cutE_miss hp]
      rcases h2 with ⟨h3, h4⟩ | ⟨h3, h4, h5⟩
      · rw [if_pos h3]
        exact ⟨by simp only [List.mem_cons, not_or]; exact ⟨fun e => h e.symm, h1⟩, .inl ⟨rfl, by simp only [List.cons_append]; rw [← h4]⟩⟩
      · rw [if_neg (by rw [h3]; decide)]
        refine ⟨?_, .inr ⟨rfl, rfl, rfl⟩⟩
        simp only [List.mem_cons, not_or]
        exact ⟨fun e => h e.symm, by rw [← h4] at h1; exact h1⟩
theorem split_same {c : UInt8} : ∀ {a b r : List UInt8}, c ∉ a → c ∉ b → (b ++ c :: r).take (a.length + 1) = a ++ [c] → b = a
  | [], [], r, _, _, _ => rfl
  | [], x :: b, r, _, h2, h => by
    simp at h
    exact absurd (by rw [h]; simp) h2
  | x :: a, [], r, h1, _, h => by
    simp at h
    exact absurd (by rw [h.1]; simp) h1
  | x :: a, y :: b, r, h1, h2, h => by
    simp only [List.cons_append, List.length_cons, List.take_succ_cons, List.cons.injEq] at h
    rw [h.1, split_same (fun e => h1 (List.mem_cons_of_mem _ e)) (fun e => h2 (List.mem_cons_of_mem _ e)) h.2]
def eqA (s : ByteArray) : ByteArray := ⟨(Lib.cut s.data.toList [61]).1.toArray⟩
def eqB (s : ByteArray) : ByteArray := ⟨(Lib.cut s.data.toList [61]).2.1.toArray⟩
def eqC (s : ByteArray) : Bool := (Lib.cut s.data.toList [61]).2.2
theorem ext_z {a b : ByteArray} (h : a.data.toList = b.data.toList) : a = b := by
  cases a; cases b; simp at h; rw [h]
theorem eq_yes {x : ByteArray} (h : eqC x = true) : x.data.toList = (eqA x).data.toList ++ 61 :: (eqB x).data.toList := by
  rcases (cutE_is 61 x.data.toList).2 with ⟨_, h2⟩ | ⟨h2, _⟩
  · simpa [eqA, eqB] using h2
  · unfold eqC at h; rw [h2] at h; cases h
theorem eq_no {x : ByteArray} (h : eqC x = false) : x = eqA x ∧ (eqB x).size = 0 := by
  rcases (cutE_is 61 x.data.toList).2 with ⟨h2, _⟩ | ⟨_, h2, h3⟩
  · unfold eqC at h; rw [h2] at h; cases h
  · exact ⟨ext_z (by simpa [eqA] using h2), by show (Lib.cut x.data.toList [61]).2.1.toArray.size = 0; rw [h3]; rfl⟩
theorem eq_out (x : ByteArray) : (61 : UInt8) ∉ (eqA x).data.toList := by simpa [eqA] using (cutE_is 61 x.data.toList).1
/-- A name with its = behind it. -/
def NameEq (n name : ByteArray) : Prop := name.data.toList = n.data.toList ++ [61] ∧ (61 : UInt8) ∉ n.data.toList
theorem take_list (x : ByteArray) (k : Nat) : (x.extract 0 k).data.toList = x.data.toList.take k := by
  simp [List.extract_eq_take_drop]
theorem drop_list (x : ByteArray) (k : Nat) : (x.extract k x.size).data.toList = x.data.toList.drop k := by
  have hl : x.data.toList.length = x.size := by simp
  simp only [ByteArray.data_extract, Array.toList_extract, List.extract_eq_take_drop]
  rw [List.take_of_length_le (by rw [List.length_drop]; omega)]
theorem size_listZ (x : ByteArray) : x.size = x.data.toList.length := by simp
theorem take_at {c : UInt8} (a r : List UInt8) : (a ++ c :: r).take (a.length + 1) = a ++ [c] := by
  rw [show a ++ c :: r = (a ++ [c]) ++ r by simp, List.take_left' (by simp)]
theorem drop_at {c : UInt8} (a r : List UInt8) : (a ++ c :: r).drop (a.length + 1) = r := by
  rw [show a ++ c :: r = (a ++ [c]) ++ r by simp, List.drop_left' (by simp)]
theorem told_cut {x n name : ByteArray} (hn : NameEq n name) : (told x name).2 = (eqC x && (decide (eqA x = n) && numOk 10 15 (eqB x))) ∧ ((told x name).2 = true → (told x name).1 = minI 1000000000 (numV 10 15 (eqB x))) := by
  have hz : name.size = n.data.toList.length + 1 := by rw [size_listZ, hn.1]; simp
  cases hc : eqC x with
  | false =>
    obtain ⟨h1, h2⟩ := eq_no hc
    have ho := eq_out x
    rw [← h1] at ho
    have ht : ¬ x.extract 0 name.size = name := fun e => by
      have e2 : x.data.toList.take name.size = name.data.toList := by rw [← take_list, e]
      have : (61 : UInt8) ∈ x.data.toList.take name.size := by rw [e2, hn.1]; simp
      exact ho (List.mem_of_mem_take this)
    have k : told x name = (0, false) := by unfold told; rw [if_pos (.inr ht)]
    rw [k]
    exact ⟨rfl, fun h => by cases h⟩
  | true =>
    have hx := eq_yes hc
    have hxz : x.size = (eqA x).data.toList.length + 1 + (eqB x).data.toList.length := by rw [size_listZ, hx]; simp; omega
    by_cases he : eqA x = n
    · rw [decide_eq_true he, Bool.true_and, Bool.true_and]
      have hpre : x.extract 0 name.size = name := ext_z (by rw [take_list, hz, hx, he, hn.1]; exact take_at _ _)
      have hrest : x.extract name.size x.size = eqB x := ext_z (by rw [drop_list, hz, hx, he]; exact drop_at _ _)
      by_cases hv : (eqB x).size = 0
      · have k : told x name = (0, false) := by
          unfold told
          rw [if_pos (.inl (by rw [hxz, hz, he]; rw [size_listZ] at hv; omega))]
        rw [k, numOk_out (.inl (by omega))]
        exact ⟨rfl, fun h => by cases h⟩
      · have k : told x name = (minI 1000000000 (numV 10 15 (eqB x)), numOk 10 15 (eqB x)) := by
          unfold told
          rw [if_neg (by rintro (h | h); · rw [hxz, hz, he] at h; rw [size_listZ] at hv; omega
                         · exact h hpre), hrest]
        rw [k]
        exact ⟨rfl, fun _ => rfl⟩
    · rw [decide_eq_false he]
      have ht : ¬ x.extract 0 name.size = name := fun e => by
        have e2 : x.data.toList.take name.size = name.data.toList := by rw [← take_list, e]
        rw [hz, hx, hn.1] at e2
        exact he (ext_z (split_same hn.2 (eq_out x) e2))
      have k : told x name = (0, false) := by unfold told; rw [if_pos (.inr ht)]
      rw [k]
      exact ⟨rfl, fun h => by cases h⟩
def n0A : ByteArray := ⟨#[109, 97, 120, 45, 97, 103, 101]⟩
def n0S : ByteArray := ⟨#[115, 45, 109, 97, 120, 97, 103, 101]⟩
theorem nA_eq : NameEq n0A nmA := ⟨by decide, by decide⟩
theorem nS_eq : NameEq n0S nmS := ⟨by decide, by decide⟩
theorem nT_eq : NameEq wdT nmT := ⟨by decide, by decide⟩
theorem word_no {x wd : ByteArray} (h : eqC x = true) (hw : (61 : UInt8) ∉ wd.data.toList) : ¬ x = wd := fun e => hw (by rw [← e, eq_yes h]; simp)
theorem st4_yes {x : ByteArray} (h : eqC x = true) (c : Ct) : st4 c x = c := by
  unfold st4
  rw [if_neg (word_no h (by decide)), if_neg (word_no h (by decide)), if_neg (word_no h (by decide)), if_neg (word_no h (by decide)), if_neg (word_no h (by decide))]
/-- A number that is told, the first time. -/
def tell (before : Int) (v : ByteArray) : Int := if numOk 10 15 v = true ∧ before < 0 then minI 1000000000 (numV 10 15 v) else before
theorem st_num {b : Bool} {t : Int × Bool} {v : ByteArray} {before : Int} (h1 : t.2 = (true && (b && numOk 10 15 v))) (h2 : t.2 = true → t.1 = minI 1000000000 (numV 10 15 v)) : (if t.2 = true ∧ before < 0 then t.1 else before) = if b = true then tell before v else before := by
  unfold tell
  cases b with
  | false =>
    have : t.2 = false := by rw [h1]; rfl
    rw [if_neg (by rw [this]; exact fun h => by cases h.1), if_neg (by decide)]
  | true =>
    have h3 : t.2 = numOk 10 15 v := by rw [h1]; rfl
    rw [if_pos rfl, h3]
    by_cases h4 : numOk 10 15 v = true ∧ before < 0
    · rw [if_pos h4, if_pos h4, h2 (by rw [h3]; exact h4.1)]
    · rw [if_neg h4, if_neg h4]
theorem st1_is (c : Ct) (x : ByteArray) : st1 c x = { c with a := if (told x nmA).2 = true ∧ c.a < 0 then (told x nmA).1 else c.a } := by unfold st1; split <;> rfl
theorem st2_is (c : Ct) (x : ByteArray) : st2 c x = { c with s := if (told x nmS).2 = true ∧ c.s < 0 then (told x nmS).1 else c.s } := by unfold st2; split <;> rfl
theorem st3_is (c : Ct) (x : ByteArray) : st3 c x = { c with t := if (told x nmT).2 = true ∧ c.t < 0 then (told x nmT).1 else c.t } := by unfold st3; split <;> rfl
/-- With a = in it: the number that its name has is told. -/
theorem stp_yes {x : ByteArray} (h : eqC x = true) (c : Ct) : stp c x = { c with a := if eqA x = n0A then tell c.a (eqB x) else c.a, s := if eqA x = n0S then tell c.s (eqB x) else c.s, t := if eqA x = wdT then tell c.t (eqB x) else c.t } := by
  obtain ⟨a1, a2⟩ := told_cut (x := x) nA_eq
  obtain ⟨b1, b2⟩ := told_cut (x := x) nS_eq
  obtain ⟨t1, t2⟩ := told_cut (x := x) nT_eq
  rw [h] at a1 b1 t1
  unfold stp
  rw [st4_yes h, st3_is, st2_is, st1_is]
  simp only
  rw [st_num a1 a2, st_num b1 b2, st_num t1 t2]
  simp only [decide_eq_true_eq]
theorem told_none {x n name : ByteArray} (hn : NameEq n name) (h : eqC x = false) : (told x name).2 = false := by rw [(told_cut hn).1, h]; rfl
/-- Without one: a word. -/
theorem stp_no {x : ByteArray} (h : eqC x = false) (c : Ct) : stp c x = st4 c x := by
  unfold stp
  rw [st3_is, st2_is, st1_is]
  simp only [told_none nA_eq h, told_none nS_eq h, told_none nT_eq h, Bool.false_eq_true, false_and, if_false]
end Go.Proofs.YtkaogmdhjcgcdaaGreatDoor
namespace Go.Proofs.YtkaogmdhjcgcdaaGreatDoor
open Go.RowKit Go.Maps Go.ChangeMaps Go.WideMaps
set_option linter.unusedVariables false

theorem keyedF : Keyed Tryz.prog 9 := string_keyed Tryz.underlying9
def keyF (s : ByteArray) : Lit := .string s.data.toList
theorem keyF_of {s : ByteArray} (hs : s.size ≤ maxLen) : keyOf Tryz.prog 9 (.string s) = some (keyF s) := keyOf_string_mk Tryz.underlying9 hs
theorem keyF_ne {a b : ByteArray} (h : ¬ a = b) : keyF a ≠ keyF b := fun e => h (by
  have e2 : a.data.toList = b.data.toList := by simpa [keyF] using e
  cases a; cases b; simp at e2; rw [e2])
theorem keyF_key (s : ByteArray) : WideAt.IsKeyLit (keyF s) := trivial
/-- The method j, bound to the struct in block p. -/
def bound (p j : Nat) : Value := .func (.func j) #[.pointer (some ⟨p, 0, Option.none⟩)] #[]
/-- How such a value reads. -/
def fnE (p : Nat) (v : Value) : Option (DataW Unit × List MemPlace) := match v with
  | .func (.func j) first cap => match first.toList, cap.toList with
    | [.pointer (some ⟨q, 0, Option.none⟩)], [] => if q = p then some (.lit (.int .i64 (j : Int)), []) else none
    | _, _ => none
  | .nilFunc => some (.lit (.int .i64 (-1)), [])
  | _ => none
theorem fnE_mk (p j : Nat) : fnE p (bound p j) = some (.lit (.int .i64 (j : Int)), []) := by simp [fnE, bound]
theorem fnE_nil (p : Nat) : fnE p .nilFunc = some (.lit (.int .i64 (-1)), []) := rfl
theorem fnE_inv {p j : Nat} {v : Value} {ps : List MemPlace} (h : fnE p v = some (.lit (.int .i64 (j : Int)), ps)) : v = bound p j := by
  unfold fnE at h
  split at h
  · rename_i k first cap
    split at h
    · rename_i q h1 h2
      split at h
      · rename_i e
        subst e
        simp only [Option.some.injEq, Prod.mk.injEq, DataW.lit.injEq, Lit.int.injEq, true_and] at h
        have hj : k = j := Int.ofNat.inj h.1
        subst hj
        unfold bound
        have e1 : first = #[.pointer (some ⟨q, 0, Option.none⟩)] := Array.ext' (by simpa using h1)
        have e2 : cap = #[] := Array.ext' (by simpa using h2)
        rw [e1, e2]
      · cases h
    · cases h
  · simp only [Option.some.injEq, Prod.mk.injEq, DataW.lit.injEq, Lit.int.injEq, true_and] at h
    omega
  · cases h
theorem fnE_inv0 {p : Nat} {v : Value} {ps : List MemPlace} (h : fnE p v = some (.lit (.int .i64 (-1)), ps)) : v = .nilFunc := by
  unfold fnE at h
  split at h
  · rename_i k first cap
    split at h
    · split at h
      · simp only [Option.some.injEq, Prod.mk.injEq, DataW.lit.injEq, Lit.int.injEq, true_and] at h
        have := h.1
        exact absurd this (by
          have h0 : (0 : Int) ≤ (k : Int) := Int.natCast_nonneg k
          omega)
      · cases h
    · cases h
  · rfl
  · cases h
/-- What stands at a text: the last that was put there. -/
def lookF (t : List (ByteArray × Nat)) (s : ByteArray) : Option Nat := t.foldl (fun acc x => if x.1 = s then some x.2 else acc) none
theorem lookF_snoc (t : List (ByteArray × Nat)) (x : ByteArray × Nat) (s : ByteArray) : lookF (t ++ [x]) s = if x.1 = s then some x.2 else lookF t s := by unfold lookF; rw [List.foldl_append]; rfl
def datF (t : List (ByteArray × Nat)) : DataW Unit := t.foldl (fun D x => D.put (keyF x.1) (.lit (.int .i64 (x.2 : Int)))) (.map [])
theorem datF_snoc (t : List (ByteArray × Nat)) (x : ByteArray × Nat) : datF (t ++ [x]) = (datF t).put (keyF x.1) (.lit (.int .i64 (x.2 : Int))) := by unfold datF; rw [List.foldl_append]; rfl
/-- Block b is the map of the methods t, bound to the struct in block p. -/
def FnM (w : World) (b p : Nat) (t : List (ByteArray × Nat)) : Prop := w.ownsMap Tryz.prog 9 (fnE p) b t.length (datF t)
theorem FnM.made (w : World) (p : Nat) : FnM (w.alloc (.map #[] 0)) w.heap.size p [] := World.ownsMap_made _ _ _ _
theorem FnM.lt {w : World} {b p : Nat} {t : List (ByteArray × Nat)} (h : FnM w b p t) : b < w.heap.size := World.ownsMap.lt h
theorem FnM.grown {w w' : World} {b p : Nat} {t : List (ByteArray × Nat)} {r : Option Nat} (h : FnM w b p t) (hg : w.grownBy w' r) (hne : some b ≠ r) : FnM w' b p t := World.ownsMap.kept h hg hne
theorem FnM.kept {w w' : World} {b p : Nat} {t : List (ByteArray × Nat)} (h : FnM w b p t) (hb : Below w.heap.size w w') : FnM w' b p t :=
  World.ownsMap.kept h (row := none) ⟨hb.os, hb.tape, hb.output, hb.size, fun k hk _ => hb.block k hk⟩ (by simp)
theorem snoc_ind {α : Type} {Q : List α → Prop} (h0 : Q []) (h1 : ∀ t x, Q t → Q (t ++ [x])) (t : List α) : Q t := by
  have : ∀ u : List α, Q u.reverse := fun u => by
    induction u with
    | nil => exact h0
    | cons x u ih => rw [List.reverse_cons]; exact h1 _ _ ih
  have k := this t.reverse
  rw [List.reverse_reverse] at k
  exact k
theorem mapF (t : List (ByteArray × Nat)) : IsMap (datF t) := by
  refine snoc_ind (Q := fun t => IsMap (datF t)) ⟨[], rfl⟩ (fun t x ih => ?_) t
  rw [datF_snoc]
  obtain ⟨es, h⟩ := ih
  rw [h]
  exact ⟨_, rfl⟩
theorem hasF (s : ByteArray) : ∀ t : List (ByteArray × Nat), Maps.has (datF t) (keyF s) = (lookF t s).isSome ∧ ∀ z, (datF t).atKey (keyF s) z = match lookF t s with | some j => .lit (.int .i64 (j : Int)) | none => z := by
  refine snoc_ind (Q := fun t => Maps.has (datF t) (keyF s) = (lookF t s).isSome ∧ ∀ z, (datF t).atKey (keyF s) z = match lookF t s with | some j => .lit (.int .i64 (j : Int)) | none => z) ⟨rfl, fun z => rfl⟩ (fun t x ih => ?_)
  have hm0 : IsMap (datF t) := mapF t
  obtain ⟨h1, h2⟩ := ih
  rw [datF_snoc, lookF_snoc]
  by_cases e : x.1 = s
  · rw [if_pos e, e]
    exact ⟨has_put_same hm0 (keyF_key s) _, fun z => atKey_put_same hm0 (keyF_key s) _ z⟩
  · rw [if_neg e, has_put_other (keyF_ne (fun h => e h.symm))]
    exact ⟨h1, fun z => by rw [atKey_put_other (keyF_ne (fun h => e h.symm))]; exact h2 z⟩
/-- One more key, in the text of the map. -/
theorem wpList_insertF {ops : Array Oper} {rest : List Oper} {o : Oper} {a : Act} {Q : Exit → Act → World → Prop} (w : World) (hg : o.guard = Option.none) (m x v : Operand) (t e : TypeId) (hop : o.op = Op.insert t m x v) (ht : Tryz.prog.underlying t = some (.map 9 e))
    (b p : Nat) (tb : List (ByteArray × Nat)) (hm : a.eval m = .map (some b)) (h : FnM w b p tb) (hn : tb.length ≤ 1000) (s : ByteArray) (hs : s.size ≤ 1000) (j : Nat) (hx : a.eval x = .string s) (hv : a.eval v = bound p j)
    (hK : ∀ w', FnM w' b p (tb ++ [(s, j)]) → w.grownBy w' (some b) → wpList Tryz.prog ops Q rest (a.put o.dst undef) w') : wpList Tryz.prog ops Q (o :: rest) a w := by
  refine wpList_plain hg fun K' hK' => ?_
  obtain ⟨w', hrun, r1, r2⟩ := World.ownsMap.update h keyedF ht (by unfold maxLen; omega) (keyF_of (s := s) (by unfold maxLen; omega)) (fnE_mk p j)
  unfold Oper.wp
  simp [execOp, hop, hm, hx, hv, hrun, Result.andThen]
  refine hK' _ _ (hK w' ?_ r2)
  unfold FnM
  rw [datF_snoc, List.length_append]
  exact r1
/-- The map is asked. -/
theorem wpList_lookF {ops : Array Oper} {rest : List Oper} {o : Oper} {a : Act} {Q : Exit → Act → World → Prop} (w : World) (hg : o.guard = Option.none) (m x : Operand) (t e : TypeId) (hop : o.op = Op.lookup t m x true) (ht : Tryz.prog.underlying t = some (.map 9 e))
    (hz : (zeroValue e).run Tryz.prog w = .ok .nilFunc w) (b p : Nat) (tb : List (ByteArray × Nat)) (hm : a.eval m = .map (some b)) (h : FnM w b p tb) (s : ByteArray) (hs : s.size ≤ maxLen) (hx : a.eval x = .string s)
    (hno : lookF tb s = Option.none → wpList Tryz.prog ops Q rest (a.put o.dst (.tuple #[.nilFunc, .bool false])) w)
    (hyes : ∀ j, lookF tb s = some j → wpList Tryz.prog ops Q rest (a.put o.dst (.tuple #[bound p j, .bool true])) w) : wpList Tryz.prog ops Q (o :: rest) a w := by
  refine wpList_plain hg fun K' hK' => ?_
  obtain ⟨v, ps, hrun, hv⟩ := World.ownsMap.look_ok h keyedF ht hz (fnE_nil p) (keyF_of hs)
  obtain ⟨k1, k2⟩ := hasF s tb
  rw [k1] at hrun
  rw [k2] at hv
  unfold Oper.wp
  simp [execOp, hop, hm, hx, hrun, Result.andThen]
  cases hl : lookF tb s with
  | none =>
    rw [hl] at hv
    have e : v = .nilFunc := fnE_inv0 hv
    rw [e]
    exact hK' _ _ (hno hl)
  | some j =>
    rw [hl] at hv
    rw [fnE_inv hv]
    exact hK' _ _ (hyes j hl)
theorem wpList_lookF_no {ops : Array Oper} {rest : List Oper} {o : Oper} {a : Act} {Q : Exit → Act → World → Prop} (w : World) (hg : o.guard = Option.none) (m x : Operand) (t e : TypeId) (hop : o.op = Op.lookup t m x true) (ht : Tryz.prog.underlying t = some (.map 9 e))
    (hz : (zeroValue e).run Tryz.prog w = .ok .nilFunc w) (b p : Nat) (tb : List (ByteArray × Nat)) (hm : a.eval m = .map (some b)) (h : FnM w b p tb) (s : ByteArray) (hs : s.size ≤ maxLen) (hx : a.eval x = .string s) (hl : lookF tb s = Option.none)
    (hno : wpList Tryz.prog ops Q rest (a.put o.dst (.tuple #[.nilFunc, .bool false])) w) : wpList Tryz.prog ops Q (o :: rest) a w :=
  wpList_lookF w hg m x t e hop ht hz b p tb hm h s hs hx (fun _ => hno) (fun j hj => by rw [hl] at hj; cases hj)
theorem wpList_lookF_yes {ops : Array Oper} {rest : List Oper} {o : Oper} {a : Act} {Q : Exit → Act → World → Prop} (w : World) (hg : o.guard = Option.none) (m x : Operand) (t e : TypeId) (hop : o.op = Op.lookup t m x true) (ht : Tryz.prog.underlying t = some (.map 9 e))
    (hz : (zeroValue e).run Tryz.prog w = .ok .nilFunc w) (b p : Nat) (tb : List (ByteArray × Nat)) (hm : a.eval m = .map (some b)) (h : FnM w b p tb) (s : ByteArray) (hs : s.size ≤ maxLen) (hx : a.eval x = .string s) (j : Nat) (hl : lookF tb s = some j)
    (hyes : wpList Tryz.prog ops Q rest (a.put o.dst (.tuple #[.func (.func j) #[.pointer (some ⟨p, 0, Option.none⟩)] #[], .bool true])) w) : wpList Tryz.prog ops Q (o :: rest) a w :=
  wpList_lookF w hg m x t e hop ht hz b p tb hm h s hs hx (fun hn => by rw [hl] at hn; cases hn) (fun k hk => by
    rw [hl] at hk
    cases hk
    exact hyes)
end Go.Proofs.YtkaogmdhjcgcdaaGreatDoor
