/-
  The program's Merged by its contract.
-/
import Derived.Test.YtamfgjgmnnnjpaaDoorSpnU
import Derived.Test.YtamfgjgmnnnjpaaDoorRowE
import Derived.Maps.AppendAt
namespace Go.Proofs.YtamfgjgmnnnjpaaDoor
open Go.RowKit
set_option linter.unusedVariables false

theorem wpList_rowE_at {α : Type} {E : Enc α} {P : Program} {ops : Array Oper} {rest : List Oper} {o : Oper} {a : Act} {Q : Exit → Act → World → Prop} (w : World) (hgd : o.guard = Option.none) (s x : Operand) (ts te : TypeId) (z : Value) (bytes : Nat)
    (hts : P.underlying ts = some (.slice te)) (hinfo : (P.info? te).map (fun i => (i.zero, i.size, i.bytes)) = some (some z, E.k, bytes)) (hz : z.cells.size = E.k)
    (ho : o.op = .call { callee := .builtin .append, args := #[s, x], argTypes := #[ts, ts] }) (B : Nat) (v : Value) (l : List α) (hs : a.eval s = v) (hown : OwnsE E te w B v l)
    (ad : Addr) (c : Nat) (m : List α) (hx : a.eval x = .slice (some ad) m.length c) (hcell : ∀ j u, (cellsE E m)[j]? = some u → w.cell? (ad.add j) = some u)
    (h63 : l.length + m.length ≤ maxLen) (hbytes : (l.length + m.length) * bytes ≤ 140737488355328) (hB : B ≤ w.heap.size)
    (h : ∀ v' w', OwnsE E te w' B v' (l ++ m) → w.grownBy w' v.ownBlock → (v' = .slice Option.none 0 0 ↔ v = .slice Option.none 0 0 ∧ m.length = 0) → (v'.ownBlock = v.ownBlock ∨ v'.ownBlock = some w.heap.size) → wpList P ops Q rest (a.put o.dst v') w') :
    wpList P ops Q (o :: rest) a w := by
  obtain ⟨i0, hi, hz0, hz1, hz2⟩ := info_parts hinfo
  refine wpList_append_own_at _ hgd s x ts ho B te i0 z E.k bytes hts hi hz0 hz1 hz2 hz E.pos v l.length (cellsE E l) hs hown ad m.length c (cellsE E m) hx (cellsE_length E m) hcell (cellsE_one E m) h63 hbytes hB ?_
  intro v' w' h1 h2 h3 h4
  refine h v' w' ?_ h2 h3 h4
  unfold OwnsE
  rw [cellsE_append, List.length_append]
  exact h1
/-- Texts, numbers, flags. -/
def txtE : Enc ByteArray where
  k := 1
  pos := by decide
  c := fun x => [.string x]
  len := fun _ => rfl
  one := fun x u hu => by simp at hu; subst hu; rfl
theorem txtE_c (x : ByteArray) : txtE.c x = [.string x] := rfl
/-- The row behind an append of one: in the old row's block or in a new one, in no other. -/
theorem OwnsE.moved {α : Type} {E : Enc α} {ty : TypeId} {w w' : World} {B g n c : Nat} {v : Value} {l : List α} (ho : OwnsE E ty w' B v l) (hl : 0 < l.length) (hat : v.ownBlock = (Value.slice (some ⟨g, 0, Option.none⟩) n c).ownBlock ∨ v.ownBlock = some w.heap.size) :
    ∃ g' c', v = .slice (some ⟨g', 0, Option.none⟩) l.length c' ∧ (g' = g ∨ g' = w.heap.size) ∧ B ≤ g' ∧ g' < w'.heap.size := by
  obtain ⟨a, c', rfl, h1, h2, h3⟩ := ho.form
  rcases h3 with ⟨rfl, rfl⟩ | ⟨g', rfl⟩
  · omega
  · refine ⟨g', c', rfl, ?_, ho.from g' rfl, ho.under g' rfl⟩
    simpa [Value.ownBlock] using hat
end Go.Proofs.YtamfgjgmnnnjpaaDoor
namespace Go.Proofs.YtamfgjgmnnnjpaaDoor
open Go.RowKit Go.Sort
set_option linter.unusedVariables false

theorem kept_grow {w : World} {b j n : Nat} {os : Array Obj} {v : Value} (h : w.cell? ⟨b, j, Option.none⟩ = some v) (hb : b < w.heap.size) : (grow (w.drewN n) os).cell? ⟨b, j, Option.none⟩ = some v := (cell?_grow _ _ _ (by show b < w.heap.size; exact hb)).trans h
theorem grow_low {B : Nat} {w w1 : World} (n : Nat) (os : Array Obj) (h : Below B w w1) (hB : B ≤ w1.heap.size) : Below B w (grow (w1.drewN n) os) :=
  ⟨h.os, h.tape, h.output, by rw [size_grow]; exact Nat.le_trans h.size (Nat.le_add_right _ _), fun k hk => (heap_grow_old (w1.drewN n) os (by show k < w1.heap.size; omega)).trans (h.block k hk)⟩
theorem OwnsE.more {α : Type} {E : Enc α} {ty : TypeId} {w : World} {B : Nat} {v : Value} {l : List α} (h : OwnsE E ty w B v l) (n : Nat) (os : Array Obj) : OwnsE E ty (grow (w.drewN n) os) B v l := h.kept (grow_low n os (Below.refl _ _) (Nat.le_refl _))
set_option maxHeartbeats 8000000 in
theorem implMg (v : Value) (l : List Sp) (w : World) (h : Sls spnE w v l) (hr : ∀ x ∈ l, InR x) :
    Calls Tryd.prog 19 #[v] w fun e w' => ∃ u, e = .returned u ∧ HasS8 w' w.heap.size u (mgd l) ∧ Below w.heap.size w w' := by
  have hmx := mixed
  have B0 : Hid (Below w.heap.size w (w.alloc (.cells #[] 30))) := (Below.refl _ w).alloc (Nat.le_refl _) _
  have S0 : Hid (Sls spnE (w.alloc (.cells #[] 30)) v l) := h.kept B0.out
  have O0 : Hid (OwnsS8 (w.alloc (.cells #[] 30)) w.heap.size (.slice (some ⟨w.heap.size, 0, Option.none⟩) 0 0) []) := OwnsE.born w
  have hok := implSpns v l (w.alloc (.cells #[] 30)) S0.out
  have Z0 : Hid ((w.alloc (.cells #[] 30)).heap.size = w.heap.size + 1) := by show _ = _; simp
  by_cases hgood : l.length ≤ 10 ∧ allS l = true
  · obtain ⟨hl, hal⟩ := hgood
    have HM : Hid (∀ a : List Sp, a.Perm l → Ris a → mgd l = mrgL a) := fun a hp hq => mgd_sorted hl hal hp hq
    have HX : Hid (∀ a : List Sp, a.Perm l → ∀ x ∈ a, 0 ≤ x.1 ∧ InR x) := fun a hp x hx => ⟨(allS_iff.1 hal x (hp.mem_iff.1 hx)).1, hr x (hp.mem_iff.1 hx)⟩
    rw [decide_eq_true hl, hal, Bool.true_and] at hok
    have hord := fun W hW => implOrd v l W hW hl
    obtain ⟨a, cap, rfl, _, _, _⟩ := h
    clear hr hal
    generalize hw0 : w.alloc (.cells #[] 30) = w0 at B0 S0 O0 hok Z0
    go_enter Tryd.func19, Tryd.ntmps19
    go_wp2_with fail
    refine hok.mono ?_
    rintro e w1 ⟨rfl, hb1⟩
    have B1 : Hid (Below w.heap.size w w1) := B0.out.trans (hb1.mono (by have := Z0.out; omega))
    have S1 : Hid (Sls spnE w1 (.slice a l.length cap) l) := S0.out.kept hb1
    have O1 : Hid (OwnsS8 w1 w.heap.size (.slice (some ⟨w.heap.size, 0, Option.none⟩) 0 0) []) := O0.out.kept hb1
    have hz1 : w.heap.size < w1.heap.size := by have := hb1.size; have := Z0.out; omega
    clear hb1 hok B0 S0 O0 Z0 hw0
    go_wp2_with fail
    refine (hord _ S1.out).mono ?_
    rintro e w2 ⟨u, all, rfl, hp, hris, hou, hb2⟩
    have B2 : Hid (Below w.heap.size w w2) := B1.out.trans (hb2.mono (by omega))
    have O2 : Hid (OwnsS8 w2 w.heap.size (.slice (some ⟨w.heap.size, 0, Option.none⟩) 0 0) []) := O1.out.kept hb2
    have U2 : Hid (OwnsS8 w2 w1.heap.size u all) := hou
    have HM2 : Hid (mgd l = mrgL all) := HM.out all hp hris
    have HX2 : Hid (∀ x ∈ all, 0 ≤ x.1 ∧ InR x) := HX.out all hp
    have hlen : all.length ≤ 10 := by rw [hp.length_eq]; exact hl
    have hz2 : w1.heap.size ≤ w2.heap.size := hb2.size
    obtain ⟨ua, uc, rfl, hu1, hu2, hu3⟩ := hou.form
    have hne : ∀ q, (Value.slice ua all.length uc).ownBlock = some q → q ≠ w.heap.size := fun q hq => by have := hou.from q hq; omega
    have HNE : Hid (∀ q, (Value.slice ua all.length uc).ownBlock = some q → q ≠ w.heap.size) := hne
    clear hp hris hou hb2 HM HX hord B1 S1 O1 hl hne
    go_wp2
    go_loopw [3, 15] (fun m i wr => ∃ (j : Nat) (out : List Sp), j ≤ all.length ∧ i = .int .i64 j ∧ Hid (mrgL (all.take j) = out) ∧ out.length ≤ j ∧ Hid (OwnsS8 wr w.heap.size m out) ∧ (∃ gg cc, m = .slice (some ⟨gg, 0, Option.none⟩) out.length cc ∧ gg < wr.heap.size ∧ w.heap.size ≤ gg ∧ Hid (∀ q, (Value.slice ua all.length uc).ownBlock = some q → q ≠ gg)) ∧ Hid (OwnsS8 wr w1.heap.size (.slice ua all.length uc) all) ∧ Hid (Below w.heap.size w wr)) (fun _ i _ => all.length - (intOf i).toNat)
    case atStart => exact ⟨0, [], Nat.zero_le _, rfl, rfl, Nat.le_refl _, O2, ⟨_, _, rfl, by omega, Nat.le_refl _, HNE⟩, U2, B2⟩
    case round =>
      clear O2 U2 B2 HNE
      obtain ⟨j, out, hj, rfl, hout, hol, ho2, ⟨gg, cc, rfl, hgg, hgg0, hng⟩, hoa, hb⟩ := hrel
      by_cases hlt : j < all.length
      · obtain ⟨g, rfl⟩ : ∃ g, ua = some ⟨g, 0, Option.none⟩ := by
          rcases hu3 with ⟨rfl, rfl⟩ | hu3
          · omega
          · exact hu3
        have hgne : g ≠ gg := hng.out g rfl
        have hgl : g < wr.heap.size := hoa.out.under g rfl
        obtain ⟨e1, e2⟩ := ownsS_at hoa.out j hlt
        obtain ⟨hx0, ⟨hx1, hx2⟩, hx3, hx4⟩ := HX2.out all[j] (List.getElem_mem _)
        have HN : Hid (mrgL (all.take (j + 1)) = mrgS out all[j]) := by show _ = _; rw [List.take_succ_eq_append_getElem (by omega), mrgL_snoc, hout.out]
        generalize all[j] = x at e1 e2 hx0 hx1 hx2 hx3 hx4 HN
        have hmt := fun y W => implMt y x W hx0 hx2
        obtain ⟨x1, x2⟩ := x
        simp only at e1 e2 hx0 hx1 hx2 hx3 hx4
        have bW : Hid (Below w.heap.size w (wr.alloc (.cells #[.int .i64 x1, .int .i64 x2] 30))) := hb.out.alloc hb.out.size _
        have oW : Hid (OwnsS8 (wr.alloc (.cells #[.int .i64 x1, .int .i64 x2] 30)) w.heap.size (.slice (some ⟨gg, 0, Option.none⟩) out.length cc) out) := ho2.out.alloc _
        have aW : Hid (OwnsS8 (wr.alloc (.cells #[.int .i64 x1, .int .i64 x2] 30)) w1.heap.size (.slice (some ⟨g, 0, Option.none⟩) all.length uc) all) := hoa.out.alloc _
        have zW : (wr.alloc (.cells #[.int .i64 x1, .int .i64 x2] 30)).heap.size = wr.heap.size + 1 := by simp
        have p1 : (wr.alloc (.cells #[.int .i64 x1, .int .i64 x2] 30)).cell? ⟨wr.heap.size, 0, Option.none⟩ = some (.int .i64 x1) := World.cell?_alloc_mark _ _ _ _ _
        have p2 : (wr.alloc (.cells #[.int .i64 x1, .int .i64 x2] 30)).cell? ⟨wr.heap.size, 1, Option.none⟩ = some (.int .i64 x2) := World.cell?_alloc_mark _ _ _ _ _
        have hb2 : w.heap.size ≤ wr.heap.size := hb.out.size
        clear hb ho2 hoa
        have P1 : Hid _ := p1
        have P2 : Hid _ := p2
        have ZW : Hid _ := zW
        clear p1 p2 zW
        rcases List.eq_nil_or_concat out with rfl | ⟨o, y, rfl⟩
        · have HN2 : Hid (mrgL (all.take (j + 1)) = [] ++ [(x1, x2)]) := HN.out
          clear HN hmt
          simp only [List.length_nil] at *
          go_wp2
          generalize wr.alloc (.cells #[.int .i64 x1, .int .i64 x2] 30) = w3 at bW oW aW ZW P1 P2 ⊢
          have q1 := P1.out
          have q2 := P2.out
          go_quiet (fail)
          have q1 : (w3.drewN nq).cell? ⟨wr.heap.size, 0, Option.none⟩ = some (.int .i64 x1) := P1.out
          have q2 : (w3.drewN nq).cell? ⟨wr.heap.size, 1, Option.none⟩ = some (.int .i64 x2) := P2.out
          have bW : Hid (Below w.heap.size w (w3.drewN nq)) := belowN bW.out
          have oW : Hid (OwnsS8 (w3.drewN nq) w.heap.size (.slice (some ⟨gg, 0, Option.none⟩) 0 cc) []) := oW.out.drewN _
          have aW : Hid (OwnsS8 (w3.drewN nq) w1.heap.size (.slice (some ⟨g, 0, Option.none⟩) all.length uc) all) := aW.out.drewN _
          have ZW : Hid ((w3.drewN nq).heap.size = wr.heap.size + 1) := ZW.out
          clear P1 P2
          generalize w3.drewN nq = w4 at bW oW aW ZW q1 q2 ⊢
          go_wp2_with (at_builtin; refine wpList_rowE_at (E := spnE) _ rfl (.tmp 33) (.tmp 35) 26 30 (.agg #[.int .i64 0, .int .i64 0]) 16 Tryd.underlying26 Tryd.infoSP rfl rfl w.heap.size _ [] (by simp [Act.eval]) (oW.out.alloc _) ⟨w4.heap.size, 0, Option.none⟩ 1 [(x1, x2)] (by simp [Act.eval]) (fresh_cell w4 (x1, x2) #[.int .i64 x1, .int .i64 x2] 30 rfl) (by simp only [List.length_nil, List.length_singleton]; unfold maxLen; omega) (by simp only [List.length_nil, List.length_singleton]; omega) (by have := bW.out.size; simp; omega) ?_; intro v6 w6 ho6 hg6 hn6 ha6; have O6 : Hid (OwnsS8 w6 w.heap.size v6 ([] ++ [(x1, x2)])) := ho6; have G6 : Hid _ := hg6; have A6 : Hid _ := ha6; clear ho6 hg6 hn6 ha6)
          have hA6 : Hid (OwnsS8 w6 w1.heap.size (.slice (some ⟨g, 0, Option.none⟩) all.length uc) all) := (aW.out.alloc _).grown G6.out (fun q hq e => by simp [Value.ownBlock] at hq e; omega)
          have b6 : Hid (Below w.heap.size w w6) := belowE (bW.out.alloc bW.out.size _) G6.out (by have := bW.out.size; simp; omega) (fun q hq => by simp [Value.ownBlock] at hq; omega)
          obtain ⟨g6, c6, rfl, hat, hg6, hg6'⟩ := O6.out.moved (by simp) A6.out
          have N6 : Hid (∀ q, (Value.slice (some ⟨g, 0, Option.none⟩) all.length uc).ownBlock = some q → q ≠ g6) := fun q hq => by simp [Value.ownBlock] at hq; have := ZW.out; simp at hat; omega
          clear G6 A6 hat
          go_roundw
          case rel => exact ⟨j + 1, _, by omega, by go_num, HN2, by simp <;> omega, O6, ⟨g6, c6, by simp, hg6', hg6, N6⟩, hA6, b6⟩
          case measure => simp [intOf]; omega
        · rw [List.concat_eq_append] at *
          have hol2 : o.length + 1 ≤ j := by simpa using hol
          have hol3 : (o ++ [y]).length = o.length + 1 := by simp
          have hmt2 := fun W => hmt y W
          clear hmt
          have HN2 : Hid (mrgL (all.take (j + 1)) = if x1 - 1 ≤ y.2 then o ++ [(y.1, maxI y.2 x2)] else o ++ [y] ++ [(x1, x2)]) := by show _ = _; rw [HN.out, mrgS_snoc]
          clear HN
          have f1 := ownsS_at oW.out o.length (by omega)
          simp only [List.getElem_concat_length] at f1
          obtain ⟨f3, f4⟩ := f1
          obtain ⟨y1, y2⟩ := y
          simp only at f3 f4 HN2 hmt2
          unfold spV at hmt2
          have en : IntKind.i64.wrap (o.length : Int) = (o.length : Int) := by rw [IntKind.wrap_i64]; omega
          have en2 : (o.length : Int) < (o.length : Int) + 1 := by omega
          rw [hol3] at oW ⊢
          generalize hO : o ++ [(y1, y2)] = O at oW hol hol3 hout
          have hW := ZW.out
          have HW : Hid _ := hW
          go_wp2
          generalize wr.alloc (.cells #[.int .i64 x1, .int .i64 x2] 30) = w3 at bW oW aW ZW P1 P2 hW HW f3 f4 ⊢
          have k1 : ∀ n os, (grow (w3.drewN n) os).cell? ⟨wr.heap.size, 0, Option.none⟩ = some (.int .i64 x1) := fun n os => kept_grow P1.out (by omega)
          have k2 : ∀ n os, (grow (w3.drewN n) os).cell? ⟨wr.heap.size, 1, Option.none⟩ = some (.int .i64 x2) := fun n os => kept_grow P2.out (by omega)
          have k3 : ∀ n os, (grow (w3.drewN n) os).cell? ⟨gg, o.length * 2, Option.none⟩ = some (.int .i64 y1) := fun n os => kept_grow f3 (by omega)
          have k4 : ∀ n os, (grow (w3.drewN n) os).cell? ⟨gg, o.length * 2 + 1, Option.none⟩ = some (.int .i64 y2) := fun n os => kept_grow f4 (by omega)
          by_cases hle : x1 - 1 ≤ y2
          · rw [decide_eq_true hle] at hmt2
            rw [if_pos hle, show maxI y2 x2 = max y2 x2 by unfold maxI; split <;> omega] at HN2
            have hput : Hid (∀ W : World, OwnsS8 W w.heap.size (.slice (some ⟨gg, 0, Option.none⟩) (o.length + 1) cc) O → OwnsS8 (W.setCell ⟨gg, o.length * 2 + 1, Option.none⟩ (.int .i64 (max y2 x2))) w.heap.size (.slice (some ⟨gg, 0, Option.none⟩) (o.length + 1) cc) (o ++ [(y1, max y2 x2)])) := fun W hW => by
              subst hO
              have := ownsS_put2 (by simp) hW (j := o.length) (by simp) (max y2 x2)
              simpa [List.set_append_right] using this
            go_quiet_grown ((go_at_call 44; refine callGrew (hmt2 _)))
            have q1 := k1 nq osq
            have q2 := k2 nq osq
            have q3 := k3 nq osq
            have q4 := k4 nq osq
            have bW : Hid (Below w.heap.size w (grow (w3.drewN nq) osq)) := grow_low _ _ bW.out bW.out.size
            have oW : Hid (OwnsS8 (grow (w3.drewN nq) osq) w.heap.size (.slice (some ⟨gg, 0, Option.none⟩) (o.length + 1) cc) O) := oW.out.more _ _
            have aW : Hid (OwnsS8 (grow (w3.drewN nq) osq) w1.heap.size (.slice (some ⟨g, 0, Option.none⟩) all.length uc) all) := aW.out.more _ _
            have ZW : Hid (wr.heap.size < (grow (w3.drewN nq) osq).heap.size) := by show _ < _; rw [size_grow]; show _ < w3.heap.size + _; omega
            clear P1 P2 k1 k2 k3 k4 f3 f4 hW HW
            generalize grow (w3.drewN nq) osq = w4 at bW oW aW ZW q1 q2 q3 q4 ⊢
            have f2 := oW.out.free hol3.symm (o.length * 2 + 1)
            go_wp2_with fail
            go_region
            generalize max y2 x2 = mx at HN2 hput ⊢
            clear q1 q2 q3 q4 f2
            go_wp2
            go_roundw
            case rel => exact ⟨j + 1, o ++ [(y1, mx)], by omega, by go_num, HN2, by simp <;> omega, (hput.out _ oW.out).drew, ⟨gg, cc, by simp, by show gg < (w4.setCell _ _).heap.size; simp only [World.size_setCell]; have := ZW.out; omega, hgg0, hng⟩, (aW.out.other _ _ (fun q hq => by simp [Value.ownBlock] at hq; show q ≠ gg; omega)).drew, belowN (n := 1) (bW.out.setCell (show w.heap.size ≤ gg by omega) _)⟩
            case measure => simp [intOf]; omega
          · rw [decide_eq_false hle] at hmt2
            rw [if_neg hle, hO] at HN2
            go_quiet_grown ((go_at_call 44; refine callGrew (hmt2 _)))
            have q1 := k1 nq osq
            have q2 := k2 nq osq
            have bW : Hid (Below w.heap.size w (grow (w3.drewN nq) osq)) := grow_low _ _ bW.out bW.out.size
            have oW : Hid (OwnsS8 (grow (w3.drewN nq) osq) w.heap.size (.slice (some ⟨gg, 0, Option.none⟩) (o.length + 1) cc) O) := oW.out.more _ _
            have aW : Hid (OwnsS8 (grow (w3.drewN nq) osq) w1.heap.size (.slice (some ⟨g, 0, Option.none⟩) all.length uc) all) := aW.out.more _ _
            have ZW : Hid (wr.heap.size < (grow (w3.drewN nq) osq).heap.size) := by show _ < _; rw [size_grow]; show _ < w3.heap.size + _; omega
            clear P1 P2 k1 k2 k3 k4 f3 f4 hW HW
            generalize grow (w3.drewN nq) osq = w4 at bW oW aW ZW q1 q2 ⊢
            go_wp2_with (at_builtin; refine wpList_rowE_at (E := spnE) _ rfl (.tmp 33) (.tmp 35) 26 30 (.agg #[.int .i64 0, .int .i64 0]) 16 Tryd.underlying26 Tryd.infoSP rfl rfl w.heap.size _ O (by simp [Act.eval]) (oW.out.alloc _) ⟨w4.heap.size, 0, Option.none⟩ 1 [(x1, x2)] (by simp [Act.eval]) (fresh_cell w4 (x1, x2) #[.int .i64 x1, .int .i64 x2] 30 rfl) (by rw [hol3]; simp only [List.length_singleton]; unfold maxLen; omega) (by rw [hol3]; simp only [List.length_singleton]; omega) (by have := bW.out.size; simp; omega) ?_; intro v6 w6 ho6 hg6 hn6 ha6; have O6 : Hid (OwnsS8 w6 w.heap.size v6 (O ++ [(x1, x2)])) := ho6; have G6 : Hid _ := hg6; have A6 : Hid _ := ha6; clear ho6 hg6 hn6 ha6)
            have hA6 : Hid (OwnsS8 w6 w1.heap.size (.slice (some ⟨g, 0, Option.none⟩) all.length uc) all) := (aW.out.alloc _).grown G6.out (fun q hq e => by simp [Value.ownBlock] at hq e; omega)
            have b6 : Hid (Below w.heap.size w w6) := belowE (bW.out.alloc bW.out.size _) G6.out (by have := bW.out.size; simp; omega) (fun q hq => by simp [Value.ownBlock] at hq; omega)
            obtain ⟨g6, c6, rfl, hat, hg6, hg6'⟩ := O6.out.moved (by simp) A6.out
            have N6 : Hid (∀ q, (Value.slice (some ⟨g, 0, Option.none⟩) all.length uc).ownBlock = some q → q ≠ g6) := fun q hq => by simp [Value.ownBlock] at hq; have := ZW.out; simp at hat; omega
            clear G6 A6 hat
            go_roundw
            case rel => exact ⟨j + 1, _, by omega, by go_num, HN2, by simp <;> omega, O6, ⟨g6, c6, by simp, hg6', hg6, N6⟩, hA6, b6⟩
            case measure => simp [intOf]; omega
      · obtain rfl : j = all.length := by omega
        have HU : Hid (out = mgd l) := by show _ = _; rw [HM2.out, ← hout.out, List.take_length]
        have O9 : Hid (HasS8 wr w.heap.size (.slice (some ⟨gg, 0, Option.none⟩) out.length cc) (mgd l)) := by show HasS8 _ _ _ _; rw [← HU.out]; exact ho2.out.has
        clear ho2 hoa hout HX2
        go_wp2
        go_ret
        exact ⟨.slice (some ⟨gg, 0, Option.none⟩) out.length cc, rfl, O9.out, hb.out⟩
  · have hM : Hid (mgd l = []) := mgd_out hgood
    have hf : (decide (l.length ≤ 10) && allS l) = false := by
      cases e : (decide (l.length ≤ 10) && allS l) with
      | false => rfl
      | true => simp only [Bool.and_eq_true, decide_eq_true_eq] at e; exact absurd e hgood
    rw [hf] at hok
    obtain ⟨a, cap, rfl, _, _, _⟩ := h
    clear hr hgood hf
    go_enter Tryd.func19, Tryd.ntmps19
    go_wp2_with (go_at_call 41; refine hok.mono ?_; rintro e w1 ⟨rfl, hb1⟩; have HB : Hid _ := hb1; clear hb1)
    go_ret
    exact ⟨_, rfl, by rw [hM.out]; exact (O0.out.kept HB.out).has, B0.out.trans (HB.out.mono (by simp))⟩
end Go.Proofs.YtamfgjgmnnnjpaaDoor
