/-
  Drawn arguments of Chosen.
  FnVaries.
-/
import Derived.Test.YtnachhmhjodbhaaGreatDoorG46
import Derived.Test.YtnachhmhjodbhaaGreatDoorG47
import Derived.Test.YtnachhmhjodbhaaGreatDoorG32
import Derived.Deep.Slices
import Derived.Test.YtnachhmhjodbhaaGreatDoorG33
import Derived.Test.YtnachhmhjodbhaaGreatDoorG30
import Derived.Lib.QuietBelow
import Derived.BigQuiet
namespace Go.Proofs.YtnachhmhjodbhaaGreatDoor
open Go.RowKit Go.Sort
set_option linter.unusedVariables false
set_option linter.unusedSimpArgs false

theorem OwnsF.grownV {w w' : World} {B : Nat} {v : Value} {l : List Fl} {r : Option Nat} (h : OwnsF w B v l) (hg : w.grownBy w' r) (hne : ∀ k, v.ownBlock = some k → r ≠ some k) : OwnsF w' B v l := by
  refine ⟨h.1, ?_⟩
  rcases h.2 with h0 | ⟨g, cap, cur, hv, hbg, hh, rest⟩
  · exact .inl h0
  · exact .inr ⟨g, cap, cur, hv, hbg, by rw [hg.block g (Array.getElem?_eq_some_iff.1 hh).1 (fun e => hne g (by rw [hv]; rfl) e.symm)]; exact hh, rest⟩
theorem OwnsF.apart {w : World} {B B' : Nat} {v u : Value} {l : List Fl} {M : List Ox} (h : OwnsF w B v l) (ho : OwnsE oxE 32 w B' u M) : ∀ k, v.ownBlock = some k → u.ownBlock ≠ some k := by
  intro k hk hu
  rcases h.2 with ⟨h0, _⟩ | ⟨g, cap, cur, hv, _, hg, _⟩
  · subst h0; cases hk
  · subst hv
    rcases ho.2 with ⟨h0, _⟩ | ⟨g', cap', cur', hv', _, hg', _⟩
    · subst h0; cases hu
    · subst hv'
      have e1 : g = k := by simpa [Value.ownBlock] using hk
      have e2 : g' = k := by simpa [Value.ownBlock] using hu
      subst e1
      subst e2
      rw [hg] at hg'
      injection hg' with e
      injection e with _ e _
      exact absurd e (by decide)
theorem OwnsE.bsV {α : Type} {E : Enc α} {ty : TypeId} {w w' : World} {B b : Nat} {v : Value} {l : List α} (h : OwnsE E ty w B v l) (hb : Beside b w w') (hB : b < B) : OwnsE E ty w' B v l := by
  refine ⟨h.1, ?_⟩
  rcases h.2 with h0 | ⟨g, cap, cur, hv, hbg, hh, rest⟩
  · exact .inl h0
  · exact .inr ⟨g, cap, cur, hv, hbg, by rw [hb.2.2.2.2 g (Array.getElem?_eq_some_iff.1 hh).1 (by omega)]; exact hh, rest⟩
theorem RowsOwn.bs {w w' : World} {B b : Nat} {M : List Ox} (h : RowsOwn w B M) (hb : Beside b w w') (hB : b < B) : RowsOwn w' B M := fun x hx => ⟨(h x hx).1.beside10 hb hB, (h x hx).2.beside10 hb hB⟩
theorem RowsOwn.alloc {w : World} {B : Nat} {M : List Ox} (h : RowsOwn w B M) (o : Obj) : RowsOwn (w.alloc o) B M := fun x hx => ⟨(h x hx).1.alloc o, (h x hx).2.alloc o⟩
theorem wpList_pushOx {ops : Array Oper} {rest : List Oper} {o : Oper} {a : Act} {Q : Exit → Act → World → Prop} (w : World) (hgd : o.guard = none) (s x : Operand)
    (ho : o.op = .call { callee := .builtin .append, args := #[s, x], argTypes := #[35, 35] }) (B : Nat) (v : Value) (l : List Ox) (f : Ox) (hs : a.eval s = v) (hown : OwnsE oxE 32 w B v l)
    (hx : a.eval x = .slice (some ⟨w.heap.size, 0, none⟩) 1 1) (hlen : l.length ≤ 1000000) (hB : B ≤ w.heap.size)
    (h : ∀ v' w', OwnsE oxE 32 w' B v' (l ++ [f]) → w.grownBy w' v.ownBlock → wpList Tryz.prog ops Q rest (a.put o.dst v') w') :
    wpList Tryz.prog ops Q (o :: rest) a (w.alloc (.cells #[.string f.o.k, .slice f.pa f.o.l.length f.pc, .int .i64 f.o.r.s, .slice f.ua f.o.r.l.length f.uc, .string f.o.r.b, .int .i64 f.o.asked, .int .i64 f.o.got, .int .i64 f.o.ep] 32)) := by
  refine wpList_rowE_at (E := oxE) _ hgd s x 35 32 _ 112 Tryz.underlying35 Tryz.infoOBV rfl ho B v l hs (hown.alloc _) ⟨w.heap.size, 0, none⟩ 1 [f] hx ?_ (by unfold maxLen; simp; omega) (by simp; omega) (by simp; omega) ?_
  · intro j u hu
    rw [cellsE_single] at hu
    rw [addr_add, Nat.zero_add, World.cell?_alloc_mark]
    simpa [oxE, oxC, Ox.v, Ox.u] using hu
  intro v' w' h1 h2 h3 h4
  refine h v' w' h1 ⟨h2.os, h2.tape, h2.output, ?_, ?_⟩
  · have := h2.size
    simp at this
    omega
  · intro k hk hne
    rw [h2.block k (by simp; omega) hne]
    exact Below.heap_alloc _ _ _ hk
set_option maxRecDepth 100000 in
set_option maxHeartbeats 16000000 in
theorem drawCho (sa : Option Addr) (sl sc : Nat) (w : World) (hc : Code8 w w.heap.size sa sl) (hl : sl ≤ 4096) :
    Calls Tryz.prog 10 #[.slice sa sl sc] w fun e w' => ∃ (v : Value) (M : List Ox) (q : Value) (al : List Fl), e = .returned (.tuple #[v, .string ⟨#[104, 47, 97]⟩, q]) ∧ OwnsE oxE 32 w' w.heap.size v M ∧ M.length ≤ 4 ∧ RowsOwn w' w.heap.size M ∧ (∀ x ∈ M, FewO x.o) ∧ OwnsF w' w.heap.size q al ∧ FewF 2 al ∧ Below w.heap.size w w' := by
  go_enter Tryz.func10, Tryz.ntmps10
  go_wp2_with fail
  refine (l1New sa sl sc w hc hl).mono ?_
  rintro e w1 ⟨rfl, hc1, hb1⟩
  have hz1 : w.heap.size < w1.heap.size := hc1.2.2.1
  go_wp2_with fail
  refine (l1Below w.heap.size sa sl sc 5 (by decide) (by decide) (w1.alloc (.cells #[] 32)) (hc1.more9 _)).mono ?_
  rintro e w2 ⟨z, rfl, hz0, hz2, hc2, hb2⟩
  obtain ⟨m, rfl⟩ : ∃ m : Nat, z = m := ⟨z.toNat, by omega⟩
  have ho2 : Hid (OwnsE oxE 32 w2 (w.heap.size + 1) (.slice (some ⟨w1.heap.size, 0, none⟩) 0 0) []) := ((OwnsE.born w1).low (show w.heap.size + 1 ≤ w1.heap.size by omega)).bsV hb2 (Nat.lt_succ_self _)
  have B2 : Hid (Below w.heap.size w w2) := (hb1.alloc hb1.size _).trans (hb2.low (Nat.le_refl _) (by have := hb1.size; simp; omega))
  have C2 : Hid (Cur w2 w.heap.size sa sl sc) := hc2
  clear hc1 hb1 hc2 hb2 hz1 hc
  go_wp2_with fail
  go_loopw [6, 7] (fun q i wr => ∃ (k : Nat) (M : List Ox) (qa : Option Addr) (qc : Nat), q = .slice qa M.length qc ∧ i = .int .i64 k ∧ M.length + k ≤ 4 ∧ Hid (OwnsE oxE 32 wr (w.heap.size + 1) (.slice qa M.length qc) M) ∧ Hid (RowsOwn wr (w.heap.size + 1) M) ∧ Hid (∀ x ∈ M, FewO x.o) ∧ Hid (Cur wr w.heap.size sa sl sc) ∧ Hid (Below w.heap.size w wr)) (fun _ i _ => (intOf i).toNat)
  case atStart => exact ⟨m, [], _, _, rfl, rfl, by simp; omega, ho2, (show RowsOwn w2 (w.heap.size + 1) [] from fun x hx => absurd hx List.not_mem_nil), (show ∀ x ∈ ([] : List Ox), FewO x.o from fun x hx => absurd hx List.not_mem_nil), C2, B2⟩
  case round =>
    clear ho2 B2 C2
    obtain ⟨k, M, qa, qc, rfl, rfl, hlk, hown, hrows, HM, hcur, hbes⟩ := hrel
    by_cases hk : 0 < k
    · go_wp2_with fail
      refine (l10DrawAnyO w.heap.size sa sl sc _ hcur.out).mono ?_
      rintro e w3 ⟨⟨v, rfl, o, p, u, rfl, h1, h2, hfew⟩, hc3, hb3⟩
      obtain ⟨pa, pc, rfl, _, _⟩ := h1.form
      obtain ⟨ua, uc, rfl, _, _⟩ := h2.form
      have hcr := hcur.out.2.2.1
      have hz3 : wr.heap.size ≤ w3.heap.size := hb3.2.2.2.1
      have HNE : Hid (∀ k, Value.ownBlock (.slice qa M.length qc) = some k → k ≠ w3.heap.size) := fun k hk => by have := hown.out.under k hk; omega
      have hgw : w.heap.size < w3.heap.size := by omega
      have D4 : Hid (ObB (w3.alloc (.cells #[.string o.k, .slice pa o.l.length pc, .int .i64 o.r.s, .slice ua o.r.l.length uc, .string o.r.b, .int .i64 o.asked, .int .i64 o.got, .int .i64 o.ep] 32)) w3.heap.size o (.slice pa o.l.length pc) (.slice ua o.r.l.length uc)) := ObB.new w3 o _ _ _
      have T4 : Hid (∃ c, (w3.alloc (.cells #[.string o.k, .slice pa o.l.length pc, .int .i64 o.r.s, .slice ua o.r.l.length uc, .string o.r.b, .int .i64 o.asked, .int .i64 o.got, .int .i64 o.ep] 32)).heap[w3.heap.size]? = some (.cells c 32 (0, 0))) := ⟨_, newAt w3 _⟩
      have C4 : Hid (Cur (w3.alloc (.cells #[.string o.k, .slice pa o.l.length pc, .int .i64 o.r.s, .slice ua o.r.l.length uc, .string o.r.b, .int .i64 o.asked, .int .i64 o.got, .int .i64 o.ep] 32)) w.heap.size sa sl sc) := hc3.more9 _
      have B4 : Hid (Below w.heap.size w (w3.alloc (.cells #[.string o.k, .slice pa o.l.length pc, .int .i64 o.r.s, .slice ua o.r.l.length uc, .string o.r.b, .int .i64 o.asked, .int .i64 o.got, .int .i64 o.ep] 32))) := (hbes.out.trans (hb3.low (Nat.le_refl _) hbes.out.size)).alloc (by omega) _
      have O4 : Hid (OwnsE oxE 32 (w3.alloc (.cells #[.string o.k, .slice pa o.l.length pc, .int .i64 o.r.s, .slice ua o.r.l.length uc, .string o.r.b, .int .i64 o.asked, .int .i64 o.got, .int .i64 o.ep] 32)) (w.heap.size + 1) (.slice qa M.length qc) M) := (hown.out.bsV hb3 (Nat.lt_succ_self _)).alloc _
      have R4 : Hid (RowsOwn (w3.alloc (.cells #[.string o.k, .slice pa o.l.length pc, .int .i64 o.r.s, .slice ua o.r.l.length uc, .string o.r.b, .int .i64 o.asked, .int .i64 o.got, .int .i64 o.ep] 32)) (w.heap.size + 1) M) := (hrows.out.bs hb3 (Nat.lt_succ_self _)).alloc _
      have P4 : Hid (OwnsF (w3.alloc (.cells #[.string o.k, .slice pa o.l.length pc, .int .i64 o.r.s, .slice ua o.r.l.length uc, .string o.r.b, .int .i64 o.asked, .int .i64 o.got, .int .i64 o.ep] 32)) (w.heap.size + 1) (.slice pa o.l.length pc) o.l ∧ OwnsF (w3.alloc (.cells #[.string o.k, .slice pa o.l.length pc, .int .i64 o.r.s, .slice ua o.r.l.length uc, .string o.r.b, .int .i64 o.asked, .int .i64 o.got, .int .i64 o.ep] 32)) (w.heap.size + 1) (.slice ua o.r.l.length uc) o.r.l) := ⟨(h1.low (by omega)).alloc _, (h2.low (by omega)).alloc _⟩
      have HFW : Hid (FewO o) := hfew
      clear h1 h2 hc3 hb3 hown hrows hcur hbes hfew
      unfold obV
      go_upto_region 7 with fail
      generalize w3.alloc (.cells #[.string o.k, .slice pa o.l.length pc, .int .i64 o.r.s, .slice ua o.r.l.length uc, .string o.r.b, .int .i64 o.asked, .int .i64 o.got, .int .i64 o.ep] 32) = w4 at D4 T4 C4 B4 O4 R4 P4 ⊢
      go_wp2_with fail
      refine (l1Once w.heap.size sa sl sc 3 (by decide) (by decide) _ C4.out).mono ?_
      rintro e w5 ⟨tt, rfl, hc5, hb5⟩
      have hgn : w3.heap.size ≠ w.heap.size := by omega
      have D5 : Hid (ObB w5 w3.heap.size o (.slice pa o.l.length pc) (.slice ua o.r.l.length uc)) := D4.out.beside hb5 hgn
      have T5 : Hid (∃ c, w5.heap[w3.heap.size]? = some (.cells c 32 (0, 0))) := T4.out.elim fun c hc => ⟨c, besAt hb5 hc hgn⟩
      have C5 : Hid (Cur w5 w.heap.size sa sl sc) := hc5
      have B5 : Hid (Below w.heap.size w w5) := B4.out.trans (hb5.low (Nat.le_refl _) B4.out.size)
      have O5 : Hid (OwnsE oxE 32 w5 (w.heap.size + 1) (.slice qa M.length qc) M) := O4.out.bsV hb5 (Nat.lt_succ_self _)
      have R5 : Hid (RowsOwn w5 (w.heap.size + 1) M) := R4.out.bs hb5 (Nat.lt_succ_self _)
      have P5 : Hid (OwnsF w5 (w.heap.size + 1) (.slice pa o.l.length pc) o.l ∧ OwnsF w5 (w.heap.size + 1) (.slice ua o.r.l.length uc) o.r.l) := ⟨P4.out.1.beside10 hb5 (Nat.lt_succ_self _), P4.out.2.beside10 hb5 (Nat.lt_succ_self _)⟩
      clear hc5 hb5 D4 T4 C4 B4 O4 R4 P4
      cases tt with
      | true =>
        obtain ⟨c0, c1, c2, c3, c4, c5, c6, c7, cf, ch⟩ := D5.out
        go_wp2_with (at_builtin; refine wpList_pushOx _ rfl (.tmp 24) (.tmp 26) rfl (w.heap.size + 1) _ M ⟨⟨o.k, o.l, o.r, o.asked, o.got, o.ep⟩, pa, pc, ua, uc⟩ rfl O5.out rfl (by omega) (by have := C5.out.2.2.1; omega) ?_; intro v7 w7 ho7 hg7; obtain ⟨a7, c7', rfl, _⟩ := ho7.form)
        have O7 : Hid (OwnsE oxE 32 w7 (w.heap.size + 1) (.slice a7 (M ++ [(⟨⟨o.k, o.l, o.r, o.asked, o.got, o.ep⟩, pa, pc, ua, uc⟩ : Ox)]).length c7') (M ++ [⟨⟨o.k, o.l, o.r, o.asked, o.got, o.ep⟩, pa, pc, ua, uc⟩])) := ho7
        have hlow := grown_low10 hg7 (OwnsE.from O5.out) (by have := C5.out.2.2.1; omega)
        have B7 : Hid (Below w.heap.size w w7) := B5.out.trans (hlow.mono (Nat.le_succ _))
        have C7 : Hid (Cur w7 w.heap.size sa sl sc) := C5.out.kept hlow (Nat.lt_succ_self _)
        have R7 : Hid (RowsOwn w7 (w.heap.size + 1) (M ++ [⟨⟨o.k, o.l, o.r, o.asked, o.got, o.ep⟩, pa, pc, ua, uc⟩])) := RowsOwn.snoc (fun x hx => ⟨(R5.out x hx).1.grownV hg7 ((R5.out x hx).1.apart O5.out), (R5.out x hx).2.grownV hg7 ((R5.out x hx).2.apart O5.out)⟩) (P5.out.1.grownV hg7 (P5.out.1.apart O5.out)) (P5.out.2.grownV hg7 (P5.out.2.apart O5.out))
        have F7 : Hid (∀ x ∈ M ++ [(⟨⟨o.k, o.l, o.r, o.asked, o.got, o.ep⟩, pa, pc, ua, uc⟩ : Ox)], FewO x.o) := fun x hx => by
          rcases List.mem_append.1 hx with hx | hx
          · exact HM.out x hx
          · rw [List.mem_singleton.1 hx]; exact HFW.out
        clear ho7 hg7 hlow c0 c1 c2 c3 c4 c5 c6 c7 cf ch D5 B5 C5 O5 R5 P5 HM
        go_roundw
        case rel => exact ⟨k - 1, M ++ [⟨⟨o.k, o.l, o.r, o.asked, o.got, o.ep⟩, pa, pc, ua, uc⟩], a7, c7', by simp, by go_num, by simp; omega, O7, R7, F7, C7, B7⟩
        case measure => simp [intOf]; omega
      | false =>
        have D6 : Hid (ObB (w5.setCell ⟨w3.heap.size, 0, none⟩ (.string ⟨#[104, 47, 97]⟩)) w3.heap.size ⟨⟨#[104, 47, 97]⟩, o.l, o.r, o.asked, o.got, o.ep⟩ (.slice pa o.l.length pc) (.slice ua o.r.l.length uc)) := D5.out.put010 _
        have B6 : Hid (Below w.heap.size w (w5.setCell ⟨w3.heap.size, 0, none⟩ (.string ⟨#[104, 47, 97]⟩))) := low_put10 B5.out (by omega)
        have C6 : Hid (Cur (w5.setCell ⟨w3.heap.size, 0, none⟩ (.string ⟨#[104, 47, 97]⟩)) w.heap.size sa sl sc) := C5.out.kept (below_set10 w5 w3.heap.size 0 _) (by omega)
        have O6 : Hid (OwnsE oxE 32 (w5.setCell ⟨w3.heap.size, 0, none⟩ (.string ⟨#[104, 47, 97]⟩)) (w.heap.size + 1) (.slice qa M.length qc) M) := O5.out.other ⟨w3.heap.size, 0, none⟩ _ (fun k hk => HNE.out k hk)
        have R6 : Hid (RowsOwn (w5.setCell ⟨w3.heap.size, 0, none⟩ (.string ⟨#[104, 47, 97]⟩)) (w.heap.size + 1) M) := fun x hx => ⟨(R5.out x hx).1.besides10 (T5.out.choose_spec) (by decide) _, (R5.out x hx).2.besides10 (T5.out.choose_spec) (by decide) _⟩
        have P6 : Hid (OwnsF (w5.setCell ⟨w3.heap.size, 0, none⟩ (.string ⟨#[104, 47, 97]⟩)) (w.heap.size + 1) (.slice pa o.l.length pc) o.l ∧ OwnsF (w5.setCell ⟨w3.heap.size, 0, none⟩ (.string ⟨#[104, 47, 97]⟩)) (w.heap.size + 1) (.slice ua o.r.l.length uc) o.r.l) := ⟨P5.out.1.besides10 (T5.out.choose_spec) (by decide) _, P5.out.2.besides10 (T5.out.choose_spec) (by decide) _⟩
        obtain ⟨d0, d1, d2, d3, d4, d5, d6, d7, df, dh⟩ := D5.out
        go_upto_region 9 with fail
        generalize w5.setCell ⟨w3.heap.size, 0, none⟩ (.string ⟨#[104, 47, 97]⟩) = w6 at D6 B6 C6 O6 R6 P6 ⊢
        clear d0 d1 d2 d3 d4 d5 d6 d7 df dh D5 B5 C5 O5 R5 P5
        obtain ⟨c0, c1, c2, c3, c4, c5, c6, c7, cf, ch⟩ := D6.out
        go_wp2_with (at_builtin; refine wpList_pushOx _ rfl (.tmp 24) (.tmp 26) rfl (w.heap.size + 1) _ M ⟨⟨⟨#[104, 47, 97]⟩, o.l, o.r, o.asked, o.got, o.ep⟩, pa, pc, ua, uc⟩ rfl O6.out rfl (by omega) (by have := C6.out.2.2.1; omega) ?_; intro v7 w7 ho7 hg7; obtain ⟨a7, c7', rfl, _⟩ := ho7.form)
        have O7 : Hid (OwnsE oxE 32 w7 (w.heap.size + 1) (.slice a7 (M ++ [(⟨⟨⟨#[104, 47, 97]⟩, o.l, o.r, o.asked, o.got, o.ep⟩, pa, pc, ua, uc⟩ : Ox)]).length c7') (M ++ [⟨⟨⟨#[104, 47, 97]⟩, o.l, o.r, o.asked, o.got, o.ep⟩, pa, pc, ua, uc⟩])) := ho7
        have hlow := grown_low10 hg7 (OwnsE.from O6.out) (by have := C6.out.2.2.1; omega)
        have B7 : Hid (Below w.heap.size w w7) := B6.out.trans (hlow.mono (Nat.le_succ _))
        have C7 : Hid (Cur w7 w.heap.size sa sl sc) := C6.out.kept hlow (Nat.lt_succ_self _)
        have R7 : Hid (RowsOwn w7 (w.heap.size + 1) (M ++ [⟨⟨⟨#[104, 47, 97]⟩, o.l, o.r, o.asked, o.got, o.ep⟩, pa, pc, ua, uc⟩])) := RowsOwn.snoc (fun x hx => ⟨(R6.out x hx).1.grownV hg7 ((R6.out x hx).1.apart O6.out), (R6.out x hx).2.grownV hg7 ((R6.out x hx).2.apart O6.out)⟩) (P6.out.1.grownV hg7 (P6.out.1.apart O6.out)) (P6.out.2.grownV hg7 (P6.out.2.apart O6.out))
        have F7 : Hid (∀ x ∈ M ++ [(⟨⟨⟨#[104, 47, 97]⟩, o.l, o.r, o.asked, o.got, o.ep⟩, pa, pc, ua, uc⟩ : Ox)], FewO x.o) := fun x hx => by
          rcases List.mem_append.1 hx with hx | hx
          · exact HM.out x hx
          · rw [List.mem_singleton.1 hx]; exact ⟨by show (⟨#[104, 47, 97]⟩ : ByteArray).size ≤ 600; decide, HFW.out.2⟩
        clear ho7 hg7 hlow c0 c1 c2 c3 c4 c5 c6 c7 cf ch D6 B6 C6 O6 R6 P6 HM
        go_roundw
        case rel => exact ⟨k - 1, M ++ [⟨⟨⟨#[104, 47, 97]⟩, o.l, o.r, o.asked, o.got, o.ep⟩, pa, pc, ua, uc⟩], a7, c7', by simp, by go_num, by simp; omega, O7, R7, F7, C7, B7⟩
        case measure => simp [intOf]; omega
    · go_wp2_with fail
      refine (l10DrawAsks w.heap.size sa sl sc _ hcur.out).mono ?_
      rintro e w4 ⟨⟨y, al, rfl, hy, hyf⟩, hc4, hb4⟩
      have hcr := hcur.out.2.2.1
      have B4 : Hid (Below w.heap.size w w4) := hbes.out.trans (hb4.low (Nat.le_refl _) hbes.out.size)
      have O4 : Hid (OwnsE oxE 32 w4 w.heap.size (.slice qa M.length qc) M) := (hown.out.bsV hb4 (Nat.lt_succ_self _)).low (Nat.le_succ _)
      have R4 : Hid (RowsOwn w4 w.heap.size M) := fun x hx => ⟨((hrows.out.bs hb4 (Nat.lt_succ_self _)) x hx).1.low (Nat.le_succ _), ((hrows.out.bs hb4 (Nat.lt_succ_self _)) x hx).2.low (Nat.le_succ _)⟩
      have Y4 : Hid (OwnsF w4 w.heap.size y al) := hy.low (by omega)
      have YF : Hid (FewF 2 al) := hyf
      clear hy hyf hc4 hb4 hown hrows hcur hbes
      go_wp2
      go_ret3
      exact ⟨_, M, y, al, rfl, O4.out, by omega, R4.out, HM.out, Y4.out, YF.out, B4.out⟩
end Go.Proofs.YtnachhmhjodbhaaGreatDoor
namespace Go.Proofs.YtnachhmhjodbhaaGreatDoor
open Go.RowKit Go.Sort
set_option linter.unusedVariables false
set_option linter.unusedSimpArgs false

theorem obInV {W : World} {B : Nat} {p u : Value} {o : Ob} (h1 : OwnsF W B p o.l) (h2 : OwnsF W B u o.r.l) (hf : FewO o) : ObIn W p u o := by
  have s1 := hf.2.1.more.sz
  have s2 := hf.2.2.1.sz
  have n1 := hf.2.1.1
  have n2 := hf.2.2.1.1
  have b1 := hf.2.2.2.1
  have k1 := hf.1
  exact ⟨h1.fits10 (by omega) (by omega), ⟨h2.fits10 (by omega) (by omega), by omega⟩, by omega⟩
theorem FewG.fitsV {W : World} {B : Nat} {p : Value} {l : List Fl} (h : FewG l) (ho : OwnsF W B p l) : Fits W p l := ho.fits10 (by have := h.sz; omega) (by have := h.1; omega)
set_option maxRecDepth 100000 in
set_option maxHeartbeats 16000000 in
theorem fnVaries (sa : Option Addr) (sl sc : Nat) (zs : List Int) (w : World) (hw : IsRow w sa sl sc zs) :
    Calls Tryz.prog 3 #[.slice sa sl sc] w fun e w' => e = .returned (.bool true) ∧ Below w.heap.size w w' := by
  by_cases hbig : 4096 < sl
  · have hlen := hw.len
    clear hw
    go_enter Tryz.func3, Tryz.ntmps3
    go_wp2_with (go_at_call 6; refine (isBig sa sl sc _ hbig hlen).mono ?_; rintro e w1 ⟨rfl, rfl⟩)
    go_ret
    exact ⟨rfl, Below.refl _ _⟩
  · have hl : sl ≤ 4096 := by omega
    have h8 : Hid (Code8 w w.heap.size sa sl) := hw.code.code
    clear hw hbig
    go_enter Tryz.func3, Tryz.ntmps3
    go_wp2_with fail
    refine (notBig sa sl sc _ hl).mono ?_
    rintro e w0 ⟨rfl, rfl⟩
    go_wp2_with fail
    refine (drawSel sa sl sc _ h8.out hl).mono ?_
    rintro e w1 ⟨s, u, l, rfl, hst, hu, hfg, hgz, hb1⟩
    obtain ⟨ua, uc, rfl, _, _⟩ := hu.form
    have FS : Hid (∀ W, Below w1.heap.size w1 W → Fits W (.slice ua l.length uc) l) := fun W hb => (hfg.fitsV hu).kept hb
    have HST : Hid (s ∈ selTab) := hst
    have hss : s.size ≤ 14 := (by decide : ∀ x ∈ selTab, x.size ≤ 14) s hst
    have cI := fun W hW => implSel s (.slice ua l.length uc) l W hW (by unfold maxLen; omega)
    rw [selI_is (by have := hgz.out; omega)] at cI
    have cS := fun W hW => specSel s (.slice ua l.length uc) l W hW (by unfold maxLen; omega)
    have HLN : Hid (l.length ≤ 40 ∧ FewG l) := ⟨hfg.1, hfg⟩
    have C0 : Hid (Below w.heap.size w w1) := hb1
    clear hst hu hfg hb1
    unfold selE at cI cS
    generalize hab : selA s l = A at cI cS
    have HA : Hid (selA s l = A) := hab
    clear hab
    obtain ⟨t, b⟩ := A
    simp only at cI cS
    go_wp2_with fail
    refine (cI _ (FS.out _ (Below.refl _ _))).mono ?_
    rintro e w2 ⟨rfl, hb2⟩
    have C1 : Hid (Below w1.heap.size w1 w2) := hb2
    have C02 : Hid (Below w.heap.size w w2) := past6 C0.out hb2
    clear hb2 C0 cI
    go_wp2_with fail
    refine (drawMat sa sl sc _ (code_onV h8.out C02.out) hl).mono ?_
    rintro e w3 ⟨o, p, pu, k, q, al, rfl, hp, hpu, hfo, hks, hq, hqf, hb3⟩
    obtain ⟨pa, pc, rfl, _, _⟩ := hp.form
    obtain ⟨pua, puc, rfl, _, _⟩ := hpu.form
    obtain ⟨qa, qc, rfl, _, _⟩ := hq.form
    have FM : Hid (∀ W, Below w3.heap.size w3 W → ObIn W (.slice pa o.l.length pc) (.slice pua o.r.l.length puc) o ∧ Fits W (.slice qa al.length qc) al) := fun W hb => ⟨(obInV hp hpu hfo).kept hb, (hqf.more.fitsV hq).kept hb⟩
    have cM := fun W hO hF => implMat o (.slice pa o.l.length pc) (.slice pua o.r.l.length puc) k (.slice qa al.length qc) al W hO hF (by omega) (by have := hfo.2.1.getZ; omega) (by have := hqf.getZ; omega)
    have cN := fun W hO hF => specMat o (.slice pa o.l.length pc) (.slice pua o.r.l.length puc) k (.slice qa al.length qc) al W hO hF (by omega)
    generalize matV o k al = m at cM cN
    have O3 : Hid (ObB (w3.alloc (.cells #[.string o.k, .slice pa o.l.length pc, .int .i64 o.r.s, .slice pua o.r.l.length puc, .string o.r.b, .int .i64 o.asked, .int .i64 o.got, .int .i64 o.ep] 32)) w3.heap.size o (.slice pa o.l.length pc) (.slice pua o.r.l.length puc)) := ObB.new w3 o _ _ _
    have C3 : Hid (Below w3.heap.size w3 (w3.alloc (.cells #[.string o.k, .slice pa o.l.length pc, .int .i64 o.r.s, .slice pua o.r.l.length puc, .string o.r.b, .int .i64 o.asked, .int .i64 o.got, .int .i64 o.ep] 32))) := (Below.refl _ w3).alloc (Nat.le_refl _) _
    have C13 : Hid (Below w1.heap.size w1 (w3.alloc (.cells #[.string o.k, .slice pa o.l.length pc, .int .i64 o.r.s, .slice pua o.r.l.length puc, .string o.r.b, .int .i64 o.asked, .int .i64 o.got, .int .i64 o.ep] 32))) := (past6 C1.out hb3).alloc (past6 C1.out hb3).size _
    have C03 : Hid (Below w.heap.size w (w3.alloc (.cells #[.string o.k, .slice pa o.l.length pc, .int .i64 o.r.s, .slice pua o.r.l.length puc, .string o.r.b, .int .i64 o.asked, .int .i64 o.got, .int .i64 o.ep] 32))) := (past6 C02.out hb3).alloc (past6 C02.out hb3).size _
    clear hp hpu hfo hks hq hqf hb3 C1 C02
    unfold obV at cM cN ⊢
    go_wp2_with fail
    generalize (w3.alloc (.cells #[.string o.k, .slice pa o.l.length pc, .int .i64 o.r.s, .slice pua o.r.l.length puc, .string o.r.b, .int .i64 o.asked, .int .i64 o.got, .int .i64 o.ep] 32)) = w4 at O3 C3 C13 C03 ⊢
    refine (drawCho sa sl sc _ (code_onV h8.out C03.out) hl).mono ?_
    rintro e w5 ⟨v, M, q2, al2, rfl, hv, hM4, hrows, hfm, hq2, hq2f, hb5⟩
    obtain ⟨va, vc, rfl, _, _⟩ := hv.form
    obtain ⟨q2a, q2c, rfl, _, _⟩ := hq2.form
    have FC : Hid (∀ W, Below w5.heap.size w5 W → Sls oxE W (.slice va M.length vc) M ∧ (∀ y ∈ M, ObIn W y.v y.u y.o) ∧ Fits W (.slice q2a al2.length q2c) al2) := fun W hb => ⟨hv.sls.kept hb, fun y hy => (obInV (hrows y hy).1 (hrows y hy).2 (hfm y hy)).kept hb, (hq2f.more.fitsV hq2).kept hb⟩
    have hzm : ∀ y ∈ M, getZ y.o.l ≤ 400 := fun y hy => by have := (hfm y hy).2.1.getZ; omega
    have hz2 : getZ al2 ≤ 400 := by have := hq2f.getZ; omega
    have cK := fun W h1 h2 h3 => implCho (.slice va M.length vc) M ⟨#[104, 47, 97]⟩ (.slice q2a al2.length q2c) al2 W h1 h2 h3 (by decide) (by omega) hzm hz2
    have cL := fun W h1 h2 h3 => specCho (.slice va M.length vc) M ⟨#[104, 47, 97]⟩ (.slice q2a al2.length q2c) al2 W h1 h2 h3 (by decide) (by omega)
    have cP : Hid (∀ (i : Nat) (hi : i < M.length) (W : World), Below w5.heap.size w5 W → Calls Tryz.prog 13 #[obV M[i].o M[i].v M[i].u, .string ⟨#[104, 47, 97]⟩, .slice q2a al2.length q2c] W fun e w' => e = .returned (.bool (matV M[i].o ⟨#[104, 47, 97]⟩ al2)) ∧ Below W.heap.size W w') := fun i hi W hb => implMat M[i].o M[i].v M[i].u ⟨#[104, 47, 97]⟩ (.slice q2a al2.length q2c) al2 W ((FC.out W hb).2.1 M[i] (List.getElem_mem hi)) (FC.out W hb).2.2 (by decide) (hzm M[i] (List.getElem_mem hi)) hz2
    have HBS : Hid (∀ (i : Nat) (hi : i < M.length), matV M[i].o ⟨#[104, 47, 97]⟩ al2 = true → ∃ (j : Nat) (hj : j < M.length), choV (M.map (·.o)) ⟨#[104, 47, 97]⟩ al2 = j ∧ M[i].o.got ≤ M[j].o.got) := fun i hi hm => by
      obtain ⟨j, hj, h1, h2⟩ := choV_best (L := M.map (·.o)) (key := ⟨#[104, 47, 97]⟩) (asks := al2) (i := i) (by simpa using hi) (by simpa using hm)
      exact ⟨j, by simpa using hj, h1, by simpa using h2⟩
    have HFO : Hid (choV (M.map (·.o)) ⟨#[104, 47, 97]⟩ al2 = -1 ∨ ∃ (j : Nat) (hj : j < M.length), choV (M.map (·.o)) ⟨#[104, 47, 97]⟩ al2 = j ∧ matV M[j].o ⟨#[104, 47, 97]⟩ al2 = true) := by
      rcases choV_form (M.map (·.o)) ⟨#[104, 47, 97]⟩ al2 with h | ⟨j, h1, h2⟩
      · exact .inl h
      · obtain ⟨hj, hm⟩ := choV_mat h1
        exact .inr ⟨j, by simpa using hj, h1, by simpa using hm⟩
    generalize choV (M.map (·.o)) ⟨#[104, 47, 97]⟩ al2 = c at cK cL HBS HFO
    have C5 : Hid (Below w5.heap.size w5 w5) := Below.refl _ _
    have C35 : Hid (Below w3.heap.size w3 w5) := past6 C3.out hb5
    have C15 : Hid (Below w1.heap.size w1 w5) := past6 C13.out hb5
    have C05 : Hid (Below w.heap.size w w5) := past6 C03.out hb5
    have O5 : Hid (ObB w5 w3.heap.size o (.slice pa o.l.length pc) (.slice pua o.r.l.length puc)) := O3.out.next hb5
    clear hv hrows hfm hq2 hq2f hb5 C3 C13 C03 O3 hzm hz2 h8 hl
    go_wp2_with fail
    refine (cK _ (FC.out _ C5.out).1 (FC.out _ C5.out).2.1 (FC.out _ C5.out).2.2).mono ?_
    rintro e w6 ⟨rfl, hb6⟩
    have C56 : Hid (Below w5.heap.size w5 w6) := hb6
    have C36 : Hid (Below w3.heap.size w3 w6) := past6 C35.out hb6
    have C16 : Hid (Below w1.heap.size w1 w6) := past6 C15.out hb6
    have C06 : Hid (Below w.heap.size w w6) := past6 C05.out hb6
    have O6 : Hid (ObB w6 w3.heap.size o (.slice pa o.l.length pc) (.slice pua o.r.l.length puc)) := O5.out.next hb6
    clear hb6 C5 C35 C15 C05 O5 cK
    go_wp2_with fail
    refine (cS _ (FS.out _ C16.out)).mono ?_
    rintro e w7 ⟨rfl, hb7⟩
    have C57 : Hid (Below w5.heap.size w5 w7) := past6 C56.out hb7
    have C37 : Hid (Below w3.heap.size w3 w7) := past6 C36.out hb7
    have C17 : Hid (Below w1.heap.size w1 w7) := past6 C16.out hb7
    have C07 : Hid (Below w.heap.size w w7) := past6 C06.out hb7
    have O7 : Hid (ObB w7 w3.heap.size o (.slice pa o.l.length pc) (.slice pua o.r.l.length puc)) := O6.out.next hb7
    clear hb7 C56 C36 C16 C06 O6 cS
    go_upto_region 9 with fail
    have k0 := cell_regrown O7.out.c0
    have k1 := cell_regrown O7.out.c1
    have k2 := cell_regrown O7.out.c2
    have k3 := cell_regrown O7.out.c3
    have k4 := cell_regrown O7.out.c4
    have k5 := cell_regrown O7.out.c5
    have k6 := cell_regrown O7.out.c6
    have k7 := cell_regrown O7.out.c7
    have G7 : Hid (∀ d os, Below w7.heap.size w7 (grow (redrawn w7 d) os)) := fun d os => below_regrown w7 d os
    have r1 : ∀ d os, Calls Tryz.prog 13 #[.agg #[.string o.k, .slice pa o.l.length pc, .int .i64 o.r.s, .slice pua o.r.l.length puc, .string o.r.b, .int .i64 o.asked, .int .i64 o.got, .int .i64 o.ep], .string k, .slice qa al.length qc] (grow (redrawn w7 d) os) fun e w'' => e = .returned (.bool m) ∧ ∃ p : Regrown, w'' = grow (redrawn w7 p.d) p.os := fun d os => Calls.regrown_of (cM _ (FM.out _ (past6 C37.out (G7.out d os))).1 (FM.out _ (past6 C37.out (G7.out d os))).2)
    have r2 : ∀ d os, Calls Tryz.prog 14 #[.agg #[.string o.k, .slice pa o.l.length pc, .int .i64 o.r.s, .slice pua o.r.l.length puc, .string o.r.b, .int .i64 o.asked, .int .i64 o.got, .int .i64 o.ep], .string k, .slice qa al.length qc] (grow (redrawn w7 d) os) fun e w'' => e = .returned (.bool m) ∧ ∃ p : Regrown, w'' = grow (redrawn w7 p.d) p.os := fun d os => Calls.regrown_of (cN _ (FM.out _ (past6 C37.out (G7.out d os))).1 (FM.out _ (past6 C37.out (G7.out d os))).2)
    have r3 : ∀ d os, Calls Tryz.prog 15 #[.slice va M.length vc, .string ⟨#[104, 47, 97]⟩, .slice q2a al2.length q2c] (grow (redrawn w7 d) os) fun e w'' => e = .returned (.int .i64 c) ∧ ∃ p : Regrown, w'' = grow (redrawn w7 p.d) p.os := fun d os => Calls.regrown_of (cL _ (FC.out _ (past6 C57.out (G7.out d os))).1 (FC.out _ (past6 C57.out (G7.out d os))).2.1 (FC.out _ (past6 C57.out (G7.out d os))).2.2)
    have dm : (m != m) = false := by simp
    have dc : (c != c) = false := by simp
    have db : (b != b) = false := by simp
    refine wp_region_quiet_below (by kernel_rfl) (by kernel_rfl) ?_
    repeat (go_big_quiet_step (first | (with_reducible exact r1 _ _) | (with_reducible exact r2 _ _) | (with_reducible exact r3 _ _)))
    refine wpQuiet_nil ?_
    intro _ hw'
    obtain ⟨⟨dq, osq⟩, hw''⟩ := hw'
    subst hw''
    go_wp2_with fail
    have C58 : Hid (Below w5.heap.size w5 (grow (redrawn w7 dq) osq)) := past6 C57.out (G7.out dq osq)
    have C18 : Hid (Below w1.heap.size w1 (grow (redrawn w7 dq) osq)) := past6 C17.out (G7.out dq osq)
    have C08 : Hid (Below w.heap.size w (grow (redrawn w7 dq) osq)) := past6 C07.out (G7.out dq osq)
    clear k0 k1 k2 k3 k4 k5 k6 k7 r1 r2 r3 dm dc db C57 C37 C17 C07 O7 G7 cM cN cL FM
    generalize grow (redrawn w7 dq) osq = w8 at C58 C18 C08 ⊢
    go_loopw [16] (fun i wr => ∃ k : Nat, k ≤ M.length ∧ i = .int .i64 k ∧ Hid (Below w5.heap.size w5 wr) ∧ Hid (Below w1.heap.size w1 wr) ∧ Hid (Below w.heap.size w wr)) (fun i _ => M.length - (intOf i).toNat)
    case atStart => exact ⟨0, Nat.zero_le _, rfl, C58, C18, C08⟩
    case round =>
      clear C58 C18 C08
      obtain ⟨i, hi, rfl, C5, C1, C0⟩ := hrel
      by_cases hlt : i < M.length
      · obtain ⟨HL2, _, _⟩ := FC.out _ C5.out
        obtain ⟨g, q, rfl⟩ : ∃ g q, va = some ⟨g, q, none⟩ := by
          obtain ⟨a', cap', hv, _, _, h3⟩ := HL2
          obtain ⟨g, q, ha, _⟩ := h3 (by omega)
          cases hv
          exact ⟨g, q, ha⟩
        have CK := oxCells HL2 hlt
        have hcm := cP.out i hlt
        have HB := HBS.out i hlt
        have HKJ : Hid (∀ (j : Nat) (hj : j < M.length), wr.cell? ⟨g, q + j * 8 + 6, none⟩ = some (.int .i64 M[j].o.got)) := fun j hj => (oxCells HL2 hj).2.2.2.2.2.2.1
        generalize M[i] = y at CK hcm HB
        generalize matV y.o ⟨#[104, 47, 97]⟩ al2 = my at hcm HB
        unfold obV at hcm
        unfold Ox.v Ox.u at CK hcm
        obtain ⟨c0, c1, c2, c3, c4, c5, c6, c7⟩ := CK
        have G4 : Hid (∀ d os, Below wr.heap.size wr (grow (redrawn wr d) os)) := fun d os => below_regrown wr d os
        have r1 : ∀ d os, Calls Tryz.prog 13 #[.agg #[.string y.o.k, .slice y.pa y.o.l.length y.pc, .int .i64 y.o.r.s, .slice y.ua y.o.r.l.length y.uc, .string y.o.r.b, .int .i64 y.o.asked, .int .i64 y.o.got, .int .i64 y.o.ep], .string ⟨#[104, 47, 97]⟩, .slice q2a al2.length q2c] (grow (redrawn wr d) os) fun e w'' => e = .returned (.bool my) ∧ ∃ p : Regrown, w'' = grow (redrawn wr p.d) p.os := fun d os => Calls.regrown_of (hcm _ (past6 C5.out (G4.out d os)))
        have k0 := cell_regrown c0
        have k1 := cell_regrown c1
        have k2 := cell_regrown c2
        have k3 := cell_regrown c3
        have k4 := cell_regrown c4
        have k5 := cell_regrown c5
        have k6 := cell_regrown c6
        have k7 := cell_regrown c7
        have hil : (i : Int) < (M.length : Int) := by omega
        clear c0 c1 c2 c3 c4 c5 c6 c7 hcm HL2
        cases my with
        | false =>
          clear HB
          go_upto_region 14 with fail
          refine wp_region_quiet_below (by kernel_rfl) (by kernel_rfl) ?_
          repeat (go_big_quiet_step (first | (with_reducible exact r1 _ _)))
          refine wpQuiet_nil ?_
          intro _ hw'
          obtain ⟨⟨dr, osr⟩, hw''⟩ := hw'
          subst hw''
          go_wp2_with fail
          go_roundw
          case rel => exact ⟨i + 1, by omega, by go_num, past6 C5.out (G4.out dr osr), past6 C1.out (G4.out dr osr), past6 C0.out (G4.out dr osr)⟩
          case measure => simp [intOf]; omega
        | true =>
          obtain ⟨j, hj, hcj, hle⟩ := HB rfl
          subst hcj
          have kj := cell_regrown (HKJ.out j hj)
          generalize M[j].o.got = gj at kj hle
          have hjl : (j : Int) < (M.length : Int) := by omega
          have hj0 : ¬ (j : Int) < 0 := by omega
          have hgg : decide (gj < y.o.got) = false := decide_eq_false (by omega)
          have hj9 : decide ((j : Int) < 0) = false := decide_eq_false hj0
          clear hle
          go_upto_region 14 with fail
          refine wp_region_quiet_below (by kernel_rfl) (by kernel_rfl) ?_
          repeat (go_big_quiet_step (first | (with_reducible exact r1 _ _)))
          refine wpQuiet_nil ?_
          intro _ hw'
          obtain ⟨⟨dr, osr⟩, hw''⟩ := hw'
          subst hw''
          go_wp2_with fail
          go_roundw
          case rel => exact ⟨i + 1, by omega, by go_num, past6 C5.out (G4.out dr osr), past6 C1.out (G4.out dr osr), past6 C0.out (G4.out dr osr)⟩
          case measure => simp [intOf]; omega
      · clear HBS
        go_upto_region 16 with fail
        go_cut [125] (fun r wx => r = .bool false ∧ Below wr.heap.size wr wx)
        case first =>
          rcases HFO.out with hc | ⟨j, hj, hcj, hm⟩
          · subst hc
            go_wp2_with fail
            go_meet
            exact ⟨rfl, Below.refl _ _⟩
          · subst hcj
            obtain ⟨HL2, _, _⟩ := FC.out _ C5.out
            obtain ⟨g, q, rfl⟩ : ∃ g q, va = some ⟨g, q, none⟩ := by
              obtain ⟨a', cap', hv, _, _, h3⟩ := HL2
              obtain ⟨g, q, ha, _⟩ := h3 (by omega)
              cases hv
              exact ⟨g, q, ha⟩
            have CK := oxCells HL2 hj
            have hcm := cP.out j hj _ C5.out
            rw [hm] at hcm
            generalize M[j] = y at CK hcm
            unfold obV at hcm
            unfold Ox.v Ox.u at CK hcm
            obtain ⟨c0, c1, c2, c3, c4, c5, c6, c7⟩ := CK
            have hjl : (j : Int) < (M.length : Int) := by omega
            have hj9 : decide ((0 : Int) ≤ (j : Int)) = true := decide_eq_true (by omega)
            clear hm HL2
            go_wp2_with fail
            refine hcm.mono ?_
            rintro e w9 ⟨rfl, hb9⟩
            go_wp2_with fail
            go_meet
            exact ⟨rfl, hb9⟩
        case rest =>
          obtain ⟨rfl, hbc⟩ := hcut
          obtain ⟨w9, rfl⟩ : ∃ z, z = wc := ⟨wc, rfl⟩
          have C19 : Hid (Below w1.heap.size w1 w9) := past6 C1.out hbc
          have C09 : Hid (Below w.heap.size w w9) := past6 C0.out hbc
          clear hbc C5 C1 C0 HFO FC cP
          cases b with
          | false =>
            have ht : Hid (t = ⟨#[]⟩) := by
              have := selA_not (v := s) (asks := l) (by rw [HA.out])
              rw [HA.out] at this
              exact this
            have e1 : (t.toList == []) = true := by
              rw [ht.out]
              show ((txt []).toList == []) = true
              rw [txt_toList]
              rfl
            go_wp2
            go_ret
            exact ⟨rfl, C09.out⟩
          | true =>
            have F9 : Hid (Fits (w9.alloc (.cells #[] 41)) (.slice ua l.length uc) l) := (FS.out _ C19.out).kept ((Below.refl _ w9).alloc (Nat.le_refl _) _)
            have hln := HLN.out.1
            have cT := fun v2 W (hW : Fits W v2 (l ++ [zzF])) => implSel s v2 (l ++ [zzF]) W hW (by unfold maxLen; omega)
            have hz9 : getZ (l ++ [zzF]) ≤ 400 := by
              have h1 := hgz.out
              have e : getZ (l ++ [zzF]) = getZ l + 3 := by
                unfold getZ
                rw [List.map_append, List.sum_append]
                rfl
              omega
            rw [selI_is hz9] at cT
            have cU := fun W hW => implSel (s ++ ⟨#[44]⟩) (.slice ua l.length uc) l W hW (by rw [ByteArray.size_append]; show s.size + 1 ≤ maxLen; unfold maxLen; omega)
            rw [selI_is (by have := hgz.out; omega), selA_comma HST.out l, HA.out] at cU
            have HMO : Hid ((selA s (l ++ [zzF])).2 = true → (selA s (l ++ [zzF])).1 = t) := fun h2 => by
              have := selA_more HST.out (asks := l) (by rw [HA.out]) h2
              rw [HA.out] at this
              exact this
            have HSZ : Hid (szL (l ++ [zzF]) ≤ 1048576 ∧ (l ++ [zzF]).length ≤ 1048576) := by
              have h1 := HLN.out.2.sz
              have e : szL (l ++ [zzF]) = szL l + 9 := by
                unfold szL
                rw [List.map_append, List.sum_append]
                rfl
              refine ⟨by omega, ?_⟩
              rw [List.length_append]
              show l.length + 1 ≤ 1048576
              omega
            generalize selA s (l ++ [zzF]) = A2 at cT HMO
            obtain ⟨t2, b2⟩ := A2
            unfold selE at cT cU
            simp only at cT cU HMO
            clear hz9
            go_upto_region 21 with (first | (at_builtin; refine wpList_catX _ rfl (.tmp 130) (.tmp 131) rfl w9.heap.size _ _ [] l rfl (OwnsF.born w9) rfl F9.out.1 F9.out.2.2.2 (by simp; omega) (by simp) ?_; intro v1 wa ho1 hg1; obtain ⟨a1, c1, rfl, _, _⟩ := ho1.form) | (at_builtin; refine wpList_pushF _ rfl (.tmp 132) (.tmp 134) rfl w9.heap.size _ _ (⟨#[122, 122, 45, 111, 116, 104, 101, 114]⟩, ⟨#[49]⟩) rfl ho1 rfl (by simp; omega) (by have := hg1.size; simp at this; omega) ?_; intro v2 wb ho2 hg2; obtain ⟨a2, c2, hv2, _, _⟩ := ho2.form; have hv3 : v2 = .slice a2 (l.length + 1) c2 := (by rw [hv2]; simp); clear hv2; subst hv3))
            have Ba : Below w9.heap.size w9 wa := belowV ((Below.refl _ w9).alloc (Nat.le_refl _) _) hg1 (by simp) (fun k e => by cases e; exact Nat.le_refl _)
            have Bb : Below w9.heap.size w9 wb := belowV Ba hg2 Ba.size (fun k e => OwnsF.from ho1 k e)
            have Fb : Hid (Fits wb (.slice a2 (l.length + 1) c2) (l ++ [zzF])) := ho2.fits10 HSZ.out.1 HSZ.out.2
            have C1b : Hid (Below w1.heap.size w1 wb) := past6 C19.out Bb
            have C0b : Hid (Below w.heap.size w wb) := past6 C09.out Bb
            clear Ba Bb ho1 ho2 hg1 hg2 F9 C19 C09
            go_wp2_with fail
            refine (cT _ _ Fb.out).mono ?_
            rintro e wd ⟨rfl, hbd⟩
            have C1d : Hid (Below w1.heap.size w1 wd) := past6 C1b.out hbd
            have C0d : Hid (Below w.heap.size w wd) := past6 C0b.out hbd
            clear hbd C1b C0b cT Fb
            go_wp2_with fail
            refine (cU _ (FS.out _ C1d.out)).mono ?_
            rintro e we ⟨rfl, hbe⟩
            have C0e : Hid (Below w.heap.size w we) := past6 C0d.out hbe
            clear hbe C1d C0d cU
            cases b2 with
            | false =>
              go_wp2
              go_ret
              exact ⟨rfl, C0e.out⟩
            | true =>
              have htt : t2 = t := HMO.out rfl
              subst htt
              go_wp2
              go_ret
              exact ⟨rfl, C0e.out⟩
end Go.Proofs.YtnachhmhjodbhaaGreatDoor
