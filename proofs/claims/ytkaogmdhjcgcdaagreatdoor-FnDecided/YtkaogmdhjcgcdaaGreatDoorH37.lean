/-
  Policy as plain data: what gets older, what is served, what is renewed.
  The specification's Storable by its contract.
  FnAges, given what the program's functions answer.
  Two rows of fields that are alike: the law's own comparison says so.
  The laws' own likeness of messages; drawn messages, whatever the code.
  Drawn arguments of Decided.
  FnDecided, given what the program's functions answer.
-/
import Derived.Test.YtkaogmdhjcgcdaaGreatDoorH36
import Derived.Test.YtkaogmdhjcgcdaaGreatDoorH29
import Derived.Test.YtkaogmdhjcgcdaaGreatDoorH33
import Derived.Lib.QuietBelow
import Derived.BigQuiet
import Derived.Test.YtkaogmdhjcgcdaaGreatDoorH06
import Derived.Laws.StructEq
import Derived.Test.YtkaogmdhjcgcdaaGreatDoorH10
namespace Go.Proofs.YtkaogmdhjcgcdaaGreatDoor
open Go.RowKit
set_option linter.unusedVariables false

theorem ageV_bd (o : Ob) (now d : Int) : -1 ≤ ageV o now d := by
  unfold ageV
  split
  · rename_i h
    have h1 := obB_parts h.1
    have h2 := momB_iff.1 h.2.1
    have h3 := numV_lim (getF o.r.l nAG).1
    rw [ageF_is]
    unfold minI maxI apV
    repeat' split
    all_goals (try unfold maxI)
    all_goals (repeat' split)
    all_goals omega
  · omega
theorem ageV_pos {o : Ob} {now d : Int} (h : 0 ≤ ageV o now d) : obB o = true ∧ momB now = true ∧ o.got ≤ now := by
  unfold ageV at h
  split at h
  · assumption
  · omega
/-- What is served. -/
theorem decV_serve {l : List Fl} {o : Ob} {now e d : Int} (h : decV l o now e d = 1) :
    0 ≤ ageV o now d ∧ (ctlOf l).nc = false ∧ (ctlOf l).ns = false ∧ (ctlOf o.r.l).nc = false ∧ (ageV o now d - lifeV o.r e d < 0 ∨ (ageV o now d - lifeV o.r e d ≤ (ctlOf l).t ∧ (ctlOf o.r.l).mu = false)) ∧ ((ctlOf l).a < 0 ∨ ageV o now d ≤ (ctlOf l).a) := by
  unfold decV at h
  split at h
  · rename_i h0
    split at h
    · rename_i h1
      obtain ⟨h1, h2⟩ := h1
      unfold mayV at h1
      simp only [Bool.and_eq_true, Bool.or_eq_true, decide_eq_true_eq, Bool.not_eq_true'] at h1
      rcases h2 with h2 | h2
      · unfold freshV at h2
        simp only [Bool.and_eq_true, decide_eq_true_eq, Bool.not_eq_true'] at h2
        exact ⟨h0.2, h1.1, h1.2.1, h2.2.2, .inl (by omega), h1.2.2⟩
      · unfold staleV at h2
        simp only [Bool.and_eq_true, decide_eq_true_eq, Bool.not_eq_true'] at h2
        exact ⟨h0.2, h1.1, h1.2.1, h2.1, .inr ⟨h2.2.2.2, h2.2.1⟩, h1.2.2⟩
    · split at h <;> omega
  · omega
theorem decV_not {l : List Fl} {o : Ob} {now e d : Int} (h : decV l o now e d ≠ 0) : 0 ≤ ageV o now d := by
  unfold decV at h
  split at h
  · rename_i h0; exact h0.2
  · exact absurd rfl h
/-- What is renewed. -/
theorem renV_yes {o : Ob} {r : Rs} {asked got : Int} (h : (renV o r asked got).2 = true) :
    (renV o r asked got).1 = renO o r asked got ∧ obB (renV o r asked got).1 = true ∧ (renV o r asked got).1.got = got ∧ (renV o r asked got).1.k = o.k ∧ (renV o r asked got).1.r.b = o.r.b ∧ (renV o r asked got).1.ep = o.ep := by
  unfold renV at h ⊢
  split at h
  · rename_i h0
    rw [if_pos h0]
    exact ⟨rfl, h0.2.2.2, rfl, rfl, rfl, rfl⟩
  · cases h
end Go.Proofs.YtkaogmdhjcgcdaaGreatDoor
namespace Go.Proofs.YtkaogmdhjcgcdaaGreatDoor
open Go.RowKit Go.Sort
set_option linter.unusedVariables false
set_option linter.unusedSimpArgs false

def s7 : List Int := [200, 203, 204, 300, 301, 404, 410]
end Go.Proofs.YtkaogmdhjcgcdaaGreatDoor
namespace Go.Proofs.YtkaogmdhjcgcdaaGreatDoor
open Go.RowKit Go.Sort
set_option linter.unusedVariables false
set_option linter.unusedSimpArgs false

theorem obIn10 {W : World} {B : Nat} {p u : Value} {o : Ob} (h1 : OwnsF W B p o.l) (h2 : OwnsF W B u o.r.l) (hf : FewO o) : ObIn W p u o := by
  have s1 := hf.2.1.sz
  have s2 := hf.2.2.1.sz
  have n1 := hf.2.1.1
  have n2 := hf.2.2.1.1
  have b1 := hf.2.2.2.1
  have k1 := hf.1
  exact ⟨h1.fits10 (by omega) (by omega), ⟨h2.fits10 (by omega) (by omega), by omega⟩, by omega⟩
theorem rsIn10 {W : World} {B : Nat} {x : Value} {r : Rs} (h : OwnsF W B x r.l) (hf : FewG r.l) (hb : r.b.size ≤ 4100) : RsIn W x r := by
  have s1 := hf.sz
  have n1 := hf.1
  exact ⟨h.fits10 (by omega) (by omega), by omega⟩
end Go.Proofs.YtkaogmdhjcgcdaaGreatDoor
namespace Go.Proofs.YtkaogmdhjcgcdaaGreatDoor
open Go.RowKit Go.Sort

set_option maxHeartbeats 400000 in
theorem likeF (va vb : Value) (l : List Fl) (w : World) (ha : Fls w va l) (hb : Fls w vb l) (hl : l.length ≤ 1048576) :
    Calls Tryz.prog 81 #[va, vb] w fun e w' => e = .returned (.bool true) ∧ Grew w w' := by
  obtain ⟨a, ca, rfl, a1, a2, a3⟩ := ha
  obtain ⟨b, cb, rfl, b1, b2, b3⟩ := hb
  have hmx := mixed
  go_enter Tryz.func81, Tryz.ntmps81
  go_wp2
  go_loopw [5] (fun i wr => ∃ (k : Nat), k ≤ l.length ∧ i = .int .i64 k ∧ Grew w wr) (fun i _ => l.length - (intOf i).toNat)
  case atStart => exact ⟨0, Nat.zero_le _, rfl, Grew.refl _⟩
  case round =>
    obtain ⟨k, hk, rfl, hg⟩ := hrel
    by_cases hlt : k < l.length
    · obtain ⟨ga, oa, rfl, hga, hca⟩ := a3 (by omega)
      obtain ⟨gb, ob, rfl, hgb, hcb⟩ := b3 (by omega)
      have c1 := hg.cell (hca k hlt).1 hga
      have c2 := hg.cell (hca k hlt).2 hga
      have c3 := hg.cell (hcb k hlt).1 hgb
      have c4 := hg.cell (hcb k hlt).2 hgb
      generalize l[k] = f at c1 c2 c3 c4
      clear a3 b3 hca hcb
      go_wp2
      go_quiet (fail)
      have hg2 : Grew w (wr.drewN nq) := hg.drewN _
      generalize wr.drewN nq = w1 at hg2 ⊢
      go_wp2
      go_roundw
      case rel => exact ⟨k + 1, by omega, by go_num, hg2⟩
      case measure => simp [intOf]; omega
    · go_wp2
      go_ret
      exact ⟨rfl, hg⟩
end Go.Proofs.YtkaogmdhjcgcdaaGreatDoor
namespace Go.Proofs.YtkaogmdhjcgcdaaGreatDoor
open Go.RowKit Go.Sort
set_option maxHeartbeats 1000000 in
theorem likeS (r : Rs) (va vb : Value) (w : World) (ha : Fls w va r.l) (hb : Fls w vb r.l) (hl : r.l.length ≤ 1048576) :
    Calls Tryz.prog 82 #[rsV r va, rsV r vb] w fun e w' => e = .returned (.bool true) ∧ Below w.heap.size w w' := by
  have hfa := ha
  have hfb := hb
  obtain ⟨a, ca, rfl, _⟩ := hfa
  obtain ⟨b, cb, rfl, _⟩ := hfb
  unfold rsV
  have B0 : Below w.heap.size w ((w.alloc (.cells #[.int .i64 r.s, .slice a r.l.length ca, .string r.b] 26)).alloc (.cells #[.int .i64 r.s, .slice b r.l.length cb, .string r.b] 26)) := ((Below.refl _ w).alloc (Nat.le_refl _) _).alloc (by simp) _
  have hq := likeF _ _ r.l _ (ha.kept B0) (hb.kept B0) hl
  have P0 : Hid (RsB ((w.alloc (.cells #[.int .i64 r.s, .slice a r.l.length ca, .string r.b] 26)).alloc (.cells #[.int .i64 r.s, .slice b r.l.length cb, .string r.b] 26)) w.heap.size r (.slice a r.l.length ca)) := (RsB.new w r _ _).alloc _
  have P1 : Hid (RsB ((w.alloc (.cells #[.int .i64 r.s, .slice a r.l.length ca, .string r.b] 26)).alloc (.cells #[.int .i64 r.s, .slice b r.l.length cb, .string r.b] 26)) (w.heap.size + 1) r (.slice b r.l.length cb)) := by
    have := RsB.new (w.alloc (.cells #[.int .i64 r.s, .slice a r.l.length ca, .string r.b] 26)) r (.slice b r.l.length cb) 26
    rw [show (w.alloc (.cells #[.int .i64 r.s, .slice a r.l.length ca, .string r.b] 26)).heap.size = w.heap.size + 1 by simp] at this
    exact this
  have HB : Hid _ := B0
  have e0 := P0.out.c0
  have e1 := P0.out.c1
  have e2 := P0.out.c2
  have g0 := P1.out.c0
  have g1 := P1.out.c1
  have g2 := P1.out.c2
  clear ha hb B0
  go_enter Tryz.func82, Tryz.ntmps82
  go_wp2_with fail
  refine hq.mono ?_
  rintro e w1 ⟨rfl, hg⟩
  have S0 : Hid (RsB w1 w.heap.size r (.slice a r.l.length ca)) := P0.out.next hg.low
  have S1 : Hid (RsB w1 (w.heap.size + 1) r (.slice b r.l.length cb)) := P1.out.next hg.low
  have B1 : Hid (Below w.heap.size w w1) := past6 HB.out hg.low
  have a2 := S0.out.c2
  have b2 := S1.out.c2
  clear P0 P1 HB hg hq S0 S1
  go_wp2
  go_ret
  exact ⟨rfl, B1.out⟩


end Go.Proofs.YtkaogmdhjcgcdaaGreatDoor
namespace Go.Proofs.YtkaogmdhjcgcdaaGreatDoor
open Go.RowKit Go.Sort
set_option linter.unusedVariables false
set_option linter.unusedSimpArgs false

/-- What holds all along while the results are stored. -/
structure SDe (w : World) (B b n g : Nat) (o : Ob) (p u : Value) (al : List Fl) (q : Value) (sa : Option Addr) (sl sc : Nat) (y : World) : Prop where
  cu : Cur y b sa sl sc
  lb : ObB y g o p u
  nb : ∃ o' p' u', ObB y n o' p' u'
  op : OwnsF y B p o.l
  ou : OwnsF y B u o.r.l
  oq : OwnsF y B q al
  bl : Below w.heap.size w y
theorem SDe.beside {w : World} {B b n g : Nat} {o : Ob} {p u : Value} {al : List Fl} {q : Value} {sa : Option Addr} {sl sc : Nat} {y z : World} (s : SDe w B b n g o p u al q sa sl sc y) (hc : Cur z b sa sl sc) (hb : Beside b y z) (h1 : n ≠ b) (h3 : g ≠ b) (h5 : b < B) (h6 : w.heap.size ≤ b) : SDe w B b n g o p u al q sa sl sc z := by
  obtain ⟨o', p', u', hn⟩ := s.nb
  exact ⟨hc, s.lb.beside hb h3, ⟨o', p', u', hn.beside hb h1⟩, s.op.beside10 hb h5, s.ou.beside10 hb h5, s.oq.beside10 hb h5, s.bl.trans (hb.low h6 s.bl.size)⟩
theorem SDe.put0o {w : World} {B b n g : Nat} {o : Ob} {p u : Value} {al : List Fl} {q : Value} {sa : Option Addr} {sl sc : Nat} {y : World} (s : SDe w B b n g o p u al q sa sl sc y) : ObB (putL y n (obL o p u) 0) n o p u := by
  obtain ⟨o', p', u', hn⟩ := s.nb
  exact hn.puts o p u
theorem SDe.put0 {w : World} {B b g : Nat} {o : Ob} {p u : Value} {al : List Fl} {q : Value} {sa : Option Addr} {sl sc : Nat} {y : World} (s : SDe w B b w.heap.size g o p u al q sa sl sc y) (hb : w.heap.size < b) (hg : w.heap.size ≠ g) (hB : w.heap.size < B) (hcd : Code8 w w.heap.size sa sl) : SDe w B b w.heap.size g o p u al q sa sl sc (putL y w.heap.size (obL o p u) 0) := by
  have k := fun c (hc : c ≠ w.heap.size) => putL_block w.heap.size (obL o p u) 0 y c hc
  have z : y.heap.size ≤ (putL y w.heap.size (obL o p u) 0).heap.size := by rw [putL_size]; exact Nat.le_refl _
  have nb := putL_below (Nat.le_refl w.heap.size) (obL o p u) 0 s.bl
  exact ⟨s.cu.other10 (k b (by omega)) z (code_up10 hcd nb (by omega)), s.lb.same (k g (Ne.symm hg)) z, ⟨o, p, u, s.put0o⟩, s.op.putL10 hB _ 0, s.ou.putL10 hB _ 0, s.oq.putL10 hB _ 0, nb⟩
def frDe (b n g B : Nat) (o : Ob) (pa ua : Option Addr) (pc uc : Nat) (al : List Fl) (qa : Option Addr) (qc : Nat) (sa : Option Addr) (sl sc : Nat) (t : Nat → Value) : Act := { tmps := #[.slice sa sl sc, undef, t 2, .pointer (some ⟨n, 0, none⟩), .int .i64 0, .pointer (some ⟨b, 0, none⟩), .pointer (some ⟨g, 0, none⟩), .slice qa al.length qc, .slice sa sl sc, .pointer (some ⟨b, 0, none⟩), .pointer (some ⟨b, 0, none⟩), .agg #[.string o.k, .slice pa o.l.length pc, .int .i64 o.r.s, .slice ua o.r.l.length uc, .string o.r.b, .int .i64 o.asked, .int .i64 o.got, .int .i64 o.ep], .pointer (some ⟨b, 0, none⟩), .slice qa al.length qc, t 14, t 15, t 16, t 17, t 18], defers := [] }
def dDe (i : Nat) : Nat := if i = 0 then 14 else if i = 1 then 15 else if i = 2 then 16 else if i = 3 then 17 else if i = 4 then 18 else if i = 5 then 2 else if i = 6 then 1006 else i + 5000
def GDe (b n g B : Nat) (o : Ob) (pa ua : Option Addr) (pc uc : Nat) (al : List Fl) (qa : Option Addr) (qc : Nat) (sa : Option Addr) (sl sc : Nat) (i : Nat) (x : World) (v : Value) : Prop := match i with
  | 0 => v = (.slice qa al.length qc)
  | 1 => v = (.agg #[.string o.k, .slice pa o.l.length pc, .int .i64 o.r.s, .slice ua o.r.l.length uc, .string o.r.b, .int .i64 o.asked, .int .i64 o.got, .int .i64 o.ep])
  | 2 => v = .pointer (some ⟨b, 0, none⟩)
  | 3 => v = (.agg #[.string o.k, .slice pa o.l.length pc, .int .i64 o.r.s, .slice ua o.r.l.length uc, .string o.r.b, .int .i64 o.asked, .int .i64 o.got, .int .i64 o.ep])
  | 4 => gInt (-1) 253402300860 v
  | 5 => v = (.slice qa al.length qc)
  | 6 => ObB x n o (.slice pa o.l.length pc) (.slice ua o.r.l.length uc)
  | _ => True
theorem GDe.keep (b n g B : Nat) (o : Ob) (pa ua : Option Addr) (pc uc : Nat) (al : List Fl) (qa : Option Addr) (qc : Nat) (sa : Option Addr) (sl sc : Nat) {x y : World} (hb : ObB x n o (.slice pa o.l.length pc) (.slice ua o.r.l.length uc) → ObB y n o (.slice pa o.l.length pc) (.slice ua o.r.l.length uc)) (j : Nat) (v : Value) (hj : j < 7) (h : GDe b n g B o pa ua pc uc al qa qc sa sl sc j x v) : GDe b n g B o pa ua pc uc al qa qc sa sl sc j y v := by
  rcases (show j = 0 ∨ j = 1 ∨ j = 2 ∨ j = 3 ∨ j = 4 ∨ j = 5 ∨ j = 6 by omega) with rfl | rfl | rfl | rfl | rfl | rfl | rfl
  · exact h
  · exact h
  · exact h
  · exact h
  · exact h
  · exact h
  · exact hb h
theorem dDe_ne {i j : Nat} (hi : i < 7) (hj : j < 7) (h : j ≠ i) : dDe j ≠ dDe i := by
  rcases (show i = 0 ∨ i = 1 ∨ i = 2 ∨ i = 3 ∨ i = 4 ∨ i = 5 ∨ i = 6 by omega) with rfl | rfl | rfl | rfl | rfl | rfl | rfl <;> rcases (show j = 0 ∨ j = 1 ∨ j = 2 ∨ j = 3 ∨ j = 4 ∨ j = 5 ∨ j = 6 by omega) with rfl | rfl | rfl | rfl | rfl | rfl | rfl <;> first | (exact absurd rfl h) | decide
set_option maxRecDepth 100000 in
set_option maxHeartbeats 16000000 in
theorem drawDec (sa : Option Addr) (sl sc : Nat) (w : World) (hc : Code8 w w.heap.size sa sl) (hl : sl ≤ 4096) :
    Calls Tryz.prog 24 #[.slice sa sl sc] w fun e w' => ∃ (o : Ob) (p u : Value) (now : Int) (al : List Fl) (q : Value), e = .returned (.tuple #[q, obV o p u, .int .i64 now]) ∧ OwnsF w' w.heap.size p o.l ∧ OwnsF w' w.heap.size u o.r.l ∧ FewO o ∧ (-1 ≤ now ∧ now ≤ 253402300860) ∧ OwnsF w' w.heap.size q al ∧ FewG al ∧ (al.length ≤ 2 ∧ ∀ f ∈ al, f ∈ askL) ∧ Below w.heap.size w w' := by
  obtain ⟨B, hB⟩ : ∃ B, B = w.heap.size + 1 + 1 := ⟨_, rfl⟩
  have HB : Hid (B = w.heap.size + 1 + 1) := hB
  have hBb : w.heap.size + 1 < B := by omega
  have ha := (Below.refl w.heap.size w).alloc (Nat.le_refl _) (.cells #[.string ⟨#[]⟩, .slice none 0 0, .int .i64 0, .slice none 0 0, .string ⟨#[]⟩, .int .i64 0, .int .i64 0, .int .i64 0] 28)
  have hnew := l1New sa sl sc (w.alloc (.cells #[.string ⟨#[]⟩, .slice none 0 0, .int .i64 0, .slice none 0 0, .string ⟨#[]⟩, .int .i64 0, .int .i64 0, .int .i64 0] 28)) (code_on10 hc ha) hl
  have ez : (w.alloc (.cells #[.string ⟨#[]⟩, .slice none 0 0, .int .i64 0, .slice none 0 0, .string ⟨#[]⟩, .int .i64 0, .int .i64 0, .int .i64 0] 28)).heap.size = w.heap.size + 1 := by simp
  rw [ez] at hnew
  have HCD : Hid (Code8 w w.heap.size sa sl) := hc
  go_enter Tryz.func24, Tryz.ntmps24
  go_wp2_with fail
  refine hnew.mono ?_
  rintro e w1 ⟨rfl, hc1, hb1⟩
  have N1 : ObB w1 w.heap.size noO (.slice none 0 0) (.slice none 0 0) := (ObB.new w noO (.slice none 0 0) (.slice none 0 0) 28).same (hb1.block _ (by simp)) (by have := hb1.size; simp at this ⊢; omega)
  have B1 : Below w.heap.size w w1 := ha.trans (hb1.mono (by simp))
  have hz1 : w.heap.size + 1 < w1.heap.size := hc1.2.2.1
  clear hnew hb1 ha hc hB ez
  go_wp2_with fail
  refine (l10DrawAnyO (w.heap.size + 1) sa sl sc w1 hc1).mono ?_
  rintro e w2 ⟨⟨v, rfl, o, p, u, rfl, h1, h2, hfew⟩, hc2, hb2⟩
  obtain ⟨pa, pc, rfl, _, _⟩ := h1.form
  obtain ⟨ua, uc, rfl, _, _⟩ := h2.form
  have N2 : ObB w2 w.heap.size noO (.slice none 0 0) (.slice none 0 0) := N1.beside hb2 (by omega)
  have hz2 : w1.heap.size ≤ w2.heap.size := hb2.2.2.2.1
  have L3 : Hid (LocO (w2.alloc (.cells #[.string o.k, .slice pa o.l.length pc, .int .i64 o.r.s, .slice ua o.r.l.length uc, .string o.r.b, .int .i64 o.asked, .int .i64 o.got, .int .i64 o.ep] 28)) w.heap.size w2.heap.size B o (.slice pa o.l.length pc) (.slice ua o.r.l.length uc)) := ⟨ObB.new w2 o _ _ _, N2.alloc _, ⟨_, newAt w2 _⟩, (h1.low (by have := HB.out; omega)).alloc _, (h2.low (by have := HB.out; omega)).alloc _⟩
  have C3 : Hid (Cur (w2.alloc (.cells #[.string o.k, .slice pa o.l.length pc, .int .i64 o.r.s, .slice ua o.r.l.length uc, .string o.r.b, .int .i64 o.asked, .int .i64 o.got, .int .i64 o.ep] 28)) (w.heap.size + 1) sa sl sc) := hc2.more9 _
  have B3 : Hid (Below w.heap.size w (w2.alloc (.cells #[.string o.k, .slice pa o.l.length pc, .int .i64 o.r.s, .slice ua o.r.l.length uc, .string o.r.b, .int .i64 o.asked, .int .i64 o.got, .int .i64 o.ep] 28))) := (B1.trans (hb2.low (by omega) (by omega))).alloc (by omega) _
  have hg1 : w2.heap.size ≠ w.heap.size + 1 := by omega
  have hn1 : w.heap.size ≠ w.heap.size + 1 := by omega
  have HFW : Hid (FewO o) := hfew
  clear h1 h2 hc1 hc2 hb2 N1 N2 B1 hfew
  unfold obV
  go_wp2_with fail
  refine (l10DrawAsksN (w.heap.size + 1) sa sl sc _ C3.out).mono ?_
  rintro e w4 ⟨⟨q, al, rfl, hq, hqf, hqa⟩, hc4, hb4⟩
  have HQA : Hid (al.length ≤ 2 ∧ ∀ f ∈ al, f ∈ askL) := ⟨hqf.1, hqa⟩
  clear hqa
  obtain ⟨qa, qc, rfl, _, _⟩ := hq.form
  have LC : LocO w4 w.heap.size w2.heap.size B o (.slice pa o.l.length pc) (.slice ua o.r.l.length uc) := L3.out.beside hb4 hn1 hg1 hBb
  have B4 : Below w.heap.size w w4 := B3.out.trans (hb4.low (by omega) (by simp; omega))
  have hqB : OwnsF w4 B (.slice qa al.length qc) al := hq.low (by have := HB.out; simp; omega)
  have HQ : Hid (FewG al) := hqf.more
  have hwb : w.heap.size ≤ w.heap.size + 1 := by omega
  have hnb : w.heap.size < w.heap.size + 1 := by omega
  have hng : w.heap.size ≠ w2.heap.size := by omega
  have hnB : w.heap.size < B := by have := HB.out; omega
  have hS0 : SDe w B (w.heap.size + 1) w.heap.size w2.heap.size o (.slice pa o.l.length pc) (.slice ua o.r.l.length uc) al (.slice qa al.length qc) sa sl sc w4.drew := ⟨hc4, LC.lb.same rfl (Nat.le_refl _), ⟨_, _, _, LC.nb.same rfl (Nat.le_refl _)⟩, LC.op, LC.ou, hqB, ⟨B4.os, B4.tape, B4.output, B4.size, B4.block⟩⟩
  clear hb4 hc4 L3 C3 B3 hq hqf LC B4 hqB
  go_upto_region 4 with fail
  refine region_heads 7 mixed (by decide) (by kernel_rfl) (by kernel_rfl) (by kernel_rfl) (by kernel_rfl) (frDe (w.heap.size + 1) w.heap.size w2.heap.size B o pa ua pc uc al qa qc sa sl sc) dDe (SDe w B (w.heap.size + 1) w.heap.size w2.heap.size o (.slice pa o.l.length pc) (.slice ua o.r.l.length uc) al (.slice qa al.length qc) sa sl sc) (GDe (w.heap.size + 1) w.heap.size w2.heap.size B o pa ua pc uc al qa qc sa sl sc) (fun i j hi hj h => dDe_ne hi hj h) ?put (fun i => if i = 2 then .slice none 0 0 else undef) rfl ?hS ?step ?done
  case put =>
    intro i o hi ho t v
    rcases (show i = 0 ∨ i = 1 ∨ i = 2 ∨ i = 3 ∨ i = 4 ∨ i = 5 ∨ i = 6 by omega) with rfl | rfl | rfl | rfl | rfl | rfl | rfl
    all_goals
      obtain rfl := Option.some.inj ho
      rfl
  case step =>
    intro i o hi ho t x hS hdep K hK
    rcases (show i = 0 ∨ i = 1 ∨ i = 2 ∨ i = 3 ∨ i = 4 ∨ i = 5 ∨ i = 6 by omega) with rfl | rfl | rfl | rfl | rfl | rfl | rfl
    all_goals obtain rfl := Option.some.inj ho
    · have HK : Hid (K ((frDe (w.heap.size + 1) w.heap.size w2.heap.size B o pa ua pc uc al qa qc sa sl sc t).put (some 14) (.slice qa al.length qc)) x) := hK _ _ hS (fun j u hj hne h => h) rfl
      have h2 := HK.out
      unfold frDe at h2 ⊢
      go_simp
      simpa [Act.put, Act.put] using h2
    · obtain ⟨c0, c1, c2, c3, c4, c5, c6, c7, cf, ch⟩ := hS.lb
      have HK : Hid (K ((frDe (w.heap.size + 1) w.heap.size w2.heap.size B o pa ua pc uc al qa qc sa sl sc t).put (some 15) (.agg #[.string o.k, .slice pa o.l.length pc, .int .i64 o.r.s, .slice ua o.r.l.length uc, .string o.r.b, .int .i64 o.asked, .int .i64 o.got, .int .i64 o.ep])) x) := hK _ _ hS (fun j u hj hne h => h) rfl
      have h2 := HK.out
      unfold frDe at h2 ⊢
      go_simp
      simpa [Act.put, c0, c1, c2, c3, c4, c5, c6, c7] using h2
    · have HK : Hid (K ((frDe (w.heap.size + 1) w.heap.size w2.heap.size B o pa ua pc uc al qa qc sa sl sc t).put (some 16) (.pointer (some ⟨w.heap.size + 1, 0, none⟩))) x) := hK _ _ hS (fun j u hj hne h => h) rfl
      unfold frDe
      go_simp
      exact HK.out
    · obtain ⟨c0, c1, c2, c3, c4, c5, c6, c7, cf, ch⟩ := hS.lb
      have HK : Hid (K ((frDe (w.heap.size + 1) w.heap.size w2.heap.size B o pa ua pc uc al qa qc sa sl sc t).put (some 17) (.agg #[.string o.k, .slice pa o.l.length pc, .int .i64 o.r.s, .slice ua o.r.l.length uc, .string o.r.b, .int .i64 o.asked, .int .i64 o.got, .int .i64 o.ep])) x) := hK _ _ hS (fun j u hj hne h => h) rfl
      have h2 := HK.out
      unfold frDe at h2 ⊢
      go_simp
      simpa [Act.put, c0, c1, c2, c3, c4, c5, c6, c7] using h2
    · have ec : t 16 = .pointer (some ⟨w.heap.size + 1, 0, none⟩) := hdep { on := 2, ground := Ground.data } (by simp) rfl
      have el : t 17 = (.agg #[.string o.k, .slice pa o.l.length pc, .int .i64 o.r.s, .slice ua o.r.l.length uc, .string o.r.b, .int .i64 o.asked, .int .i64 o.got, .int .i64 o.ep]) := hdep { on := 3, ground := Ground.data } (by simp) rfl
      exact step_now (w0 := x) rfl o (.slice pa o.l.length pc) (.slice ua o.r.l.length uc) (.tmp 16) (.tmp 17) _ rfl ec el ⟨hS.cu, besRefl _ _⟩ HFW.out (fun v y k1 k2 k3 => hK v y (hS.beside k1.1 k2 hn1 hg1 hBb hwb) (fun j u hj hne h => GDe.keep (w.heap.size + 1) w.heap.size w2.heap.size B o pa ua pc uc al qa qc sa sl sc (fun h => h.beside k2 hn1) j u hj h) k3)
    · have e0 : t 14 = (.slice qa al.length qc) := hdep { on := 0, ground := Ground.data } (by simp) rfl
      have HK : Hid (K ((frDe (w.heap.size + 1) w.heap.size w2.heap.size B o pa ua pc uc al qa qc sa sl sc t).put (some 2) (.slice qa al.length qc)) x) := hK _ _ hS (fun j u hj hne h => h) rfl
      have h2 := HK.out
      unfold frDe at h2 ⊢
      go_simp
      simpa [Act.put, e0] using h2
    · have e1 : t 15 = (.agg #[.string o.k, .slice pa o.l.length pc, .int .i64 o.r.s, .slice ua o.r.l.length uc, .string o.r.b, .int .i64 o.asked, .int .i64 o.got, .int .i64 o.ep]) := hdep { on := 1, ground := Ground.data } (by simp) rfl
      have HK : Hid (K ((frDe (w.heap.size + 1) w.heap.size w2.heap.size B o pa ua pc uc al qa qc sa sl sc t).put none undef) (putL x w.heap.size (obL o (.slice pa o.l.length pc) (.slice ua o.r.l.length uc)) 0)) := hK _ _ (hS.put0 hnb hng hnB HCD.out) (fun j u hj hne h => GDe.keep (w.heap.size + 1) w.heap.size w2.heap.size B o pa ua pc uc al qa qc sa sl sc (fun _ => hS.put0o) j u hj h) hS.put0o
      obtain ⟨o', p', u', z0, z1, z2, z3, z4, z5', z6, z7, zf, zh⟩ := hS.nb
      have h2 := HK.out
      unfold frDe at h2 ⊢
      simp only [obL, putL, Nat.zero_add, Nat.reduceAdd] at h2
      go_simp
      simpa [Act.put, e1, z0, z1, z2, z3, z4, z5', z6, z7, zf] using h2
  case hS => exact hS0
  case done =>
    intro t x hS hG
    obtain ⟨z, ez, hz0, hz1'⟩ : gInt (-1) 253402300860 (t 18) := hG 4 (by decide)
    have e2 : t 2 = (.slice qa al.length qc) := hG 5 (by decide)
    have g6 : ObB x w.heap.size o (.slice pa o.l.length pc) (.slice ua o.r.l.length uc) := hG 6 (by decide)
    have VP : Hid _ := hS.op.low (show w.heap.size ≤ B by omega)
    have UP : Hid _ := hS.ou.low (show w.heap.size ≤ B by omega)
    have QP : Hid _ := hS.oq.low (show w.heap.size ≤ B by omega)
    have BP : Hid _ := hS.bl
    obtain ⟨p0, p1, p2, p3, p4, p5, p6, p7, pf, ph⟩ := g6
    clear hG hS hS0
    show wpList Tryz.prog _ _ [_] _ x
    unfold frDe
    rw [ez, e2]
    clear ez e2
    go_wp2
    refine bodyPost_ret (v := .tuple #[(.slice qa al.length qc), obV o (.slice pa o.l.length pc) (.slice ua o.r.l.length uc), .int .i64 z]) (by unfold obV; simp [results, Tryz.results24, go_sem, p0, p1, p2, p3, p4, p5, p6, p7]) rfl ⟨o, _, _, z, al, _, rfl, VP.out, UP.out, HFW.out, ⟨hz0, hz1'⟩, QP.out, HQ.out, HQA.out, BP.out⟩
end Go.Proofs.YtkaogmdhjcgcdaaGreatDoor
namespace Go.Proofs.YtkaogmdhjcgcdaaGreatDoor
open Go.RowKit Go.Sort
set_option linter.unusedVariables false
set_option linter.unusedSimpArgs false

theorem ask_ns2 : (∀ f ∈ askL, (ctlOf [f]).ns = false) ∧ (∀ f ∈ askL, ∀ g ∈ askL, (ctlOf [f, g]).ns = false) ∧ (ctlOf []).ns = false := by decide +kernel
theorem ask_ns {l : List Fl} (h1 : l.length ≤ 2) (h2 : ∀ f ∈ l, f ∈ askL) : (ctlOf l).ns = false := by
  rcases l with _ | ⟨f, _ | ⟨g, _ | ⟨k, l⟩⟩⟩
  · exact ask_ns2.2.2
  · exact ask_ns2.1 f (h2 f (by simp))
  · exact ask_ns2.2.1 f (h2 f (by simp)) g (h2 g (by simp))
  · simp at h1
theorem bal10 {w W : World} (h : Below w.heap.size w W) (o : Obj) : Below w.heap.size w (W.alloc o) := h.alloc h.size o
theorem balK10 (w : World) (o : Obj) : Below w.heap.size w (w.alloc o) := (Below.refl _ w).alloc (Nat.le_refl _) o
theorem HasF.solid10 {w : World} {B : Nat} {v : Value} {l : List Fl} (h : HasF w B v l) : Solid v := fun n c e => by
  rcases h with ⟨e2, _⟩ | ⟨g, cap, cur, e2, _⟩
  · rw [e] at e2; injection e2
  · rw [e] at e2; cases e2
theorem HasF.fits10 {w : World} {B : Nat} {v : Value} {l : List Fl} (h : HasF w B v l) (h1 : szL l ≤ 1048576) (h2 : l.length ≤ 1048576) : Fits w v l := ⟨h.fls, h1, h2, h.solid10⟩
theorem getA_y10 {l : List Fl} (h : fldsOk l = true) (n : ByteArray) : getA l n = getF l n := by unfold getA; rw [if_pos h]
theorem decV_flds {l : List Fl} {o : Ob} {now e d : Int} (h : decV l o now e d ≠ 0) : fldsOk l = true ∧ fldsOk o.r.l = true := by
  unfold decV at h
  split at h
  · rename_i h0
    exact ⟨h0.1, rsOk_flds (obB_all (ageV_pos h0.2).1).2.2.1⟩
  · exact absurd rfl h
theorem renV_small (o : Ob) (r : Rs) (a g : Int) : (renV o r a g).1.l.length ≤ 30 ∧ (renV o r a g).1.r.l.length ≤ 30 ∧ szL (renV o r a g).1.l ≤ 13920 ∧ szL (renV o r a g).1.r.l ≤ 13920 ∧ (renV o r a g).1.k.size ≤ 500 ∧ (renV o r a g).1.r.b.size ≤ 4000 := by
  unfold renV
  split
  · rename_i h
    have k := obB_all h.2.2.2
    have kr := rsOk_parts k.2.2.1
    have kf := rsOk_flds k.2.2.1
    refine ⟨(fldsOk_parts k.2.1).1, (fldsOk_parts kf).1, szL_flds k.2.1, szL_flds kf, ?_, kr.2.2.1⟩
    have := k.1
    unfold keyO at this
    rw [Bool.and_eq_true, decide_eq_true_eq] at this
    exact this.2
  · exact ⟨Nat.zero_le _, Nat.zero_le _, Nat.zero_le _, Nat.zero_le _, Nat.zero_le _, Nat.zero_le _⟩
set_option maxHeartbeats 4000000 in
theorem likeO (o : Ob) (p u p2 u2 : Value) (w : World) (h1 : Fls w p o.l) (h2 : Fls w u o.r.l) (h3 : Fls w p2 o.l) (h4 : Fls w u2 o.r.l) (hl : o.l.length ≤ 1048576) (hr : o.r.l.length ≤ 1048576) :
    Calls Tryz.prog 29 #[obV o p u, obV o p2 u2] w fun e w' => e = .returned (.bool true) ∧ Below w.heap.size w w' := by
  obtain ⟨pa, pc, rfl, _⟩ := id h1
  obtain ⟨ua, uc, rfl, _⟩ := id h2
  obtain ⟨p2a, p2c, rfl, _⟩ := id h3
  obtain ⟨u2a, u2c, rfl, _⟩ := id h4
  have A0 : Hid (ObB ((w.alloc (.cells #[.string o.k, .slice pa o.l.length pc, .int .i64 o.r.s, .slice ua o.r.l.length uc, .string o.r.b, .int .i64 o.asked, .int .i64 o.got, .int .i64 o.ep] 28)).alloc (.cells #[.string o.k, .slice p2a o.l.length p2c, .int .i64 o.r.s, .slice u2a o.r.l.length u2c, .string o.r.b, .int .i64 o.asked, .int .i64 o.got, .int .i64 o.ep] 28)) w.heap.size o (.slice pa o.l.length pc) (.slice ua o.r.l.length uc)) := (ObB.new w o _ _ _).alloc _
  have D0 : Hid (ObB ((w.alloc (.cells #[.string o.k, .slice pa o.l.length pc, .int .i64 o.r.s, .slice ua o.r.l.length uc, .string o.r.b, .int .i64 o.asked, .int .i64 o.got, .int .i64 o.ep] 28)).alloc (.cells #[.string o.k, .slice p2a o.l.length p2c, .int .i64 o.r.s, .slice u2a o.r.l.length u2c, .string o.r.b, .int .i64 o.asked, .int .i64 o.got, .int .i64 o.ep] 28)) (w.heap.size + 1) o (.slice p2a o.l.length p2c) (.slice u2a o.r.l.length u2c)) := by
    have := ObB.new (w.alloc (.cells #[.string o.k, .slice pa o.l.length pc, .int .i64 o.r.s, .slice ua o.r.l.length uc, .string o.r.b, .int .i64 o.asked, .int .i64 o.got, .int .i64 o.ep] 28)) o (.slice p2a o.l.length p2c) (.slice u2a o.r.l.length u2c) 28
    simp only [World.size_alloc] at this
    exact this
  have B0 : Hid (Below w.heap.size w ((w.alloc (.cells #[.string o.k, .slice pa o.l.length pc, .int .i64 o.r.s, .slice ua o.r.l.length uc, .string o.r.b, .int .i64 o.asked, .int .i64 o.got, .int .i64 o.ep] 28)).alloc (.cells #[.string o.k, .slice p2a o.l.length p2c, .int .i64 o.r.s, .slice u2a o.r.l.length u2c, .string o.r.b, .int .i64 o.asked, .int .i64 o.got, .int .i64 o.ep] 28))) := bal10 (balK10 _ _) _
  have j1 := fun W (hb : Below w.heap.size w W) => likeF (.slice pa o.l.length pc) (.slice p2a o.l.length p2c) o.l W (h1.kept hb) (h3.kept hb) hl
  have j2 := fun W (hb : Below w.heap.size w W) => likeS o.r (.slice ua o.r.l.length uc) (.slice u2a o.r.l.length u2c) W (h2.kept hb) (h4.kept hb) hr
  have dk : (o.k.toList == o.k.toList) = true := by simp
  clear h1 h2 h3 h4
  unfold obV
  unfold rsV at j2
  go_enter Tryz.func29, Tryz.ntmps29
  go_wp2_with fail
  refine (j1 _ B0.out).mono ?_
  rintro e w1 ⟨rfl, hg1⟩
  have hb1 := hg1.low
  have A1 : Hid _ := A0.out.next hb1
  have D1 : Hid _ := D0.out.next hb1
  have B1 : Hid (Below w.heap.size w w1) := past6 B0.out hb1
  obtain ⟨a0, a1, a2, a3, a4, a5, a6, a7, af, ah⟩ := A1.out
  obtain ⟨d0, d1, d2, d3, d4, d5, d6, d7, df, dh⟩ := D1.out
  clear hg1 hb1 A0 D0 B0 j1
  go_wp2_with fail
  refine (j2 _ B1.out).mono ?_
  rintro e w2 ⟨rfl, hb2⟩
  have B2 : Hid (Below w.heap.size w w2) := past6 B1.out hb2
  have A2 := A1.out.next hb2
  have D2 := D1.out.next hb2
  clear a0 a1 a2 a3 a4 a5 a6 a7 af ah d0 d1 d2 d3 d4 d5 d6 d7 df dh
  obtain ⟨a0, a1, a2, a3, a4, a5, a6, a7, af, ah⟩ := A2
  obtain ⟨d0, d1, d2, d3, d4, d5, d6, d7, df, dh⟩ := D2
  clear hb2 A1 D1 B1 j2
  go_wp2
  go_ret
  exact ⟨rfl, B2.out⟩
set_option maxRecDepth 100000 in
set_option maxHeartbeats 16000000 in
theorem fnDec (X : World → Prop) (hX : ∀ w w', X w → Below w.heap.size w w' → X w')
    (hiD : ∀ (v0 : Value) (l : List Fl) (o : Ob) (v u : Value) (now en dn : Int) (w : World), X w → (ctlOf l).ns = false → Fits w v0 l → ObIn w v u o → FldMom o.r.l nEX en → FldMom o.r.l nDA dn → -9223372036854775808 ≤ now → now ≤ 9223372036854775807 → Calls Tryz.prog 25 #[v0, obV o v u, .int .i64 now] w fun e w' => e = .returned (.int .i64 (decV l o now en dn)) ∧ Below w.heap.size w w')
    (hiO : ∀ (o : Ob) (v u : Value) (w : World), X w → ObIn w v u o → Calls Tryz.prog 19 #[obV o v u] w fun e w' => e = .returned (.bool (obB o)) ∧ Below w.heap.size w w')
    (hiR : ∀ (o : Ob) (v u : Value) (r : Rs) (x : Value) (asked got : Int) (w : World), X w → ObIn w v u o → RsIn w x r → Calls Tryz.prog 27 #[obV o v u, rsV r x, .int .i64 asked, .int .i64 got] w fun e w' => ∃ v' u', e = .returned (.tuple #[obV (renV o r asked got).1 v' u', .bool (renV o r asked got).2]) ∧ HasF w' w.heap.size v' (renV o r asked got).1.l ∧ HasF w' w.heap.size u' (renV o r asked got).1.r.l ∧ (∀ g, v'.ownBlock = some g → u'.ownBlock ≠ some g) ∧ Below w.heap.size w w')
    (sa : Option Addr) (sl sc : Nat) (zs : List Int) (w : World) (hw : IsRow w sa sl sc zs) (hx : X w) :
    Calls Tryz.prog 4 #[.slice sa sl sc] w fun e w' => e = .returned (.bool true) ∧ Below w.heap.size w w' := by
  by_cases hbig : 4096 < sl
  · have hlen := hw.len
    clear hw
    go_enter Tryz.func4, Tryz.ntmps4
    go_wp2_with (go_at_call 10; refine (isBig sa sl sc _ hbig hlen).mono ?_; rintro e w1 ⟨rfl, rfl⟩)
    go_ret
    exact ⟨rfl, Below.refl _ _⟩
  · have hl : sl ≤ 4096 := by omega
    have h8 : Hid (Code8 w w.heap.size sa sl) := hw.code.code
    have XX : Hid (∀ W, Below w.heap.size w W → X W) := fun W hb => hX w W hx hb
    clear hw hbig hx hX
    go_enter Tryz.func4, Tryz.ntmps4
    go_wp2_with fail
    refine (notBig sa sl sc _ hl).mono ?_
    rintro e w0 ⟨rfl, rfl⟩
    go_wp2_with fail
    refine (drawDec sa sl sc _ h8.out hl).mono ?_
    rintro e w1 ⟨o, p, u, now, al, q, rfl, h1, h2, hf, hn, hq, hqf, hqa, hb1⟩
    obtain ⟨pa, pc, rfl, _, _⟩ := h1.form
    obtain ⟨ua, uc, rfl, _, _⟩ := h2.form
    obtain ⟨qa, qc, rfl, _, _⟩ := hq.form
    obtain ⟨en, he⟩ := FldMom.ex o.r.l nEX
    obtain ⟨dn, hd⟩ := FldMom.ex o.r.l nDA
    have HIN : Hid (∀ W, OwnsF W w.heap.size (.slice pa o.l.length pc) o.l → OwnsF W w.heap.size (.slice ua o.r.l.length uc) o.r.l → ObIn W (.slice pa o.l.length pc) (.slice ua o.r.l.length uc) o) := fun W a b => obIn10 a b hf
    have HQN : Hid (∀ W, OwnsF W w.heap.size (.slice qa al.length qc) al → Fits W (.slice qa al.length qc) al) := fun W a => a.fits10 (by have := hqf.sz; omega) (by have := hqf.1; omega)
    have O1 : Hid (ObB (w1.alloc (.cells #[.string o.k, .slice pa o.l.length pc, .int .i64 o.r.s, .slice ua o.r.l.length uc, .string o.r.b, .int .i64 o.asked, .int .i64 o.got, .int .i64 o.ep] 28)) w1.heap.size o (.slice pa o.l.length pc) (.slice ua o.r.l.length uc)) := ObB.new w1 o _ _ _
    have B1 : Hid (Below w.heap.size w (w1.alloc (.cells #[.string o.k, .slice pa o.l.length pc, .int .i64 o.r.s, .slice ua o.r.l.length uc, .string o.r.b, .int .i64 o.asked, .int .i64 o.got, .int .i64 o.ep] 28))) := hb1.alloc hb1.size _
    have P1 : Hid (OwnsF (w1.alloc (.cells #[.string o.k, .slice pa o.l.length pc, .int .i64 o.r.s, .slice ua o.r.l.length uc, .string o.r.b, .int .i64 o.asked, .int .i64 o.got, .int .i64 o.ep] 28)) w.heap.size (.slice pa o.l.length pc) o.l) := h1.alloc _
    have U1 : Hid (OwnsF (w1.alloc (.cells #[.string o.k, .slice pa o.l.length pc, .int .i64 o.r.s, .slice ua o.r.l.length uc, .string o.r.b, .int .i64 o.asked, .int .i64 o.got, .int .i64 o.ep] 28)) w.heap.size (.slice ua o.r.l.length uc) o.r.l) := h2.alloc _
    have Q1 : Hid (OwnsF (w1.alloc (.cells #[.string o.k, .slice pa o.l.length pc, .int .i64 o.r.s, .slice ua o.r.l.length uc, .string o.r.b, .int .i64 o.asked, .int .i64 o.got, .int .i64 o.ep] 28)) w.heap.size (.slice qa al.length qc) al) := hq.alloc _
    have ID := fun W (hb : Below w.heap.size w W) (hq : OwnsF W w.heap.size (.slice qa al.length qc) al) (hp : OwnsF W w.heap.size (.slice pa o.l.length pc) o.l) (hu : OwnsF W w.heap.size (.slice ua o.r.l.length uc) o.r.l) => hiD (.slice qa al.length qc) al o (.slice pa o.l.length pc) (.slice ua o.r.l.length uc) now en dn W (XX.out W hb) (ask_ns hqa.1 hqa.2) (HQN.out W hq) (HIN.out W hp hu) he hd (by omega) (by omega)
    have SD := fun W (hq : OwnsF W w.heap.size (.slice qa al.length qc) al) (hp : OwnsF W w.heap.size (.slice pa o.l.length pc) o.l) (hu : OwnsF W w.heap.size (.slice ua o.r.l.length uc) o.r.l) => specDec (.slice qa al.length qc) al o (.slice pa o.l.length pc) (.slice ua o.r.l.length uc) now en dn W (HQN.out W hq) (HIN.out W hp hu) he hd (by omega) (by omega)
    have SA := fun W (hp : OwnsF W w.heap.size (.slice pa o.l.length pc) o.l) (hu : OwnsF W w.heap.size (.slice ua o.r.l.length uc) o.r.l) => specAge o (.slice pa o.l.length pc) (.slice ua o.r.l.length uc) now dn W (HIN.out W hp hu) hd (by omega) (by omega)
    have SL := fun W (hp : OwnsF W w.heap.size (.slice pa o.l.length pc) o.l) (hu : OwnsF W w.heap.size (.slice ua o.r.l.length uc) o.r.l) => specLife o.r (.slice ua o.r.l.length uc) en dn W (HIN.out W hp hu).2.1 he hd
    have SGa := fun W (hq : OwnsF W w.heap.size (.slice qa al.length qc) al) => specGet (.slice qa al.length qc) al nCC W hq.fls (by have := hqf.sz; omega) (by decide)
    have SGb := fun W (hu : OwnsF W w.heap.size (.slice ua o.r.l.length uc) o.r.l) => specGet (.slice ua o.r.l.length uc) o.r.l nCC W hu.fls (by have := hf.2.2.1.sz; omega) (by decide)
    have HS : Hid (decV al o now en dn = 1 → 0 ≤ ageV o now dn ∧ (ctlOf al).nc = false ∧ (ctlOf al).ns = false ∧ (ctlOf o.r.l).nc = false ∧ (ageV o now dn - lifeV o.r en dn < 0 ∨ (ageV o now dn - lifeV o.r en dn ≤ (ctlOf al).t ∧ (ctlOf o.r.l).mu = false)) ∧ ((ctlOf al).a < 0 ∨ ageV o now dn ≤ (ctlOf al).a)) := decV_serve
    have HN : Hid (decV al o now en dn ≠ 0 → 0 ≤ ageV o now dn) := decV_not
    have HFK : Hid (decV al o now en dn ≠ 0 → fldsOk al = true ∧ fldsOk o.r.l = true) := decV_flds
    have HAb : Hid (-1 ≤ ageV o now dn ∧ ageV o now dn ≤ 1000000000) := ⟨ageV_bd o now dn, ageV_le o now dn⟩
    have HLb : Hid (-1 ≤ lifeV o.r en dn ∧ lifeV o.r en dn ≤ 253402300800) := lifeV_bd he.bd hd.bd
    generalize decV al o now en dn = D at ID SD HS HN HFK
    generalize ageV o now dn = A at SA HS HN HAb
    generalize lifeV o.r en dn = L at SL HS HLb
    clear hiD he hd h1 h2 hq hb1
    unfold obV at ID SD SA ⊢
    go_wp2_with fail
    refine (ID _ B1.out Q1.out P1.out U1.out).mono ?_
    rintro e w2 ⟨rfl, hb2⟩
    have O2 : Hid (ObB w2 w1.heap.size o (.slice pa o.l.length pc) (.slice ua o.r.l.length uc)) := O1.out.next hb2
    have B2 : Hid (Below w.heap.size w w2) := past6 B1.out hb2
    have P2 : Hid (OwnsF w2 w.heap.size (.slice pa o.l.length pc) o.l) := P1.out.kept hb2
    have U2 : Hid (OwnsF w2 w.heap.size (.slice ua o.r.l.length uc) o.r.l) := U1.out.kept hb2
    have Q2 : Hid (OwnsF w2 w.heap.size (.slice qa al.length qc) al) := Q1.out.kept hb2
    clear hb2 ID
    clear O1 B1 P1 U1 Q1

    go_wp2_with fail
    refine (drawRen sa sl sc _ (code_on10 h8.out B2.out) hl).mono ?_
    rintro e w3 ⟨o2, p2, u2, r2, x2, asked, got, rfl, g1, g2, gf, g3, gg, gb, hb3⟩
    obtain ⟨p2a, p2c, rfl, _, _⟩ := g1.form
    obtain ⟨u2a, u2c, rfl, _, _⟩ := g2.form
    obtain ⟨x2a, x2c, rfl, _, _⟩ := g3.form
    have hz2 := B2.out.size
    have O3 : Hid (ObB ((w3.alloc (.cells #[.string o2.k, .slice p2a o2.l.length p2c, .int .i64 o2.r.s, .slice u2a o2.r.l.length u2c, .string o2.r.b, .int .i64 o2.asked, .int .i64 o2.got, .int .i64 o2.ep] 28)).alloc (.cells #[.int .i64 r2.s, .slice x2a r2.l.length x2c, .string r2.b] 26)) w1.heap.size o (.slice pa o.l.length pc) (.slice ua o.r.l.length uc)) := ((O2.out.next hb3).alloc _).alloc _
    have B3 : Hid (Below w.heap.size w ((w3.alloc (.cells #[.string o2.k, .slice p2a o2.l.length p2c, .int .i64 o2.r.s, .slice u2a o2.r.l.length u2c, .string o2.r.b, .int .i64 o2.asked, .int .i64 o2.got, .int .i64 o2.ep] 28)).alloc (.cells #[.int .i64 r2.s, .slice x2a r2.l.length x2c, .string r2.b] 26))) := bal10 (bal10 (past6 B2.out hb3) _) _
    have P3 : Hid (OwnsF ((w3.alloc (.cells #[.string o2.k, .slice p2a o2.l.length p2c, .int .i64 o2.r.s, .slice u2a o2.r.l.length u2c, .string o2.r.b, .int .i64 o2.asked, .int .i64 o2.got, .int .i64 o2.ep] 28)).alloc (.cells #[.int .i64 r2.s, .slice x2a r2.l.length x2c, .string r2.b] 26)) w.heap.size (.slice pa o.l.length pc) o.l) := ((P2.out.kept hb3).alloc _).alloc _
    have U3 : Hid (OwnsF ((w3.alloc (.cells #[.string o2.k, .slice p2a o2.l.length p2c, .int .i64 o2.r.s, .slice u2a o2.r.l.length u2c, .string o2.r.b, .int .i64 o2.asked, .int .i64 o2.got, .int .i64 o2.ep] 28)).alloc (.cells #[.int .i64 r2.s, .slice x2a r2.l.length x2c, .string r2.b] 26)) w.heap.size (.slice ua o.r.l.length uc) o.r.l) := ((U2.out.kept hb3).alloc _).alloc _
    have Q3 : Hid (OwnsF ((w3.alloc (.cells #[.string o2.k, .slice p2a o2.l.length p2c, .int .i64 o2.r.s, .slice u2a o2.r.l.length u2c, .string o2.r.b, .int .i64 o2.asked, .int .i64 o2.got, .int .i64 o2.ep] 28)).alloc (.cells #[.int .i64 r2.s, .slice x2a r2.l.length x2c, .string r2.b] 26)) w.heap.size (.slice qa al.length qc) al) := ((Q2.out.kept hb3).alloc _).alloc _
    have Z3 : Hid (ObB ((w3.alloc (.cells #[.string o2.k, .slice p2a o2.l.length p2c, .int .i64 o2.r.s, .slice u2a o2.r.l.length u2c, .string o2.r.b, .int .i64 o2.asked, .int .i64 o2.got, .int .i64 o2.ep] 28)).alloc (.cells #[.int .i64 r2.s, .slice x2a r2.l.length x2c, .string r2.b] 26)) w3.heap.size o2 (.slice p2a o2.l.length p2c) (.slice u2a o2.r.l.length u2c)) := (ObB.new w3 o2 _ _ _).alloc _
    have Y3 : Hid (RsB ((w3.alloc (.cells #[.string o2.k, .slice p2a o2.l.length p2c, .int .i64 o2.r.s, .slice u2a o2.r.l.length u2c, .string o2.r.b, .int .i64 o2.asked, .int .i64 o2.got, .int .i64 o2.ep] 28)).alloc (.cells #[.int .i64 r2.s, .slice x2a r2.l.length x2c, .string r2.b] 26)) (w3.heap.size + 1) r2 (.slice x2a r2.l.length x2c)) := by
      have := RsB.new (w3.alloc (.cells #[.string o2.k, .slice p2a o2.l.length p2c, .int .i64 o2.r.s, .slice u2a o2.r.l.length u2c, .string o2.r.b, .int .i64 o2.asked, .int .i64 o2.got, .int .i64 o2.ep] 28)) r2 (.slice x2a r2.l.length x2c) 26
      simp only [World.size_alloc] at this
      exact this
    have V3 : Hid (OwnsF ((w3.alloc (.cells #[.string o2.k, .slice p2a o2.l.length p2c, .int .i64 o2.r.s, .slice u2a o2.r.l.length u2c, .string o2.r.b, .int .i64 o2.asked, .int .i64 o2.got, .int .i64 o2.ep] 28)).alloc (.cells #[.int .i64 r2.s, .slice x2a r2.l.length x2c, .string r2.b] 26)) w.heap.size (.slice p2a o2.l.length p2c) o2.l) := ((g1.low hz2).alloc _).alloc _
    have E3 : Hid (OwnsF ((w3.alloc (.cells #[.string o2.k, .slice p2a o2.l.length p2c, .int .i64 o2.r.s, .slice u2a o2.r.l.length u2c, .string o2.r.b, .int .i64 o2.asked, .int .i64 o2.got, .int .i64 o2.ep] 28)).alloc (.cells #[.int .i64 r2.s, .slice x2a r2.l.length x2c, .string r2.b] 26)) w.heap.size (.slice u2a o2.r.l.length u2c) o2.r.l) := ((g2.low hz2).alloc _).alloc _
    have X3 : Hid (OwnsF ((w3.alloc (.cells #[.string o2.k, .slice p2a o2.l.length p2c, .int .i64 o2.r.s, .slice u2a o2.r.l.length u2c, .string o2.r.b, .int .i64 o2.asked, .int .i64 o2.got, .int .i64 o2.ep] 28)).alloc (.cells #[.int .i64 r2.s, .slice x2a r2.l.length x2c, .string r2.b] 26)) w.heap.size (.slice x2a r2.l.length x2c) r2.l) := ((g3.low hz2).alloc _).alloc _
    have HI2 : Hid (∀ W, OwnsF W w.heap.size (.slice p2a o2.l.length p2c) o2.l → OwnsF W w.heap.size (.slice u2a o2.r.l.length u2c) o2.r.l → ObIn W (.slice p2a o2.l.length p2c) (.slice u2a o2.r.l.length u2c) o2) := fun W a b => obIn10 a b gf
    have HR2 : Hid (∀ W, OwnsF W w.heap.size (.slice x2a r2.l.length x2c) r2.l → RsIn W (.slice x2a r2.l.length x2c) r2) := fun W a => rsIn10 a gg gb
    have IR := fun W (hb : Below w.heap.size w W) (a : OwnsF W w.heap.size (.slice p2a o2.l.length p2c) o2.l) (b : OwnsF W w.heap.size (.slice u2a o2.r.l.length u2c) o2.r.l) (c : OwnsF W w.heap.size (.slice x2a r2.l.length x2c) r2.l) => hiR o2 (.slice p2a o2.l.length p2c) (.slice u2a o2.r.l.length u2c) r2 (.slice x2a r2.l.length x2c) asked got W (XX.out W hb) (HI2.out W a b) (HR2.out W c)
    have SR := fun W (a : OwnsF W w.heap.size (.slice p2a o2.l.length p2c) o2.l) (b : OwnsF W w.heap.size (.slice u2a o2.r.l.length u2c) o2.r.l) (c : OwnsF W w.heap.size (.slice x2a r2.l.length x2c) r2.l) => specRen o2 (.slice p2a o2.l.length p2c) (.slice u2a o2.r.l.length u2c) r2 (.slice x2a r2.l.length x2c) asked got W (HI2.out W a b) (HR2.out W c)
    have HSM := renV_small o2 r2 asked got
    have HYS : Hid ((renV o2 r2 asked got).2 = true → obB (renV o2 r2 asked got).1 = true ∧ (renV o2 r2 asked got).1.got = got ∧ (renV o2 r2 asked got).1.k = o2.k ∧ (renV o2 r2 asked got).1.r.b = o2.r.b ∧ (renV o2 r2 asked got).1.ep = o2.ep) := fun h => (renV_yes h).2
    generalize renV o2 r2 asked got = RV at IR SR HSM HYS
    obtain ⟨q, is⟩ := RV
    simp only at IR SR HSM HYS
    clear hiR g1 g2 gf g3 gg gb hb3
    clear O2 B2 P2 U2 Q2

    unfold obV rsV at IR SR ⊢
    go_wp2_with fail
    refine (IR _ B3.out V3.out E3.out X3.out).mono ?_
    rintro e w4 ⟨v', u', rfl, k1, k2, k3, hb4⟩
    obtain ⟨na, nc, rfl, _, _, _⟩ := k1.form
    obtain ⟨ma, mc, rfl, _, _, _⟩ := k2.form
    have hz3 := B3.out.size
    have O4 : Hid (ObB (w4.alloc (.cells #[.string q.k, .slice na q.l.length nc, .int .i64 q.r.s, .slice ma q.r.l.length mc, .string q.r.b, .int .i64 q.asked, .int .i64 q.got, .int .i64 q.ep] 28)) w1.heap.size o (.slice pa o.l.length pc) (.slice ua o.r.l.length uc)) := (O3.out.next hb4).alloc _
    have B4 : Hid (Below w.heap.size w (w4.alloc (.cells #[.string q.k, .slice na q.l.length nc, .int .i64 q.r.s, .slice ma q.r.l.length mc, .string q.r.b, .int .i64 q.asked, .int .i64 q.got, .int .i64 q.ep] 28))) := bal10 (past6 B3.out hb4) _
    have P4 : Hid (OwnsF (w4.alloc (.cells #[.string q.k, .slice na q.l.length nc, .int .i64 q.r.s, .slice ma q.r.l.length mc, .string q.r.b, .int .i64 q.asked, .int .i64 q.got, .int .i64 q.ep] 28)) w.heap.size (.slice pa o.l.length pc) o.l) := (P3.out.kept hb4).alloc _
    have U4 : Hid (OwnsF (w4.alloc (.cells #[.string q.k, .slice na q.l.length nc, .int .i64 q.r.s, .slice ma q.r.l.length mc, .string q.r.b, .int .i64 q.asked, .int .i64 q.got, .int .i64 q.ep] 28)) w.heap.size (.slice ua o.r.l.length uc) o.r.l) := (U3.out.kept hb4).alloc _
    have Q4 : Hid (OwnsF (w4.alloc (.cells #[.string q.k, .slice na q.l.length nc, .int .i64 q.r.s, .slice ma q.r.l.length mc, .string q.r.b, .int .i64 q.asked, .int .i64 q.got, .int .i64 q.ep] 28)) w.heap.size (.slice qa al.length qc) al) := (Q3.out.kept hb4).alloc _
    have Z4 : Hid (ObB (w4.alloc (.cells #[.string q.k, .slice na q.l.length nc, .int .i64 q.r.s, .slice ma q.r.l.length mc, .string q.r.b, .int .i64 q.asked, .int .i64 q.got, .int .i64 q.ep] 28)) w3.heap.size o2 (.slice p2a o2.l.length p2c) (.slice u2a o2.r.l.length u2c)) := (Z3.out.next hb4).alloc _
    have Y4 : Hid (RsB (w4.alloc (.cells #[.string q.k, .slice na q.l.length nc, .int .i64 q.r.s, .slice ma q.r.l.length mc, .string q.r.b, .int .i64 q.asked, .int .i64 q.got, .int .i64 q.ep] 28)) (w3.heap.size + 1) r2 (.slice x2a r2.l.length x2c)) := (Y3.out.next hb4).alloc _
    have V4 : Hid (OwnsF (w4.alloc (.cells #[.string q.k, .slice na q.l.length nc, .int .i64 q.r.s, .slice ma q.r.l.length mc, .string q.r.b, .int .i64 q.asked, .int .i64 q.got, .int .i64 q.ep] 28)) w.heap.size (.slice p2a o2.l.length p2c) o2.l) := (V3.out.kept hb4).alloc _
    have E4 : Hid (OwnsF (w4.alloc (.cells #[.string q.k, .slice na q.l.length nc, .int .i64 q.r.s, .slice ma q.r.l.length mc, .string q.r.b, .int .i64 q.asked, .int .i64 q.got, .int .i64 q.ep] 28)) w.heap.size (.slice u2a o2.r.l.length u2c) o2.r.l) := (E3.out.kept hb4).alloc _
    have X4 : Hid (OwnsF (w4.alloc (.cells #[.string q.k, .slice na q.l.length nc, .int .i64 q.r.s, .slice ma q.r.l.length mc, .string q.r.b, .int .i64 q.asked, .int .i64 q.got, .int .i64 q.ep] 28)) w.heap.size (.slice x2a r2.l.length x2c) r2.l) := (X3.out.kept hb4).alloc _
    have N4 : Hid (ObB (w4.alloc (.cells #[.string q.k, .slice na q.l.length nc, .int .i64 q.r.s, .slice ma q.r.l.length mc, .string q.r.b, .int .i64 q.asked, .int .i64 q.got, .int .i64 q.ep] 28)) w4.heap.size q (.slice na q.l.length nc) (.slice ma q.r.l.length mc)) := ObB.new w4 q _ _ _
    have G4 : Hid (HasF (w4.alloc (.cells #[.string q.k, .slice na q.l.length nc, .int .i64 q.r.s, .slice ma q.r.l.length mc, .string q.r.b, .int .i64 q.asked, .int .i64 q.got, .int .i64 q.ep] 28)) w.heap.size (.slice na q.l.length nc) q.l) := (k1.low hz3).kept (balK10 _ _)
    have H4 : Hid (HasF (w4.alloc (.cells #[.string q.k, .slice na q.l.length nc, .int .i64 q.r.s, .slice ma q.r.l.length mc, .string q.r.b, .int .i64 q.asked, .int .i64 q.got, .int .i64 q.ep] 28)) w.heap.size (.slice ma q.r.l.length mc) q.r.l) := (k2.low hz3).kept (balK10 _ _)
    clear hb4 k1 k2 k3 IR
    clear O3 B3 P3 U3 Q3 Z3 Y3 V3 E3 X3

    obtain ⟨z0, z1, z2, z3, z4, z5, z6, z7, zf, zh⟩ := Z4.out
    obtain ⟨y0, y1, y2, yf, yh⟩ := Y4.out
    go_wp2_with fail
    refine (SR _ V4.out E4.out X4.out).mono ?_
    rintro e w5 ⟨v', u', rfl, k1, k2, k3, hb5⟩
    obtain ⟨sa2, sc2, rfl, _, _⟩ := k1.form
    obtain ⟨ta, tc, rfl, _, _⟩ := k2.form
    have hz4 := B4.out.size
    have O5 : Hid (ObB (w5.alloc (.cells #[.string q.k, .slice sa2 q.l.length sc2, .int .i64 q.r.s, .slice ta q.r.l.length tc, .string q.r.b, .int .i64 q.asked, .int .i64 q.got, .int .i64 q.ep] 28)) w1.heap.size o (.slice pa o.l.length pc) (.slice ua o.r.l.length uc)) := (O4.out.next hb5).alloc _
    have B5 : Hid (Below w.heap.size w (w5.alloc (.cells #[.string q.k, .slice sa2 q.l.length sc2, .int .i64 q.r.s, .slice ta q.r.l.length tc, .string q.r.b, .int .i64 q.asked, .int .i64 q.got, .int .i64 q.ep] 28))) := bal10 (past6 B4.out hb5) _
    have P5 : Hid (OwnsF (w5.alloc (.cells #[.string q.k, .slice sa2 q.l.length sc2, .int .i64 q.r.s, .slice ta q.r.l.length tc, .string q.r.b, .int .i64 q.asked, .int .i64 q.got, .int .i64 q.ep] 28)) w.heap.size (.slice pa o.l.length pc) o.l) := (P4.out.kept hb5).alloc _
    have U5 : Hid (OwnsF (w5.alloc (.cells #[.string q.k, .slice sa2 q.l.length sc2, .int .i64 q.r.s, .slice ta q.r.l.length tc, .string q.r.b, .int .i64 q.asked, .int .i64 q.got, .int .i64 q.ep] 28)) w.heap.size (.slice ua o.r.l.length uc) o.r.l) := (U4.out.kept hb5).alloc _
    have Q5 : Hid (OwnsF (w5.alloc (.cells #[.string q.k, .slice sa2 q.l.length sc2, .int .i64 q.r.s, .slice ta q.r.l.length tc, .string q.r.b, .int .i64 q.asked, .int .i64 q.got, .int .i64 q.ep] 28)) w.heap.size (.slice qa al.length qc) al) := (Q4.out.kept hb5).alloc _
    have Z5 : Hid (ObB (w5.alloc (.cells #[.string q.k, .slice sa2 q.l.length sc2, .int .i64 q.r.s, .slice ta q.r.l.length tc, .string q.r.b, .int .i64 q.asked, .int .i64 q.got, .int .i64 q.ep] 28)) w3.heap.size o2 (.slice p2a o2.l.length p2c) (.slice u2a o2.r.l.length u2c)) := (Z4.out.next hb5).alloc _
    have Y5 : Hid (RsB (w5.alloc (.cells #[.string q.k, .slice sa2 q.l.length sc2, .int .i64 q.r.s, .slice ta q.r.l.length tc, .string q.r.b, .int .i64 q.asked, .int .i64 q.got, .int .i64 q.ep] 28)) (w3.heap.size + 1) r2 (.slice x2a r2.l.length x2c)) := (Y4.out.next hb5).alloc _
    have V5 : Hid (OwnsF (w5.alloc (.cells #[.string q.k, .slice sa2 q.l.length sc2, .int .i64 q.r.s, .slice ta q.r.l.length tc, .string q.r.b, .int .i64 q.asked, .int .i64 q.got, .int .i64 q.ep] 28)) w.heap.size (.slice p2a o2.l.length p2c) o2.l) := (V4.out.kept hb5).alloc _
    have E5 : Hid (OwnsF (w5.alloc (.cells #[.string q.k, .slice sa2 q.l.length sc2, .int .i64 q.r.s, .slice ta q.r.l.length tc, .string q.r.b, .int .i64 q.asked, .int .i64 q.got, .int .i64 q.ep] 28)) w.heap.size (.slice u2a o2.r.l.length u2c) o2.r.l) := (E4.out.kept hb5).alloc _
    have X5 : Hid (OwnsF (w5.alloc (.cells #[.string q.k, .slice sa2 q.l.length sc2, .int .i64 q.r.s, .slice ta q.r.l.length tc, .string q.r.b, .int .i64 q.asked, .int .i64 q.got, .int .i64 q.ep] 28)) w.heap.size (.slice x2a r2.l.length x2c) r2.l) := (X4.out.kept hb5).alloc _
    have N5 : Hid (ObB (w5.alloc (.cells #[.string q.k, .slice sa2 q.l.length sc2, .int .i64 q.r.s, .slice ta q.r.l.length tc, .string q.r.b, .int .i64 q.asked, .int .i64 q.got, .int .i64 q.ep] 28)) w4.heap.size q (.slice na q.l.length nc) (.slice ma q.r.l.length mc)) := (N4.out.next hb5).alloc _
    have G5 : Hid (HasF (w5.alloc (.cells #[.string q.k, .slice sa2 q.l.length sc2, .int .i64 q.r.s, .slice ta q.r.l.length tc, .string q.r.b, .int .i64 q.asked, .int .i64 q.got, .int .i64 q.ep] 28)) w.heap.size (.slice na q.l.length nc) q.l) := (G4.out.kept hb5).kept (balK10 _ _)
    have H5 : Hid (HasF (w5.alloc (.cells #[.string q.k, .slice sa2 q.l.length sc2, .int .i64 q.r.s, .slice ta q.r.l.length tc, .string q.r.b, .int .i64 q.asked, .int .i64 q.got, .int .i64 q.ep] 28)) w.heap.size (.slice ma q.r.l.length mc) q.r.l) := (H4.out.kept hb5).kept (balK10 _ _)
    have S5 : Hid (ObB (w5.alloc (.cells #[.string q.k, .slice sa2 q.l.length sc2, .int .i64 q.r.s, .slice ta q.r.l.length tc, .string q.r.b, .int .i64 q.asked, .int .i64 q.got, .int .i64 q.ep] 28)) w5.heap.size q (.slice sa2 q.l.length sc2) (.slice ta q.r.l.length tc)) := ObB.new w5 q _ _ _
    have I5 : Hid (OwnsF (w5.alloc (.cells #[.string q.k, .slice sa2 q.l.length sc2, .int .i64 q.r.s, .slice ta q.r.l.length tc, .string q.r.b, .int .i64 q.asked, .int .i64 q.got, .int .i64 q.ep] 28)) w.heap.size (.slice sa2 q.l.length sc2) q.l) := (k1.low hz4).alloc _
    have J5 : Hid (OwnsF (w5.alloc (.cells #[.string q.k, .slice sa2 q.l.length sc2, .int .i64 q.r.s, .slice ta q.r.l.length tc, .string q.r.b, .int .i64 q.asked, .int .i64 q.got, .int .i64 q.ep] 28)) w.heap.size (.slice ta q.r.l.length tc) q.r.l) := (k2.low hz4).alloc _
    clear hb5 k1 k2 k3 SR z0 z1 z2 z3 z4 z5 z6 z7 zf zh y0 y1 y2 yf yh
    clear O4 B4 P4 U4 Q4 Z4 Y4 V4 E4 X4 N4 G4 H4

    have LO := fun W (a : HasF W w.heap.size (.slice na q.l.length nc) q.l) (b : HasF W w.heap.size (.slice ma q.r.l.length mc) q.r.l) (c : OwnsF W w.heap.size (.slice sa2 q.l.length sc2) q.l) (d : OwnsF W w.heap.size (.slice ta q.r.l.length tc) q.r.l) => likeO q (.slice na q.l.length nc) (.slice ma q.r.l.length mc) (.slice sa2 q.l.length sc2) (.slice ta q.r.l.length tc) W a.fls b.fls c.fls d.fls (by omega) (by omega)
    unfold obV at LO
    go_upto_region 8 with fail
    generalize (w5.alloc (.cells #[.string q.k, .slice sa2 q.l.length sc2, .int .i64 q.r.s, .slice ta q.r.l.length tc, .string q.r.b, .int .i64 q.asked, .int .i64 q.got, .int .i64 q.ep] 28)) = w6 at O5 B5 P5 U5 Q5 Z5 Y5 V5 E5 X5 N5 G5 H5 S5 I5 J5 ⊢
    have d1 : (is != is) = false := by simp
    obtain ⟨n0, n1, n2, n3, n4, n5, n6, n7, nf, nh⟩ := N5.out
    obtain ⟨s0, s1, s2, s3, s4, s5, s6, s7, sf, sh⟩ := S5.out
    go_wp2_with fail
    refine (LO _ G5.out H5.out I5.out J5.out).mono ?_
    rintro e w7 ⟨rfl, hb7⟩
    have O7 : Hid (ObB w7 w1.heap.size o (.slice pa o.l.length pc) (.slice ua o.r.l.length uc)) := O5.out.next hb7
    have B7 : Hid (Below w.heap.size w w7) := past6 B5.out hb7
    have P7 : Hid (OwnsF w7 w.heap.size (.slice pa o.l.length pc) o.l) := P5.out.kept hb7
    have U7 : Hid (OwnsF w7 w.heap.size (.slice ua o.r.l.length uc) o.r.l) := U5.out.kept hb7
    have Q7 : Hid (OwnsF w7 w.heap.size (.slice qa al.length qc) al) := Q5.out.kept hb7
    have Z7 : Hid (ObB w7 w3.heap.size o2 (.slice p2a o2.l.length p2c) (.slice u2a o2.r.l.length u2c)) := Z5.out.next hb7
    have Y7 : Hid (RsB w7 (w3.heap.size + 1) r2 (.slice x2a r2.l.length x2c)) := Y5.out.next hb7
    have V7 : Hid (OwnsF w7 w.heap.size (.slice p2a o2.l.length p2c) o2.l) := V5.out.kept hb7
    have E7 : Hid (OwnsF w7 w.heap.size (.slice u2a o2.r.l.length u2c) o2.r.l) := E5.out.kept hb7
    have X7 : Hid (OwnsF w7 w.heap.size (.slice x2a r2.l.length x2c) r2.l) := X5.out.kept hb7
    have N7 : Hid (ObB w7 w4.heap.size q (.slice na q.l.length nc) (.slice ma q.r.l.length mc)) := N5.out.next hb7
    have G7 : Hid (HasF w7 w.heap.size (.slice na q.l.length nc) q.l) := G5.out.kept hb7
    have H7 : Hid (HasF w7 w.heap.size (.slice ma q.r.l.length mc) q.r.l) := H5.out.kept hb7
    have S7 : Hid (ObB w7 w5.heap.size q (.slice sa2 q.l.length sc2) (.slice ta q.r.l.length tc)) := S5.out.next hb7
    have I7 : Hid (OwnsF w7 w.heap.size (.slice sa2 q.l.length sc2) q.l) := I5.out.kept hb7
    have J7 : Hid (OwnsF w7 w.heap.size (.slice ta q.r.l.length tc) q.r.l) := J5.out.kept hb7
    clear hb7 LO n0 n1 n2 n3 n4 n5 n6 n7 nf nh s0 s1 s2 s3 s4 s5 s6 s7 sf sh
    clear O5 B5 P5 U5 Q5 Z5 Y5 V5 E5 X5 N5 G5 H5 S5 I5 J5

    obtain ⟨o0, o1, o2', o3, o4, o5, o6, o7, of, oh⟩ := O7.out
    have dD : (D != D) = false := by simp
    go_wp2_with fail
    refine (SD _ Q7.out P7.out U7.out).mono ?_
    rintro e w8 ⟨rfl, hb8⟩
    have O8 : Hid (ObB w8 w1.heap.size o (.slice pa o.l.length pc) (.slice ua o.r.l.length uc)) := O7.out.next hb8
    have B8 : Hid (Below w.heap.size w w8) := past6 B7.out hb8
    have P8 : Hid (OwnsF w8 w.heap.size (.slice pa o.l.length pc) o.l) := P7.out.kept hb8
    have U8 : Hid (OwnsF w8 w.heap.size (.slice ua o.r.l.length uc) o.r.l) := U7.out.kept hb8
    have Q8 : Hid (OwnsF w8 w.heap.size (.slice qa al.length qc) al) := Q7.out.kept hb8
    have Z8 : Hid (ObB w8 w3.heap.size o2 (.slice p2a o2.l.length p2c) (.slice u2a o2.r.l.length u2c)) := Z7.out.next hb8
    have Y8 : Hid (RsB w8 (w3.heap.size + 1) r2 (.slice x2a r2.l.length x2c)) := Y7.out.next hb8
    have V8 : Hid (OwnsF w8 w.heap.size (.slice p2a o2.l.length p2c) o2.l) := V7.out.kept hb8
    have E8 : Hid (OwnsF w8 w.heap.size (.slice u2a o2.r.l.length u2c) o2.r.l) := E7.out.kept hb8
    have X8 : Hid (OwnsF w8 w.heap.size (.slice x2a r2.l.length x2c) r2.l) := X7.out.kept hb8
    have N8 : Hid (ObB w8 w4.heap.size q (.slice na q.l.length nc) (.slice ma q.r.l.length mc)) := N7.out.next hb8
    have G8 : Hid (HasF w8 w.heap.size (.slice na q.l.length nc) q.l) := G7.out.kept hb8
    have H8 : Hid (HasF w8 w.heap.size (.slice ma q.r.l.length mc) q.r.l) := H7.out.kept hb8
    have S8 : Hid (ObB w8 w5.heap.size q (.slice sa2 q.l.length sc2) (.slice ta q.r.l.length tc)) := S7.out.next hb8
    have I8 : Hid (OwnsF w8 w.heap.size (.slice sa2 q.l.length sc2) q.l) := I7.out.kept hb8
    have J8 : Hid (OwnsF w8 w.heap.size (.slice ta q.r.l.length tc) q.r.l) := J7.out.kept hb8
    clear hb8 SD o0 o1 o2' o3 o4 o5 o6 o7 of oh
    clear O7 B7 P7 U7 Q7 Z7 Y7 V7 E7 X7 N7 G7 H7 S7 I7 J7

    cases is with
    | false =>
      have O9 := O8
      have B9 := B8
      have P9 := P8
      have U9 := U8
      have Q9 := Q8
      clear O8 B8 P8 U8 Q8 Z8 Y8 V8 E8 X8 N8 G8 H8 S8 I8 J8 HYS HSM HI2 HR2 hiO
      by_cases hD : D = 1
      · obtain ⟨t1, t2, t3, t4, t5, t6⟩ := HS.out hD
        obtain ⟨f1, f2⟩ := HFK.out (by rw [hD]; decide)
        have hga := getF_max (l := al) nCC (by have := hqf.sz; omega) (by have := hqf.1; omega)
        have hgb := getF_max (l := o.r.l) nCC (by have := hf.2.2.1.sz; omega) (by have := hf.2.2.1.1; omega)
        have RA := fun W => specRdC (getF al nCC).1 W (by unfold maxLen; omega) (items_size _)
        have RB := fun W => specRdC (getF o.r.l nCC).1 W (by unfold maxLen; omega) (items_size _)
        change ∀ W, Calls _ _ _ _ fun e w' => e = .returned (ctV (ctlOf al)) ∧ _ at RA
        change ∀ W, Calls _ _ _ _ fun e w' => e = .returned (ctV (ctlOf o.r.l)) ∧ _ at RB
        rw [getA_y10 f1] at SGa
        rw [getA_y10 f2] at SGb
        have T1 : Hid _ := t1
        have T5 : Hid _ := t5
        have T6 : Hid _ := t6
        have T2 : Hid _ := t2
        have T3 : Hid _ := t3
        have T4 : Hid _ := t4
        clear t1 t2 t3 t4 t5 t6
        generalize ctlOf al = ca at RA T2 T3 T5 T6
        generalize ctlOf o.r.l = cb at RB T4 T5
        generalize getF al nCC = ga at SGa RA
        generalize getF o.r.l nCC = gb at SGb RB
        obtain ⟨ga, gab⟩ := ga
        obtain ⟨gb, gbb⟩ := gb
        unfold getE nCC at SGa SGb
        unfold ctV at RA RB
        unfold rsV at SL
        simp only at SGa SGb RA RB
        clear HS HN HFK hga hgb
        subst hD
        obtain ⟨o0, o1, o2', o3, o4, o5, o6, o7, of, oh⟩ := O9.out
        go_wp2_with fail
        refine (SGa _ Q9.out).mono ?_
        rintro e w10 ⟨rfl, hb10⟩
        have O10 : Hid (ObB w10 w1.heap.size o (.slice pa o.l.length pc) (.slice ua o.r.l.length uc)) := O9.out.next hb10
        have B10 : Hid (Below w.heap.size w w10) := past6 B9.out hb10
        have P10 : Hid (OwnsF w10 w.heap.size (.slice pa o.l.length pc) o.l) := P9.out.kept hb10
        have U10 : Hid (OwnsF w10 w.heap.size (.slice ua o.r.l.length uc) o.r.l) := U9.out.kept hb10
        have Q10 : Hid (OwnsF w10 w.heap.size (.slice qa al.length qc) al) := Q9.out.kept hb10
        clear hb10 SGa O9 B9 P9 U9 Q9 o0 o1 o2' o3 o4 o5 o6 o7 of oh
        obtain ⟨o0, o1, o2', o3, o4, o5, o6, o7, of, oh⟩ := O10.out
        go_wp2_with fail
        refine (SGb _ U10.out).mono ?_
        rintro e w11 ⟨rfl, hb11⟩
        have O11 : Hid (ObB w11 w1.heap.size o (.slice pa o.l.length pc) (.slice ua o.r.l.length uc)) := O10.out.next hb11
        have B11 : Hid (Below w.heap.size w w11) := past6 B10.out hb11
        have P11 : Hid (OwnsF w11 w.heap.size (.slice pa o.l.length pc) o.l) := P10.out.kept hb11
        have U11 : Hid (OwnsF w11 w.heap.size (.slice ua o.r.l.length uc) o.r.l) := U10.out.kept hb11
        have Q11 : Hid (OwnsF w11 w.heap.size (.slice qa al.length qc) al) := Q10.out.kept hb11
        clear hb11 SGb O10 B10 P10 U10 Q10 o0 o1 o2' o3 o4 o5 o6 o7 of oh
        go_wp2_with fail
        refine (RA _).mono ?_
        rintro e w12 ⟨rfl, hb12⟩
        have O12 : Hid (ObB (w12.alloc (.cells #[.int .i64 ca.a, .int .i64 ca.s, .int .i64 ca.t, .bool ca.ns, .bool ca.nc, .bool ca.pr, .bool ca.mu] 50)) w1.heap.size o (.slice pa o.l.length pc) (.slice ua o.r.l.length uc)) := (O11.out.next hb12).alloc _
        have B12 : Hid (Below w.heap.size w (w12.alloc (.cells #[.int .i64 ca.a, .int .i64 ca.s, .int .i64 ca.t, .bool ca.ns, .bool ca.nc, .bool ca.pr, .bool ca.mu] 50))) := bal10 (past6 B11.out hb12) _
        have P12 : Hid (OwnsF (w12.alloc (.cells #[.int .i64 ca.a, .int .i64 ca.s, .int .i64 ca.t, .bool ca.ns, .bool ca.nc, .bool ca.pr, .bool ca.mu] 50)) w.heap.size (.slice pa o.l.length pc) o.l) := (P11.out.kept hb12).alloc _
        have U12 : Hid (OwnsF (w12.alloc (.cells #[.int .i64 ca.a, .int .i64 ca.s, .int .i64 ca.t, .bool ca.ns, .bool ca.nc, .bool ca.pr, .bool ca.mu] 50)) w.heap.size (.slice ua o.r.l.length uc) o.r.l) := (U11.out.kept hb12).alloc _
        have Q12 : Hid (OwnsF (w12.alloc (.cells #[.int .i64 ca.a, .int .i64 ca.s, .int .i64 ca.t, .bool ca.ns, .bool ca.nc, .bool ca.pr, .bool ca.mu] 50)) w.heap.size (.slice qa al.length qc) al) := (Q11.out.kept hb12).alloc _
        have a12 : Hid (CtB (w12.alloc (.cells #[.int .i64 ca.a, .int .i64 ca.s, .int .i64 ca.t, .bool ca.ns, .bool ca.nc, .bool ca.pr, .bool ca.mu] 50)) w12.heap.size ca) := CtB.born w12 ca 50
        clear hb12 RA O11 B11 P11 U11 Q11
        go_wp2_with fail
        refine (RB _).mono ?_
        rintro e w13 ⟨rfl, hb13⟩
        have O13 : Hid (ObB (w13.alloc (.cells #[.int .i64 cb.a, .int .i64 cb.s, .int .i64 cb.t, .bool cb.ns, .bool cb.nc, .bool cb.pr, .bool cb.mu] 50)) w1.heap.size o (.slice pa o.l.length pc) (.slice ua o.r.l.length uc)) := (O12.out.next hb13).alloc _
        have B13 : Hid (Below w.heap.size w (w13.alloc (.cells #[.int .i64 cb.a, .int .i64 cb.s, .int .i64 cb.t, .bool cb.ns, .bool cb.nc, .bool cb.pr, .bool cb.mu] 50))) := bal10 (past6 B12.out hb13) _
        have P13 : Hid (OwnsF (w13.alloc (.cells #[.int .i64 cb.a, .int .i64 cb.s, .int .i64 cb.t, .bool cb.ns, .bool cb.nc, .bool cb.pr, .bool cb.mu] 50)) w.heap.size (.slice pa o.l.length pc) o.l) := (P12.out.kept hb13).alloc _
        have U13 : Hid (OwnsF (w13.alloc (.cells #[.int .i64 cb.a, .int .i64 cb.s, .int .i64 cb.t, .bool cb.ns, .bool cb.nc, .bool cb.pr, .bool cb.mu] 50)) w.heap.size (.slice ua o.r.l.length uc) o.r.l) := (U12.out.kept hb13).alloc _
        have Q13 : Hid (OwnsF (w13.alloc (.cells #[.int .i64 cb.a, .int .i64 cb.s, .int .i64 cb.t, .bool cb.ns, .bool cb.nc, .bool cb.pr, .bool cb.mu] 50)) w.heap.size (.slice qa al.length qc) al) := (Q12.out.kept hb13).alloc _
        have a13 : Hid (CtB (w13.alloc (.cells #[.int .i64 cb.a, .int .i64 cb.s, .int .i64 cb.t, .bool cb.ns, .bool cb.nc, .bool cb.pr, .bool cb.mu] 50)) w12.heap.size ca) := (a12.out.kept hb13).alloc _
        have b13 : Hid (CtB (w13.alloc (.cells #[.int .i64 cb.a, .int .i64 cb.s, .int .i64 cb.t, .bool cb.ns, .bool cb.nc, .bool cb.pr, .bool cb.mu] 50)) w13.heap.size cb) := CtB.born w13 cb 50
        clear hb13 RB O12 B12 P12 U12 Q12 a12
        obtain ⟨o0, o1, o2', o3, o4, o5, o6, o7, of, oh⟩ := O13.out
        go_wp2_with fail
        refine (SA _ P13.out U13.out).mono ?_
        rintro e w14 ⟨rfl, hb14⟩
        have O14 : Hid (ObB w14 w1.heap.size o (.slice pa o.l.length pc) (.slice ua o.r.l.length uc)) := O13.out.next hb14
        have B14 : Hid (Below w.heap.size w w14) := past6 B13.out hb14
        have P14 : Hid (OwnsF w14 w.heap.size (.slice pa o.l.length pc) o.l) := P13.out.kept hb14
        have U14 : Hid (OwnsF w14 w.heap.size (.slice ua o.r.l.length uc) o.r.l) := U13.out.kept hb14
        have Q14 : Hid (OwnsF w14 w.heap.size (.slice qa al.length qc) al) := Q13.out.kept hb14
        have a14 : Hid (CtB w14 w12.heap.size ca) := a13.out.kept hb14
        have b14 : Hid (CtB w14 w13.heap.size cb) := b13.out.kept hb14
        clear hb14 O13 B13 P13 U13 Q13 a13 b13 o0 o1 o2' o3 o4 o5 o6 o7 of oh
        obtain ⟨o0, o1, o2', o3, o4, o5, o6, o7, of, oh⟩ := O14.out
        go_wp2_with fail
        refine (SL _ P14.out U14.out).mono ?_
        rintro e w15 ⟨rfl, hb15⟩
        have B15 : Hid (Below w.heap.size w w15) := past6 B14.out hb15
        obtain ⟨a0, a1, a2, a3, a4, a5, a6⟩ := CtB.all (a14.out.kept hb15)
        obtain ⟨b0, b1, b2, b3, b4, b5, b6⟩ := CtB.all (b14.out.kept hb15)
        rw [T3.out] at a3
        rw [T2.out] at a4
        rw [T4.out] at b4
        have ew : IntKind.i64.wrap (A - L) = A - L := by have := HAb.out; have := HLb.out; rw [IntKind.wrap_i64]; omega
        clear hb15 O14 B14 P14 U14 Q14 a14 b14 o0 o1 o2' o3 o4 o5 o6 o7 of oh T2 T3 T4
        by_cases hlt : A - L < 0
        · by_cases hca : ca.a < 0
          · go_wp2
            go_ret
            exact ⟨rfl, B15.out⟩
          · have hcb : A ≤ ca.a := by have := T6.out; omega
            go_wp2
            go_ret
            exact ⟨rfl, B15.out⟩
        · obtain ⟨u1, u2⟩ : A - L ≤ ca.t ∧ cb.mu = false := by
            rcases T5.out with h | h
            · exact absurd h hlt
            · exact h
          rw [u2] at b6
          clear u2
          by_cases hca : ca.a < 0
          · go_wp2
            go_ret
            exact ⟨rfl, B15.out⟩
          · have hcb : A ≤ ca.a := by have := T6.out; omega
            go_wp2
            go_ret
            exact ⟨rfl, B15.out⟩
      · have d2 : (D == 1) = false := by simpa using hD
        by_cases hD0 : D = 0
        · subst hD0
          go_wp2
          go_ret
          exact ⟨rfl, B9.out⟩
        · have d3 : (D == 0) = false := by simpa using hD0
          have hA0 := HN.out hD0
          have dA : decide (0 ≤ A) = true := decide_eq_true hA0
          obtain ⟨o0, o1, o2', o3, o4, o5, o6, o7, of, oh⟩ := O9.out
          clear hD hD0
          go_wp2_with fail
          refine (SA _ P9.out U9.out).mono ?_
          rintro e w10 ⟨rfl, hb10⟩
          have B10 : Hid (Below w.heap.size w w10) := past6 B9.out hb10
          clear hb10 o0 o1 o2' o3 o4 o5 o6 o7 of oh
          go_wp2
          go_ret
          exact ⟨rfl, B10.out⟩
    | true =>
      have YY : Hid (obB q = true ∧ q.got = got ∧ q.k = o2.k ∧ q.r.b = o2.r.b ∧ q.ep = o2.ep) := HYS.out rfl
      have IO := fun W (hb : Below w.heap.size w W) (a : HasF W w.heap.size (.slice na q.l.length nc) q.l) (b : HasF W w.heap.size (.slice ma q.r.l.length mc) q.r.l) => hiO q (.slice na q.l.length nc) (.slice ma q.r.l.length mc) W (XX.out W hb) ⟨a.fits10 (by omega) (by omega), ⟨b.fits10 (by omega) (by omega), by omega⟩, by omega⟩
      rw [YY.out.1] at IO
      unfold obV at IO
      obtain ⟨n0, n1, n2, n3, n4, n5, n6, n7, nf, nh⟩ := N8.out
      go_wp2_with fail
      refine (IO _ B8.out G8.out H8.out).mono ?_
      rintro e w9 ⟨rfl, hb9⟩
      have O9 : Hid (ObB w9 w1.heap.size o (.slice pa o.l.length pc) (.slice ua o.r.l.length uc)) := O8.out.next hb9
      have B9 : Hid (Below w.heap.size w w9) := past6 B8.out hb9
      have P9 : Hid (OwnsF w9 w.heap.size (.slice pa o.l.length pc) o.l) := P8.out.kept hb9
      have U9 : Hid (OwnsF w9 w.heap.size (.slice ua o.r.l.length uc) o.r.l) := U8.out.kept hb9
      have Q9 : Hid (OwnsF w9 w.heap.size (.slice qa al.length qc) al) := Q8.out.kept hb9
      have Z9 : Hid (ObB w9 w3.heap.size o2 (.slice p2a o2.l.length p2c) (.slice u2a o2.r.l.length u2c)) := Z8.out.next hb9
      have N9 : Hid (ObB w9 w4.heap.size q (.slice na q.l.length nc) (.slice ma q.r.l.length mc)) := N8.out.next hb9
      clear hb9 IO n0 n1 n2 n3 n4 n5 n6 n7 nf nh
      clear O8 B8 P8 U8 Q8 Z8 Y8 V8 E8 X8 N8 G8 H8 S8 I8 J8 HI2 HR2 hiO
      obtain ⟨n0, n1, n2, n3, n4, n5, n6, n7, nf, nh⟩ := N9.out
      obtain ⟨z0, z1, z2, z3, z4, z5, z6, z7, zf, zh⟩ := Z9.out
      rw [YY.out.2.1] at n6
      rw [YY.out.2.2.1] at n0
      rw [YY.out.2.2.2.1] at n4
      rw [YY.out.2.2.2.2] at n7
      have dk : (o2.k.toList == o2.k.toList) = true := by simp
      have db : (o2.r.b.toList == o2.r.b.toList) = true := by simp
      clear YY HYS HSM
      go_upto_region 12 with fail
      clear n0 n1 n2 n3 n4 n5 n6 n7 nf nh z0 z1 z2 z3 z4 z5 z6 z7 zf zh
      by_cases hD : D = 1
      · obtain ⟨t1, t2, t3, t4, t5, t6⟩ := HS.out hD
        obtain ⟨f1, f2⟩ := HFK.out (by rw [hD]; decide)
        have hga := getF_max (l := al) nCC (by have := hqf.sz; omega) (by have := hqf.1; omega)
        have hgb := getF_max (l := o.r.l) nCC (by have := hf.2.2.1.sz; omega) (by have := hf.2.2.1.1; omega)
        have RA := fun W => specRdC (getF al nCC).1 W (by unfold maxLen; omega) (items_size _)
        have RB := fun W => specRdC (getF o.r.l nCC).1 W (by unfold maxLen; omega) (items_size _)
        change ∀ W, Calls _ _ _ _ fun e w' => e = .returned (ctV (ctlOf al)) ∧ _ at RA
        change ∀ W, Calls _ _ _ _ fun e w' => e = .returned (ctV (ctlOf o.r.l)) ∧ _ at RB
        rw [getA_y10 f1] at SGa
        rw [getA_y10 f2] at SGb
        have T1 : Hid _ := t1
        have T5 : Hid _ := t5
        have T6 : Hid _ := t6
        have T2 : Hid _ := t2
        have T3 : Hid _ := t3
        have T4 : Hid _ := t4
        clear t1 t2 t3 t4 t5 t6
        generalize ctlOf al = ca at RA T2 T3 T5 T6
        generalize ctlOf o.r.l = cb at RB T4 T5
        generalize getF al nCC = ga at SGa RA
        generalize getF o.r.l nCC = gb at SGb RB
        obtain ⟨ga, gab⟩ := ga
        obtain ⟨gb, gbb⟩ := gb
        unfold getE nCC at SGa SGb
        unfold ctV at RA RB
        unfold rsV at SL
        simp only at SGa SGb RA RB
        clear HS HN HFK hga hgb
        subst hD
        obtain ⟨o0, o1, o2', o3, o4, o5, o6, o7, of, oh⟩ := O9.out
        go_wp2_with fail
        refine (SGa _ Q9.out).mono ?_
        rintro e w10 ⟨rfl, hb10⟩
        have O10 : Hid (ObB w10 w1.heap.size o (.slice pa o.l.length pc) (.slice ua o.r.l.length uc)) := O9.out.next hb10
        have B10 : Hid (Below w.heap.size w w10) := past6 B9.out hb10
        have P10 : Hid (OwnsF w10 w.heap.size (.slice pa o.l.length pc) o.l) := P9.out.kept hb10
        have U10 : Hid (OwnsF w10 w.heap.size (.slice ua o.r.l.length uc) o.r.l) := U9.out.kept hb10
        have Q10 : Hid (OwnsF w10 w.heap.size (.slice qa al.length qc) al) := Q9.out.kept hb10
        clear hb10 SGa O9 B9 P9 U9 Q9 o0 o1 o2' o3 o4 o5 o6 o7 of oh
        obtain ⟨o0, o1, o2', o3, o4, o5, o6, o7, of, oh⟩ := O10.out
        go_wp2_with fail
        refine (SGb _ U10.out).mono ?_
        rintro e w11 ⟨rfl, hb11⟩
        have O11 : Hid (ObB w11 w1.heap.size o (.slice pa o.l.length pc) (.slice ua o.r.l.length uc)) := O10.out.next hb11
        have B11 : Hid (Below w.heap.size w w11) := past6 B10.out hb11
        have P11 : Hid (OwnsF w11 w.heap.size (.slice pa o.l.length pc) o.l) := P10.out.kept hb11
        have U11 : Hid (OwnsF w11 w.heap.size (.slice ua o.r.l.length uc) o.r.l) := U10.out.kept hb11
        have Q11 : Hid (OwnsF w11 w.heap.size (.slice qa al.length qc) al) := Q10.out.kept hb11
        clear hb11 SGb O10 B10 P10 U10 Q10 o0 o1 o2' o3 o4 o5 o6 o7 of oh
        go_wp2_with fail
        refine (RA _).mono ?_
        rintro e w12 ⟨rfl, hb12⟩
        have O12 : Hid (ObB (w12.alloc (.cells #[.int .i64 ca.a, .int .i64 ca.s, .int .i64 ca.t, .bool ca.ns, .bool ca.nc, .bool ca.pr, .bool ca.mu] 50)) w1.heap.size o (.slice pa o.l.length pc) (.slice ua o.r.l.length uc)) := (O11.out.next hb12).alloc _
        have B12 : Hid (Below w.heap.size w (w12.alloc (.cells #[.int .i64 ca.a, .int .i64 ca.s, .int .i64 ca.t, .bool ca.ns, .bool ca.nc, .bool ca.pr, .bool ca.mu] 50))) := bal10 (past6 B11.out hb12) _
        have P12 : Hid (OwnsF (w12.alloc (.cells #[.int .i64 ca.a, .int .i64 ca.s, .int .i64 ca.t, .bool ca.ns, .bool ca.nc, .bool ca.pr, .bool ca.mu] 50)) w.heap.size (.slice pa o.l.length pc) o.l) := (P11.out.kept hb12).alloc _
        have U12 : Hid (OwnsF (w12.alloc (.cells #[.int .i64 ca.a, .int .i64 ca.s, .int .i64 ca.t, .bool ca.ns, .bool ca.nc, .bool ca.pr, .bool ca.mu] 50)) w.heap.size (.slice ua o.r.l.length uc) o.r.l) := (U11.out.kept hb12).alloc _
        have Q12 : Hid (OwnsF (w12.alloc (.cells #[.int .i64 ca.a, .int .i64 ca.s, .int .i64 ca.t, .bool ca.ns, .bool ca.nc, .bool ca.pr, .bool ca.mu] 50)) w.heap.size (.slice qa al.length qc) al) := (Q11.out.kept hb12).alloc _
        have a12 : Hid (CtB (w12.alloc (.cells #[.int .i64 ca.a, .int .i64 ca.s, .int .i64 ca.t, .bool ca.ns, .bool ca.nc, .bool ca.pr, .bool ca.mu] 50)) w12.heap.size ca) := CtB.born w12 ca 50
        clear hb12 RA O11 B11 P11 U11 Q11
        go_wp2_with fail
        refine (RB _).mono ?_
        rintro e w13 ⟨rfl, hb13⟩
        have O13 : Hid (ObB (w13.alloc (.cells #[.int .i64 cb.a, .int .i64 cb.s, .int .i64 cb.t, .bool cb.ns, .bool cb.nc, .bool cb.pr, .bool cb.mu] 50)) w1.heap.size o (.slice pa o.l.length pc) (.slice ua o.r.l.length uc)) := (O12.out.next hb13).alloc _
        have B13 : Hid (Below w.heap.size w (w13.alloc (.cells #[.int .i64 cb.a, .int .i64 cb.s, .int .i64 cb.t, .bool cb.ns, .bool cb.nc, .bool cb.pr, .bool cb.mu] 50))) := bal10 (past6 B12.out hb13) _
        have P13 : Hid (OwnsF (w13.alloc (.cells #[.int .i64 cb.a, .int .i64 cb.s, .int .i64 cb.t, .bool cb.ns, .bool cb.nc, .bool cb.pr, .bool cb.mu] 50)) w.heap.size (.slice pa o.l.length pc) o.l) := (P12.out.kept hb13).alloc _
        have U13 : Hid (OwnsF (w13.alloc (.cells #[.int .i64 cb.a, .int .i64 cb.s, .int .i64 cb.t, .bool cb.ns, .bool cb.nc, .bool cb.pr, .bool cb.mu] 50)) w.heap.size (.slice ua o.r.l.length uc) o.r.l) := (U12.out.kept hb13).alloc _
        have Q13 : Hid (OwnsF (w13.alloc (.cells #[.int .i64 cb.a, .int .i64 cb.s, .int .i64 cb.t, .bool cb.ns, .bool cb.nc, .bool cb.pr, .bool cb.mu] 50)) w.heap.size (.slice qa al.length qc) al) := (Q12.out.kept hb13).alloc _
        have a13 : Hid (CtB (w13.alloc (.cells #[.int .i64 cb.a, .int .i64 cb.s, .int .i64 cb.t, .bool cb.ns, .bool cb.nc, .bool cb.pr, .bool cb.mu] 50)) w12.heap.size ca) := (a12.out.kept hb13).alloc _
        have b13 : Hid (CtB (w13.alloc (.cells #[.int .i64 cb.a, .int .i64 cb.s, .int .i64 cb.t, .bool cb.ns, .bool cb.nc, .bool cb.pr, .bool cb.mu] 50)) w13.heap.size cb) := CtB.born w13 cb 50
        clear hb13 RB O12 B12 P12 U12 Q12 a12
        obtain ⟨o0, o1, o2', o3, o4, o5, o6, o7, of, oh⟩ := O13.out
        go_wp2_with fail
        refine (SA _ P13.out U13.out).mono ?_
        rintro e w14 ⟨rfl, hb14⟩
        have O14 : Hid (ObB w14 w1.heap.size o (.slice pa o.l.length pc) (.slice ua o.r.l.length uc)) := O13.out.next hb14
        have B14 : Hid (Below w.heap.size w w14) := past6 B13.out hb14
        have P14 : Hid (OwnsF w14 w.heap.size (.slice pa o.l.length pc) o.l) := P13.out.kept hb14
        have U14 : Hid (OwnsF w14 w.heap.size (.slice ua o.r.l.length uc) o.r.l) := U13.out.kept hb14
        have Q14 : Hid (OwnsF w14 w.heap.size (.slice qa al.length qc) al) := Q13.out.kept hb14
        have a14 : Hid (CtB w14 w12.heap.size ca) := a13.out.kept hb14
        have b14 : Hid (CtB w14 w13.heap.size cb) := b13.out.kept hb14
        clear hb14 O13 B13 P13 U13 Q13 a13 b13 o0 o1 o2' o3 o4 o5 o6 o7 of oh
        obtain ⟨o0, o1, o2', o3, o4, o5, o6, o7, of, oh⟩ := O14.out
        go_wp2_with fail
        refine (SL _ P14.out U14.out).mono ?_
        rintro e w15 ⟨rfl, hb15⟩
        have B15 : Hid (Below w.heap.size w w15) := past6 B14.out hb15
        obtain ⟨a0, a1, a2, a3, a4, a5, a6⟩ := CtB.all (a14.out.kept hb15)
        obtain ⟨b0, b1, b2, b3, b4, b5, b6⟩ := CtB.all (b14.out.kept hb15)
        rw [T3.out] at a3
        rw [T2.out] at a4
        rw [T4.out] at b4
        have ew : IntKind.i64.wrap (A - L) = A - L := by have := HAb.out; have := HLb.out; rw [IntKind.wrap_i64]; omega
        clear hb15 O14 B14 P14 U14 Q14 a14 b14 o0 o1 o2' o3 o4 o5 o6 o7 of oh T2 T3 T4
        by_cases hlt : A - L < 0
        · by_cases hca : ca.a < 0
          · go_wp2
            go_ret
            exact ⟨rfl, B15.out⟩
          · have hcb : A ≤ ca.a := by have := T6.out; omega
            go_wp2
            go_ret
            exact ⟨rfl, B15.out⟩
        · obtain ⟨u1, u2⟩ : A - L ≤ ca.t ∧ cb.mu = false := by
            rcases T5.out with h | h
            · exact absurd h hlt
            · exact h
          rw [u2] at b6
          clear u2
          by_cases hca : ca.a < 0
          · go_wp2
            go_ret
            exact ⟨rfl, B15.out⟩
          · have hcb : A ≤ ca.a := by have := T6.out; omega
            go_wp2
            go_ret
            exact ⟨rfl, B15.out⟩
      · have d2 : (D == 1) = false := by simpa using hD
        by_cases hD0 : D = 0
        · subst hD0
          go_wp2
          go_ret
          exact ⟨rfl, B9.out⟩
        · have d3 : (D == 0) = false := by simpa using hD0
          have hA0 := HN.out hD0
          have dA : decide (0 ≤ A) = true := decide_eq_true hA0
          obtain ⟨o0, o1, o2', o3, o4, o5, o6, o7, of, oh⟩ := O9.out
          clear hD hD0
          go_wp2_with fail
          refine (SA _ P9.out U9.out).mono ?_
          rintro e w10 ⟨rfl, hb10⟩
          have B10 : Hid (Below w.heap.size w w10) := past6 B9.out hb10
          clear hb10 o0 o1 o2' o3 o4 o5 o6 o7 of oh
          go_wp2
          go_ret
          exact ⟨rfl, B10.out⟩
end Go.Proofs.YtkaogmdhjcgcdaaGreatDoor
