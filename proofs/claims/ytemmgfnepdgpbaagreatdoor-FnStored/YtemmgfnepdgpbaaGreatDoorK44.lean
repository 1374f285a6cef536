/-
  Like objects, and rows of them.
  The drawn object of FnStored.
  The walk of FnStored.
  What the listed table of powers of ten gives to the walks of the store.
-/
import Derived.Test.YtemmgfnepdgpbaaGreatDoorK43
import Derived.Test.YtemmgfnepdgpbaaGreatDoorK42
import Derived.Test.YtemmgfnepdgpbaaGreatDoorK14
import Derived.Test.YtemmgfnepdgpbaaGreatDoorK30
import Derived.Test.YtemmgfnepdgpbaaGreatDoorK27
import Derived.ProofKit
import Derived.Lib.LaidU8
import Derived.MakeChecks
namespace Go.Proofs.YtemmgfnepdgpbaaGreatDoor
open Go.RowKit Go.Sort
set_option linter.unusedVariables false
set_option linter.unusedSimpArgs false

theorem bal10 {w W : World} (h : Below w.heap.size w W) (o : Obj) : Below w.heap.size w (W.alloc o) := h.alloc h.size o
theorem balK10 (w : World) (o : Obj) : Below w.heap.size w (w.alloc o) := (Below.refl _ w).alloc (Nat.le_refl _) o
set_option maxHeartbeats 4000000 in
theorem likeO (o : Ob) (p u p2 u2 : Value) (w : World) (h1 : Fls w p o.l) (h2 : Fls w u o.r.l) (h3 : Fls w p2 o.l) (h4 : Fls w u2 o.r.l) (hl : o.l.length ≤ 1048576) (hr : o.r.l.length ≤ 1048576) :
    Calls Tryz.prog 13 #[obV o p u, obV o p2 u2] w fun e w' => e = .returned (.bool true) ∧ Below w.heap.size w w' := by
  obtain ⟨pa, pc, rfl, _⟩ := id h1
  obtain ⟨ua, uc, rfl, _⟩ := id h2
  obtain ⟨p2a, p2c, rfl, _⟩ := id h3
  obtain ⟨u2a, u2c, rfl, _⟩ := id h4
  have A0 : Hid (ObB ((w.alloc (.cells #[.string o.k, .slice pa o.l.length pc, .int .i64 o.r.s, .slice ua o.r.l.length uc, .string o.r.b, .int .i64 o.asked, .int .i64 o.got, .int .i64 o.ep] 28)).alloc (.cells #[.string o.k, .slice p2a o.l.length p2c, .int .i64 o.r.s, .slice u2a o.r.l.length u2c, .string o.r.b, .int .i64 o.asked, .int .i64 o.got, .int .i64 o.ep] 28)) w.heap.size o (.slice pa o.l.length pc) (.slice ua o.r.l.length uc)) := (ObB.new w o _ _ _).alloc _
  have D0 : Hid (ObB ((w.alloc (.cells #[.string o.k, .slice pa o.l.length pc, .int .i64 o.r.s, .slice ua o.r.l.length uc, .string o.r.b, .int .i64 o.asked, .int .i64 o.got, .int .i64 o.ep] 28)).alloc (.cells #[.string o.k, .slice p2a o.l.length p2c, .int .i64 o.r.s, .slice u2a o.r.l.length u2c, .string o.r.b, .int .i64 o.asked, .int .i64 o.got, .int .i64 o.ep] 28)) (w.heap.size + 1) o (.slice p2a o.l.length p2c) (.slice u2a o.r.l.length u2c)) := by
    have := ObB.new (w.alloc (.cells #[.string o.k, .slice pa o.l.length pc, .int .i64 o.r.s, .slice ua o.r.l.length uc, .string o.r.b, .int .i64 o.asked, .int .i64 o.got, .int .i64 o.ep] 28)) o (.slice p2a o.l.length p2c) (.slice u2a o.r.l.length u2c) 28
    simp only [World.size_alloc] at this
    exact this
  have B0 : Hid (Below w.heap.size w ((w.alloc (.cells #[.string o.k, .slice pa o.l.length pc, .int .i64 o.r.s, .slice ua o.r.l.length uc, .string o.r.b, .int .i64 o.asked, .int .i64 o.got, .int .i64 o.ep] 28)).alloc (.cells #[.string o.k, .slice p2a o.l.length p2c, .int .i64 o.r.s, .slice u2a o.r.l.length u2c, .string o.r.b, .int .i64 o.asked, .int .i64 o.got, .int .i64 o.ep] 28))) := bal10 (balK10 _ _) _
  have j1 := fun W (hb : Below w.heap.size w W) => likeF (.slice pa o.l.length pc) (.slice p2a o.l.length p2c) o.l W (h1.kept hb) (h3.kept hb) hl
  have j2 := fun W (hb : Below w.heap.size w W) => likeS o.r (.slice ua o.r.l.length uc) (.slice u2a o.r.l.length u2c) W (h2.kept hb) (h4.kept hb) hr
  have dk : (o.k.toList == o.k.toList) = true := by simp
  clear h1 h2 h3 h4
  unfold obV
  unfold rsV at j2
  go_enter Tryz.func13, Tryz.ntmps13
  go_wp2_with fail
  refine (j1 _ B0.out).mono ?_
  rintro e w1 ⟨rfl, hg1⟩
  have hb1 := hg1.low
  have A1 : Hid _ := A0.out.next hb1
  have D1 : Hid _ := D0.out.next hb1
  have B1 : Hid (Below w.heap.size w w1) := past6 B0.out hb1
  obtain ⟨a0, a1, a2, a3, a4, a5, a6, a7, af, ah⟩ := A1.out
  obtain ⟨d0, d1, d2, d3, d4, d5, d6, d7, df, dh⟩ := D1.out
  clear hg1 hb1 A0 D0 B0 j1
  go_wp2_with fail
  refine (j2 _ B1.out).mono ?_
  rintro e w2 ⟨rfl, hb2⟩
  have B2 : Hid (Below w.heap.size w w2) := past6 B1.out hb2
  have A2 := A1.out.next hb2
  have D2 := D1.out.next hb2
  clear a0 a1 a2 a3 a4 a5 a6 a7 af ah d0 d1 d2 d3 d4 d5 d6 d7 df dh
  obtain ⟨a0, a1, a2, a3, a4, a5, a6, a7, af, ah⟩ := A2
  obtain ⟨d0, d1, d2, d3, d4, d5, d6, d7, df, dh⟩ := D2
  clear hb2 A1 D1 B1 j2
  go_wp2
  go_ret
  exact ⟨rfl, B2.out⟩
end Go.Proofs.YtemmgfnepdgpbaaGreatDoor
namespace Go.Proofs.YtemmgfnepdgpbaaGreatDoor
open Go.RowKit Go.Sort St
set_option linter.unusedVariables false
set_option linter.unusedSimpArgs false

set_option maxRecDepth 100000 in
set_option maxHeartbeats 4000000 in
theorem drawOb (sa : Option Addr) (sl sc : Nat) (w : World) (hc : Code8 w w.heap.size sa sl) (hl : sl ≤ 4096) :
    Calls Tryz.prog 24 #[.slice sa sl sc] w fun e w' => (∃ o p u, e = .returned (obV o p u) ∧ OwnsF w' w.heap.size p o.l ∧ OwnsF w' w.heap.size u o.r.l ∧ FewO o) ∧ Below w.heap.size w w' := by
  have hA := fun b W hW => l10DrawAnyO b sa sl sc W hW
  have ZX0 : Hid (ObB (w.alloc (.cells #[.string ⟨#[]⟩, .slice none 0 0, .int .i64 0, .slice none 0 0, .string ⟨#[]⟩, .int .i64 0, .int .i64 0, .int .i64 0] 28)) w.heap.size noO (.slice none 0 0) (.slice none 0 0)) := (show ObB _ _ _ _ _ from ObB.new w noO (.slice none 0 0) (.slice none 0 0) 28)
  have bA := (Below.refl w.heap.size w).alloc (Nat.le_refl _) (.cells #[.string ⟨#[]⟩, .slice none 0 0, .int .i64 0, .slice none 0 0, .string ⟨#[]⟩, .int .i64 0, .int .i64 0, .int .i64 0] 28)
  go_enter Tryz.func24, Tryz.ntmps24
  go_wp2_with fail
  generalize hwA : w.alloc (.cells #[.string ⟨#[]⟩, .slice none 0 0, .int .i64 0, .slice none 0 0, .string ⟨#[]⟩, .int .i64 0, .int .i64 0, .int .i64 0] 28) = wA at ZX0 bA ⊢
  have hBs : wA.heap.size = w.heap.size + 1 := by rw [← hwA]; simp
  have hcA := code8_onpS hc bA
  clear hwA hc
  refine (l1New sa sl sc _ hcA hl).mono ?_
  rintro e w1 ⟨rfl, hc1, hb1⟩
  have Z1 : Hid (ObB w1 w.heap.size noO (.slice none 0 0) (.slice none 0 0)) := ZX0.out.next hb1
  have B1 : Below w.heap.size w w1 := bA.trans (hb1.mono bA.size)
  rw [hBs] at hc1
  clear hcA bA ZX0 hb1
  go_wp2_with fail
  refine (hA _ _ hc1).mono ?_
  rintro e w2 ⟨⟨_, rfl, o, p, u, rfl, ho, hu, hfew⟩, hc2, hb2⟩
  have B2 : Below w.heap.size w w2 := B1.trans (hb2.low (by omega) B1.size)
  have Z2 : Hid (ObB w2 w.heap.size noO (.slice none 0 0) (.slice none 0 0)) := Z1.out.beside hb2 (by omega)
  have hz1 : w.heap.size < w1.heap.size := Z1.out.hi
  obtain ⟨pa, pc, rfl, _, _⟩ := ho.form
  obtain ⟨ua, uc, rfl, _, _⟩ := hu.form
  have HPT : Hid (ObB (putL w2 w.heap.size (obL o (.slice pa o.l.length pc) (.slice ua o.r.l.length uc)) 0) w.heap.size o (.slice pa o.l.length pc) (.slice ua o.r.l.length uc)) := Z2.out.puts _ _ _
  have VP : Hid (OwnsF (putL w2 w.heap.size (obL o (.slice pa o.l.length pc) (.slice ua o.r.l.length uc)) 0) w.heap.size (.slice pa o.l.length pc) o.l) := (show OwnsF _ _ _ _ from (putLS ho hz1 _ 0).low (by omega))
  have UP : Hid (OwnsF (putL w2 w.heap.size (obL o (.slice pa o.l.length pc) (.slice ua o.r.l.length uc)) 0) w.heap.size (.slice ua o.r.l.length uc) o.r.l) := (show OwnsF _ _ _ _ from (putLS hu hz1 _ 0).low (by omega))
  have BP : Hid (Below w.heap.size w (putL w2 w.heap.size (obL o (.slice pa o.l.length pc) (.slice ua o.r.l.length uc)) 0)) := putL_below (Nat.le_refl _) _ 0 B2
  obtain ⟨z0, z1, z2, z3, z4, z5, z6, z7, zf, zh⟩ := Z2.out
  simp only [noO, noS] at z0 z1 z2 z3 z4 z5 z6 z7
  have HFW : Hid (FewO o) := hfew
  clear hc1 hc2 hb2 B1 B2 Z1 Z2 ho hu hfew hA
  unfold obV
  go_wp2
  obtain ⟨p0, p1, p2, p3, p4, p5, p6, p7, pf, ph⟩ := HPT.out
  have bp := BP.out
  have vp := VP.out
  have up := UP.out
  simp only [obL, putL, Nat.zero_add, Nat.reduceAdd] at p0 p1 p2 p3 p4 p5 p6 p7 bp vp up
  refine bodyPost_ret (v := obV o (.slice pa o.l.length pc) (.slice ua o.r.l.length uc)) (by unfold obV; simp [results, Tryz.results24, go_sem, p0, p1, p2, p3, p4, p5, p6, p7]) rfl ⟨⟨o, _, _, rfl, vp, up, HFW.out⟩, bp⟩
set_option maxRecDepth 100000 in
set_option maxHeartbeats 4000000 in
theorem drawShO (sa : Option Addr) (sl sc : Nat) (w : World) (hc : Code8 w w.heap.size sa sl) (hl : sl ≤ 4096) :
    Calls Tryz.prog 7 #[.slice sa sl sc] w fun e w' => (∃ o p u, e = .returned (obV o p u) ∧ OwnsF w' w.heap.size p o.l ∧ OwnsF w' w.heap.size u o.r.l ∧ FewO o) ∧ Below w.heap.size w w' := by
  have hA := fun W hW => drawOb sa sl sc W hW hl
  have ZX0 : Hid (ObB (w.alloc (.cells #[.string ⟨#[]⟩, .slice none 0 0, .int .i64 0, .slice none 0 0, .string ⟨#[]⟩, .int .i64 0, .int .i64 0, .int .i64 0] 28)) w.heap.size noO (.slice none 0 0) (.slice none 0 0)) := (show ObB _ _ _ _ _ from ObB.new w noO (.slice none 0 0) (.slice none 0 0) 28)
  have bA := (Below.refl w.heap.size w).alloc (Nat.le_refl _) (.cells #[.string ⟨#[]⟩, .slice none 0 0, .int .i64 0, .slice none 0 0, .string ⟨#[]⟩, .int .i64 0, .int .i64 0, .int .i64 0] 28)
  unfold obV at hA
  go_enter Tryz.func7, Tryz.ntmps7
  go_wp2_with fail
  generalize hwA : w.alloc (.cells #[.string ⟨#[]⟩, .slice none 0 0, .int .i64 0, .slice none 0 0, .string ⟨#[]⟩, .int .i64 0, .int .i64 0, .int .i64 0] 28) = wA at ZX0 bA ⊢
  have hBs : wA.heap.size = w.heap.size + 1 := by rw [← hwA]; simp
  have hA1 := hA wA (code8_onpS hc bA)
  clear hwA hc hA
  refine hA1.mono ?_
  rintro e w2 ⟨⟨o, p, u, rfl, ho, hu, hfew⟩, hb2⟩
  have Z2 : Hid (ObB w2 w.heap.size noO (.slice none 0 0) (.slice none 0 0)) := ZX0.out.next hb2
  have B2 : Below w.heap.size w w2 := bA.trans (hb2.mono bA.size)
  have hz1 : w.heap.size < wA.heap.size := by omega
  obtain ⟨pa, pc, rfl, _, _⟩ := ho.form
  obtain ⟨ua, uc, rfl, _, _⟩ := hu.form
  have HPT : Hid (ObB (putL w2 w.heap.size (obL o (.slice pa o.l.length pc) (.slice ua o.r.l.length uc)) 0) w.heap.size o (.slice pa o.l.length pc) (.slice ua o.r.l.length uc)) := Z2.out.puts _ _ _
  have VP : Hid (OwnsF (putL w2 w.heap.size (obL o (.slice pa o.l.length pc) (.slice ua o.r.l.length uc)) 0) w.heap.size (.slice pa o.l.length pc) o.l) := (show OwnsF _ _ _ _ from (putLS ho hz1 _ 0).low (by omega))
  have UP : Hid (OwnsF (putL w2 w.heap.size (obL o (.slice pa o.l.length pc) (.slice ua o.r.l.length uc)) 0) w.heap.size (.slice ua o.r.l.length uc) o.r.l) := (show OwnsF _ _ _ _ from (putLS hu hz1 _ 0).low (by omega))
  have BP : Hid (Below w.heap.size w (putL w2 w.heap.size (obL o (.slice pa o.l.length pc) (.slice ua o.r.l.length uc)) 0)) := putL_below (Nat.le_refl _) _ 0 B2
  obtain ⟨z0, z1, z2, z3, z4, z5, z6, z7, zf, zh⟩ := Z2.out
  simp only [noO, noS] at z0 z1 z2 z3 z4 z5 z6 z7
  have HFW : Hid (FewO o) := hfew
  clear hb2 B2 Z2 ho hu hfew ZX0 bA hBs hz1
  go_wp2
  obtain ⟨p0, p1, p2, p3, p4, p5, p6, p7, pf, ph⟩ := HPT.out
  have bp := BP.out
  have vp := VP.out
  have up := UP.out
  simp only [obL, putL, Nat.zero_add, Nat.reduceAdd] at p0 p1 p2 p3 p4 p5 p6 p7 bp vp up
  refine bodyPost_ret (v := obV o (.slice pa o.l.length pc) (.slice ua o.r.l.length uc)) (by unfold obV; simp [results, Tryz.results7, go_sem, p0, p1, p2, p3, p4, p5, p6, p7]) rfl ⟨⟨o, _, _, rfl, vp, up, HFW.out⟩, bp⟩
end Go.Proofs.YtemmgfnepdgpbaaGreatDoor
namespace Go.Proofs.YtemmgfnepdgpbaaGreatDoor
open Go.RowKit Go.Sort St
set_option linter.unusedVariables false
set_option linter.unusedSimpArgs false

/-- An object in a box of its own, with its fields. -/
structure Bo (w : World) (b : Nat) (o : Ob) (p u : Value) : Prop where
  ob : ObB w b o p u
  fp : Fls w p o.l
  fu : Fls w u o.r.l
  inn : ObIn w p u o
theorem Bo.kept {w w' : World} {b : Nat} {o : Ob} {p u : Value} (h : Bo w b o p u) (hb : Below w.heap.size w w') : Bo w' b o p u := ⟨h.ob.next hb, h.fp.kept hb, h.fu.kept hb, h.inn.kept hb⟩
theorem Bo.of {w : World} {b B C : Nat} {o : Ob} {p u : Value} (h : ObB w b o p u) (hp : HasF w B p o.l) (hu : HasF w C u o.r.l) (z1 : szL o.l ≤ 1048576) (z2 : szL o.r.l ≤ 1048576) (z3 : o.r.b.size ≤ 1048576) (n1 : o.l.length ≤ 1048576) (n2 : o.r.l.length ≤ 1048576) (k : o.k.size ≤ 1048576) : Bo w b o p u :=
  ⟨h, hp.fls, hu.fls, ⟨hp.fitsS z1 n1, ⟨hu.fitsS z2 n2, z3⟩, k⟩⟩
theorem own_sz {l : List Fl} (h : fldsOk l = true) : szL l ≤ 1048576 := by
  have := szL_flds h
  omega
theorem rO_sizes (t : List UInt8) : szL (rO (rdO t)).l ≤ 1048576 ∧ szL (rO (rdO t)).r.l ≤ 1048576 ∧ (rO (rdO t)).r.b.size ≤ 1048576 := by
  cases e : rdO t with
  | none => exact ⟨by decide, by decide, by decide⟩
  | some o =>
    have hk := obOk (rdO_ok e).1
    exact ⟨own_sz hk.fl, own_sz hk.rl, by have := hk.bd; show o.r.b.size ≤ _; omega⟩
set_option maxRecDepth 100000 in
set_option maxHeartbeats 8000000 in
theorem fnSto (sa : Option Addr) (sl sc : Nat) (zs : List Int) (w : World) (hw : IsRow w sa sl sc zs) (hx : XsW w) :
    Calls Tryz.prog 3 #[.slice sa sl sc] w fun e w' => e = .returned (.bool true) ∧ Below w.heap.size w w' := by
  by_cases hbig : 4096 < sl
  · have hlen := hw.len
    clear hw
    go_enter Tryz.func3, Tryz.ntmps3
    go_wp2_with (go_at_call 6; refine (isBig sa sl sc _ hbig hlen).mono ?_; rintro e w1 ⟨rfl, rfl⟩)
    go_ret
    exact ⟨rfl, Below.refl _ _⟩
  · have hl : sl ≤ 4096 := by omega
    have h8 : Hid (Code8 w w.heap.size sa sl) := hw.code.code
    have XX : Hid (∀ W, Below w.heap.size w W → XsW W) := (show ∀ _, _ from fun W hb => hx.low hb)
    have hsho := fun o p u W hI hT => implShO o p u W hI hT
    have hdr := drawShO sa sl sc w h8.out hl
    unfold obV at hsho hdr
    clear hw hbig hx
    go_enter Tryz.func3, Tryz.ntmps3
    go_wp2_with fail
    refine (notBig sa sl sc _ hl).mono ?_
    rintro e w0 ⟨rfl, rfl⟩
    go_wp2_with fail
    refine hdr.mono ?_
    rintro e w1 ⟨⟨o, p, u, rfl, hp, hu, hfew⟩, hb1⟩
    have hIN := obInS hp hu hfew
    have hfp := hp.fls
    have hfu := hu.fls
    have hsz := shw_few hfew
    obtain ⟨pa, pc, rfl, _, _⟩ := hp.form
    obtain ⟨ua, uc, rfl, _, _⟩ := hu.form
    have bz := (Below.refl w1.heap.size w1).alloc (Nat.le_refl _) (.cells #[.string o.k, .slice pa o.l.length pc, .int .i64 o.r.s, .slice ua o.r.l.length uc, .string o.r.b, .int .i64 o.asked, .int .i64 o.got, .int .i64 o.ep] 28)
    have E1 : Hid (Bo (w1.alloc (.cells #[.string o.k, .slice pa o.l.length pc, .int .i64 o.r.s, .slice ua o.r.l.length uc, .string o.r.b, .int .i64 o.asked, .int .i64 o.got, .int .i64 o.ep] 28)) w1.heap.size o (.slice pa o.l.length pc) (.slice ua o.r.l.length uc)) := (show Bo _ _ _ _ _ from ⟨ObB.new w1 o _ _ 28, hfp.kept bz, hfu.kept bz, hIN.kept bz⟩)
    have W1B : Hid (Below w.heap.size w (w1.alloc (.cells #[.string o.k, .slice pa o.l.length pc, .int .i64 o.r.s, .slice ua o.r.l.length uc, .string o.r.b, .int .i64 o.asked, .int .i64 o.got, .int .i64 o.ep] 28))) := (show Below _ _ _ from hb1.alloc hb1.size _)
    have hlo : o.l.length ≤ 1048576 := hIN.1.2.2.1
    have hro : o.r.l.length ≤ 1048576 := hIN.2.1.1.2.2.1
    have j1 := hsho o _ _ _ E1.out.inn (XX.out _ W1B.out).2
    clear hp hu hfew hb1 hIN hfp hfu bz hdr
    go_wp2_with fail
    generalize hW1 : w1.alloc (.cells #[.string o.k, .slice pa o.l.length pc, .int .i64 o.r.s, .slice ua o.r.l.length uc, .string o.r.b, .int .i64 o.asked, .int .i64 o.got, .int .i64 o.ep] 28) = W1 at E1 W1B j1 ⊢
    generalize hk1 : w1.heap.size = k1 at E1 ⊢
    clear hW1 hk1
    refine j1.mono ?_
    rintro e w2 ⟨rfl, hb2⟩
    have E2 : Hid (Bo w2 k1 o (.slice pa o.l.length pc) (.slice ua o.r.l.length uc)) := (show Bo _ _ _ _ _ from E1.out.kept hb2)
    have W2B : Hid (Below w.heap.size w w2) := (show Below _ _ _ from W1B.out.trans (hb2.mono W1B.out.size))
    clear E1 W1B hb2 j1
    have j2 := specShO o (.slice pa o.l.length pc) (.slice ua o.r.l.length uc) w2 E2.out.inn
    unfold obV at j2
    obtain ⟨x0, x1, x2, x3, x4, x5, x6, x7, xf, xh⟩ := E2.out.ob
    have dS : ((shwO o).toList != (shwO o).toList) = false := by simp
    go_wp2_with fail
    refine j2.mono ?_
    rintro e w3 ⟨rfl, hb3⟩
    have E3 : Hid (Bo w3 k1 o (.slice pa o.l.length pc) (.slice ua o.r.l.length uc)) := (show Bo _ _ _ _ _ from E2.out.kept hb3)
    have W3B : Hid (Below w.heap.size w w3) := (show Below _ _ _ from W2B.out.trans (hb3.mono W2B.out.size))
    clear E2 W2B hb3 j2 x0 x1 x2 x3 x4 x5 x6 x7 xf xh
    have j3 := specObOk o (.slice pa o.l.length pc) (.slice ua o.r.l.length uc) w3 E3.out.inn
    unfold obV at j3
    obtain ⟨x0, x1, x2, x3, x4, x5, x6, x7, xf, xh⟩ := E3.out.ob
    go_wp2_with fail
    refine j3.mono ?_
    rintro e w4 ⟨rfl, hb4⟩
    have E4 : Hid (Bo w4 k1 o (.slice pa o.l.length pc) (.slice ua o.r.l.length uc)) := (show Bo _ _ _ _ _ from E3.out.kept hb4)
    have W4B : Hid (Below w.heap.size w w4) := (show Below _ _ _ from W3B.out.trans (hb4.mono W3B.out.size))
    clear E3 W3B hb4 j3 x0 x1 x2 x3 x4 x5 x6 x7 xf xh
    cases hB : obB o with
    | false =>
      have hS : shwO o = ⟨#[]⟩ := by unfold shwO; rw [hB]; rfl
      rw [hS]
      clear hS hB dS hsz
      go_wp2_with fail
      refine (drawRdO sa sl sc _ (code8_onpS h8.out W4B.out) hl).mono ?_
      rintro e v1 ⟨⟨t, rfl, htz⟩, hb1⟩
      have D1 : Hid (Below w.heap.size w v1) := (show Below _ _ _ from W4B.out.trans (hb1.mono W4B.out.size))
      have him := implRdO t v1 (XX.out _ D1.out) (by omega)
      have hsp := fun V => (specRdO t V (by omega)).mono fun e w' (h : ∃ z : RoR, _) => by
        obtain ⟨z, h1, h2⟩ := h
        obtain ⟨e1, e2, e3⟩ := h2.is
        have hv := h2.v
        have hu := h2.u
        rw [e1] at hv hu
        exact (show ∃ p u, e = .returned (.tuple #[obV (rO (rdO t.data.toList)) p u, .int .i64 (rN (rdO t.data.toList)), .bool (rdO t.data.toList).isSome]) ∧ HasF w' V.heap.size p (rO (rdO t.data.toList)).l ∧ HasF w' V.heap.size u (rO (rdO t.data.toList)).r.l ∧ Below V.heap.size V w' from ⟨z.v, z.u, by rw [h1, e1, e2, e3], hv.has, hu.has, h2.low⟩)
      obtain ⟨f1, f2, f3⟩ := rO_fit t.data.toList
      have HOK : Hid (∀ o2, rdO t.data.toList = some o2 → obB o2 = true ∧ shoL o2 <+: t.data.toList) := (show ∀ _, _ from fun o2 h => rdO_ok h)
      have HSS : Hid (szL (rO (rdO t.data.toList)).l ≤ 1048576 ∧ szL (rO (rdO t.data.toList)).r.l ≤ 1048576 ∧ (rO (rdO t.data.toList)).r.b.size ≤ 1048576) := rO_sizes t.data.toList
      obtain ⟨R, hR⟩ : ∃ R, rdO t.data.toList = R := ⟨_, rfl⟩
      rw [hR] at him hsp HOK f1 f2 f3 HSS
      clear hR hb1 W4B
      have HN : Hid ((R = none ∧ rN R = 0 ∧ R.isSome = false) ∨ ∃ o2, R = some o2 ∧ rO R = o2 ∧ rN R = ((shoL o2).length : Nat) ∧ R.isSome = true) := by
        cases R with
        | none => exact .inl ⟨rfl, rfl, rfl⟩
        | some o2 => exact .inr ⟨o2, rfl, rfl, rfl, rfl⟩
      generalize rO R = O at him hsp f1 f2 f3 HSS HN
      generalize rN R = n at him hsp HN
      generalize R.isSome = bo at him hsp HN
      unfold obV at him hsp
      have dN : (n != n) = false := by simp
      have dB : (bo != bo) = false := by simp
      go_wp2_with fail
      refine him.mono ?_
      rintro e v2 ⟨p3, u3, rfl, hp3, hu3, _, hb2⟩
      obtain ⟨p3a, p3c, rfl, _⟩ := hp3.form
      obtain ⟨u3a, u3c, rfl, _⟩ := hu3.form
      have bz2 := (Below.refl v2.heap.size v2).alloc (Nat.le_refl _) (.cells #[.string O.k, .slice p3a O.l.length p3c, .int .i64 O.r.s, .slice u3a O.r.l.length u3c, .string O.r.b, .int .i64 O.asked, .int .i64 O.got, .int .i64 O.ep] 28)
      have E2 : Hid (Bo (v2.alloc (.cells #[.string O.k, .slice p3a O.l.length p3c, .int .i64 O.r.s, .slice u3a O.r.l.length u3c, .string O.r.b, .int .i64 O.asked, .int .i64 O.got, .int .i64 O.ep] 28)) v2.heap.size O (.slice p3a O.l.length p3c) (.slice u3a O.r.l.length u3c)) := (show Bo _ _ _ _ _ from Bo.of (ObB.new v2 O _ _ 28) (hp3.kept bz2) (hu3.kept bz2) HSS.out.1 HSS.out.2.1 HSS.out.2.2 (by omega) (by omega) (by omega))
      have D2 : Hid (Below w.heap.size w (v2.alloc (.cells #[.string O.k, .slice p3a O.l.length p3c, .int .i64 O.r.s, .slice u3a O.r.l.length u3c, .string O.r.b, .int .i64 O.asked, .int .i64 O.got, .int .i64 O.ep] 28))) := (show Below _ _ _ from (D1.out.trans (hb2.mono D1.out.size)).alloc (by have := D1.out.size; have := hb2.size; omega) _)
      clear hp3 hu3 hb2 bz2 him D1
      have hsp2 := hsp (v2.alloc (.cells #[.string O.k, .slice p3a O.l.length p3c, .int .i64 O.r.s, .slice u3a O.r.l.length u3c, .string O.r.b, .int .i64 O.asked, .int .i64 O.got, .int .i64 O.ep] 28))
      clear hsp
      go_wp2_with fail
      generalize hV2 : v2.alloc (.cells #[.string O.k, .slice p3a O.l.length p3c, .int .i64 O.r.s, .slice u3a O.r.l.length u3c, .string O.r.b, .int .i64 O.asked, .int .i64 O.got, .int .i64 O.ep] 28) = V2 at E2 D2 hsp2 ⊢
      generalize hk2 : v2.heap.size = k2 at E2 ⊢
      clear hV2 hk2
      refine hsp2.mono ?_
      rintro e v3 ⟨p4, u4, rfl, hp4, hu4, hb3⟩
      obtain ⟨p4a, p4c, rfl, _⟩ := hp4.form
      obtain ⟨u4a, u4c, rfl, _⟩ := hu4.form
      have bz3 := (Below.refl v3.heap.size v3).alloc (Nat.le_refl _) (.cells #[.string O.k, .slice p4a O.l.length p4c, .int .i64 O.r.s, .slice u4a O.r.l.length u4c, .string O.r.b, .int .i64 O.asked, .int .i64 O.got, .int .i64 O.ep] 28)
      have E3 : Hid (Bo (v3.alloc (.cells #[.string O.k, .slice p4a O.l.length p4c, .int .i64 O.r.s, .slice u4a O.r.l.length u4c, .string O.r.b, .int .i64 O.asked, .int .i64 O.got, .int .i64 O.ep] 28)) k2 O (.slice p3a O.l.length p3c) (.slice u3a O.r.l.length u3c)) := (show Bo _ _ _ _ _ from (E2.out.kept hb3).kept bz3)
      have F3 : Hid (Bo (v3.alloc (.cells #[.string O.k, .slice p4a O.l.length p4c, .int .i64 O.r.s, .slice u4a O.r.l.length u4c, .string O.r.b, .int .i64 O.asked, .int .i64 O.got, .int .i64 O.ep] 28)) v3.heap.size O (.slice p4a O.l.length p4c) (.slice u4a O.r.l.length u4c)) := (show Bo _ _ _ _ _ from Bo.of (ObB.new v3 O _ _ 28) (hp4.kept bz3) (hu4.kept bz3) HSS.out.1 HSS.out.2.1 HSS.out.2.2 (by omega) (by omega) (by omega))
      have D3 : Hid (Below w.heap.size w (v3.alloc (.cells #[.string O.k, .slice p4a O.l.length p4c, .int .i64 O.r.s, .slice u4a O.r.l.length u4c, .string O.r.b, .int .i64 O.asked, .int .i64 O.got, .int .i64 O.ep] 28))) := (show Below _ _ _ from (D2.out.trans (hb3.mono D2.out.size)).alloc (by have := D2.out.size; have := hb3.size; omega) _)
      clear hp4 hu4 hb3 bz3 E2 D2 hsp2
      have hlk := likeO O (.slice p3a O.l.length p3c) (.slice u3a O.r.l.length u3c) (.slice p4a O.l.length p4c) (.slice u4a O.r.l.length u4c) _ E3.out.fp E3.out.fu F3.out.fp F3.out.fu (by omega) (by omega)
      unfold obV at hlk
      obtain ⟨x0, x1, x2, x3, x4, x5, x6, x7, xf, xh⟩ := E3.out.ob
      obtain ⟨y0, y1, y2, y3, y4, y5, y6, y7, yf, yh⟩ := F3.out.ob
      go_wp2_with fail
      refine hlk.mono ?_
      rintro e v4 ⟨rfl, hb4⟩
      have E4 : Hid (Bo v4 k2 O (.slice p3a O.l.length p3c) (.slice u3a O.r.l.length u3c)) := (show Bo _ _ _ _ _ from E3.out.kept hb4)
      have D4 : Hid (Below w.heap.size w v4) := (show Below _ _ _ from D3.out.trans (hb4.mono D3.out.size))
      clear x0 x1 x2 x3 x4 x5 x6 x7 xf xh y0 y1 y2 y3 y4 y5 y6 y7 yf yh E3 F3 D3 hb4 hlk
      rcases HN.out with ⟨hR0, hn0, hb0⟩ | ⟨o2, hR1, hO1, hn1, hb1⟩
      · subst hn0 hb0
        clear HN HOK HSS dN dB E4
        go_wp2_with fail
        go_quiet (fail)
        go_wp2
        go_ret
        exact ⟨rfl, D4.out.trans ((drewN_belowS v4 _).mono D4.out.size)⟩
      · subst hO1 hn1 hb1
        obtain ⟨hok, hpre⟩ := HOK.out _ hR1
        have hS2 : shwO O = txtL (shoL O) := by unfold shwO; rw [if_pos hok]
        have hpp := (pre_iffG (r := txtL (shoL O)) (d := t)).1 (by rw [txt_lstG]; exact hpre)
        rw [txt_sizG] at hpp
        obtain ⟨hle, hex⟩ := hpp
        have g1 : ∀ dd os, Calls Tryz.prog 8 #[.agg #[.string O.k, .slice p3a O.l.length p3c, .int .i64 O.r.s, .slice u3a O.r.l.length u3c, .string O.r.b, .int .i64 O.asked, .int .i64 O.got, .int .i64 O.ep]] (grow (redrawn v4 dd) os) fun e w'' => e = .returned (.string (txtL (shoL O))) ∧ ∃ p : Regrown, w'' = grow (redrawn v4 p.d) p.os := fun dd os => by
          have := hsho O (.slice p3a O.l.length p3c) (.slice u3a O.r.l.length u3c) (grow (redrawn v4 dd) os) (E4.out.inn.kept (below_regrown v4 dd os)) (XX.out _ (D4.out.trans ((below_regrown v4 dd os).mono D4.out.size))).2
          rw [hS2] at this
          exact Calls.regrown_of this
        have q0 := cell_regrown E4.out.ob.c0
        have q1 := cell_regrown E4.out.ob.c1
        have q2 := cell_regrown E4.out.ob.c2
        have q3 := cell_regrown E4.out.ob.c3
        have q4 := cell_regrown E4.out.ob.c4
        have q5 := cell_regrown E4.out.ob.c5
        have q6 := cell_regrown E4.out.ob.c6
        have q7 := cell_regrown E4.out.ob.c7
        have hlz := sho_len hok
        have hlp : 0 < (shoL O).length := sho_pos
        have dE : ((txtL (shoL O)).toList == (t.extract 0 (shoL O).length).toList) = true := by rw [hex]; simp
        generalize txtL (shoL O) = S2 at g1 dE
        have hle2 : (((shoL O).length : Nat) : Int) ≤ (t.size : Int) := by omega
        generalize (shoL O).length = m2 at hle hle2 hlz hlp dE ⊢
        clear hS2 hex hok hpre HOK HSS HN dN dB hR1
        have HD4 : Hid (Below w.heap.size w v4) := D4.out
        clear D4
        go_wp2_with fail
        refine wp_region_quiet_below (by kernel_rfl) (by kernel_rfl) ?_
        repeat (go_big_quiet_step (first | (with_reducible exact g1 _ _)))
        refine wpQuiet_nil ?_
        intro _ hw'
        obtain ⟨⟨dq3, osq3⟩, hw''⟩ := hw'
        subst hw''
        have B5 : Hid (Below w.heap.size w (grow (redrawn v4 dq3) osq3)) := (show Below _ _ _ from HD4.out.trans ((below_regrown v4 dq3 osq3).mono HD4.out.size))
        clear q0 q1 q2 q3 q4 q5 q6 q7 g1 E4 HD4
        go_wp2
        go_ret
        exact ⟨rfl, B5.out⟩
    | true =>
      have hS : shwO o = txtL (shoL o) := by unfold shwO; rw [if_pos hB]
      have hSn : (shwO o).size = (shoL o).length := by rw [hS, txt_sizG]
      have hSd : (shwO o).data.toList = shoL o := by rw [hS, txt_lstG]
      have hS0 : 0 < (shwO o).size := by rw [hSn]; exact sho_pos
      have hSe : ((shwO o).toList == []) = false := by rw [void_eqS]; exact decide_eq_false (by omega)
      have hSv : ((shwO o).toList != []) = true := by simp only [bne, hSe]; rfl
      have hSi : (shwO o).toList.isEmpty = false := by rw [void_ofG]; exact decide_eq_false (by omega)
      have y0 : (shwO o ++ (⟨#[49, 32, 50]⟩ : ByteArray)).size = (shwO o).size + 3 := by rw [ByteArray.size_append]; rfl
      have c1 : ∀ W, XsW W → Calls Tryz.prog 11 #[.string (shwO o ++ (⟨#[49, 32, 50]⟩ : ByteArray))] W fun e w' => ∃ p u, e = .returned (.tuple #[obV o p u, .int .i64 ((shwO o).size : Nat), .bool true]) ∧ HasF w' W.heap.size p o.l ∧ HasF w' W.heap.size u o.r.l ∧ Below W.heap.size W w' := fun W hW => by
        have h := implRdO (shwO o ++ (⟨#[49, 32, 50]⟩ : ByteArray)) W hW (by omega)
        have e1 : (shwO o ++ (⟨#[49, 32, 50]⟩ : ByteArray)).data.toList = shoL o ++ [49, 32, 50] := by rw [ByteArray.data_append, Array.toList_append, hSd]
        rw [e1, rdO_sho hB] at h
        refine h.mono ?_
        rintro e w' ⟨p, u, h1, h2, h3, _, h4⟩
        exact ⟨p, u, by rw [h1, hSn]; rfl, h2, h3, h4⟩
      have c2 : ∀ r, r < (shwO o).size → ∀ W, XsW W → Calls Tryz.prog 11 #[.string ((shwO o).extract 0 r)] W fun e w' => ∃ p u, e = .returned (.tuple #[obV noO p u, .int .i64 0, .bool false]) ∧ HasF w' W.heap.size p noO.l ∧ HasF w' W.heap.size u noO.r.l ∧ Below W.heap.size W w' := fun r hr W hW => by
        have h := implRdO ((shwO o).extract 0 r) W hW (by rw [ByteArray.size_extract]; omega)
        have e1 : ((shwO o).extract 0 r).data.toList = (shoL o).take r := by rw [ByteArray.data_extract, Array.toList_extract, List.extract_eq_take_drop, List.drop_zero, Nat.sub_zero, hSd]
        rw [e1, rdO_part hB (by omega)] at h
        refine h.mono ?_
        rintro e w' ⟨p, u, h1, h2, h3, _, h4⟩
        exact ⟨p, u, h1, h2, h3, h4⟩
      have dT : (true != true) = false := rfl
      clear hS hSn hSd hB
      generalize shwO o = S at hS0 hSv hSe hSi y0 c1 c2 hsz dS ⊢
      unfold obV at c1 c2
      go_wp2_with fail
      refine (c1 _ (XX.out _ W4B.out)).mono ?_
      rintro e w5 ⟨p1, u1, rfl, hp1, hu1, hb5⟩
      have hfp1 := hp1.fls
      have hfu1 := hu1.fls
      obtain ⟨p1a, p1c, rfl, _⟩ := hp1.form
      obtain ⟨u1a, u1c, rfl, _⟩ := hu1.form
      have bz5 := (Below.refl w5.heap.size w5).alloc (Nat.le_refl _) (.cells #[.string o.k, .slice p1a o.l.length p1c, .int .i64 o.r.s, .slice u1a o.r.l.length u1c, .string o.r.b, .int .i64 o.asked, .int .i64 o.got, .int .i64 o.ep] 28)
      have hin1 : ObIn w5 (.slice p1a o.l.length p1c) (.slice u1a o.r.l.length u1c) o := ⟨hp1.fitsS E4.out.inn.1.2.1 hlo, ⟨hu1.fitsS E4.out.inn.2.1.1.2.1 hro, E4.out.inn.2.1.2⟩, E4.out.inn.2.2⟩
      have E5 : Hid (Bo (w5.alloc (.cells #[.string o.k, .slice p1a o.l.length p1c, .int .i64 o.r.s, .slice u1a o.r.l.length u1c, .string o.r.b, .int .i64 o.asked, .int .i64 o.got, .int .i64 o.ep] 28)) k1 o (.slice pa o.l.length pc) (.slice ua o.r.l.length uc)) := (show Bo _ _ _ _ _ from (E4.out.kept hb5).kept bz5)
      have F5 : Hid (Bo (w5.alloc (.cells #[.string o.k, .slice p1a o.l.length p1c, .int .i64 o.r.s, .slice u1a o.r.l.length u1c, .string o.r.b, .int .i64 o.asked, .int .i64 o.got, .int .i64 o.ep] 28)) w5.heap.size o (.slice p1a o.l.length p1c) (.slice u1a o.r.l.length u1c)) := (show Bo _ _ _ _ _ from ⟨ObB.new w5 o _ _ 28, hfp1.kept bz5, hfu1.kept bz5, hin1.kept bz5⟩)
      have W5B : Hid (Below w.heap.size w (w5.alloc (.cells #[.string o.k, .slice p1a o.l.length p1c, .int .i64 o.r.s, .slice u1a o.r.l.length u1c, .string o.r.b, .int .i64 o.asked, .int .i64 o.got, .int .i64 o.ep] 28))) := (show Below _ _ _ from (W4B.out.trans (hb5.mono W4B.out.size)).alloc (by have := W4B.out.size; have := hb5.size; omega) _)
      clear hp1 hu1 hfp1 hfu1 bz5 hin1 hb5 E4 W4B c1
      go_wp2_with fail
      generalize hW5 : w5.alloc (.cells #[.string o.k, .slice p1a o.l.length p1c, .int .i64 o.r.s, .slice u1a o.r.l.length u1c, .string o.r.b, .int .i64 o.asked, .int .i64 o.got, .int .i64 o.ep] 28) = W5 at E5 F5 W5B ⊢
      generalize hk5 : w5.heap.size = k5 at F5 ⊢
      clear hW5 hk5
      refine (pick5S sa sl sc S.size hS0 (by omega) W5 (code8_onpS h8.out W5B.out) hl).mono ?_
      rintro e w6 ⟨⟨r, rfl, hr⟩, rfl⟩
      have hri : (r : Int) ≤ (S.size : Int) := by omega
      have hr0 : r ≤ S.size := by omega
      go_wp2_with fail
      refine (c2 r hr _ (XX.out _ W5B.out)).mono ?_
      rintro e w7 ⟨p2, u2, rfl, hp2, hu2, hb7⟩
      obtain ⟨p2a, p2c, rfl, _⟩ := hp2.form
      obtain ⟨u2a, u2c, rfl, _⟩ := hu2.form
      have bz7 := (Below.refl w7.heap.size w7).alloc (Nat.le_refl _) (.cells #[.string noO.k, .slice p2a noO.l.length p2c, .int .i64 noO.r.s, .slice u2a noO.r.l.length u2c, .string noO.r.b, .int .i64 noO.asked, .int .i64 noO.got, .int .i64 noO.ep] 28)
      have E7 : Hid (Bo (w7.alloc (.cells #[.string noO.k, .slice p2a noO.l.length p2c, .int .i64 noO.r.s, .slice u2a noO.r.l.length u2c, .string noO.r.b, .int .i64 noO.asked, .int .i64 noO.got, .int .i64 noO.ep] 28)) k1 o (.slice pa o.l.length pc) (.slice ua o.r.l.length uc)) := (show Bo _ _ _ _ _ from (E5.out.kept hb7).kept bz7)
      have F7 : Hid (Bo (w7.alloc (.cells #[.string noO.k, .slice p2a noO.l.length p2c, .int .i64 noO.r.s, .slice u2a noO.r.l.length u2c, .string noO.r.b, .int .i64 noO.asked, .int .i64 noO.got, .int .i64 noO.ep] 28)) k5 o (.slice p1a o.l.length p1c) (.slice u1a o.r.l.length u1c)) := (show Bo _ _ _ _ _ from (F5.out.kept hb7).kept bz7)
      have W7B : Hid (Below w.heap.size w (w7.alloc (.cells #[.string noO.k, .slice p2a noO.l.length p2c, .int .i64 noO.r.s, .slice u2a noO.r.l.length u2c, .string noO.r.b, .int .i64 noO.asked, .int .i64 noO.got, .int .i64 noO.ep] 28))) := (show Below _ _ _ from (W5B.out.trans (hb7.mono W5B.out.size)).alloc (by have := W5B.out.size; have := hb7.size; omega) _)
      clear hp2 hu2 hb7 bz7 E5 F5 W5B c2
      have hlk1 := likeO o (.slice p1a o.l.length p1c) (.slice u1a o.r.l.length u1c) (.slice pa o.l.length pc) (.slice ua o.r.l.length uc) _ F7.out.fp F7.out.fu E7.out.fp E7.out.fu hlo hro
      unfold obV at hlk1
      obtain ⟨x0, x1, x2, x3, x4, x5, x6, x7, xf, xh⟩ := F7.out.ob
      obtain ⟨y0', y1, y2, y3, y4, y5, y6, y7, yf, yh⟩ := E7.out.ob
      go_wp2_with fail
      refine hlk1.mono ?_
      rintro e w8 ⟨rfl, hb8⟩
      have W8B : Hid (Below w.heap.size w w8) := (show Below _ _ _ from W7B.out.trans (hb8.mono W7B.out.size))
      clear x0 x1 x2 x3 x4 x5 x6 x7 xf xh y0' y1 y2 y3 y4 y5 y6 y7 yf yh E7 F7 W7B hb8 hlk1 y0 hSv hS0 dS hri hr0 hr
      go_wp2_with fail
      refine (drawRdO sa sl sc _ (code8_onpS h8.out W8B.out) hl).mono ?_
      rintro e v1 ⟨⟨t, rfl, htz⟩, hb1⟩
      have D1 : Hid (Below w.heap.size w v1) := (show Below _ _ _ from W8B.out.trans (hb1.mono W8B.out.size))
      have him := implRdO t v1 (XX.out _ D1.out) (by omega)
      have hsp := fun V => (specRdO t V (by omega)).mono fun e w' (h : ∃ z : RoR, _) => by
        obtain ⟨z, h1, h2⟩ := h
        obtain ⟨e1, e2, e3⟩ := h2.is
        have hv := h2.v
        have hu := h2.u
        rw [e1] at hv hu
        exact (show ∃ p u, e = .returned (.tuple #[obV (rO (rdO t.data.toList)) p u, .int .i64 (rN (rdO t.data.toList)), .bool (rdO t.data.toList).isSome]) ∧ HasF w' V.heap.size p (rO (rdO t.data.toList)).l ∧ HasF w' V.heap.size u (rO (rdO t.data.toList)).r.l ∧ Below V.heap.size V w' from ⟨z.v, z.u, by rw [h1, e1, e2, e3], hv.has, hu.has, h2.low⟩)
      obtain ⟨f1, f2, f3⟩ := rO_fit t.data.toList
      have HOK : Hid (∀ o2, rdO t.data.toList = some o2 → obB o2 = true ∧ shoL o2 <+: t.data.toList) := (show ∀ _, _ from fun o2 h => rdO_ok h)
      have HSS : Hid (szL (rO (rdO t.data.toList)).l ≤ 1048576 ∧ szL (rO (rdO t.data.toList)).r.l ≤ 1048576 ∧ (rO (rdO t.data.toList)).r.b.size ≤ 1048576) := rO_sizes t.data.toList
      obtain ⟨R, hR⟩ : ∃ R, rdO t.data.toList = R := ⟨_, rfl⟩
      rw [hR] at him hsp HOK f1 f2 f3 HSS
      clear hR hb1 W8B
      have HN : Hid ((R = none ∧ rN R = 0 ∧ R.isSome = false) ∨ ∃ o2, R = some o2 ∧ rO R = o2 ∧ rN R = ((shoL o2).length : Nat) ∧ R.isSome = true) := by
        cases R with
        | none => exact .inl ⟨rfl, rfl, rfl⟩
        | some o2 => exact .inr ⟨o2, rfl, rfl, rfl, rfl⟩
      generalize rO R = O at him hsp f1 f2 f3 HSS HN
      generalize rN R = n at him hsp HN
      generalize R.isSome = bo at him hsp HN
      unfold obV at him hsp
      have dN : (n != n) = false := by simp
      have dB : (bo != bo) = false := by simp
      go_wp2_with fail
      refine him.mono ?_
      rintro e v2 ⟨p3, u3, rfl, hp3, hu3, _, hb2⟩
      obtain ⟨p3a, p3c, rfl, _⟩ := hp3.form
      obtain ⟨u3a, u3c, rfl, _⟩ := hu3.form
      have bz2 := (Below.refl v2.heap.size v2).alloc (Nat.le_refl _) (.cells #[.string O.k, .slice p3a O.l.length p3c, .int .i64 O.r.s, .slice u3a O.r.l.length u3c, .string O.r.b, .int .i64 O.asked, .int .i64 O.got, .int .i64 O.ep] 28)
      have E2 : Hid (Bo (v2.alloc (.cells #[.string O.k, .slice p3a O.l.length p3c, .int .i64 O.r.s, .slice u3a O.r.l.length u3c, .string O.r.b, .int .i64 O.asked, .int .i64 O.got, .int .i64 O.ep] 28)) v2.heap.size O (.slice p3a O.l.length p3c) (.slice u3a O.r.l.length u3c)) := (show Bo _ _ _ _ _ from Bo.of (ObB.new v2 O _ _ 28) (hp3.kept bz2) (hu3.kept bz2) HSS.out.1 HSS.out.2.1 HSS.out.2.2 (by omega) (by omega) (by omega))
      have D2 : Hid (Below w.heap.size w (v2.alloc (.cells #[.string O.k, .slice p3a O.l.length p3c, .int .i64 O.r.s, .slice u3a O.r.l.length u3c, .string O.r.b, .int .i64 O.asked, .int .i64 O.got, .int .i64 O.ep] 28))) := (show Below _ _ _ from (D1.out.trans (hb2.mono D1.out.size)).alloc (by have := D1.out.size; have := hb2.size; omega) _)
      clear hp3 hu3 hb2 bz2 him D1
      have hsp2 := hsp (v2.alloc (.cells #[.string O.k, .slice p3a O.l.length p3c, .int .i64 O.r.s, .slice u3a O.r.l.length u3c, .string O.r.b, .int .i64 O.asked, .int .i64 O.got, .int .i64 O.ep] 28))
      clear hsp
      go_wp2_with fail
      generalize hV2 : v2.alloc (.cells #[.string O.k, .slice p3a O.l.length p3c, .int .i64 O.r.s, .slice u3a O.r.l.length u3c, .string O.r.b, .int .i64 O.asked, .int .i64 O.got, .int .i64 O.ep] 28) = V2 at E2 D2 hsp2 ⊢
      generalize hk2 : v2.heap.size = k2 at E2 ⊢
      clear hV2 hk2
      refine hsp2.mono ?_
      rintro e v3 ⟨p4, u4, rfl, hp4, hu4, hb3⟩
      obtain ⟨p4a, p4c, rfl, _⟩ := hp4.form
      obtain ⟨u4a, u4c, rfl, _⟩ := hu4.form
      have bz3 := (Below.refl v3.heap.size v3).alloc (Nat.le_refl _) (.cells #[.string O.k, .slice p4a O.l.length p4c, .int .i64 O.r.s, .slice u4a O.r.l.length u4c, .string O.r.b, .int .i64 O.asked, .int .i64 O.got, .int .i64 O.ep] 28)
      have E3 : Hid (Bo (v3.alloc (.cells #[.string O.k, .slice p4a O.l.length p4c, .int .i64 O.r.s, .slice u4a O.r.l.length u4c, .string O.r.b, .int .i64 O.asked, .int .i64 O.got, .int .i64 O.ep] 28)) k2 O (.slice p3a O.l.length p3c) (.slice u3a O.r.l.length u3c)) := (show Bo _ _ _ _ _ from (E2.out.kept hb3).kept bz3)
      have F3 : Hid (Bo (v3.alloc (.cells #[.string O.k, .slice p4a O.l.length p4c, .int .i64 O.r.s, .slice u4a O.r.l.length u4c, .string O.r.b, .int .i64 O.asked, .int .i64 O.got, .int .i64 O.ep] 28)) v3.heap.size O (.slice p4a O.l.length p4c) (.slice u4a O.r.l.length u4c)) := (show Bo _ _ _ _ _ from Bo.of (ObB.new v3 O _ _ 28) (hp4.kept bz3) (hu4.kept bz3) HSS.out.1 HSS.out.2.1 HSS.out.2.2 (by omega) (by omega) (by omega))
      have D3 : Hid (Below w.heap.size w (v3.alloc (.cells #[.string O.k, .slice p4a O.l.length p4c, .int .i64 O.r.s, .slice u4a O.r.l.length u4c, .string O.r.b, .int .i64 O.asked, .int .i64 O.got, .int .i64 O.ep] 28))) := (show Below _ _ _ from (D2.out.trans (hb3.mono D2.out.size)).alloc (by have := D2.out.size; have := hb3.size; omega) _)
      clear hp4 hu4 hb3 bz3 E2 D2 hsp2
      have hlk := likeO O (.slice p3a O.l.length p3c) (.slice u3a O.r.l.length u3c) (.slice p4a O.l.length p4c) (.slice u4a O.r.l.length u4c) _ E3.out.fp E3.out.fu F3.out.fp F3.out.fu (by omega) (by omega)
      unfold obV at hlk
      obtain ⟨x0, x1, x2, x3, x4, x5, x6, x7, xf, xh⟩ := E3.out.ob
      obtain ⟨y0, y1, y2, y3, y4, y5, y6, y7, yf, yh⟩ := F3.out.ob
      go_wp2_with fail
      refine hlk.mono ?_
      rintro e v4 ⟨rfl, hb4⟩
      have E4 : Hid (Bo v4 k2 O (.slice p3a O.l.length p3c) (.slice u3a O.r.l.length u3c)) := (show Bo _ _ _ _ _ from E3.out.kept hb4)
      have D4 : Hid (Below w.heap.size w v4) := (show Below _ _ _ from D3.out.trans (hb4.mono D3.out.size))
      clear x0 x1 x2 x3 x4 x5 x6 x7 xf xh y0 y1 y2 y3 y4 y5 y6 y7 yf yh E3 F3 D3 hb4 hlk
      rcases HN.out with ⟨hR0, hn0, hb0⟩ | ⟨o2, hR1, hO1, hn1, hb1⟩
      · subst hn0 hb0
        clear HN HOK HSS dN dB E4
        go_wp2_with fail
        go_quiet (fail)
        go_wp2
        go_ret
        exact ⟨rfl, D4.out.trans ((drewN_belowS v4 _).mono D4.out.size)⟩
      · subst hO1 hn1 hb1
        obtain ⟨hok, hpre⟩ := HOK.out _ hR1
        have hS2 : shwO O = txtL (shoL O) := by unfold shwO; rw [if_pos hok]
        have hpp := (pre_iffG (r := txtL (shoL O)) (d := t)).1 (by rw [txt_lstG]; exact hpre)
        rw [txt_sizG] at hpp
        obtain ⟨hle, hex⟩ := hpp
        have g1 : ∀ dd os, Calls Tryz.prog 8 #[.agg #[.string O.k, .slice p3a O.l.length p3c, .int .i64 O.r.s, .slice u3a O.r.l.length u3c, .string O.r.b, .int .i64 O.asked, .int .i64 O.got, .int .i64 O.ep]] (grow (redrawn v4 dd) os) fun e w'' => e = .returned (.string (txtL (shoL O))) ∧ ∃ p : Regrown, w'' = grow (redrawn v4 p.d) p.os := fun dd os => by
          have := hsho O (.slice p3a O.l.length p3c) (.slice u3a O.r.l.length u3c) (grow (redrawn v4 dd) os) (E4.out.inn.kept (below_regrown v4 dd os)) (XX.out _ (D4.out.trans ((below_regrown v4 dd os).mono D4.out.size))).2
          rw [hS2] at this
          exact Calls.regrown_of this
        have q0 := cell_regrown E4.out.ob.c0
        have q1 := cell_regrown E4.out.ob.c1
        have q2 := cell_regrown E4.out.ob.c2
        have q3 := cell_regrown E4.out.ob.c3
        have q4 := cell_regrown E4.out.ob.c4
        have q5 := cell_regrown E4.out.ob.c5
        have q6 := cell_regrown E4.out.ob.c6
        have q7 := cell_regrown E4.out.ob.c7
        have hlz := sho_len hok
        have hlp : 0 < (shoL O).length := sho_pos
        have dE : ((txtL (shoL O)).toList == (t.extract 0 (shoL O).length).toList) = true := by rw [hex]; simp
        generalize txtL (shoL O) = S2 at g1 dE
        have hle2 : (((shoL O).length : Nat) : Int) ≤ (t.size : Int) := by omega
        generalize (shoL O).length = m2 at hle hle2 hlz hlp dE ⊢
        clear hS2 hex hok hpre HOK HSS HN dN dB hR1
        have HD4 : Hid (Below w.heap.size w v4) := D4.out
        clear D4
        go_wp2_with fail
        refine wp_region_quiet_below (by kernel_rfl) (by kernel_rfl) ?_
        repeat (go_big_quiet_step (first | (with_reducible exact g1 _ _)))
        refine wpQuiet_nil ?_
        intro _ hw'
        obtain ⟨⟨dq3, osq3⟩, hw''⟩ := hw'
        subst hw''
        have B5 : Hid (Below w.heap.size w (grow (redrawn v4 dq3) osq3)) := (show Below _ _ _ from HD4.out.trans ((below_regrown v4 dq3 osq3).mono HD4.out.size))
        clear q0 q1 q2 q3 q4 q5 q6 q7 g1 E4 HD4
        go_wp2
        go_ret
        exact ⟨rfl, B5.out⟩
end Go.Proofs.YtemmgfnepdgpbaaGreatDoor
namespace Go.Proofs.YtemmgfnepdgpbaaGreatDoor
open Go

theorem gPowTypeS : (Tryz.prog.globals[2]?).map (·.type) = some 175 := by kernel_rfl
theorem underPAS : Tryz.prog.underlying 175 = some (.array 20 145) := by kernel_rfl
theorem underPUS : Tryz.prog.underlying 145 = some (.int .u64) := by kernel_rfl
theorem cellsPAS : Tryz.prog.cellsOf 175 = 20 := by kernel_rfl
theorem cellsPUS : Tryz.prog.cellsOf 145 = 1 := by kernel_rfl
theorem powS_is : (Rows.laid_internal_strconv_uint64pow10 : DataW Unit) = Lib.tabData .u64 Lib.pow10Tab := rfl
theorem powS_reads {W : World} (h : Lib.VarReads Tryz.prog W "internal/strconv.uint64pow10" Rows.laid_internal_strconv_uint64pow10) : TabS W := by
  obtain ⟨g, t, cs, fuel, p, hg, ht, hv, hd⟩ := h
  obtain rfl := Option.some.inj (gPowS.symm.trans hg)
  obtain rfl := Option.some.inj (gPowTypeS.symm.trans ht)
  rw [powS_is] at hd
  unfold TabS Lib.TabIs
  rw [hv, ← Lib.cells_of_tab underPAS underPUS cellsPUS cellsPAS hd]
end Go.Proofs.YtemmgfnepdgpbaaGreatDoor
