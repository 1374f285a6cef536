/-
  Rows of fields that fit; objects that came in, later on.
  The walks of the exact laws of policy at one response or one object, given what the program's own function answers.
  The contract of the program's Get.
  The program's methodOk, targetOk, statusOk, isBodiless, Framing, isUnframed, RequestOk and ResponseOk by their contracts.
-/
import Derived.Test.YtkaogmdhjcgcdaaDoorD16
import Derived.Deep.RegionWith
import Derived.Test.YtkaogmdhjcgcdaaDoorD11
import Derived.Test.YtkaogmdhjcgcdaaDoorD12
import Derived.Shelf.Strings.IndexAnyAll
import Derived.Test.YtkaogmdhjcgcdaaDoorProg
namespace Go.Proofs.YtkaogmdhjcgcdaaDoor
open Go.RowKit Go.Sort
set_option linter.unusedVariables false

theorem OwnsF.solid10 {w : World} {B : Nat} {v : Value} {l : List Fl} (h : OwnsF w B v l) : Solid v := by
  rcases h.2 with ⟨h0, _⟩ | ⟨g, cap, cur, hv, _⟩
  · rw [h0]; intro n c e; injection e with _ _ e; exact e.symm
  · rw [hv]; intro n c e; injection e with e _ _; cases e
theorem OwnsF.fits10 {w : World} {B : Nat} {v : Value} {l : List Fl} (h : OwnsF w B v l) (h1 : szL l ≤ 1048576) (h2 : l.length ≤ 1048576) : Fits w v l := ⟨h.fls, h1, h2, h.solid10⟩
theorem RsGot.kept10 {w w' : World} {v : Value} {r : Rs} (h : RsGot w v r) (hb : Below w.heap.size w w') : RsGot w' v r := ⟨h.1.kept hb, h.2⟩
theorem ObGot.kept {w w' : World} {v u : Value} {o : Ob} (h : ObGot w v u o) (hb : Below w.heap.size w w') : ObGot w' v u o := ⟨h.1.kept hb, h.2.1, h.2.2.1, h.2.2.2.1.kept10 hb, h.2.2.2.2⟩
/-- The two rows of fields of an object. -/
def TwoF (w : World) (v u : Value) (o : Ob) : Prop := Fls w v o.l ∧ Fls w u o.r.l
theorem TwoF.kept {w w' : World} {v u : Value} {o : Ob} (h : TwoF w v u o) (hb : Below w.heap.size w w') : TwoF w' v u o := ⟨h.1.kept hb, h.2.kept hb⟩
end Go.Proofs.YtkaogmdhjcgcdaaDoor
namespace Go.Proofs.YtkaogmdhjcgcdaaDoor
open Go.RowKit Go.Sort
set_option linter.unusedVariables false

set_option maxHeartbeats 8000000 in
theorem walkObOk (X : World → Prop) (hX : ∀ w w', X w → Below w.heap.size w w' → X w')
    (hi : ∀ (o : Ob) (v u : Value) (w : World), X w → ObIn w v u o → Calls Tryd.prog 8 #[obV o v u] w fun e w' => e = .returned (.bool (obB o)) ∧ Below w.heap.size w w')
    (o : Ob) (v u : Value) (w : World) (h : ObGot w v u o) (hx : X w) :
    Calls Tryd.prog 3 #[obV o v u] w fun e w' => e = .returned (.bool true) ∧ Below w.heap.size w w' := by
  have hfs := h.1
  obtain ⟨va, vc, rfl, hcap⟩ := hfs
  clear hcap
  have hrs := h.2.2.2.1.1
  obtain ⟨ua, uc, rfl, hcap⟩ := hrs
  clear hcap
  have B0' : Below w.heap.size w (w.alloc (.cells #[.string o.k, .slice va o.l.length vc, .int .i64 o.r.s, .slice ua o.r.l.length uc, .string o.r.b, .int .i64 o.asked, .int .i64 o.got, .int .i64 o.ep] 26)) := (Below.refl _ w).alloc (Nat.le_refl _) _
  have hsz := lawSzOb o _ _ _ (h.kept B0')
  have F0 : Hid (TwoF (w.alloc (.cells #[.string o.k, .slice va o.l.length vc, .int .i64 o.r.s, .slice ua o.r.l.length uc, .string o.r.b, .int .i64 o.asked, .int .i64 o.got, .int .i64 o.ep] 26)) (.slice va o.l.length vc) (.slice ua o.r.l.length uc) o) := ⟨h.1.kept B0', h.2.2.2.1.1.kept B0'⟩
  have Q0 : Hid (ObB (w.alloc (.cells #[.string o.k, .slice va o.l.length vc, .int .i64 o.r.s, .slice ua o.r.l.length uc, .string o.r.b, .int .i64 o.asked, .int .i64 o.got, .int .i64 o.ep] 26)) w.heap.size o (.slice va o.l.length vc) (.slice ua o.r.l.length uc)) := ObB.new w o _ _ _
  have B0 : Hid (Below w.heap.size w (w.alloc (.cells #[.string o.k, .slice va o.l.length vc, .int .i64 o.r.s, .slice ua o.r.l.length uc, .string o.r.b, .int .i64 o.asked, .int .i64 o.got, .int .i64 o.ep] 26))) := B0'
  have X0 : Hid (X (w.alloc (.cells #[.string o.k, .slice va o.l.length vc, .int .i64 o.r.s, .slice ua o.r.l.length uc, .string o.r.b, .int .i64 o.asked, .int .i64 o.got, .int .i64 o.ep] 26))) := hX _ _ hx B0'
  have HX : Hid (∀ w w', X w → Below w.heap.size w w' → X w') := hX
  clear h hx B0' hX
  unfold obV at hsz ⊢
  go_enter Tryd.func3, Tryd.ntmps3
  go_wp2_with fail
  refine hsz.mono ?_
  rintro e w1 ⟨⟨x, rfl, hx⟩, hb1⟩
  have Q1 : Hid (ObB w1 w.heap.size o (.slice va o.l.length vc) (.slice ua o.r.l.length uc)) := Q0.out.next hb1
  have B1 : Hid (Below w.heap.size w w1) := past6 B0.out hb1
  have F1 : Hid (TwoF w1 (.slice va o.l.length vc) (.slice ua o.r.l.length uc) o) := F0.out.kept hb1
  have X1 : Hid (X w1) := HX.out _ _ X0.out hb1
  clear Q0 B0 F0 X0 hb1 hsz
  rcases hx with rfl | ⟨hx0, hxs⟩
  · go_wp2
    go_ret
    exact ⟨rfl, B1.out⟩
  · have hxn : ¬ x < 0 := by omega
    have hlen : o.l.length ≤ 1048576 := by omega
    have hszl : szL o.l ≤ 1048576 := by omega
    have hlen2 : o.r.l.length ≤ 1048576 := by omega
    have hszl2 : szL o.r.l ≤ 1048576 := by omega
    have hk : o.k.size ≤ 1048576 := by omega
    have HI : Hid (∀ (W : World) (v u : Value) (B : Nat), OwnsF W B v o.l → OwnsF W B u o.r.l → ObIn W v u o) := fun W v u B h1 h2 => ⟨h1.fits10 hszl hlen, ⟨h2.fits10 hszl2 hlen2, by omega⟩, hk⟩
    have hto : Hid (∀ (W : World), TwoF W (.slice va o.l.length vc) (.slice ua o.r.l.length uc) o → Calls Tryd.prog 7 #[obV o (.slice va o.l.length vc) (.slice ua o.r.l.length uc)] W fun e w' => ∃ v2 u2, e = .returned (obV o v2 u2) ∧ OwnsF w' W.heap.size v2 o.l ∧ OwnsF w' W.heap.size u2 o.r.l ∧ (∀ g, v2.ownBlock = some g → u2.ownBlock ≠ some g) ∧ Below W.heap.size W w') := fun W F => lawToOb o _ _ W F.1 F.2 hlen hlen2
    have hsp : Hid (∀ (W : World) (v u : Value), ObIn W v u o → Calls Tryd.prog 6 #[obV o v u] W fun e w' => e = .returned (.bool (obB o)) ∧ Below W.heap.size W w') := fun W v u F => specObOk o v u W F
    have him : Hid (∀ (W : World) (v u : Value), X W → ObIn W v u o → Calls Tryd.prog 8 #[obV o v u] W fun e w' => e = .returned (.bool (obB o)) ∧ Below W.heap.size W w') := fun W v u x F => hi o v u W x F 
    have heq : Hid (∀ (W : World) (v u v' u' : Value), TwoF W v u o → TwoF W v' u' o → Calls Tryd.prog 9 #[obV o v u, obV o v' u'] W fun e w' => e = .returned (.bool true) ∧ Below W.heap.size W w') := fun W v u v' u' F F' => lawEqOb o v v' u u' W F.1 F'.1 F.2 F'.2 hlen hlen2 hk
    generalize obB o = ans at hsp him
    unfold obV at hto hsp him heq
    clear hx0 hxs hi 
    have a0 := Q1.out.c0
    have a1 := Q1.out.c1
    have a2 := Q1.out.c2
    have a3 := Q1.out.c3
    have a4 := Q1.out.c4
    have a5 := Q1.out.c5
    have a6 := Q1.out.c6
    have a7 := Q1.out.c7
    go_wp2_with fail
    refine (hto.out _ F1.out).mono ?_
    rintro e w2 ⟨v2, u2, rfl, ho2, hp2, _, hb2⟩
    have I2' := HI.out _ _ _ _ ho2 hp2
    obtain ⟨A2, c2, rfl, _⟩ := ho2.form
    obtain ⟨E2, d2, rfl, _⟩ := hp2.form
    have I2 : Hid (ObIn w2 (.slice A2 o.l.length c2) (.slice E2 o.r.l.length d2) o) := I2'
    have Q2 : Hid (ObB w2 w.heap.size o (.slice va o.l.length vc) (.slice ua o.r.l.length uc)) := Q1.out.next hb2
    have B2 : Hid (Below w.heap.size w w2) := past6 B1.out hb2
    have F2 : Hid (TwoF w2 (.slice va o.l.length vc) (.slice ua o.r.l.length uc) o) := F1.out.kept hb2
    have X2 : Hid (X w2) := HX.out _ _ X1.out hb2
    clear a0 a1 a2 a3 a4 a5 a6 a7 Q1 B1 F1 X1 hb2 ho2 hp2 I2'
    go_wp2_with fail
    refine (hsp.out _ _ _ I2.out).mono ?_
    rintro e w3 ⟨rfl, hb3⟩
    have Q3 : Hid (ObB w3 w.heap.size o (.slice va o.l.length vc) (.slice ua o.r.l.length uc)) := Q2.out.next hb3
    have B3 : Hid (Below w.heap.size w w3) := past6 B2.out hb3
    have F3 : Hid (TwoF w3 (.slice va o.l.length vc) (.slice ua o.r.l.length uc) o) := F2.out.kept hb3
    have X3 : Hid (X w3) := HX.out _ _ X2.out hb3
    clear Q2 B2 F2 X2 hb3 I2 hsp
    have a0 := Q3.out.c0
    have a1 := Q3.out.c1
    have a2 := Q3.out.c2
    have a3 := Q3.out.c3
    have a4 := Q3.out.c4
    have a5 := Q3.out.c5
    have a6 := Q3.out.c6
    have a7 := Q3.out.c7
    go_wp2_with fail
    refine (hto.out _ F3.out).mono ?_
    rintro e w4 ⟨v4, u4, rfl, ho4, hp4, _, hb4⟩
    have I4' := HI.out _ _ _ _ (ho4.alloc (.cells #[.string o.k, v4, .int .i64 o.r.s, u4, .string o.r.b, .int .i64 o.asked, .int .i64 o.got, .int .i64 o.ep] 33)) (hp4.alloc (.cells #[.string o.k, v4, .int .i64 o.r.s, u4, .string o.r.b, .int .i64 o.asked, .int .i64 o.got, .int .i64 o.ep] 33))
    have G4' : TwoF (w4.alloc (.cells #[.string o.k, v4, .int .i64 o.r.s, u4, .string o.r.b, .int .i64 o.asked, .int .i64 o.got, .int .i64 o.ep] 33)) v4 u4 o := ⟨(ho4.alloc (.cells #[.string o.k, v4, .int .i64 o.r.s, u4, .string o.r.b, .int .i64 o.asked, .int .i64 o.got, .int .i64 o.ep] 33)).fls, (hp4.alloc (.cells #[.string o.k, v4, .int .i64 o.r.s, u4, .string o.r.b, .int .i64 o.asked, .int .i64 o.got, .int .i64 o.ep] 33)).fls⟩
    obtain ⟨A4, c4, rfl, _⟩ := ho4.form
    obtain ⟨E4, d4, rfl, _⟩ := hp4.form
    have I4 : Hid (ObIn (w4.alloc (.cells #[.string o.k, .slice A4 o.l.length c4, .int .i64 o.r.s, .slice E4 o.r.l.length d4, .string o.r.b, .int .i64 o.asked, .int .i64 o.got, .int .i64 o.ep] 33)) (.slice A4 o.l.length c4) (.slice E4 o.r.l.length d4) o) := I4'
    have G4 : Hid (TwoF (w4.alloc (.cells #[.string o.k, .slice A4 o.l.length c4, .int .i64 o.r.s, .slice E4 o.r.l.length d4, .string o.r.b, .int .i64 o.asked, .int .i64 o.got, .int .i64 o.ep] 33)) (.slice A4 o.l.length c4) (.slice E4 o.r.l.length d4) o) := G4'
    have Q4 : Hid (ObB (w4.alloc (.cells #[.string o.k, .slice A4 o.l.length c4, .int .i64 o.r.s, .slice E4 o.r.l.length d4, .string o.r.b, .int .i64 o.asked, .int .i64 o.got, .int .i64 o.ep] 33)) w.heap.size o (.slice va o.l.length vc) (.slice ua o.r.l.length uc)) := (Q3.out.next hb4).alloc _
    have P4 : Hid (ObB (w4.alloc (.cells #[.string o.k, .slice A4 o.l.length c4, .int .i64 o.r.s, .slice E4 o.r.l.length d4, .string o.r.b, .int .i64 o.asked, .int .i64 o.got, .int .i64 o.ep] 33)) w4.heap.size o (.slice A4 o.l.length c4) (.slice E4 o.r.l.length d4)) := ObB.new w4 o _ _ _
    have B4 : Hid (Below w.heap.size w (w4.alloc (.cells #[.string o.k, .slice A4 o.l.length c4, .int .i64 o.r.s, .slice E4 o.r.l.length d4, .string o.r.b, .int .i64 o.asked, .int .i64 o.got, .int .i64 o.ep] 33))) := (past6 B3.out hb4).alloc (past6 B3.out hb4).size _
    have F4 : Hid (TwoF (w4.alloc (.cells #[.string o.k, .slice A4 o.l.length c4, .int .i64 o.r.s, .slice E4 o.r.l.length d4, .string o.r.b, .int .i64 o.asked, .int .i64 o.got, .int .i64 o.ep] 33)) (.slice va o.l.length vc) (.slice ua o.r.l.length uc) o) := (F3.out.kept hb4).kept ((Below.refl _ w4).alloc (Nat.le_refl _) _)
    have X4 : Hid (X (w4.alloc (.cells #[.string o.k, .slice A4 o.l.length c4, .int .i64 o.r.s, .slice E4 o.r.l.length d4, .string o.r.b, .int .i64 o.asked, .int .i64 o.got, .int .i64 o.ep] 33))) := HX.out _ _ (HX.out _ _ X3.out hb4) ((Below.refl _ w4).alloc (Nat.le_refl _) _)
    clear a0 a1 a2 a3 a4 a5 a6 a7 Q3 B3 F3 X3 hb4 ho4 hp4 I4' G4'
    go_wp2_with fail
    refine (him.out _ _ _ X4.out I4.out).mono ?_
    rintro e w5 ⟨rfl, hb5⟩
    have Q5 : Hid (ObB w5 w.heap.size o (.slice va o.l.length vc) (.slice ua o.r.l.length uc)) := Q4.out.next hb5
    have P5 : Hid (ObB w5 w4.heap.size o (.slice A4 o.l.length c4) (.slice E4 o.r.l.length d4)) := P4.out.next hb5
    have B5 : Hid (Below w.heap.size w w5) := past6 B4.out hb5
    have F5' : TwoF w5 (.slice va o.l.length vc) (.slice ua o.r.l.length uc) o := F4.out.kept hb5
    have F5 : Hid (TwoF w5.drew (.slice va o.l.length vc) (.slice ua o.r.l.length uc) o) := F5'
    have G5' : TwoF w5 (.slice A4 o.l.length c4) (.slice E4 o.r.l.length d4) o := G4.out.kept hb5
    have G5 : Hid (TwoF w5.drew (.slice A4 o.l.length c4) (.slice E4 o.r.l.length d4) o) := G5'
    clear Q4 P4 B4 F4 G4 X4 hb5 I4 him F5' G5'
    have a0 := Q5.out.c0
    have a1 := Q5.out.c1
    have a2 := Q5.out.c2
    have a3 := Q5.out.c3
    have a4 := Q5.out.c4
    have a5 := Q5.out.c5
    have a6 := Q5.out.c6
    have a7 := Q5.out.c7
    have p0 := P5.out.c0
    have p1 := P5.out.c1
    have p2 := P5.out.c2
    have p3 := P5.out.c3
    have p4 := P5.out.c4
    have p5 := P5.out.c5
    have p6 := P5.out.c6
    have p7 := P5.out.c7
    go_wp2
    go_region_with (first
      | (go_at_call 7; refine (hto.out _ F5.out).mono ?_; rintro e w6 ⟨v6, u6, rfl, ho6, hp6, _, hb6⟩; have G6' : TwoF w6 v6 u6 o := ⟨ho6.fls, hp6.fls⟩; obtain ⟨A6, c6, rfl, _⟩ := ho6.form; obtain ⟨E6, d6, rfl, _⟩ := hp6.form; have G6 : Hid (TwoF w6 (.slice A6 o.l.length c6) (.slice E6 o.r.l.length d6) o) := G6'; have H6 : Hid (TwoF w6 (.slice A4 o.l.length c4) (.slice E4 o.r.l.length d4) o) := G5.out.kept hb6; have hb6' : Below w5.heap.size w5 w6 := ⟨hb6.os, hb6.tape, hb6.output, hb6.size, hb6.block⟩; have B6 : Hid (Below w.heap.size w w6) := past6 B5.out hb6'; have P6 : Hid (ObB w6 w4.heap.size o (.slice A4 o.l.length c4) (.slice E4 o.r.l.length d4)) := P5.out.next hb6'; have q0 := P6.out.c0; have q1 := P6.out.c1; have q2 := P6.out.c2; have q3 := P6.out.c3; have q4 := P6.out.c4; have q5 := P6.out.c5; have q6 := P6.out.c6; have q7 := P6.out.c7; clear hb6 hb6' ho6 hp6 G6')
      | (go_at_call 9; refine (heq.out _ _ _ _ _ H6.out G6.out).mono ?_; rintro e w7 ⟨rfl, hb7⟩))
    all_goals
      go_wp2
      go_ret
      exact ⟨rfl, past6 B6.out hb7⟩
end Go.Proofs.YtkaogmdhjcgcdaaDoor
namespace Go.Proofs.YtkaogmdhjcgcdaaDoor
open Go.RowKit Go.Sort

theorem data_app (a b : ByteArray) : (a ++ b).data.toList = a.data.toList ++ b.data.toList := by rw [ByteArray.data_append, Array.toList_append]
theorem text_of (x : ByteArray) : (⟨x.data.toList.toArray⟩ : ByteArray) = x := by cases x; simp
theorem len_of (x : ByteArray) : x.data.toList.length = x.size := by simp

set_option maxHeartbeats 1000000 in
theorem implGet (v : Value) (l : List Fl) (n : ByteArray) (w : World) (h : Fls w v l) (hz : szL l ≤ 1048576) (hn : n.size ≤ 1048576) :
    Calls Tryd.prog 68 #[v, .string n] w fun e w' => e = .returned (getE (getA l n)) ∧ Below w.heap.size w w' := by
  have hh := h
  obtain ⟨a, cap, rfl, h1, h2, h3⟩ := hh
  unfold maxLen at h2
  have hnm : n.size ≤ maxLen := by unfold maxLen; omega
  cases hok : fldsOk l with
  | false =>
    have HN : Hid ((⟨#[]⟩, false) = getA l n) := getA_no n hok
    go_enter Tryd.func68, Tryd.ntmps68
    go_wp2_with (go_at_call 26; refine (implOk _ l _ h hz).mono ?_; rw [hok]; rintro e w1 ⟨rfl, hb1⟩)
    go_ret2
    exact ⟨ret_get HN.out, hb1⟩
  | true =>
    obtain ⟨hl, hfs⟩ := fldsOk_parts hok
    have HG : Hid (getF l n = getA l n) := getA_yes n hok
    go_enter Tryd.func68, Tryd.ntmps68
    go_wp2_with (first | (go_at_call 26; refine (implOk _ l _ h hz).mono ?_; rw [hok]; rintro e w1 ⟨rfl, hb1⟩) | (go_at_call 63; refine (implLow _ _ hnm).mono ?_; rintro e w2 ⟨rfl, hb2⟩))
    have hb02 := hb1.trans (hb2.mono hb1.size)
    clear hb1 hb2
    go_loopw [7, 8, 18] (fun s b i wr => ∃ (k : Nat) (x : ByteArray) (fd : Bool), k ≤ l.length ∧ i = .int .i64 k ∧ b = .bool fd ∧ x.size ≤ 402 * k ∧ OwnsB wr w.heap.size s x.data.toList ∧ Hid (getF (l.take k) n = (x, fd)) ∧ Below w.heap.size w wr) (fun _ _ i _ => l.length - (intOf i).toNat)
    case atStart => exact ⟨0, ⟨#[]⟩, false, Nat.zero_le _, rfl, rfl, Nat.le_refl _, OwnsB.nil _ _, rfl, hb02⟩
    case round =>
      clear hb02
      obtain ⟨k, x, fd, hk, rfl, rfl, hxs, hown, hget, hb⟩ := hrel
      have hxl := len_of x
      by_cases hlt : k < l.length
      · obtain ⟨g, o, rfl, hg, hc⟩ := h3 (by omega)
        have c1 := (hb.cell (p := ⟨g, o + k * 2, none⟩) hg).trans (hc k hlt).1
        have c2 := (hb.cell (p := ⟨g, o + k * 2 + 1, none⟩) hg).trans (hc k hlt).2
        have hsz := fldOk_size (hfs l[k] (List.getElem_mem hlt))
        have hnx := getF_next n hlt
        rw [hget.out] at hnx
        generalize l[k] = f at c1 c2 hsz hnx
        have z1 : f.1.size ≤ maxLen := by unfold maxLen; omega
        have d1 := box1 wr f 56
        have bl := box_lt wr (.cells #[.string f.1, .string f.2] 56)
        have hba := hb.alloc hb.size (.cells #[.string f.1, .string f.2] 56)
        have hoa := hown.alloc (.cells #[.string f.1, .string f.2] 56)
        have hun := OwnsB.under hown
        clear hc h3 hfs h
        by_cases he : lowS f.1 = lowS n
        · have hq := same_yes he
          cases fd with
          | false =>
            rw [gStep_first he] at hnx
            have HN : Hid (getF (l.take (k + 1)) n = (x ++ f.2, true)) := hnx
            clear hnx he
            go_wp2_with (first
              | (go_at_call 63; refine (implLow _ _ z1).mono ?_; rintro e w1 ⟨rfl, hb1⟩; have e1 := (hb1.cell (p := ⟨wr.heap.size, 1, none⟩) bl).trans d1; have ho1 := hoa.kept hb1; have hb01 := hba.trans (hb1.mono hba.size))
              | (at_builtin; refine wpList_pushStr _ rfl _ _ rfl w.heap.size _ _ _ rfl ho1 rfl (by omega) hb01.size ?_; intro v2 w2 ho2 hg2))
            have hb02 := hb01.grown hg2 hb01.size (OwnsB.from ho1)
            rw [← data_app] at ho2
            clear hown hoa ho1 hb hb1 hba hb01 hg2 c1 c2 d1 e1
            go_roundw
            case rel => exact ⟨k + 1, _, true, by omega, by go_num, rfl, by rw [ByteArray.size_append]; omega, ho2, HN, hb02⟩
            case measure => simp [intOf]; omega
          | true =>
            rw [gStep_more he] at hnx
            have HN : Hid (getF (l.take (k + 1)) n = (x ++ ⟨#[44, 32]⟩ ++ f.2, true)) := hnx
            have zz : (x ++ (⟨#[44, 32]⟩ : ByteArray)).size = x.size + 2 := by rw [ByteArray.size_append]; rfl
            clear hnx he
            go_wp2_with (first
              | (go_at_call 63; refine (implLow _ _ z1).mono ?_; rintro e w1 ⟨rfl, hb1⟩; have e1 := (hb1.cell (p := ⟨wr.heap.size, 1, none⟩) bl).trans d1; have ho1 := hoa.kept hb1; have hb01 := hba.trans (hb1.mono hba.size))
              | (at_builtin; refine wpList_pushStr _ rfl _ _ rfl w.heap.size _ _ _ rfl ho1 rfl (by show _ + 2 ≤ _; omega) hb01.size ?_; intro v2 w2 ho2 hg2; have e2 := grown_cell hg2 e1 (Nat.lt_of_lt_of_le bl hb1.size) (fun j hj => Nat.ne_of_lt (hun j hj)); have hb02 := hb01.grown hg2 hb01.size (OwnsB.from ho1); rw [← data_app] at ho2)
              | (at_builtin; refine wpList_pushStr _ rfl _ _ rfl w.heap.size _ _ _ rfl ho2 rfl (by rw [len_of, zz]; omega) hb02.size ?_; intro v3 w3 ho3 hg3))
            have hb03 := hb02.grown hg3 hb02.size (OwnsB.from ho2)
            rw [← data_app] at ho3
            clear hown hoa ho1 ho2 hb hb1 hba hb01 hb02 hg2 hg3 c1 c2 d1 e1 e2
            go_roundw
            case rel => exact ⟨k + 1, _, true, by omega, by go_num, rfl, by rw [ByteArray.size_append, zz]; omega, ho3, HN, hb03⟩
            case measure => simp [intOf]; omega
        · have hq := same_no he
          rw [gStep_no he] at hnx
          have HN : Hid (getF (l.take (k + 1)) n = (x, fd)) := hnx
          clear hnx he
          go_wp2_with (go_at_call 63; refine (implLow _ _ z1).mono ?_; rintro e w1 ⟨rfl, hb1⟩; have ho1 := hoa.kept hb1; have hb01 := hba.trans (hb1.mono hba.size))
          clear hown hoa hb hb1 hba c1 c2 d1
          go_roundw
          case rel => exact ⟨k + 1, _, fd, by omega, by go_num, rfl, by omega, ho1, HN, hb01⟩
          case measure => simp [intOf]; omega
      · have HN : Hid ((x, fd) = getA l n) := by rw [← HG.out, ← getF_end n hlt]; exact hget.out.symm
        have ht := hown.text
        rw [text_of] at ht
        go_wp2
        go_ret2
        exact ⟨ret_get HN.out, hb⟩
end Go.Proofs.YtkaogmdhjcgcdaaDoor
namespace Go.Proofs.YtkaogmdhjcgcdaaDoor
open Go.RowKit
theorem implSta (x : Int) (w : World) :
    Calls Tryd.prog 44 #[.int .i64 x] w fun e w' => e = .returned (.bool (decide (200 ≤ x ∧ x ≤ 599))) ∧ w = w' := by
  obtain ⟨b, hb⟩ : ∃ b, decide (200 ≤ x ∧ x ≤ 599) = b := ⟨_, rfl⟩
  rw [hb]
  by_cases h1 : 200 ≤ x
  · have H0 : Hid (decide (x ≤ 599) = b) := by show decide (x ≤ 599) = b; rw [← hb]; simp [h1]
    have d1 : decide (200 ≤ x) = true := by simpa using h1
    clear hb
    go_enter Tryd.func44, Tryd.ntmps44
    go_wp2
    go_ret
    exact ⟨ret_bool H0.out, rfl⟩
  · have H0 : Hid (false = b) := by show false = b; rw [← hb]; simp [h1]
    have d1 : decide (200 ≤ x) = false := by simpa using h1
    clear hb
    go_enter Tryd.func44, Tryd.ntmps44
    go_wp2
    go_ret
    exact ⟨ret_bool H0.out, rfl⟩
theorem implBare (s : Int) (w : World) :
    Calls Tryd.prog 43 #[.int .i64 s] w fun e w' => e = .returned (.bool (bareB s)) ∧ w = w' := by
  by_cases h1 : s = 204
  · subst h1
    have H0 : Hid (true = bareB 204) := rfl
    go_enter Tryd.func43, Tryd.ntmps43
    go_wp2
    go_ret
    exact ⟨ret_bool H0.out, rfl⟩
  · have d1 : (s == 204) = false := by simp [h1]
    by_cases h2 : s = 304
    · subst h2
      have H0 : Hid (true = bareB 304) := rfl
      go_enter Tryd.func43, Tryd.ntmps43
      go_wp2
      go_ret
      exact ⟨ret_bool H0.out, rfl⟩
    · have d2 : (s == 304) = false := by simp [h2]
      have H0 : Hid (false = bareB s) := by show false = bareB s; unfold bareB; simp [h1, h2]
      go_enter Tryd.func43, Tryd.ntmps43
      go_wp2
      go_ret
      exact ⟨ret_bool H0.out, rfl⟩

/-! ### Where it ends -/
theorem fold_void (n : ByteArray) : ∀ (l : List Fl) (p : ByteArray × Bool), (l.foldl (gStep n) p).2 = false → l.foldl (gStep n) p = p
  | [], _, _ => rfl
  | f :: l, p, h => by
    rw [List.foldl_cons] at h ⊢
    have e := fold_void n l _ h
    rw [e] at h ⊢
    unfold gStep at h ⊢
    split
    · rename_i hh; rw [if_pos hh] at h; cases h
    · rfl
theorem getF_void {l : List Fl} {n : ByteArray} (h : (getF l n).2 = false) : (getF l n).1 = ⟨#[]⟩ := by
  have := fold_void n l _ h
  unfold getF
  rw [this]
theorem low_void : lowS ⟨#[]⟩ = ⟨#[]⟩ := rfl
theorem void_ch : ¬ lowS ⟨#[]⟩ = chS := by rw [low_void]; intro e; have := congrArg ByteArray.size e; revert this; decide
theorem num_void : numOk 10 15 ⟨#[]⟩ = false := by decide +kernel
set_option maxHeartbeats 1000000 in
theorem implFrm (v : Value) (l : List Fl) (w : World) (h : Fits w v l) :
    Calls Tryd.prog 61 #[v] w fun e w' => e = .returned (frmE (frm l)) ∧ Below w.heap.size w w' := by
  have hz := h.2.1
  obtain ⟨a, cap, rfl, hcap⟩ := h.1
  have HF : Hid (Fits w (.slice a l.length cap) l) := h
  clear h hcap
  cases hok : fldsOk l with
  | false =>
    have H0 : Hid ((3, 0) = frm l) := frm_bad hok
    go_enter Tryd.func61, Tryd.ntmps61
    go_wp2_with (go_at_call 26; refine (implOk _ l _ HF.out.1 hz).mono ?_; rw [hok]; rintro e w1 ⟨rfl, hb1⟩)
    go_ret2
    exact ⟨ret_frm H0.out, hb1⟩
  | true =>
    have F0 := @frm_neither l hok
    have F1 := @frm_both l hok
    have F2 := @frm_len l hok
    have F3 := @frm_nolen l hok
    have F4 := @frm_ch l hok
    have F5 := @frm_noch l hok
    have zx := getF_fits clS hok
    have zy := getF_fits teS hok
    have vx : (getF l clS).2 = false → (getF l clS).1 = ⟨#[]⟩ := getF_void
    have vy : (getF l teS).2 = false → (getF l teS).1 = ⟨#[]⟩ := getF_void
    have hg1 : Hid (∀ w, Fits w (.slice a l.length cap) l → Calls Tryd.prog 68 #[.slice a l.length cap, .string clS] w fun e w' => e = .returned (.tuple #[.string (getF l clS).1, .bool (getF l clS).2]) ∧ Below w.heap.size w w') := fun w h => by have := implGet _ l clS w h.1 h.2.1 (by decide); unfold getE at this; rw [← getA_yes clS hok] at this; exact this
    have hg2 : Hid (∀ w, Fits w (.slice a l.length cap) l → Calls Tryd.prog 68 #[.slice a l.length cap, .string teS] w fun e w' => e = .returned (.tuple #[.string (getF l teS).1, .bool (getF l teS).2]) ∧ Below w.heap.size w w') := fun w h => by have := implGet _ l teS w h.1 h.2.1 (by decide); unfold getE at this; rw [← getA_yes teS hok] at this; exact this
    generalize frm l = fr at F0 F1 F2 F3 F4 F5 ⊢
    generalize getF l clS = gx at F0 F1 F2 F3 F4 F5 zx vx hg1
    generalize getF l teS = gy at F0 F1 F2 F3 F4 F5 zy vy hg2
    obtain ⟨x, p⟩ := gx
    obtain ⟨y, q⟩ := gy
    simp only at F0 F1 F2 F3 F4 F5 zx zy vx vy hg1 hg2
    have G0 : Hid _ := F0
    have G1 : Hid _ := F1
    have G2 : Hid _ := F2
    have G3 : Hid _ := F3
    have G4 : Hid _ := F4
    have G5 : Hid _ := F5
    have VX : Hid (p = false → x = ⟨#[]⟩) := vx
    have VY : Hid (q = false → y = ⟨#[]⟩) := vy
    clear F0 F1 F2 F3 F4 F5 vx vy
    unfold clS at hg1
    unfold teS at hg2
    go_enter Tryd.func61, Tryd.ntmps61
    go_wp2_with fail
    refine (implOk _ l _ HF.out.1 hz).mono ?_
    rw [hok]
    rintro e w1 ⟨rfl, hb1⟩
    have HF1 : Hid (Fits w1 (.slice a l.length cap) l) := HF.out.kept hb1
    clear HF
    go_wp2_with fail
    refine (hg1.out _ HF1.out).mono ?_
    rintro e w2 ⟨rfl, hb2'⟩
    have hb2 := past6 hb1 hb2'
    have HF2 : Hid (Fits w2 (.slice a l.length cap) l) := HF1.out.kept hb2'
    clear hb1 hb2' hg1 HF1
    go_wp2_with fail
    refine (hg2.out _ HF2.out).mono ?_
    rintro e w3 ⟨rfl, hb3'⟩
    have hb3 := past6 hb2 hb3'
    clear hb2 hb3' hg2 HF2
    go_wp2_with fail
    refine (implDig x _ (le_max (by omega))).mono ?_
    unfold numE
    rintro e w4 ⟨rfl, hb4'⟩
    have hb4 : Below w.heap.size w w4 := past6 hb3 hb4'
    clear hb3 hb4'
    cases p with
    | false =>
      cases q with
      | false =>
        have H0 : Hid ((0, 0) = fr) := G0.out rfl rfl
        clear G0 G1 G2 G3 G4 G5
        go_wp2
        go_ret2
        exact ⟨ret_frm H0.out, hb4⟩
      | true =>
        have hn0 : numOk 10 15 x = false := by rw [VX.out rfl]; exact num_void
        rw [hn0]
        generalize numV 10 15 x = n0
        clear hn0
        by_cases hc : lowS y = chS
        · have H0 : Hid ((2, 0) = fr) := G4.out rfl rfl hc
          have hq := same_ch (same_yes hc)
          clear G0 G1 G2 G3 G4 G5 hc
          go_wp2_with (go_at_call 63; refine (implLow y _ (le_max (by omega))).mono ?_; rintro e w5 ⟨rfl, hb5⟩)
          go_ret2
          exact ⟨ret_frm H0.out, past6 hb4 hb5⟩
        · have H0 : Hid ((3, 0) = fr) := G5.out rfl rfl hc
          have hq := same_ch (same_no hc)
          clear G0 G1 G2 G3 G4 G5 hc
          go_wp2_with (go_at_call 63; refine (implLow y _ (le_max (by omega))).mono ?_; rintro e w5 ⟨rfl, hb5⟩)
          go_ret2
          exact ⟨ret_frm H0.out, past6 hb4 hb5⟩
    | true =>
      cases q with
      | true =>
        have H0 : Hid ((3, 0) = fr) := G1.out rfl rfl
        clear G0 G1 G2 G3 G4 G5
        go_wp2
        go_ret2
        exact ⟨ret_frm H0.out, hb4⟩
      | false =>
        have g2 := G2.out rfl rfl
        have g3 := G3.out rfl rfl
        have hy : Hid (y = ⟨#[]⟩) := VY.out rfl
        have hq : ((lowS y).toList == [99, 104, 117, 110, 107, 101, 100]) = false := by rw [hy.out]; exact same_ch (same_no void_ch)
        generalize numV 10 15 x = n at g2 g3 ⊢
        generalize numOk 10 15 x = o at g2 g3 ⊢
        clear G0 G1 G2 G3 G4 G5
        cases o with
        | false =>
          have H0 : Hid ((3, 0) = fr) := g3 (by simp)
          clear g2 g3
          go_wp2_with (go_at_call 63; refine (implLow y _ (le_max (by omega))).mono ?_; rintro e w5 ⟨rfl, hb5⟩)
          go_ret2
          exact ⟨ret_frm H0.out, past6 hb4 hb5⟩
        | true =>
          by_cases hn : n ≤ 4000
          · have H0 : Hid ((1, n) = fr) := g2 ⟨rfl, hn⟩
            have d1 : decide (n ≤ 4000) = true := by simpa using hn
            clear g2 g3
            go_wp2
            go_ret2
            exact ⟨ret_frm H0.out, hb4⟩
          · have H0 : Hid ((3, 0) = fr) := g3 (by simp [hn])
            have d1 : decide (n ≤ 4000) = false := by simpa using hn
            clear g2 g3
            go_wp2_with (go_at_call 63; refine (implLow y _ (le_max (by omega))).mono ?_; rintro e w5 ⟨rfl, hb5⟩)
            go_ret2
            exact ⟨ret_frm H0.out, past6 hb4 hb5⟩
theorem own_frm (l : List Fl) : ((frm l).1 == 0) = ownB l := by
  unfold ownB frm
  cases fldsOk l with
  | false => rfl
  | true =>
    rw [if_pos rfl]
    cases (getF l clS).2 with
    | true =>
      rw [if_pos rfl]
      split
      · rfl
      · split <;> rfl
    | false =>
      rw [if_neg (by decide)]
      cases (getF l teS).2 with
      | true => rw [if_pos rfl]; split <;> rfl
      | false => rw [if_neg (by decide)]; rfl
theorem implUnf (v : Value) (l : List Fl) (w : World) (h : Fits w v l) :
    Calls Tryd.prog 45 #[v] w fun e w' => e = .returned (.bool (ownB l)) ∧ Below w.heap.size w w' := by
  have hf := implFrm v l w h
  have H0 : Hid (((frm l).1 == 0) = ownB l) := own_frm l
  obtain ⟨a, cap, rfl, hcap⟩ := h.1
  clear hcap h
  unfold frmE at hf
  generalize frm l = fr at hf H0
  obtain ⟨k, n⟩ := fr
  simp only at hf H0
  go_enter Tryd.func45, Tryd.ntmps45
  go_wp2_with (go_at_call 61; refine hf.mono ?_; rintro e w1 ⟨rfl, hb1⟩)
  go_ret
  exact ⟨ret_bool H0.out, hb1⟩
theorem rsOk_bad {r : Rs} (h4 : bareB r.s = true) (h5 : ¬ r.b.size = 0) : false = rsOk r := by unfold rsOk; rw [h4, decide_eq_false h5]; simp
theorem rsOk_is2 {r : Rs} (h : decide (200 ≤ r.s ∧ r.s ≤ 599) = true) (h2 : ownB r.l = true) (h4 : bareB r.s = false ∨ r.b.size = 0) : decide ((r.b.size : Int) ≤ 4000) = rsOk r := by
  unfold rsOk
  rw [h, h2]
  have e : (!bareB r.s || decide (r.b.size = 0)) = true := by rcases h4 with h4 | h4 <;> simp [h4]
  rw [e]
  by_cases hb : r.b.size ≤ 4000
  · rw [decide_eq_true hb, decide_eq_true (by omega)]; rfl
  · rw [decide_eq_false hb, decide_eq_false (by omega)]; rfl
set_option maxHeartbeats 1000000 in
theorem implRsOk_tail (r : Rs) (v : Value) (w : World) (h : RsIn w v r) (h4 : bareB r.s = false ∨ r.b.size = 0) :
    Calls Tryd.prog 27 #[rsV r v] w fun e w' => e = .returned (.bool (rsOk r)) ∧ Below w.heap.size w w' := by
  obtain ⟨hf, z3⟩ := h
  have hfs := hf.1
  obtain ⟨a, cap, rfl, hcap⟩ := hfs
  clear hcap
  unfold rsV
  have F0 : Hid (Fits (w.alloc (.cells #[.int .i64 r.s, .slice a r.l.length cap, .string r.b] 31)) (.slice a r.l.length cap) r.l) := hf.alloc _
  have Q0 : Hid (RsB (w.alloc (.cells #[.int .i64 r.s, .slice a r.l.length cap, .string r.b] 31)) w.heap.size r (.slice a r.l.length cap)) := RsB.new w r _ _
  have B0 : Hid (Below w.heap.size w (w.alloc (.cells #[.int .i64 r.s, .slice a r.l.length cap, .string r.b] 31))) := (Below.refl _ w).alloc (Nat.le_refl _) _
  clear hf
  have hq1 : r.b.size ≤ 9223372036854775807 := by omega
  have H4 : Hid (bareB r.s = false ∨ r.b.size = 0) := h4
  have hbe : bareB r.s = true → r.b.toList.isEmpty = true := fun hb => by rw [void_emp]; rcases h4 with h4 | h4; · rw [h4] at hb; cases hb
                                                                          · exact decide_eq_true h4
  clear h4
  go_enter Tryd.func27, Tryd.ntmps27
  go_wp2_with fail
  refine (implBare _ _).mono ?_
  rintro e w1 ⟨rfl, rfl⟩
  cases hba : bareB r.s with
  | true =>
    have hb1 := hbe hba
    have hb2 : r.b.toList = [] := by simpa using hb1
    clear hbe
    go_wp2_with fail
    refine (implSta _ _).mono ?_
    rintro e w1 ⟨rfl, rfl⟩
    clear hb1 hb2
    cases h1 : decide (200 ≤ r.s ∧ r.s ≤ 599) with
    | false =>
      have H0 : Hid (false = rsOk r) := rsOk_no1 h1
      go_wp2
      go_ret
      exact ⟨ret_bool H0.out, B0.out⟩
    | true =>
      go_wp2_with fail
      refine (implUnf _ r.l _ F0.out).mono ?_
      rintro e w2 ⟨rfl, hb2⟩
      have Q2 : Hid (RsB w2 w.heap.size r (.slice a r.l.length cap)) := Q0.out.next hb2
      have B2 : Hid (Below w.heap.size w w2) := past6 B0.out hb2
      clear Q0 B0 F0 hb2
      have a2 := Q2.out.c2
      cases h2 : ownB r.l with
      | false =>
        have H0 : Hid (false = rsOk r) := rsOk_no2 h1 h2
        go_wp2
        go_ret
        exact ⟨ret_bool H0.out, B2.out⟩
      | true =>
        have H0 : Hid (decide ((r.b.size : Int) ≤ 4000) = rsOk r) := rsOk_is2 h1 h2 H4.out
        go_wp2
        go_ret
        exact ⟨ret_bool H0.out, B2.out⟩
  | false =>
    clear hbe
    go_wp2_with fail
    refine (implSta _ _).mono ?_
    rintro e w1 ⟨rfl, rfl⟩
    cases h1 : decide (200 ≤ r.s ∧ r.s ≤ 599) with
    | false =>
      have H0 : Hid (false = rsOk r) := rsOk_no1 h1
      go_wp2
      go_ret
      exact ⟨ret_bool H0.out, B0.out⟩
    | true =>
      go_wp2_with fail
      refine (implUnf _ r.l _ F0.out).mono ?_
      rintro e w2 ⟨rfl, hb2⟩
      have Q2 : Hid (RsB w2 w.heap.size r (.slice a r.l.length cap)) := Q0.out.next hb2
      have B2 : Hid (Below w.heap.size w w2) := past6 B0.out hb2
      clear Q0 B0 F0 hb2
      have a2 := Q2.out.c2
      cases h2 : ownB r.l with
      | false =>
        have H0 : Hid (false = rsOk r) := rsOk_no2 h1 h2
        go_wp2
        go_ret
        exact ⟨ret_bool H0.out, B2.out⟩
      | true =>
        have H0 : Hid (decide ((r.b.size : Int) ≤ 4000) = rsOk r) := rsOk_is2 h1 h2 H4.out
        go_wp2
        go_ret
        exact ⟨ret_bool H0.out, B2.out⟩
set_option maxHeartbeats 1000000 in
theorem implRsOk (r : Rs) (v : Value) (w : World) (h : RsIn w v r) :
    Calls Tryd.prog 27 #[rsV r v] w fun e w' => e = .returned (.bool (rsOk r)) ∧ Below w.heap.size w w' := by
  by_cases h4 : bareB r.s = false ∨ r.b.size = 0
  · exact implRsOk_tail r v w h h4
  · have hba : bareB r.s = true := by cases e : bareB r.s with
      | false => exact absurd (.inl e) h4
      | true => rfl
    have hbz : ¬ r.b.size = 0 := fun e => h4 (.inr e)
    have hbe : r.b.toList.isEmpty = false := by rw [void_emp]; exact decide_eq_false hbz
    have hbl : ¬ r.b.toList = [] := by simpa using hbe
    have H0 : Hid (false = rsOk r) := rsOk_bad hba hbz
    obtain ⟨hf, z3⟩ := h
    have hfs := hf.1
    obtain ⟨a, cap, rfl, hcap⟩ := hfs
    clear hcap hf h4 hbz
    unfold rsV
    have Q0 : Hid (RsB (w.alloc (.cells #[.int .i64 r.s, .slice a r.l.length cap, .string r.b] 31)) w.heap.size r (.slice a r.l.length cap)) := RsB.new w r _ _
    have B0 : Hid (Below w.heap.size w (w.alloc (.cells #[.int .i64 r.s, .slice a r.l.length cap, .string r.b] 31))) := (Below.refl _ w).alloc (Nat.le_refl _) _
    go_enter Tryd.func27, Tryd.ntmps27
    go_wp2_with fail
    refine (implBare _ _).mono ?_
    rw [hba]
    rintro e w1 ⟨rfl, rfl⟩
    go_wp2
    go_ret
    exact ⟨ret_bool H0.out, B0.out⟩
end Go.Proofs.YtkaogmdhjcgcdaaDoor
