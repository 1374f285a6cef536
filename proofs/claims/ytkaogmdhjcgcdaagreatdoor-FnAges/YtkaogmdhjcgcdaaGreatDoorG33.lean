/-
  The program's Lifetime, AgeAt and FreshAt by their contracts.
  What the listed table of powers of ten gives to the walks of policy.
  The walks of the exact laws of policy at one response or one object, given what the program's own function answers.
  The walks of the exact laws of policy at one response or one object, given what the program's own function answers.
  Policy as plain data: what gets older, what is served, what is renewed.
  The program's FreshAt and Decided by their contracts.
  Rows and responses in memory: what a store leaves.
-/
import Derived.Test.YtkaogmdhjcgcdaaGreatDoorG32
import Derived.Test.YtkaogmdhjcgcdaaGreatDoorG28
import Derived.Test.YtkaogmdhjcgcdaaGreatDoorG20
import Derived.ProofKit
import Derived.Lib.LaidU8
import Derived.MakeChecks
import Derived.Test.YtkaogmdhjcgcdaaGreatDoorG29
import Derived.Deep.RegionWith
import Derived.Test.YtkaogmdhjcgcdaaGreatDoorG22
import Derived.Lib.QuietBelow
import Derived.BigQuiet
import Derived.Test.YtkaogmdhjcgcdaaGreatDoorG30
import Derived.Laws.Append
namespace Go.Proofs.YtkaogmdhjcgcdaaGreatDoor
open Go.RowKit Go.Sort
set_option linter.unusedVariables false
set_option linter.unusedSimpArgs false

set_option maxRecDepth 100000 in
set_option maxHeartbeats 2000000 in
theorem lifeOfD (o : Ob) (va ua : Option Addr) (vn vc uc : Nat) (en d : Int) (w : World) (h : KIn w (.slice ua o.r.l.length uc) o) (hn : FldMom o.r.l nEX en) (hdb : d ≤ 253402300799) (hk : 0 ≤ d) :
    Calls Tryz.prog 57 #[.iface 119 (.agg #[.string o.k, .slice va vn vc, .int .i64 o.r.s, .slice ua o.r.l.length uc, .string o.r.b, .int .i64 o.asked, .int .i64 o.got, .int .i64 o.ep, .int .i64 d])] w fun e w' => e = .returned (.int .i64 (lifeF (ctlOf o.r.l) en d)) ∧ Below w.heap.size w w' := by
  have g1 := mCtlD o (.slice va vn vc) (.slice ua o.r.l.length uc) d
  have g2 := mExpD o (.slice va vn vc) (.slice ua o.r.l.length uc) d
  have hc := fun W hW => mthCtl o va ua vn vc uc W hW
  have he := fun W hW => mthExp o va ua vn vc uc en W hW hn
  have hs : Hid (0 ≤ en → ∀ W, Calls Tryz.prog 90 #[.iface 119 (.agg #[.string o.k, .slice va vn vc, .int .i64 o.r.s, .slice ua o.r.l.length uc, .string o.r.b, .int .i64 o.asked, .int .i64 o.got, .int .i64 o.ep, .int .i64 d]), .int .i64 en] W fun e w' => e = .returned (.int .i64 (if 0 ≤ d then maxI 0 (en - d) else 0)) ∧ Below W.heap.size W w') := fun h0 W => by
    have := implSince o va ua vn vc uc d en W hdb h0 hn.bd.2
    rw [kV_y _ _ _ _ _ _ hk] at this
    exact this
  have cb := ctB_iff.1 (ctlOf_ok o.r.l)
  have cb1 := (secB_iff.1 cb.1).1
  have cb2 := (secB_iff.1 cb.2.1).1
  generalize ctlOf o.r.l = C at hc cb1 cb2 ⊢
  clear cb
  obtain ⟨ca, cs, ct, cns, cnc, cpr, cmu⟩ := C
  have HL : Hid (lifeF ⟨ca, cs, ct, cns, cnc, cpr, cmu⟩ en d = if 0 ≤ cs then cs else if 0 ≤ ca then ca else if 0 ≤ en ∧ 0 ≤ d then maxI 0 (en - d) else 0) := rfl
  generalize lifeF ⟨ca, cs, ct, cns, cnc, cpr, cmu⟩ en d = L at HL ⊢
  simp only at cb1 cb2
  unfold ctV at hc
  have F0 : Hid (KIn w (.slice ua o.r.l.length uc) o) := h
  clear h hn
  go_enter Tryz.func57, Tryz.ntmps57
  go_wp2_with fail
  refine (hc _ F0.out).mono ?_
  rintro e w1 ⟨rfl, hb1⟩
  have D1 : Hid (CtB (w1.alloc (.cells #[.int .i64 ca, .int .i64 cs, .int .i64 ct, .bool cns, .bool cnc, .bool cpr, .bool cmu] 50)) w1.heap.size ⟨ca, cs, ct, cns, cnc, cpr, cmu⟩) := CtB.born w1 ⟨ca, cs, ct, cns, cnc, cpr, cmu⟩ 50
  have B1 : Hid (Below w.heap.size w (w1.alloc (.cells #[.int .i64 ca, .int .i64 cs, .int .i64 ct, .bool cns, .bool cnc, .bool cpr, .bool cmu] 50))) := hb1.alloc hb1.size _
  have F1 : Hid (KIn (w1.alloc (.cells #[.int .i64 ca, .int .i64 cs, .int .i64 ct, .bool cns, .bool cnc, .bool cpr, .bool cmu] 50)) (.slice ua o.r.l.length uc) o) := F0.out.kept B1.out
  clear hb1 hc F0
  by_cases h1 : 0 ≤ cs
  · have k1 := tld_y h1
    have HR : Hid (cs = L) := by show _ = _; rw [HL.out, if_pos h1]
    clear h1
    go_wp2
    go_ret
    exact ⟨ret_i10 HR.out, B1.out⟩
  have k1 := tld_n cb2 h1
  by_cases h2 : 0 ≤ ca
  · have k2 := tld_y h2
    have HR : Hid (ca = L) := by show _ = _; rw [HL.out, if_neg h1, if_pos h2]
    clear h1 h2
    go_wp2
    go_ret
    exact ⟨ret_i10 HR.out, B1.out⟩
  have k2 := tld_n cb1 h2
  have HR : Hid (L = if 0 ≤ en ∧ 0 ≤ d then maxI 0 (en - d) else 0) := by show _ = _; rw [HL.out, if_neg h1, if_neg h2]
  clear h1 h2 HL cb1 cb2
  go_wp2_with fail
  refine (he _ F1.out).mono ?_
  rintro e w3 ⟨rfl, hb3⟩
  have B3 : Hid (Below w.heap.size w w3) := past6 B1.out hb3
  clear hb3 he F1 B1 D1 k1 k2 g1 g2
  by_cases h3 : 0 ≤ en
  · have HS : Hid ((if 0 ≤ d then maxI 0 (en - d) else 0) = L) := by
      show _ = _
      rw [HR.out]
      by_cases h4 : 0 ≤ d
      · rw [if_pos h4, if_pos ⟨h3, h4⟩]
      · rw [if_neg h4, if_neg (fun x => h4 x.2)]
    have hs2 := hs.out h3
    rw [tolV_y h3]
    generalize (if 0 ≤ d then maxI 0 (en - d) else 0) = M at HS hs2
    clear h3 HR hs hk hdb
    go_wp2_with fail
    refine (hs2 _).mono ?_
    rintro e w4 ⟨rfl, hb4⟩
    have B4 : Hid (Below w.heap.size w w4) := past6 B3.out hb4
    clear hb4 hs2 B3
    go_wp2
    go_ret
    exact ⟨ret_i10 HS.out, B4.out⟩
  · have HS : Hid (0 = L) := by show _ = _; rw [HR.out, if_neg (fun x => h3 x.1)]
    rw [tolV_n h3]
    clear h3 HR hs hk hdb
    go_wp2
    go_ret
    exact ⟨ret_i10 HS.out, B3.out⟩
set_option maxRecDepth 100000 in
set_option maxHeartbeats 2000000 in
theorem lifeOfU (o : Ob) (va ua : Option Addr) (vn vc uc : Nat) (en d : Int) (w : World) (h : KIn w (.slice ua o.r.l.length uc) o) (hn : FldMom o.r.l nEX en) (hdb : d ≤ 253402300799) (hk : ¬ 0 ≤ d) :
    Calls Tryz.prog 57 #[.iface 116 (.agg #[.string o.k, .slice va vn vc, .int .i64 o.r.s, .slice ua o.r.l.length uc, .string o.r.b, .int .i64 o.asked, .int .i64 o.got, .int .i64 o.ep])] w fun e w' => e = .returned (.int .i64 (lifeF (ctlOf o.r.l) en d)) ∧ Below w.heap.size w w' := by
  have g1 := mCtlU o (.slice va vn vc) (.slice ua o.r.l.length uc)
  have g2 := mExpU o (.slice va vn vc) (.slice ua o.r.l.length uc)
  have hc := fun W hW => mthCtl o va ua vn vc uc W hW
  have he := fun W hW => mthExp o va ua vn vc uc en W hW hn
  have hs : Hid (0 ≤ en → ∀ W, Calls Tryz.prog 90 #[.iface 116 (.agg #[.string o.k, .slice va vn vc, .int .i64 o.r.s, .slice ua o.r.l.length uc, .string o.r.b, .int .i64 o.asked, .int .i64 o.got, .int .i64 o.ep]), .int .i64 en] W fun e w' => e = .returned (.int .i64 (if 0 ≤ d then maxI 0 (en - d) else 0)) ∧ Below W.heap.size W w') := fun h0 W => by
    have := implSince o va ua vn vc uc d en W hdb h0 hn.bd.2
    rw [kV_n _ _ _ _ _ _ hk] at this
    exact this
  have cb := ctB_iff.1 (ctlOf_ok o.r.l)
  have cb1 := (secB_iff.1 cb.1).1
  have cb2 := (secB_iff.1 cb.2.1).1
  generalize ctlOf o.r.l = C at hc cb1 cb2 ⊢
  clear cb
  obtain ⟨ca, cs, ct, cns, cnc, cpr, cmu⟩ := C
  have HL : Hid (lifeF ⟨ca, cs, ct, cns, cnc, cpr, cmu⟩ en d = if 0 ≤ cs then cs else if 0 ≤ ca then ca else if 0 ≤ en ∧ 0 ≤ d then maxI 0 (en - d) else 0) := rfl
  generalize lifeF ⟨ca, cs, ct, cns, cnc, cpr, cmu⟩ en d = L at HL ⊢
  simp only at cb1 cb2
  unfold ctV at hc
  have F0 : Hid (KIn w (.slice ua o.r.l.length uc) o) := h
  clear h hn
  go_enter Tryz.func57, Tryz.ntmps57
  go_wp2_with fail
  refine (hc _ F0.out).mono ?_
  rintro e w1 ⟨rfl, hb1⟩
  have D1 : Hid (CtB (w1.alloc (.cells #[.int .i64 ca, .int .i64 cs, .int .i64 ct, .bool cns, .bool cnc, .bool cpr, .bool cmu] 50)) w1.heap.size ⟨ca, cs, ct, cns, cnc, cpr, cmu⟩) := CtB.born w1 ⟨ca, cs, ct, cns, cnc, cpr, cmu⟩ 50
  have B1 : Hid (Below w.heap.size w (w1.alloc (.cells #[.int .i64 ca, .int .i64 cs, .int .i64 ct, .bool cns, .bool cnc, .bool cpr, .bool cmu] 50))) := hb1.alloc hb1.size _
  have F1 : Hid (KIn (w1.alloc (.cells #[.int .i64 ca, .int .i64 cs, .int .i64 ct, .bool cns, .bool cnc, .bool cpr, .bool cmu] 50)) (.slice ua o.r.l.length uc) o) := F0.out.kept B1.out
  clear hb1 hc F0
  by_cases h1 : 0 ≤ cs
  · have k1 := tld_y h1
    have HR : Hid (cs = L) := by show _ = _; rw [HL.out, if_pos h1]
    clear h1
    go_wp2
    go_ret
    exact ⟨ret_i10 HR.out, B1.out⟩
  have k1 := tld_n cb2 h1
  by_cases h2 : 0 ≤ ca
  · have k2 := tld_y h2
    have HR : Hid (ca = L) := by show _ = _; rw [HL.out, if_neg h1, if_pos h2]
    clear h1 h2
    go_wp2
    go_ret
    exact ⟨ret_i10 HR.out, B1.out⟩
  have k2 := tld_n cb1 h2
  have HR : Hid (L = if 0 ≤ en ∧ 0 ≤ d then maxI 0 (en - d) else 0) := by show _ = _; rw [HL.out, if_neg h1, if_neg h2]
  clear h1 h2 HL cb1 cb2
  go_wp2_with fail
  refine (he _ F1.out).mono ?_
  rintro e w3 ⟨rfl, hb3⟩
  have B3 : Hid (Below w.heap.size w w3) := past6 B1.out hb3
  clear hb3 he F1 B1 D1 k1 k2 g1 g2
  by_cases h3 : 0 ≤ en
  · have HS : Hid ((if 0 ≤ d then maxI 0 (en - d) else 0) = L) := by
      show _ = _
      rw [HR.out]
      by_cases h4 : 0 ≤ d
      · rw [if_pos h4, if_pos ⟨h3, h4⟩]
      · rw [if_neg h4, if_neg (fun x => h4 x.2)]
    have hs2 := hs.out h3
    rw [tolV_y h3]
    generalize (if 0 ≤ d then maxI 0 (en - d) else 0) = M at HS hs2
    clear h3 HR hs hk hdb
    go_wp2_with fail
    refine (hs2 _).mono ?_
    rintro e w4 ⟨rfl, hb4⟩
    have B4 : Hid (Below w.heap.size w w4) := past6 B3.out hb4
    clear hb4 hs2 B3
    go_wp2
    go_ret
    exact ⟨ret_i10 HS.out, B4.out⟩
  · have HS : Hid (0 = L) := by show _ = _; rw [HR.out, if_neg (fun x => h3 x.1)]
    rw [tolV_n h3]
    clear h3 HR hs hk hdb
    go_wp2
    go_ret
    exact ⟨ret_i10 HS.out, B3.out⟩
theorem implLifeOf (o : Ob) (va ua : Option Addr) (vn vc uc : Nat) (en d : Int) (w : World) (h : KIn w (.slice ua o.r.l.length uc) o) (hn : FldMom o.r.l nEX en) (hd : FldMom o.r.l nDA d) :
    Calls Tryz.prog 57 #[kV o va ua vn vc uc d] w fun e w' => e = .returned (.int .i64 (lifeF (ctlOf o.r.l) en d)) ∧ Below w.heap.size w w' := by
  by_cases hk : 0 ≤ d
  · rw [kV_y _ _ _ _ _ _ hk]
    exact lifeOfD o va ua vn vc uc en d w h hn hd.bd.2 hk
  · rw [kV_n _ _ _ _ _ _ hk]
    exact lifeOfU o va ua vn vc uc en d w h hn hd.bd.2 hk
set_option maxRecDepth 100000 in
set_option maxHeartbeats 2000000 in
theorem implLife (r : Rs) (u : Value) (en dn : Int) (w : World) (hx : XP w) (h : RsIn w u r) (hn : FldMom r.l nEX en) (hd : FldMom r.l nDA dn) :
    Calls Tryz.prog 17 #[rsV r u] w fun e w' => e = .returned (.int .i64 (lifeV r en dn)) ∧ Below w.heap.size w w' := by
  have HL : Hid (lifeV r en dn = if rsOk r = true then lifeF (ctlOf r.l) en dn else -1) := rfl
  obtain ⟨ua, uc, rfl⟩ := h.1.form
  have j2 := fun W hW => implRsOk r (.slice ua r.l.length uc) W hW
  have jK : Hid (rsOk r = true → ∀ W, XP W → RsIn W (.slice ua r.l.length uc) r → Calls Tryz.prog 47 #[.agg #[.string ⟨#[]⟩, .slice none 0 0, .int .i64 r.s, .slice ua r.l.length uc, .string r.b, .int .i64 0, .int .i64 0, .int .i64 0]] W fun e w' => e = .returned (kV ⟨⟨#[]⟩, [], r, 0, 0, 0⟩ none ua 0 0 uc dn) ∧ Below W.heap.size W w') := fun hk W hX hW => implKept ⟨⟨#[]⟩, [], r, 0, 0, 0⟩ none ua 0 0 uc dn W ⟨hW, rsOk_flds hk, hX⟩ hd
  have jL : Hid (rsOk r = true → ∀ W, XP W → RsIn W (.slice ua r.l.length uc) r → Calls Tryz.prog 57 #[kV ⟨⟨#[]⟩, [], r, 0, 0, 0⟩ none ua 0 0 uc dn] W fun e w' => e = .returned (.int .i64 (lifeF (ctlOf r.l) en dn)) ∧ Below W.heap.size W w') := fun hk W hX hW => implLifeOf ⟨⟨#[]⟩, [], r, 0, 0, 0⟩ none ua 0 0 uc en dn W ⟨hW, rsOk_flds hk, hX⟩ hn hd
  generalize kV ⟨⟨#[]⟩, [], r, 0, 0, 0⟩ none ua 0 0 uc dn = kv at jK jL
  generalize lifeF (ctlOf r.l) en dn = M at HL jL
  generalize lifeV r en dn = L at HL ⊢
  generalize rsOk r = b1 at HL j2 jK jL
  have Q0 : Hid (RsB (w.alloc (.cells #[.int .i64 r.s, .slice ua r.l.length uc, .string r.b] 26)) w.heap.size r (.slice ua r.l.length uc)) := RsB.new w r _ _
  have B0 : Hid (Below w.heap.size w (w.alloc (.cells #[.int .i64 r.s, .slice ua r.l.length uc, .string r.b] 26))) := (Below.refl _ w).alloc (Nat.le_refl _) _
  have I0 : Hid (RsIn (w.alloc (.cells #[.int .i64 r.s, .slice ua r.l.length uc, .string r.b] 26)) (.slice ua r.l.length uc) r) := h.kept B0.out
  have X0 : Hid (XP (w.alloc (.cells #[.int .i64 r.s, .slice ua r.l.length uc, .string r.b] 26))) := hx.kept B0.out
  clear h hx hn hd
  unfold rsV at j2 ⊢
  go_enter Tryz.func17, Tryz.ntmps17
  go_wp2_with fail
  refine (j2 _ I0.out).mono ?_
  rintro e w1 ⟨rfl, hb1⟩
  have Q1 : Hid (RsB w1 w.heap.size r (.slice ua r.l.length uc)) := Q0.out.next hb1
  have B1 : Hid (Below w.heap.size w w1) := past6 B0.out hb1
  have I1 : Hid (RsIn w1 (.slice ua r.l.length uc) r) := I0.out.kept hb1
  have X1 : Hid (XP w1) := X0.out.kept hb1
  clear hb1 Q0 B0 I0 X0 j2
  obtain ⟨y0, y1, y2, yf, yh⟩ := Q1.out
  cases b1 with
  | false =>
    have HR : Hid (-1 = L) := by show _ = _; rw [HL.out]; rfl
    go_wp2
    go_ret
    exact ⟨ret_i10 HR.out, B1.out⟩
  | true =>
    have HR : Hid (M = L) := by show _ = _; rw [HL.out]; rfl
    go_wp2_with fail
    refine (jK.out (by simp) _ X1.out I1.out).mono ?_
    rintro e w2 ⟨rfl, hb2⟩
    have B2 : Hid (Below w.heap.size w w2) := past6 B1.out hb2
    have I2 : Hid (RsIn w2 (.slice ua r.l.length uc) r) := I1.out.kept hb2
    have X2 : Hid (XP w2) := X1.out.kept hb2
    clear hb2 B1 I1 X1 jK y0 y1 y2 yf yh Q1
    go_wp2_with fail
    refine (jL.out (by simp) _ X2.out I2.out).mono ?_
    rintro e w3 ⟨rfl, hb3⟩
    have B3 : Hid (Below w.heap.size w w3) := past6 B2.out hb3
    clear hb3 B2 I2 X2 jL
    go_wp2
    go_ret
    exact ⟨ret_i10 HR.out, B3.out⟩
set_option maxRecDepth 100000 in
set_option maxHeartbeats 2000000 in
theorem ageOfD (o : Ob) (va ua : Option Addr) (vn vc uc : Nat) (now d : Int) (w : World) (h : KIn w (.slice ua o.r.l.length uc) o) (hdb : d ≤ 253402300799) (hk : 0 ≤ d) (a1 : 0 ≤ o.asked) (a2 : o.asked ≤ o.got) (a3 : o.got ≤ now) (a4 : now ≤ 253402300799) :
    Calls Tryz.prog 46 #[.iface 119 (.agg #[.string o.k, .slice va vn vc, .int .i64 o.r.s, .slice ua o.r.l.length uc, .string o.r.b, .int .i64 o.asked, .int .i64 o.got, .int .i64 o.ep, .int .i64 d]), .int .i64 now] w fun e w' => e = .returned (.int .i64 (ageF o (numV 10 15 (getF o.r.l nAG).1) d now)) ∧ Below w.heap.size w w' := by
  have g1 := mGotD o (.slice va vn vc) (.slice ua o.r.l.length uc) d
  have g2 := mAgeD o (.slice va vn vc) (.slice ua o.r.l.length uc) d
  have g3 := mWaiD o (.slice va vn vc) (.slice ua o.r.l.length uc) d
  have hG := fun W => mthGot o va ua vn vc uc W
  have hA := fun W hW => mthAge o va ua vn vc uc W hW
  have hW := fun W => mthWai o va ua vn vc uc W a1 a2 (by omega)
  have hs := fun W => implSince o va ua vn vc uc d o.got W hdb (by omega) (by omega)
  simp only [kV_y _ _ _ _ _ _ hk] at hs
  have lim := numV_lim (getF o.r.l nAG).1
  have HM : Hid (ageF o (numV 10 15 (getF o.r.l nAG).1) d now = min (max (if 0 ≤ d then maxI 0 (o.got - d) else 0) (numV 10 15 (getF o.r.l nAG).1 + (o.got - o.asked)) + now - o.got) 1000000000) := by
    show _ = _
    unfold ageF minI maxI
    repeat' split
    all_goals omega
  have hsb : 0 ≤ (if 0 ≤ d then maxI 0 (o.got - d) else 0) ∧ (if 0 ≤ d then maxI 0 (o.got - d) else 0) ≤ 253402300799 := by
    unfold maxI
    repeat' split
    all_goals omega
  generalize ageF o (numV 10 15 (getF o.r.l nAG).1) d now = R at HM ⊢
  generalize numV 10 15 (getF o.r.l nAG).1 = A at HM hA lim
  generalize (if 0 ≤ d then maxI 0 (o.got - d) else 0) = S at HM hs hsb
  have e1 : IntKind.i64.wrap (A + (o.got - o.asked)) = A + (o.got - o.asked) := by rw [IntKind.wrap_i64]; omega
  have e2 : IntKind.i64.wrap (max S (A + (o.got - o.asked)) + now) = max S (A + (o.got - o.asked)) + now := by rw [IntKind.wrap_i64]; omega
  have e3 : IntKind.i64.wrap (max S (A + (o.got - o.asked)) + now - o.got) = max S (A + (o.got - o.asked)) + now - o.got := by rw [IntKind.wrap_i64]; omega
  have F0 : Hid (KIn w (.slice ua o.r.l.length uc) o) := h
  have LB : Hid ((0 ≤ S ∧ S ≤ 253402300799) ∧ (0 ≤ A ∧ A < 1000000000000000) ∧ 0 ≤ o.asked ∧ o.asked ≤ o.got ∧ o.got ≤ now ∧ now ≤ 253402300799) := ⟨hsb, lim, a1, a2, a3, a4⟩
  clear h hk hdb a1 a2 a3 a4 hsb lim
  go_enter Tryz.func46, Tryz.ntmps46
  go_wp2_with fail
  refine (hG _).mono ?_
  rintro e w1 ⟨rfl, hb1⟩
  have B1 : Hid (Below w.heap.size w w1) := hb1
  clear hb1
  go_wp2_with fail
  refine (hs _).mono ?_
  rintro e w2 ⟨rfl, hb2⟩
  have B2 : Hid (Below w.heap.size w w2) := past6 B1.out hb2
  clear hb2 hs B1
  go_wp2_with fail
  refine (hA _ (F0.out.kept B2.out)).mono ?_
  rintro e w3 ⟨rfl, hb3⟩
  have B3 : Hid (Below w.heap.size w w3) := past6 B2.out hb3
  clear hb3 hA B2 F0
  go_wp2_with fail
  refine (hW _).mono ?_
  rintro e w4 ⟨rfl, hb4⟩
  have B4 : Hid (Below w.heap.size w w4) := past6 B3.out hb4
  clear hb4 hW B3
  go_wp2_with fail
  all_goals
    refine (hG _).mono ?_
    rintro e w5 ⟨rfl, hb5⟩
    have B5 : Hid (Below w.heap.size w w5) := past6 B4.out hb5
    clear hb5
    go_wp2
  all_goals
    go_ret
    exact ⟨ret_i10 (by have := HM.out; have := LB.out; omega), B5.out⟩
set_option maxRecDepth 100000 in
set_option maxHeartbeats 2000000 in
theorem ageOfU (o : Ob) (va ua : Option Addr) (vn vc uc : Nat) (now d : Int) (w : World) (h : KIn w (.slice ua o.r.l.length uc) o) (hdb : d ≤ 253402300799) (hk : ¬ 0 ≤ d) (a1 : 0 ≤ o.asked) (a2 : o.asked ≤ o.got) (a3 : o.got ≤ now) (a4 : now ≤ 253402300799) :
    Calls Tryz.prog 46 #[.iface 116 (.agg #[.string o.k, .slice va vn vc, .int .i64 o.r.s, .slice ua o.r.l.length uc, .string o.r.b, .int .i64 o.asked, .int .i64 o.got, .int .i64 o.ep]), .int .i64 now] w fun e w' => e = .returned (.int .i64 (ageF o (numV 10 15 (getF o.r.l nAG).1) d now)) ∧ Below w.heap.size w w' := by
  have g1 := mGotU o (.slice va vn vc) (.slice ua o.r.l.length uc)
  have g2 := mAgeU o (.slice va vn vc) (.slice ua o.r.l.length uc)
  have g3 := mWaiU o (.slice va vn vc) (.slice ua o.r.l.length uc)
  have hG := fun W => mthGot o va ua vn vc uc W
  have hA := fun W hW => mthAge o va ua vn vc uc W hW
  have hW := fun W => mthWai o va ua vn vc uc W a1 a2 (by omega)
  have hs := fun W => implSince o va ua vn vc uc d o.got W hdb (by omega) (by omega)
  simp only [kV_n _ _ _ _ _ _ hk] at hs
  have lim := numV_lim (getF o.r.l nAG).1
  have HM : Hid (ageF o (numV 10 15 (getF o.r.l nAG).1) d now = min (max (if 0 ≤ d then maxI 0 (o.got - d) else 0) (numV 10 15 (getF o.r.l nAG).1 + (o.got - o.asked)) + now - o.got) 1000000000) := by
    show _ = _
    unfold ageF minI maxI
    repeat' split
    all_goals omega
  have hsb : 0 ≤ (if 0 ≤ d then maxI 0 (o.got - d) else 0) ∧ (if 0 ≤ d then maxI 0 (o.got - d) else 0) ≤ 253402300799 := by
    unfold maxI
    repeat' split
    all_goals omega
  generalize ageF o (numV 10 15 (getF o.r.l nAG).1) d now = R at HM ⊢
  generalize numV 10 15 (getF o.r.l nAG).1 = A at HM hA lim
  generalize (if 0 ≤ d then maxI 0 (o.got - d) else 0) = S at HM hs hsb
  have e1 : IntKind.i64.wrap (A + (o.got - o.asked)) = A + (o.got - o.asked) := by rw [IntKind.wrap_i64]; omega
  have e2 : IntKind.i64.wrap (max S (A + (o.got - o.asked)) + now) = max S (A + (o.got - o.asked)) + now := by rw [IntKind.wrap_i64]; omega
  have e3 : IntKind.i64.wrap (max S (A + (o.got - o.asked)) + now - o.got) = max S (A + (o.got - o.asked)) + now - o.got := by rw [IntKind.wrap_i64]; omega
  have F0 : Hid (KIn w (.slice ua o.r.l.length uc) o) := h
  have LB : Hid ((0 ≤ S ∧ S ≤ 253402300799) ∧ (0 ≤ A ∧ A < 1000000000000000) ∧ 0 ≤ o.asked ∧ o.asked ≤ o.got ∧ o.got ≤ now ∧ now ≤ 253402300799) := ⟨hsb, lim, a1, a2, a3, a4⟩
  clear h hk hdb a1 a2 a3 a4 hsb lim
  go_enter Tryz.func46, Tryz.ntmps46
  go_wp2_with fail
  refine (hG _).mono ?_
  rintro e w1 ⟨rfl, hb1⟩
  have B1 : Hid (Below w.heap.size w w1) := hb1
  clear hb1
  go_wp2_with fail
  refine (hs _).mono ?_
  rintro e w2 ⟨rfl, hb2⟩
  have B2 : Hid (Below w.heap.size w w2) := past6 B1.out hb2
  clear hb2 hs B1
  go_wp2_with fail
  refine (hA _ (F0.out.kept B2.out)).mono ?_
  rintro e w3 ⟨rfl, hb3⟩
  have B3 : Hid (Below w.heap.size w w3) := past6 B2.out hb3
  clear hb3 hA B2 F0
  go_wp2_with fail
  refine (hW _).mono ?_
  rintro e w4 ⟨rfl, hb4⟩
  have B4 : Hid (Below w.heap.size w w4) := past6 B3.out hb4
  clear hb4 hW B3
  go_wp2_with fail
  all_goals
    refine (hG _).mono ?_
    rintro e w5 ⟨rfl, hb5⟩
    have B5 : Hid (Below w.heap.size w w5) := past6 B4.out hb5
    clear hb5
    go_wp2
  all_goals
    go_ret
    exact ⟨ret_i10 (by have := HM.out; have := LB.out; omega), B5.out⟩
theorem implAgeOf (o : Ob) (va ua : Option Addr) (vn vc uc : Nat) (now d : Int) (w : World) (h : KIn w (.slice ua o.r.l.length uc) o) (hd : FldMom o.r.l nDA d) (a1 : 0 ≤ o.asked) (a2 : o.asked ≤ o.got) (a3 : o.got ≤ now) (a4 : now ≤ 253402300799) :
    Calls Tryz.prog 46 #[kV o va ua vn vc uc d, .int .i64 now] w fun e w' => e = .returned (.int .i64 (ageF o (numV 10 15 (getF o.r.l nAG).1) d now)) ∧ Below w.heap.size w w' := by
  by_cases hk : 0 ≤ d
  · rw [kV_y _ _ _ _ _ _ hk]
    exact ageOfD o va ua vn vc uc now d w h hd.bd.2 hk a1 a2 a3 a4
  · rw [kV_n _ _ _ _ _ _ hk]
    exact ageOfU o va ua vn vc uc now d w h hd.bd.2 hk a1 a2 a3 a4
theorem obB_ord {o : Ob} (h : obB o = true) : 0 ≤ o.asked ∧ o.asked ≤ o.got ∧ o.got ≤ 253402300799 := by
  have h1 := h
  unfold obB at h1
  simp only [Bool.and_eq_true, decide_eq_true_eq] at h1
  exact ⟨(momB_iff.1 h1.2.2.2.1).1, h1.2.2.2.2.2.1, (momB_iff.1 h1.2.2.2.2.1).2⟩
theorem obB_kin {o : Ob} (h : obB o = true) : fldsOk o.r.l = true := rsOk_flds (obB_all h).2.2.1
set_option maxRecDepth 100000 in
set_option maxHeartbeats 2000000 in
theorem implAge (o : Ob) (v u : Value) (now dn : Int) (w : World) (hx : XP w) (h : ObIn w v u o) (hd : FldMom o.r.l nDA dn) :
    Calls Tryz.prog 12 #[obV o v u, .int .i64 now] w fun e w' => e = .returned (.int .i64 (ageV o now dn)) ∧ Below w.heap.size w w' := by
  have HA : Hid (ageV o now dn = if obB o = true ∧ momB now = true ∧ o.got ≤ now then ageF o (numV 10 15 (getF o.r.l nAG).1) dn now else -1) := rfl
  have j1 := fun W hW => implObOk o v u W hW
  have j2 := fun W => implMomB now W
  obtain ⟨va, vc, rfl⟩ := h.1.form
  obtain ⟨ua, uc, rfl⟩ := h.2.1.1.form
  have jK : Hid (obB o = true → ∀ W, XP W → ObIn W (.slice va o.l.length vc) (.slice ua o.r.l.length uc) o → Calls Tryz.prog 47 #[.agg #[.string o.k, .slice va o.l.length vc, .int .i64 o.r.s, .slice ua o.r.l.length uc, .string o.r.b, .int .i64 o.asked, .int .i64 o.got, .int .i64 o.ep]] W fun e w' => e = .returned (kV o va ua o.l.length vc uc dn) ∧ Below W.heap.size W w') := fun hk W hX hW => implKept o va ua o.l.length vc uc dn W ⟨hW.2.1, obB_kin hk, hX⟩ hd
  have jA : Hid (obB o = true → momB now = true → o.got ≤ now → ∀ W, XP W → ObIn W (.slice va o.l.length vc) (.slice ua o.r.l.length uc) o → Calls Tryz.prog 46 #[kV o va ua o.l.length vc uc dn, .int .i64 now] W fun e w' => e = .returned (.int .i64 (ageF o (numV 10 15 (getF o.r.l nAG).1) dn now)) ∧ Below W.heap.size W w') := fun hk hm hg W hX hW => implAgeOf o va ua o.l.length vc uc now dn W ⟨hW.2.1, obB_kin hk, hX⟩ hd (obB_ord hk).1 (obB_ord hk).2.1 hg (momB_iff.1 hm).2
  generalize kV o va ua o.l.length vc uc dn = kv at jK jA
  generalize ageF o (numV 10 15 (getF o.r.l nAG).1) dn now = M at HA jA
  generalize ageV o now dn = R at HA ⊢
  generalize obB o = b1 at HA j1 jK jA
  generalize momB now = b2 at HA j2 jA
  have Q0 : Hid (ObB (w.alloc (.cells #[.string o.k, .slice va o.l.length vc, .int .i64 o.r.s, .slice ua o.r.l.length uc, .string o.r.b, .int .i64 o.asked, .int .i64 o.got, .int .i64 o.ep] 28)) w.heap.size o (.slice va o.l.length vc) (.slice ua o.r.l.length uc)) := ObB.new w o _ _ _
  have B0 : Hid (Below w.heap.size w (w.alloc (.cells #[.string o.k, .slice va o.l.length vc, .int .i64 o.r.s, .slice ua o.r.l.length uc, .string o.r.b, .int .i64 o.asked, .int .i64 o.got, .int .i64 o.ep] 28))) := (Below.refl _ w).alloc (Nat.le_refl _) _
  have I0 : Hid (ObIn (w.alloc (.cells #[.string o.k, .slice va o.l.length vc, .int .i64 o.r.s, .slice ua o.r.l.length uc, .string o.r.b, .int .i64 o.asked, .int .i64 o.got, .int .i64 o.ep] 28)) (.slice va o.l.length vc) (.slice ua o.r.l.length uc) o) := h.kept B0.out
  have X0 : Hid (XP (w.alloc (.cells #[.string o.k, .slice va o.l.length vc, .int .i64 o.r.s, .slice ua o.r.l.length uc, .string o.r.b, .int .i64 o.asked, .int .i64 o.got, .int .i64 o.ep] 28))) := hx.kept B0.out
  clear h hx hd
  unfold obV at j1 ⊢
  go_enter Tryz.func12, Tryz.ntmps12
  go_wp2_with fail
  refine (j1 _ I0.out).mono ?_
  rintro e w1 ⟨rfl, hb1⟩
  have Q1 : Hid (ObB w1 w.heap.size o (.slice va o.l.length vc) (.slice ua o.r.l.length uc)) := Q0.out.next hb1
  have B1 : Hid (Below w.heap.size w w1) := past6 B0.out hb1
  have I1 : Hid (ObIn w1 (.slice va o.l.length vc) (.slice ua o.r.l.length uc) o) := I0.out.kept hb1
  have X1 : Hid (XP w1) := X0.out.kept hb1
  clear hb1 Q0 B0 I0 X0
  clear j1
  obtain ⟨q0, q1, q2, q3, q4, q5, q6, q7, qf, qh⟩ := Q1.out
  cases b1 with
  | false =>
    have HR : Hid (-1 = R) := by show _ = _; rw [HA.out]; simp
    go_wp2
    go_ret
    exact ⟨ret_i10 HR.out, B1.out⟩
  | true =>
    go_wp2_with fail
    refine (j2 _).mono ?_
    rintro e w2 ⟨rfl, rfl⟩
    clear j2
    cases b2 with
    | false =>
      have HR : Hid (-1 = R) := by show _ = _; rw [HA.out]; simp
      go_wp2
      go_ret
      exact ⟨ret_i10 HR.out, B1.out⟩
    | true =>
      by_cases hg : o.got ≤ now
      · have HR : Hid (M = R) := by show _ = _; rw [HA.out]; simp [hg]
        have jA2 : Hid _ := jA.out (by simp) (by simp) hg
        clear jA HA
        go_wp2_with fail
        refine (jK.out (by simp) _ X1.out I1.out).mono ?_
        rintro e w3 ⟨rfl, hb3⟩
        have Q3 : Hid (ObB w3 w.heap.size o (.slice va o.l.length vc) (.slice ua o.r.l.length uc)) := Q1.out.next hb3
        have B3 : Hid (Below w.heap.size w w3) := past6 B1.out hb3
        have I3 : Hid (ObIn w3 (.slice va o.l.length vc) (.slice ua o.r.l.length uc) o) := I1.out.kept hb3
        have X3 : Hid (XP w3) := X1.out.kept hb3
        clear hb3 Q1 B1 I1 X1
        clear jK q0 q1 q2 q3 q4 q5 q6 q7 qf qh
        go_wp2_with fail
        refine (jA2.out _ X3.out I3.out).mono ?_
        rintro e w4 ⟨rfl, hb4⟩
        have B4 : Hid (Below w.heap.size w w4) := past6 B3.out hb4
        clear hb4 jA2 B3 I3 X3 Q3
        go_wp2
        go_ret
        exact ⟨ret_i10 HR.out, B4.out⟩
      · have HR : Hid (-1 = R) := by show _ = _; rw [HA.out, if_neg (fun x => hg x.2.2)]
        go_wp2
        go_ret
        exact ⟨ret_i10 HR.out, B1.out⟩
end Go.Proofs.YtkaogmdhjcgcdaaGreatDoor
namespace Go.Proofs.YtkaogmdhjcgcdaaGreatDoor
open Go

theorem gPowTypeT : (Tryz.prog.globals[1]?).map (·.type) = some 205 := by kernel_rfl
theorem underPAT : Tryz.prog.underlying 205 = some (.array 20 196) := by kernel_rfl
theorem underPUT : Tryz.prog.underlying 196 = some (.int .u64) := by kernel_rfl
theorem cellsPAT : Tryz.prog.cellsOf 205 = 20 := by kernel_rfl
theorem cellsPUT : Tryz.prog.cellsOf 196 = 1 := by kernel_rfl
theorem powT_is : (Rows.laid_internal_strconv_uint64pow10 : DataW Unit) = Lib.tabData .u64 Lib.pow10Tab := rfl
theorem powT_reads {W : World} (h : Lib.VarReads Tryz.prog W "internal/strconv.uint64pow10" Rows.laid_internal_strconv_uint64pow10) : Dd.Tab W := by
  obtain ⟨g, t, cs, fuel, p, hg, ht, hv, hd⟩ := h
  obtain rfl := Option.some.inj (Dd.gPow.symm.trans hg)
  obtain rfl := Option.some.inj (gPowTypeT.symm.trans ht)
  rw [powT_is] at hd
  unfold Dd.Tab Lib.TabIs
  rw [hv, ← Lib.cells_of_tab underPAT underPUT cellsPUT cellsPAT hd]
theorem ages_laid {W : World} (h : laidMetH Tryz.prog Rows.fnAgesRow.laid W) : Dd.Tab W := by
  rw [MakeChecks.laidMetH_plain _ _ _ (by kernel_rfl)] at h
  exact powT_reads (Lib.laidMet.reads h (.tail _ (.tail _ (.head _))))
theorem lifetime_laid {W : World} (h : laidMetH Tryz.prog Rows.fnExactLifetimeRow.laid W) : Dd.Tab W := by
  rw [MakeChecks.laidMetH_plain _ _ _ (by kernel_rfl)] at h
  exact powT_reads (Lib.laidMet.reads h (.tail _ (.tail _ (.head _))))
theorem ageAt_laid {W : World} (h : laidMetH Tryz.prog Rows.fnExactAgeAtRow.laid W) : Dd.Tab W := by
  rw [MakeChecks.laidMetH_plain _ _ _ (by kernel_rfl)] at h
  exact powT_reads (Lib.laidMet.reads h (.tail _ (.tail _ (.head _))))
theorem freshAt_laid {W : World} (h : laidMetH Tryz.prog Rows.fnExactFreshAtRow.laid W) : Dd.Tab W := by
  rw [MakeChecks.laidMetH_plain _ _ _ (by kernel_rfl)] at h
  exact powT_reads (Lib.laidMet.reads h (.tail _ (.tail _ (.head _))))
end Go.Proofs.YtkaogmdhjcgcdaaGreatDoor
namespace Go.Proofs.YtkaogmdhjcgcdaaGreatDoor
open Go.RowKit Go.Sort
set_option linter.unusedVariables false

set_option maxHeartbeats 8000000 in
theorem walkAge (X : World → Prop) (hX : ∀ w w', X w → Below w.heap.size w w' → X w')
    (hi : ∀ (o : Ob) (v u : Value) (now en dn : Int) (w : World), X w → ObIn w v u o → FldMom o.r.l nEX en → FldMom o.r.l nDA dn → -9223372036854775808 ≤ now → now ≤ 9223372036854775807 → Calls Tryz.prog 12 #[obV o v u, .int .i64 now] w fun e w' => e = .returned (.int .i64 (ageV o now dn)) ∧ Below w.heap.size w w')
    (o : Ob) (v u : Value) (now : Int) (w : World) (h : ObGot w v u o) (hn0 : -9223372036854775808 ≤ now) (hn1 : now ≤ 9223372036854775807) (hx : X w) :
    Calls Tryz.prog 7 #[obV o v u, .int .i64 now] w fun e w' => e = .returned (.bool true) ∧ Below w.heap.size w w' := by
  obtain ⟨en, he⟩ := FldMom.ex o.r.l nEX
  obtain ⟨dn, hd⟩ := FldMom.ex o.r.l nDA
  have hfs := h.1
  obtain ⟨va, vc, rfl, hcap⟩ := hfs
  clear hcap
  have hrs := h.2.2.2.1.1
  obtain ⟨ua, uc, rfl, hcap⟩ := hrs
  clear hcap
  have B0' : Below w.heap.size w (w.alloc (.cells #[.string o.k, .slice va o.l.length vc, .int .i64 o.r.s, .slice ua o.r.l.length uc, .string o.r.b, .int .i64 o.asked, .int .i64 o.got, .int .i64 o.ep] 64)) := (Below.refl _ w).alloc (Nat.le_refl _) _
  have hsz := lawSzOb o _ _ _ (h.kept B0')
  have F0 : Hid (TwoF (w.alloc (.cells #[.string o.k, .slice va o.l.length vc, .int .i64 o.r.s, .slice ua o.r.l.length uc, .string o.r.b, .int .i64 o.asked, .int .i64 o.got, .int .i64 o.ep] 64)) (.slice va o.l.length vc) (.slice ua o.r.l.length uc) o) := ⟨h.1.kept B0', h.2.2.2.1.1.kept B0'⟩
  have Q0 : Hid (ObB (w.alloc (.cells #[.string o.k, .slice va o.l.length vc, .int .i64 o.r.s, .slice ua o.r.l.length uc, .string o.r.b, .int .i64 o.asked, .int .i64 o.got, .int .i64 o.ep] 64)) w.heap.size o (.slice va o.l.length vc) (.slice ua o.r.l.length uc)) := ObB.new w o _ _ _
  have B0 : Hid (Below w.heap.size w (w.alloc (.cells #[.string o.k, .slice va o.l.length vc, .int .i64 o.r.s, .slice ua o.r.l.length uc, .string o.r.b, .int .i64 o.asked, .int .i64 o.got, .int .i64 o.ep] 64))) := B0'
  have X0 : Hid (X (w.alloc (.cells #[.string o.k, .slice va o.l.length vc, .int .i64 o.r.s, .slice ua o.r.l.length uc, .string o.r.b, .int .i64 o.asked, .int .i64 o.got, .int .i64 o.ep] 64))) := hX _ _ hx B0'
  have HX : Hid (∀ w w', X w → Below w.heap.size w w' → X w') := hX
  clear h hx B0' hX
  unfold obV at hsz ⊢
  go_enter Tryz.func7, Tryz.ntmps7
  go_wp2_with fail
  refine hsz.mono ?_
  rintro e w1 ⟨⟨x, rfl, hx⟩, hb1⟩
  have Q1 : Hid (ObB w1 w.heap.size o (.slice va o.l.length vc) (.slice ua o.r.l.length uc)) := Q0.out.next hb1
  have B1 : Hid (Below w.heap.size w w1) := past6 B0.out hb1
  have F1 : Hid (TwoF w1 (.slice va o.l.length vc) (.slice ua o.r.l.length uc) o) := F0.out.kept hb1
  have X1 : Hid (X w1) := HX.out _ _ X0.out hb1
  clear Q0 B0 F0 X0 hb1 hsz
  rcases hx with rfl | ⟨hx0, hxs⟩
  · go_wp2
    go_ret
    exact ⟨rfl, B1.out⟩
  · have hxn : ¬ x < 0 := by omega
    have hlen : o.l.length ≤ 1048576 := by omega
    have hszl : szL o.l ≤ 1048576 := by omega
    have hlen2 : o.r.l.length ≤ 1048576 := by omega
    have hszl2 : szL o.r.l ≤ 1048576 := by omega
    have hk : o.k.size ≤ 1048576 := by omega
    have HI : Hid (∀ (W : World) (v u : Value) (B : Nat), OwnsF W B v o.l → OwnsF W B u o.r.l → ObIn W v u o) := fun W v u B h1 h2 => ⟨h1.fits10 hszl hlen, ⟨h2.fits10 hszl2 hlen2, by omega⟩, hk⟩
    have hto : Hid (∀ (W : World), TwoF W (.slice va o.l.length vc) (.slice ua o.r.l.length uc) o → Calls Tryz.prog 40 #[obV o (.slice va o.l.length vc) (.slice ua o.r.l.length uc)] W fun e w' => ∃ v2 u2, e = .returned (obV o v2 u2) ∧ OwnsF w' W.heap.size v2 o.l ∧ OwnsF w' W.heap.size u2 o.r.l ∧ (∀ g, v2.ownBlock = some g → u2.ownBlock ≠ some g) ∧ Below W.heap.size W w') := fun W F => lawToOb o _ _ W F.1 F.2 hlen hlen2
    have hsp : Hid (∀ (W : World) (v u : Value), ObIn W v u o → Calls Tryz.prog 14 #[obV o v u, .int .i64 now] W fun e w' => e = .returned (.int .i64 (ageV o now dn)) ∧ Below W.heap.size W w') := fun W v u F => specAge o v u now dn W F hd hn0 hn1
    have him : Hid (∀ (W : World) (v u : Value), X W → ObIn W v u o → Calls Tryz.prog 12 #[obV o v u, .int .i64 now] W fun e w' => e = .returned (.int .i64 (ageV o now dn)) ∧ Below W.heap.size W w') := fun W v u x F => hi o v u now en dn W x F he hd hn0 hn1
    have heq : Hid (∀ (W : World) (v u v' u' : Value), TwoF W v u o → TwoF W v' u' o → Calls Tryz.prog 41 #[obV o v u, obV o v' u'] W fun e w' => e = .returned (.bool true) ∧ Below W.heap.size W w') := fun W v u v' u' F F' => lawEqOb o v v' u u' W F.1 F'.1 F.2 F'.2 hlen hlen2 hk
    generalize ageV o now dn = ans at hsp him
    unfold obV at hto hsp him heq
    clear hx0 hxs hi he hd
    have a0 := Q1.out.c0
    have a1 := Q1.out.c1
    have a2 := Q1.out.c2
    have a3 := Q1.out.c3
    have a4 := Q1.out.c4
    have a5 := Q1.out.c5
    have a6 := Q1.out.c6
    have a7 := Q1.out.c7
    go_wp2_with fail
    refine (hto.out _ F1.out).mono ?_
    rintro e w2 ⟨v2, u2, rfl, ho2, hp2, _, hb2⟩
    have I2' := HI.out _ _ _ _ ho2 hp2
    obtain ⟨A2, c2, rfl, _⟩ := ho2.form
    obtain ⟨E2, d2, rfl, _⟩ := hp2.form
    have I2 : Hid (ObIn w2 (.slice A2 o.l.length c2) (.slice E2 o.r.l.length d2) o) := I2'
    have Q2 : Hid (ObB w2 w.heap.size o (.slice va o.l.length vc) (.slice ua o.r.l.length uc)) := Q1.out.next hb2
    have B2 : Hid (Below w.heap.size w w2) := past6 B1.out hb2
    have F2 : Hid (TwoF w2 (.slice va o.l.length vc) (.slice ua o.r.l.length uc) o) := F1.out.kept hb2
    have X2 : Hid (X w2) := HX.out _ _ X1.out hb2
    clear a0 a1 a2 a3 a4 a5 a6 a7 Q1 B1 F1 X1 hb2 ho2 hp2 I2'
    go_wp2_with fail
    refine (hsp.out _ _ _ I2.out).mono ?_
    rintro e w3 ⟨rfl, hb3⟩
    have Q3 : Hid (ObB w3 w.heap.size o (.slice va o.l.length vc) (.slice ua o.r.l.length uc)) := Q2.out.next hb3
    have B3 : Hid (Below w.heap.size w w3) := past6 B2.out hb3
    have F3 : Hid (TwoF w3 (.slice va o.l.length vc) (.slice ua o.r.l.length uc) o) := F2.out.kept hb3
    have X3 : Hid (X w3) := HX.out _ _ X2.out hb3
    clear Q2 B2 F2 X2 hb3 I2 hsp
    have a0 := Q3.out.c0
    have a1 := Q3.out.c1
    have a2 := Q3.out.c2
    have a3 := Q3.out.c3
    have a4 := Q3.out.c4
    have a5 := Q3.out.c5
    have a6 := Q3.out.c6
    have a7 := Q3.out.c7
    go_wp2_with fail
    refine (hto.out _ F3.out).mono ?_
    rintro e w4 ⟨v4, u4, rfl, ho4, hp4, _, hb4⟩
    have I4' := HI.out _ _ _ _ (ho4.alloc (.cells #[.string o.k, v4, .int .i64 o.r.s, u4, .string o.r.b, .int .i64 o.asked, .int .i64 o.got, .int .i64 o.ep] 28)) (hp4.alloc (.cells #[.string o.k, v4, .int .i64 o.r.s, u4, .string o.r.b, .int .i64 o.asked, .int .i64 o.got, .int .i64 o.ep] 28))
    have G4' : TwoF (w4.alloc (.cells #[.string o.k, v4, .int .i64 o.r.s, u4, .string o.r.b, .int .i64 o.asked, .int .i64 o.got, .int .i64 o.ep] 28)) v4 u4 o := ⟨(ho4.alloc (.cells #[.string o.k, v4, .int .i64 o.r.s, u4, .string o.r.b, .int .i64 o.asked, .int .i64 o.got, .int .i64 o.ep] 28)).fls, (hp4.alloc (.cells #[.string o.k, v4, .int .i64 o.r.s, u4, .string o.r.b, .int .i64 o.asked, .int .i64 o.got, .int .i64 o.ep] 28)).fls⟩
    obtain ⟨A4, c4, rfl, _⟩ := ho4.form
    obtain ⟨E4, d4, rfl, _⟩ := hp4.form
    have I4 : Hid (ObIn (w4.alloc (.cells #[.string o.k, .slice A4 o.l.length c4, .int .i64 o.r.s, .slice E4 o.r.l.length d4, .string o.r.b, .int .i64 o.asked, .int .i64 o.got, .int .i64 o.ep] 28)) (.slice A4 o.l.length c4) (.slice E4 o.r.l.length d4) o) := I4'
    have G4 : Hid (TwoF (w4.alloc (.cells #[.string o.k, .slice A4 o.l.length c4, .int .i64 o.r.s, .slice E4 o.r.l.length d4, .string o.r.b, .int .i64 o.asked, .int .i64 o.got, .int .i64 o.ep] 28)) (.slice A4 o.l.length c4) (.slice E4 o.r.l.length d4) o) := G4'
    have Q4 : Hid (ObB (w4.alloc (.cells #[.string o.k, .slice A4 o.l.length c4, .int .i64 o.r.s, .slice E4 o.r.l.length d4, .string o.r.b, .int .i64 o.asked, .int .i64 o.got, .int .i64 o.ep] 28)) w.heap.size o (.slice va o.l.length vc) (.slice ua o.r.l.length uc)) := (Q3.out.next hb4).alloc _
    have P4 : Hid (ObB (w4.alloc (.cells #[.string o.k, .slice A4 o.l.length c4, .int .i64 o.r.s, .slice E4 o.r.l.length d4, .string o.r.b, .int .i64 o.asked, .int .i64 o.got, .int .i64 o.ep] 28)) w4.heap.size o (.slice A4 o.l.length c4) (.slice E4 o.r.l.length d4)) := ObB.new w4 o _ _ _
    have B4 : Hid (Below w.heap.size w (w4.alloc (.cells #[.string o.k, .slice A4 o.l.length c4, .int .i64 o.r.s, .slice E4 o.r.l.length d4, .string o.r.b, .int .i64 o.asked, .int .i64 o.got, .int .i64 o.ep] 28))) := (past6 B3.out hb4).alloc (past6 B3.out hb4).size _
    have F4 : Hid (TwoF (w4.alloc (.cells #[.string o.k, .slice A4 o.l.length c4, .int .i64 o.r.s, .slice E4 o.r.l.length d4, .string o.r.b, .int .i64 o.asked, .int .i64 o.got, .int .i64 o.ep] 28)) (.slice va o.l.length vc) (.slice ua o.r.l.length uc) o) := (F3.out.kept hb4).kept ((Below.refl _ w4).alloc (Nat.le_refl _) _)
    have X4 : Hid (X (w4.alloc (.cells #[.string o.k, .slice A4 o.l.length c4, .int .i64 o.r.s, .slice E4 o.r.l.length d4, .string o.r.b, .int .i64 o.asked, .int .i64 o.got, .int .i64 o.ep] 28))) := HX.out _ _ (HX.out _ _ X3.out hb4) ((Below.refl _ w4).alloc (Nat.le_refl _) _)
    clear a0 a1 a2 a3 a4 a5 a6 a7 Q3 B3 F3 X3 hb4 ho4 hp4 I4' G4'
    go_wp2_with fail
    refine (him.out _ _ _ X4.out I4.out).mono ?_
    rintro e w5 ⟨rfl, hb5⟩
    have Q5 : Hid (ObB w5 w.heap.size o (.slice va o.l.length vc) (.slice ua o.r.l.length uc)) := Q4.out.next hb5
    have P5 : Hid (ObB w5 w4.heap.size o (.slice A4 o.l.length c4) (.slice E4 o.r.l.length d4)) := P4.out.next hb5
    have B5 : Hid (Below w.heap.size w w5) := past6 B4.out hb5
    have F5' : TwoF w5 (.slice va o.l.length vc) (.slice ua o.r.l.length uc) o := F4.out.kept hb5
    have F5 : Hid (TwoF w5.drew (.slice va o.l.length vc) (.slice ua o.r.l.length uc) o) := F5'
    have G5' : TwoF w5 (.slice A4 o.l.length c4) (.slice E4 o.r.l.length d4) o := G4.out.kept hb5
    have G5 : Hid (TwoF w5.drew (.slice A4 o.l.length c4) (.slice E4 o.r.l.length d4) o) := G5'
    clear Q4 P4 B4 F4 G4 X4 hb5 I4 him F5' G5'
    have a0 := Q5.out.c0
    have a1 := Q5.out.c1
    have a2 := Q5.out.c2
    have a3 := Q5.out.c3
    have a4 := Q5.out.c4
    have a5 := Q5.out.c5
    have a6 := Q5.out.c6
    have a7 := Q5.out.c7
    have p0 := P5.out.c0
    have p1 := P5.out.c1
    have p2 := P5.out.c2
    have p3 := P5.out.c3
    have p4 := P5.out.c4
    have p5 := P5.out.c5
    have p6 := P5.out.c6
    have p7 := P5.out.c7
    go_wp2
    go_region_with (first
      | (go_at_call 40; refine (hto.out _ F5.out).mono ?_; rintro e w6 ⟨v6, u6, rfl, ho6, hp6, _, hb6⟩; have G6' : TwoF w6 v6 u6 o := ⟨ho6.fls, hp6.fls⟩; obtain ⟨A6, c6, rfl, _⟩ := ho6.form; obtain ⟨E6, d6, rfl, _⟩ := hp6.form; have G6 : Hid (TwoF w6 (.slice A6 o.l.length c6) (.slice E6 o.r.l.length d6) o) := G6'; have H6 : Hid (TwoF w6 (.slice A4 o.l.length c4) (.slice E4 o.r.l.length d4) o) := G5.out.kept hb6; have hb6' : Below w5.heap.size w5 w6 := ⟨hb6.os, hb6.tape, hb6.output, hb6.size, hb6.block⟩; have B6 : Hid (Below w.heap.size w w6) := past6 B5.out hb6'; have P6 : Hid (ObB w6 w4.heap.size o (.slice A4 o.l.length c4) (.slice E4 o.r.l.length d4)) := P5.out.next hb6'; have q0 := P6.out.c0; have q1 := P6.out.c1; have q2 := P6.out.c2; have q3 := P6.out.c3; have q4 := P6.out.c4; have q5 := P6.out.c5; have q6 := P6.out.c6; have q7 := P6.out.c7; clear hb6 hb6' ho6 hp6 G6')
      | (go_at_call 41; refine (heq.out _ _ _ _ _ H6.out G6.out).mono ?_; rintro e w7 ⟨rfl, hb7⟩))
    all_goals
      go_wp2
      go_ret
      exact ⟨rfl, past6 B6.out hb7⟩
end Go.Proofs.YtkaogmdhjcgcdaaGreatDoor
namespace Go.Proofs.YtkaogmdhjcgcdaaGreatDoor
open Go.RowKit Go.Sort
set_option linter.unusedVariables false

set_option maxHeartbeats 8000000 in
theorem walkFresh (X : World → Prop) (hX : ∀ w w', X w → Below w.heap.size w w' → X w')
    (hi : ∀ (o : Ob) (v u : Value) (now en dn : Int) (w : World), X w → ObIn w v u o → FldMom o.r.l nEX en → FldMom o.r.l nDA dn → -9223372036854775808 ≤ now → now ≤ 9223372036854775807 → Calls Tryz.prog 15 #[obV o v u, .int .i64 now] w fun e w' => e = .returned (.bool (freshV o now en dn)) ∧ Below w.heap.size w w')
    (o : Ob) (v u : Value) (now : Int) (w : World) (h : ObGot w v u o) (hn0 : -9223372036854775808 ≤ now) (hn1 : now ≤ 9223372036854775807) (hx : X w) :
    Calls Tryz.prog 8 #[obV o v u, .int .i64 now] w fun e w' => e = .returned (.bool true) ∧ Below w.heap.size w w' := by
  obtain ⟨en, he⟩ := FldMom.ex o.r.l nEX
  obtain ⟨dn, hd⟩ := FldMom.ex o.r.l nDA
  have hfs := h.1
  obtain ⟨va, vc, rfl, hcap⟩ := hfs
  clear hcap
  have hrs := h.2.2.2.1.1
  obtain ⟨ua, uc, rfl, hcap⟩ := hrs
  clear hcap
  have B0' : Below w.heap.size w (w.alloc (.cells #[.string o.k, .slice va o.l.length vc, .int .i64 o.r.s, .slice ua o.r.l.length uc, .string o.r.b, .int .i64 o.asked, .int .i64 o.got, .int .i64 o.ep] 64)) := (Below.refl _ w).alloc (Nat.le_refl _) _
  have hsz := lawSzOb o _ _ _ (h.kept B0')
  have F0 : Hid (TwoF (w.alloc (.cells #[.string o.k, .slice va o.l.length vc, .int .i64 o.r.s, .slice ua o.r.l.length uc, .string o.r.b, .int .i64 o.asked, .int .i64 o.got, .int .i64 o.ep] 64)) (.slice va o.l.length vc) (.slice ua o.r.l.length uc) o) := ⟨h.1.kept B0', h.2.2.2.1.1.kept B0'⟩
  have Q0 : Hid (ObB (w.alloc (.cells #[.string o.k, .slice va o.l.length vc, .int .i64 o.r.s, .slice ua o.r.l.length uc, .string o.r.b, .int .i64 o.asked, .int .i64 o.got, .int .i64 o.ep] 64)) w.heap.size o (.slice va o.l.length vc) (.slice ua o.r.l.length uc)) := ObB.new w o _ _ _
  have B0 : Hid (Below w.heap.size w (w.alloc (.cells #[.string o.k, .slice va o.l.length vc, .int .i64 o.r.s, .slice ua o.r.l.length uc, .string o.r.b, .int .i64 o.asked, .int .i64 o.got, .int .i64 o.ep] 64))) := B0'
  have X0 : Hid (X (w.alloc (.cells #[.string o.k, .slice va o.l.length vc, .int .i64 o.r.s, .slice ua o.r.l.length uc, .string o.r.b, .int .i64 o.asked, .int .i64 o.got, .int .i64 o.ep] 64))) := hX _ _ hx B0'
  have HX : Hid (∀ w w', X w → Below w.heap.size w w' → X w') := hX
  clear h hx B0' hX
  unfold obV at hsz ⊢
  go_enter Tryz.func8, Tryz.ntmps8
  go_wp2_with fail
  refine hsz.mono ?_
  rintro e w1 ⟨⟨x, rfl, hx⟩, hb1⟩
  have Q1 : Hid (ObB w1 w.heap.size o (.slice va o.l.length vc) (.slice ua o.r.l.length uc)) := Q0.out.next hb1
  have B1 : Hid (Below w.heap.size w w1) := past6 B0.out hb1
  have F1 : Hid (TwoF w1 (.slice va o.l.length vc) (.slice ua o.r.l.length uc) o) := F0.out.kept hb1
  have X1 : Hid (X w1) := HX.out _ _ X0.out hb1
  clear Q0 B0 F0 X0 hb1 hsz
  rcases hx with rfl | ⟨hx0, hxs⟩
  · go_wp2
    go_ret
    exact ⟨rfl, B1.out⟩
  · have hxn : ¬ x < 0 := by omega
    have hlen : o.l.length ≤ 1048576 := by omega
    have hszl : szL o.l ≤ 1048576 := by omega
    have hlen2 : o.r.l.length ≤ 1048576 := by omega
    have hszl2 : szL o.r.l ≤ 1048576 := by omega
    have hk : o.k.size ≤ 1048576 := by omega
    have HI : Hid (∀ (W : World) (v u : Value) (B : Nat), OwnsF W B v o.l → OwnsF W B u o.r.l → ObIn W v u o) := fun W v u B h1 h2 => ⟨h1.fits10 hszl hlen, ⟨h2.fits10 hszl2 hlen2, by omega⟩, hk⟩
    have hto : Hid (∀ (W : World), TwoF W (.slice va o.l.length vc) (.slice ua o.r.l.length uc) o → Calls Tryz.prog 40 #[obV o (.slice va o.l.length vc) (.slice ua o.r.l.length uc)] W fun e w' => ∃ v2 u2, e = .returned (obV o v2 u2) ∧ OwnsF w' W.heap.size v2 o.l ∧ OwnsF w' W.heap.size u2 o.r.l ∧ (∀ g, v2.ownBlock = some g → u2.ownBlock ≠ some g) ∧ Below W.heap.size W w') := fun W F => lawToOb o _ _ W F.1 F.2 hlen hlen2
    have hsp : Hid (∀ (W : World) (v u : Value), ObIn W v u o → Calls Tryz.prog 16 #[obV o v u, .int .i64 now] W fun e w' => e = .returned (.bool (freshV o now en dn)) ∧ Below W.heap.size W w') := fun W v u F => specFresh o v u now en dn W F he hd hn0 hn1
    have him : Hid (∀ (W : World) (v u : Value), X W → ObIn W v u o → Calls Tryz.prog 15 #[obV o v u, .int .i64 now] W fun e w' => e = .returned (.bool (freshV o now en dn)) ∧ Below W.heap.size W w') := fun W v u x F => hi o v u now en dn W x F he hd hn0 hn1
    have heq : Hid (∀ (W : World) (v u v' u' : Value), TwoF W v u o → TwoF W v' u' o → Calls Tryz.prog 41 #[obV o v u, obV o v' u'] W fun e w' => e = .returned (.bool true) ∧ Below W.heap.size W w') := fun W v u v' u' F F' => lawEqOb o v v' u u' W F.1 F'.1 F.2 F'.2 hlen hlen2 hk
    generalize freshV o now en dn = ans at hsp him
    unfold obV at hto hsp him heq
    clear hx0 hxs hi he hd
    have a0 := Q1.out.c0
    have a1 := Q1.out.c1
    have a2 := Q1.out.c2
    have a3 := Q1.out.c3
    have a4 := Q1.out.c4
    have a5 := Q1.out.c5
    have a6 := Q1.out.c6
    have a7 := Q1.out.c7
    go_wp2_with fail
    refine (hto.out _ F1.out).mono ?_
    rintro e w2 ⟨v2, u2, rfl, ho2, hp2, _, hb2⟩
    have I2' := HI.out _ _ _ _ ho2 hp2
    obtain ⟨A2, c2, rfl, _⟩ := ho2.form
    obtain ⟨E2, d2, rfl, _⟩ := hp2.form
    have I2 : Hid (ObIn w2 (.slice A2 o.l.length c2) (.slice E2 o.r.l.length d2) o) := I2'
    have Q2 : Hid (ObB w2 w.heap.size o (.slice va o.l.length vc) (.slice ua o.r.l.length uc)) := Q1.out.next hb2
    have B2 : Hid (Below w.heap.size w w2) := past6 B1.out hb2
    have F2 : Hid (TwoF w2 (.slice va o.l.length vc) (.slice ua o.r.l.length uc) o) := F1.out.kept hb2
    have X2 : Hid (X w2) := HX.out _ _ X1.out hb2
    clear a0 a1 a2 a3 a4 a5 a6 a7 Q1 B1 F1 X1 hb2 ho2 hp2 I2'
    go_wp2_with fail
    refine (hsp.out _ _ _ I2.out).mono ?_
    rintro e w3 ⟨rfl, hb3⟩
    have Q3 : Hid (ObB w3 w.heap.size o (.slice va o.l.length vc) (.slice ua o.r.l.length uc)) := Q2.out.next hb3
    have B3 : Hid (Below w.heap.size w w3) := past6 B2.out hb3
    have F3 : Hid (TwoF w3 (.slice va o.l.length vc) (.slice ua o.r.l.length uc) o) := F2.out.kept hb3
    have X3 : Hid (X w3) := HX.out _ _ X2.out hb3
    clear Q2 B2 F2 X2 hb3 I2 hsp
    have a0 := Q3.out.c0
    have a1 := Q3.out.c1
    have a2 := Q3.out.c2
    have a3 := Q3.out.c3
    have a4 := Q3.out.c4
    have a5 := Q3.out.c5
    have a6 := Q3.out.c6
    have a7 := Q3.out.c7
    go_wp2_with fail
    refine (hto.out _ F3.out).mono ?_
    rintro e w4 ⟨v4, u4, rfl, ho4, hp4, _, hb4⟩
    have I4' := HI.out _ _ _ _ (ho4.alloc (.cells #[.string o.k, v4, .int .i64 o.r.s, u4, .string o.r.b, .int .i64 o.asked, .int .i64 o.got, .int .i64 o.ep] 28)) (hp4.alloc (.cells #[.string o.k, v4, .int .i64 o.r.s, u4, .string o.r.b, .int .i64 o.asked, .int .i64 o.got, .int .i64 o.ep] 28))
    have G4' : TwoF (w4.alloc (.cells #[.string o.k, v4, .int .i64 o.r.s, u4, .string o.r.b, .int .i64 o.asked, .int .i64 o.got, .int .i64 o.ep] 28)) v4 u4 o := ⟨(ho4.alloc (.cells #[.string o.k, v4, .int .i64 o.r.s, u4, .string o.r.b, .int .i64 o.asked, .int .i64 o.got, .int .i64 o.ep] 28)).fls, (hp4.alloc (.cells #[.string o.k, v4, .int .i64 o.r.s, u4, .string o.r.b, .int .i64 o.asked, .int .i64 o.got, .int .i64 o.ep] 28)).fls⟩
    obtain ⟨A4, c4, rfl, _⟩ := ho4.form
    obtain ⟨E4, d4, rfl, _⟩ := hp4.form
    have I4 : Hid (ObIn (w4.alloc (.cells #[.string o.k, .slice A4 o.l.length c4, .int .i64 o.r.s, .slice E4 o.r.l.length d4, .string o.r.b, .int .i64 o.asked, .int .i64 o.got, .int .i64 o.ep] 28)) (.slice A4 o.l.length c4) (.slice E4 o.r.l.length d4) o) := I4'
    have G4 : Hid (TwoF (w4.alloc (.cells #[.string o.k, .slice A4 o.l.length c4, .int .i64 o.r.s, .slice E4 o.r.l.length d4, .string o.r.b, .int .i64 o.asked, .int .i64 o.got, .int .i64 o.ep] 28)) (.slice A4 o.l.length c4) (.slice E4 o.r.l.length d4) o) := G4'
    have Q4 : Hid (ObB (w4.alloc (.cells #[.string o.k, .slice A4 o.l.length c4, .int .i64 o.r.s, .slice E4 o.r.l.length d4, .string o.r.b, .int .i64 o.asked, .int .i64 o.got, .int .i64 o.ep] 28)) w.heap.size o (.slice va o.l.length vc) (.slice ua o.r.l.length uc)) := (Q3.out.next hb4).alloc _
    have P4 : Hid (ObB (w4.alloc (.cells #[.string o.k, .slice A4 o.l.length c4, .int .i64 o.r.s, .slice E4 o.r.l.length d4, .string o.r.b, .int .i64 o.asked, .int .i64 o.got, .int .i64 o.ep] 28)) w4.heap.size o (.slice A4 o.l.length c4) (.slice E4 o.r.l.length d4)) := ObB.new w4 o _ _ _
    have B4 : Hid (Below w.heap.size w (w4.alloc (.cells #[.string o.k, .slice A4 o.l.length c4, .int .i64 o.r.s, .slice E4 o.r.l.length d4, .string o.r.b, .int .i64 o.asked, .int .i64 o.got, .int .i64 o.ep] 28))) := (past6 B3.out hb4).alloc (past6 B3.out hb4).size _
    have F4 : Hid (TwoF (w4.alloc (.cells #[.string o.k, .slice A4 o.l.length c4, .int .i64 o.r.s, .slice E4 o.r.l.length d4, .string o.r.b, .int .i64 o.asked, .int .i64 o.got, .int .i64 o.ep] 28)) (.slice va o.l.length vc) (.slice ua o.r.l.length uc) o) := (F3.out.kept hb4).kept ((Below.refl _ w4).alloc (Nat.le_refl _) _)
    have X4 : Hid (X (w4.alloc (.cells #[.string o.k, .slice A4 o.l.length c4, .int .i64 o.r.s, .slice E4 o.r.l.length d4, .string o.r.b, .int .i64 o.asked, .int .i64 o.got, .int .i64 o.ep] 28))) := HX.out _ _ (HX.out _ _ X3.out hb4) ((Below.refl _ w4).alloc (Nat.le_refl _) _)
    clear a0 a1 a2 a3 a4 a5 a6 a7 Q3 B3 F3 X3 hb4 ho4 hp4 I4' G4'
    go_wp2_with fail
    refine (him.out _ _ _ X4.out I4.out).mono ?_
    rintro e w5 ⟨rfl, hb5⟩
    have Q5 : Hid (ObB w5 w.heap.size o (.slice va o.l.length vc) (.slice ua o.r.l.length uc)) := Q4.out.next hb5
    have P5 : Hid (ObB w5 w4.heap.size o (.slice A4 o.l.length c4) (.slice E4 o.r.l.length d4)) := P4.out.next hb5
    have B5 : Hid (Below w.heap.size w w5) := past6 B4.out hb5
    have F5' : TwoF w5 (.slice va o.l.length vc) (.slice ua o.r.l.length uc) o := F4.out.kept hb5
    have F5 : Hid (TwoF w5.drew (.slice va o.l.length vc) (.slice ua o.r.l.length uc) o) := F5'
    have G5' : TwoF w5 (.slice A4 o.l.length c4) (.slice E4 o.r.l.length d4) o := G4.out.kept hb5
    have G5 : Hid (TwoF w5.drew (.slice A4 o.l.length c4) (.slice E4 o.r.l.length d4) o) := G5'
    clear Q4 P4 B4 F4 G4 X4 hb5 I4 him F5' G5'
    have a0 := Q5.out.c0
    have a1 := Q5.out.c1
    have a2 := Q5.out.c2
    have a3 := Q5.out.c3
    have a4 := Q5.out.c4
    have a5 := Q5.out.c5
    have a6 := Q5.out.c6
    have a7 := Q5.out.c7
    have p0 := P5.out.c0
    have p1 := P5.out.c1
    have p2 := P5.out.c2
    have p3 := P5.out.c3
    have p4 := P5.out.c4
    have p5 := P5.out.c5
    have p6 := P5.out.c6
    have p7 := P5.out.c7
    go_wp2
    go_region_with (first
      | (go_at_call 40; refine (hto.out _ F5.out).mono ?_; rintro e w6 ⟨v6, u6, rfl, ho6, hp6, _, hb6⟩; have G6' : TwoF w6 v6 u6 o := ⟨ho6.fls, hp6.fls⟩; obtain ⟨A6, c6, rfl, _⟩ := ho6.form; obtain ⟨E6, d6, rfl, _⟩ := hp6.form; have G6 : Hid (TwoF w6 (.slice A6 o.l.length c6) (.slice E6 o.r.l.length d6) o) := G6'; have H6 : Hid (TwoF w6 (.slice A4 o.l.length c4) (.slice E4 o.r.l.length d4) o) := G5.out.kept hb6; have hb6' : Below w5.heap.size w5 w6 := ⟨hb6.os, hb6.tape, hb6.output, hb6.size, hb6.block⟩; have B6 : Hid (Below w.heap.size w w6) := past6 B5.out hb6'; have P6 : Hid (ObB w6 w4.heap.size o (.slice A4 o.l.length c4) (.slice E4 o.r.l.length d4)) := P5.out.next hb6'; have q0 := P6.out.c0; have q1 := P6.out.c1; have q2 := P6.out.c2; have q3 := P6.out.c3; have q4 := P6.out.c4; have q5 := P6.out.c5; have q6 := P6.out.c6; have q7 := P6.out.c7; clear hb6 hb6' ho6 hp6 G6')
      | (go_at_call 41; refine (heq.out _ _ _ _ _ H6.out G6.out).mono ?_; rintro e w7 ⟨rfl, hb7⟩))
    all_goals
      go_wp2
      go_ret
      exact ⟨rfl, past6 B6.out hb7⟩
end Go.Proofs.YtkaogmdhjcgcdaaGreatDoor
namespace Go.Proofs.YtkaogmdhjcgcdaaGreatDoor
open Go.RowKit
set_option linter.unusedVariables false

theorem ageV_bd (o : Ob) (now d : Int) : -1 ≤ ageV o now d := by
  unfold ageV
  split
  · rename_i h
    have h1 := obB_parts h.1
    have h2 := momB_iff.1 h.2.1
    have h3 := numV_lim (getF o.r.l nAG).1
    rw [ageF_is]
    unfold minI maxI apV
    repeat' split
    all_goals (try unfold maxI)
    all_goals (repeat' split)
    all_goals omega
  · omega
theorem ageV_pos {o : Ob} {now d : Int} (h : 0 ≤ ageV o now d) : obB o = true ∧ momB now = true ∧ o.got ≤ now := by
  unfold ageV at h
  split at h
  · assumption
  · omega
/-- One second later. -/
theorem ageV_next {o : Ob} {now d : Int} (h : 0 ≤ ageV o now d) (hm : now < 253402300799) :
    (ageV o (now + 1) d = ageV o now d + 1 ∨ (ageV o now d = 1000000000 ∧ ageV o (now + 1) d = ageV o now d)) ∧ (now - o.got ≤ ageV o now d ∨ 1000000000 < now - o.got) := by
  obtain ⟨h1, h2, h3⟩ := ageV_pos h
  have hp := obB_parts h1
  have hq := momB_iff.1 h2
  have h4 : momB (now + 1) = true := momB_iff.2 (by omega)
  have e1 : ageV o now d = minI 1000000000 (maxI (apV o d) (numV 10 15 (getF o.r.l nAG).1 + o.got - o.asked) + now - o.got) := by
    unfold ageV; rw [if_pos ⟨h1, h2, h3⟩]; exact ageF_is _ _ _ _
  have e2 : ageV o (now + 1) d = minI 1000000000 (maxI (apV o d) (numV 10 15 (getF o.r.l nAG).1 + o.got - o.asked) + (now + 1) - o.got) := by
    unfold ageV; rw [if_pos ⟨h1, h4, by omega⟩]; exact ageF_is _ _ _ _
  have h5 := numV_lim (getF o.r.l nAG).1
  have h6 : 0 ≤ maxI (apV o d) (numV 10 15 (getF o.r.l nAG).1 + o.got - o.asked) := by
    unfold maxI; split <;> omega
  rw [e1, e2]
  generalize maxI (apV o d) (numV 10 15 (getF o.r.l nAG).1 + o.got - o.asked) = x at h6
  unfold minI
  constructor
  · repeat' split
    all_goals omega
  · split <;> omega
theorem freshV_next {o : Ob} {now e d : Int} (h : 0 ≤ ageV o now d) (hm : now < 253402300799) (hf : freshV o (now + 1) e d = true) : freshV o now e d = true := by
  have h1 := (ageV_next h hm).1
  unfold freshV at hf ⊢
  simp only [Bool.and_eq_true, decide_eq_true_eq] at hf ⊢
  exact ⟨h, by omega, hf.2.2⟩
end Go.Proofs.YtkaogmdhjcgcdaaGreatDoor
namespace Go.Proofs.YtkaogmdhjcgcdaaGreatDoor
open Go.RowKit Go.Sort
set_option linter.unusedVariables false
set_option linter.unusedSimpArgs false

set_option maxRecDepth 100000 in
set_option maxHeartbeats 2000000 in
theorem freshOfD (o : Ob) (va ua : Option Addr) (vn vc uc : Nat) (en d age : Int) (w : World) (h : KIn w (.slice ua o.r.l.length uc) o) (hn : FldMom o.r.l nEX en) (hd : FldMom o.r.l nDA d) (hk : 0 ≤ d) :
    Calls Tryz.prog 54 #[.iface 119 (.agg #[.string o.k, .slice va vn vc, .int .i64 o.r.s, .slice ua o.r.l.length uc, .string o.r.b, .int .i64 o.asked, .int .i64 o.got, .int .i64 o.ep, .int .i64 d]), .int .i64 age] w fun e w' => e = .returned (.bool (decide (age < lifeF (ctlOf o.r.l) en d) && !(ctlOf o.r.l).nc)) ∧ Below w.heap.size w w' := by
  have g1 := mCtlD o (.slice va vn vc) (.slice ua o.r.l.length uc) d
  have hc := fun W hW => mthCtl o va ua vn vc uc W hW
  have hl := fun W hW => implLifeOf o va ua vn vc uc en d W hW hn hd
  simp only [kV_y _ _ _ _ _ _ hk] at hl
  generalize lifeF (ctlOf o.r.l) en d = L at hl ⊢
  generalize ctlOf o.r.l = D at hc ⊢
  obtain ⟨da, ds, dt, dns, dnc, dpr, dmu⟩ := D
  simp only
  unfold ctV at hc
  have F0 : Hid (KIn w (.slice ua o.r.l.length uc) o) := h
  have hfd : ∀ W : World, (Instr.field 50 (.agg #[.int .i64 da, .int .i64 ds, .int .i64 dt, .bool dns, .bool dnc, .bool dpr, .bool dmu]) 4).run Tryz.prog W = .ok (.bool dnc) W := fun _ => by kernel_rfl
  clear h hn hd hk
  generalize hR : (decide (age < L) && !dnc) = R
  have HR : Hid ((decide (age < L) && !dnc) = R) := hR
  clear hR
  go_enter Tryz.func54, Tryz.ntmps54
  go_wp2_with fail
  refine (hl _ F0.out).mono ?_
  rintro e w1 ⟨rfl, hb1⟩
  have B1 : Hid (Below w.heap.size w w1) := hb1
  clear hb1 hl
  by_cases ha : age < L
  · have HX : Hid ((!dnc) = R) := by show _ = _; rw [← HR.out, decide_eq_true ha, Bool.true_and]
    go_wp2_with fail
    refine (hc _ (F0.out.kept B1.out)).mono ?_
    rintro e w2 ⟨rfl, hb2⟩
    have B2 : Hid (Below w.heap.size w w2) := past6 B1.out hb2
    clear hb2 hc B1 F0
    go_wp2
    go_ret
    exact ⟨ret_bool HX.out, B2.out⟩
  · have HX : Hid (false = R) := by show _ = _; rw [← HR.out, decide_eq_false ha, Bool.false_and]
    go_wp2
    go_ret
    exact ⟨ret_bool HX.out, B1.out⟩
set_option maxRecDepth 100000 in
set_option maxHeartbeats 2000000 in
theorem freshOfU (o : Ob) (va ua : Option Addr) (vn vc uc : Nat) (en d age : Int) (w : World) (h : KIn w (.slice ua o.r.l.length uc) o) (hn : FldMom o.r.l nEX en) (hd : FldMom o.r.l nDA d) (hk : ¬ 0 ≤ d) :
    Calls Tryz.prog 54 #[.iface 116 (.agg #[.string o.k, .slice va vn vc, .int .i64 o.r.s, .slice ua o.r.l.length uc, .string o.r.b, .int .i64 o.asked, .int .i64 o.got, .int .i64 o.ep]), .int .i64 age] w fun e w' => e = .returned (.bool (decide (age < lifeF (ctlOf o.r.l) en d) && !(ctlOf o.r.l).nc)) ∧ Below w.heap.size w w' := by
  have g1 := mCtlU o (.slice va vn vc) (.slice ua o.r.l.length uc)
  have hc := fun W hW => mthCtl o va ua vn vc uc W hW
  have hl := fun W hW => implLifeOf o va ua vn vc uc en d W hW hn hd
  simp only [kV_n _ _ _ _ _ _ hk] at hl
  generalize lifeF (ctlOf o.r.l) en d = L at hl ⊢
  generalize ctlOf o.r.l = D at hc ⊢
  obtain ⟨da, ds, dt, dns, dnc, dpr, dmu⟩ := D
  simp only
  unfold ctV at hc
  have F0 : Hid (KIn w (.slice ua o.r.l.length uc) o) := h
  have hfd : ∀ W : World, (Instr.field 50 (.agg #[.int .i64 da, .int .i64 ds, .int .i64 dt, .bool dns, .bool dnc, .bool dpr, .bool dmu]) 4).run Tryz.prog W = .ok (.bool dnc) W := fun _ => by kernel_rfl
  clear h hn hd hk
  generalize hR : (decide (age < L) && !dnc) = R
  have HR : Hid ((decide (age < L) && !dnc) = R) := hR
  clear hR
  go_enter Tryz.func54, Tryz.ntmps54
  go_wp2_with fail
  refine (hl _ F0.out).mono ?_
  rintro e w1 ⟨rfl, hb1⟩
  have B1 : Hid (Below w.heap.size w w1) := hb1
  clear hb1 hl
  by_cases ha : age < L
  · have HX : Hid ((!dnc) = R) := by show _ = _; rw [← HR.out, decide_eq_true ha, Bool.true_and]
    go_wp2_with fail
    refine (hc _ (F0.out.kept B1.out)).mono ?_
    rintro e w2 ⟨rfl, hb2⟩
    have B2 : Hid (Below w.heap.size w w2) := past6 B1.out hb2
    clear hb2 hc B1 F0
    go_wp2
    go_ret
    exact ⟨ret_bool HX.out, B2.out⟩
  · have HX : Hid (false = R) := by show _ = _; rw [← HR.out, decide_eq_false ha, Bool.false_and]
    go_wp2
    go_ret
    exact ⟨ret_bool HX.out, B1.out⟩
theorem implFrOf (o : Ob) (va ua : Option Addr) (vn vc uc : Nat) (en d age : Int) (w : World) (h : KIn w (.slice ua o.r.l.length uc) o) (hn : FldMom o.r.l nEX en) (hd : FldMom o.r.l nDA d) :
    Calls Tryz.prog 54 #[kV o va ua vn vc uc d, .int .i64 age] w fun e w' => e = .returned (.bool (decide (age < lifeF (ctlOf o.r.l) en d) && !(ctlOf o.r.l).nc)) ∧ Below w.heap.size w w' := by
  by_cases hk : 0 ≤ d
  · rw [kV_y _ _ _ _ _ _ hk]
    exact freshOfD o va ua vn vc uc en d age w h hn hd hk
  · rw [kV_n _ _ _ _ _ _ hk]
    exact freshOfU o va ua vn vc uc en d age w h hn hd hk
theorem ageV_ok {o : Ob} {now d : Int} (h : 0 ≤ ageV o now d) : obB o = true := by
  unfold ageV at h
  split at h
  · rename_i h0; exact h0.1
  · omega
theorem lifeV_ok {r : Rs} {e d : Int} (h : rsOk r = true) : lifeV r e d = lifeF (ctlOf r.l) e d := by unfold lifeV; rw [if_pos h]
set_option maxRecDepth 100000 in
set_option maxHeartbeats 2000000 in
theorem implFresh (o : Ob) (v u : Value) (now en dn : Int) (w : World) (hx : XP w) (h : ObIn w v u o) (hn : FldMom o.r.l nEX en) (hd : FldMom o.r.l nDA dn) :
    Calls Tryz.prog 15 #[obV o v u, .int .i64 now] w fun e w' => e = .returned (.bool (freshV o now en dn)) ∧ Below w.heap.size w w' := by
  have HF : Hid (freshV o now en dn = (decide (0 ≤ ageV o now dn) && (decide (ageV o now dn < lifeV o.r en dn) && !(ctlOf o.r.l).nc))) := rfl
  have hbd : -1 ≤ ageV o now dn := ageV_bd o now dn
  have HOK : Hid (0 ≤ ageV o now dn → obB o = true) := ageV_ok
  have HLV : Hid (obB o = true → lifeV o.r en dn = lifeF (ctlOf o.r.l) en dn) := fun hk => lifeV_ok (obB_all hk).2.2.1
  have j1 := fun W (hX : XP W) hW => implAge o v u now dn W hX hW hd
  obtain ⟨va, vc, rfl⟩ := h.1.form
  obtain ⟨ua, uc, rfl⟩ := h.2.1.1.form
  have jK : Hid (obB o = true → ∀ W, XP W → ObIn W (.slice va o.l.length vc) (.slice ua o.r.l.length uc) o → Calls Tryz.prog 47 #[.agg #[.string o.k, .slice va o.l.length vc, .int .i64 o.r.s, .slice ua o.r.l.length uc, .string o.r.b, .int .i64 o.asked, .int .i64 o.got, .int .i64 o.ep]] W fun e w' => e = .returned (kV o va ua o.l.length vc uc dn) ∧ Below W.heap.size W w') := fun hk W hX hW => implKept o va ua o.l.length vc uc dn W ⟨hW.2.1, obB_kin hk, hX⟩ hd
  have jF : Hid (obB o = true → ∀ W, XP W → ObIn W (.slice va o.l.length vc) (.slice ua o.r.l.length uc) o → Calls Tryz.prog 54 #[kV o va ua o.l.length vc uc dn, .int .i64 (ageV o now dn)] W fun e w' => e = .returned (.bool (decide (ageV o now dn < lifeF (ctlOf o.r.l) en dn) && !(ctlOf o.r.l).nc)) ∧ Below W.heap.size W w') := fun hk W hX hW => implFrOf o va ua o.l.length vc uc en dn (ageV o now dn) W ⟨hW.2.1, obB_kin hk, hX⟩ hn hd
  generalize kV o va ua o.l.length vc uc dn = kv at jK jF
  generalize lifeF (ctlOf o.r.l) en dn = M at HLV jF
  generalize lifeV o.r en dn = L at HF HLV
  generalize ctlOf o.r.l = C at HF jF
  generalize freshV o now en dn = R at HF ⊢
  generalize ageV o now dn = A at HF hbd HOK j1 jF
  generalize obB o = b1 at HOK HLV jK jF
  have Q0 : Hid (ObB (w.alloc (.cells #[.string o.k, .slice va o.l.length vc, .int .i64 o.r.s, .slice ua o.r.l.length uc, .string o.r.b, .int .i64 o.asked, .int .i64 o.got, .int .i64 o.ep] 28)) w.heap.size o (.slice va o.l.length vc) (.slice ua o.r.l.length uc)) := ObB.new w o _ _ _
  have B0 : Hid (Below w.heap.size w (w.alloc (.cells #[.string o.k, .slice va o.l.length vc, .int .i64 o.r.s, .slice ua o.r.l.length uc, .string o.r.b, .int .i64 o.asked, .int .i64 o.got, .int .i64 o.ep] 28))) := (Below.refl _ w).alloc (Nat.le_refl _) _
  have I0 : Hid (ObIn (w.alloc (.cells #[.string o.k, .slice va o.l.length vc, .int .i64 o.r.s, .slice ua o.r.l.length uc, .string o.r.b, .int .i64 o.asked, .int .i64 o.got, .int .i64 o.ep] 28)) (.slice va o.l.length vc) (.slice ua o.r.l.length uc) o) := h.kept B0.out
  have X0 : Hid (XP (w.alloc (.cells #[.string o.k, .slice va o.l.length vc, .int .i64 o.r.s, .slice ua o.r.l.length uc, .string o.r.b, .int .i64 o.asked, .int .i64 o.got, .int .i64 o.ep] 28))) := hx.kept B0.out
  clear h hx hd hn
  unfold obV at j1 ⊢
  go_enter Tryz.func15, Tryz.ntmps15
  go_wp2_with fail
  refine (j1 _ X0.out I0.out).mono ?_
  rintro e w1 ⟨rfl, hb1⟩
  have Q1 : Hid (ObB w1 w.heap.size o (.slice va o.l.length vc) (.slice ua o.r.l.length uc)) := Q0.out.next hb1
  have B1 : Hid (Below w.heap.size w w1) := past6 B0.out hb1
  have I1 : Hid (ObIn w1 (.slice va o.l.length vc) (.slice ua o.r.l.length uc) o) := I0.out.kept hb1
  have X1 : Hid (XP w1) := X0.out.kept hb1
  clear hb1 Q0 B0 I0 X0
  clear j1
  obtain ⟨q0, q1, q2, q3, q4, q5, q6, q7, qf, qh⟩ := Q1.out
  by_cases ha : 0 ≤ A
  · have k1 := tld_y ha
    have hob := HOK.out ha
    have hlv := HLV.out hob
    have HX : Hid ((decide (A < M) && !C.nc) = R) := by show _ = _; rw [HF.out, decide_eq_true ha, Bool.true_and, hlv]
    have jK2 : Hid _ := jK.out hob
    have jF2 : Hid _ := jF.out hob
    generalize (decide (A < M) && !C.nc) = P at HX jF2
    clear hob hlv ha hbd HF HOK HLV jK jF
    go_wp2_with fail
    refine (jK2.out _ X1.out I1.out).mono ?_
    rintro e w2 ⟨rfl, hb2⟩
    have Q2 : Hid (ObB w2 w.heap.size o (.slice va o.l.length vc) (.slice ua o.r.l.length uc)) := Q1.out.next hb2
    have B2 : Hid (Below w.heap.size w w2) := past6 B1.out hb2
    have I2 : Hid (ObIn w2 (.slice va o.l.length vc) (.slice ua o.r.l.length uc) o) := I1.out.kept hb2
    have X2 : Hid (XP w2) := X1.out.kept hb2
    clear hb2 Q1 B1 I1 X1
    clear jK2 q0 q1 q2 q3 q4 q5 q6 q7 qf qh
    go_wp2_with fail
    refine (jF2.out _ X2.out I2.out).mono ?_
    rintro e w3 ⟨rfl, hb3⟩
    have B3 : Hid (Below w.heap.size w w3) := past6 B2.out hb3
    clear hb3 jF2 B2 I2 X2 Q2
    go_wp2
    go_ret
    exact ⟨ret_bool HX.out, B3.out⟩
  · have k1 := tld_n hbd ha
    have HX : Hid (false = R) := by show _ = _; rw [HF.out, decide_eq_false ha, Bool.false_and]
    clear ha
    go_wp2
    go_ret
    exact ⟨ret_bool HX.out, B1.out⟩
end Go.Proofs.YtkaogmdhjcgcdaaGreatDoor
namespace Go.Proofs.YtkaogmdhjcgcdaaGreatDoor
open Go.RowKit Go.Sort
set_option linter.unusedVariables false

theorem newAt (x : World) (o : Obj) : (x.alloc o).heap[x.heap.size]? = some o := heap_alloc_new x o
theorem rowCell {w : World} {g k : Nat} {c : Array Value} {ty : TypeId} {fr : Nat × Nat} (h : w.heap[g]? = some (.cells c ty fr)) : w.cell? ⟨g, k, none⟩ = c[k]? := by simp [World.cell?, h]
/-- A store into a block of another type leaves the row. -/
theorem OwnsF.besides10 {w : World} {B g k : Nat} {v : Value} {l : List Fl} {c : Array Value} {T : TypeId} {fr : Nat × Nat} (h : OwnsF w B v l) (hg : w.heap[g]? = some (.cells c T fr)) (hT : T ≠ 105) (x : Value) : OwnsF (w.setCell ⟨g, k, none⟩ x) B v l := by
  refine ⟨h.1, ?_⟩
  rcases h.2 with h0 | ⟨g', cap, cur, hv, hbg, hg', rest⟩
  · exact .inl h0
  · refine .inr ⟨g', cap, cur, hv, hbg, ?_, rest⟩
    rw [Below.heap_setCell _ _ _ _ (show g' ≠ g from fun e => by subst e; rw [hg] at hg'; injection hg' with e; injection e with _ e _; exact hT e)]
    exact hg'
theorem OwnsF.putlow10 {w : World} {B g : Nat} {v : Value} {l : List Fl} (h : OwnsF w B v l) (hg : g < B) (k : Nat) (x : Value) : OwnsF (w.setCell ⟨g, k, none⟩ x) B v l := by
  refine ⟨h.1, ?_⟩
  rcases h.2 with h0 | ⟨g2, cap, cur, hv, hbg, hg2, rest⟩
  · exact .inl h0
  · exact .inr ⟨g2, cap, cur, hv, hbg, (Below.heap_setCell _ _ _ _ (by show g2 ≠ g; omega)).trans hg2, rest⟩
theorem RsB.put2 {w : World} {b : Nat} {r : Rs} {v : Value} (h : RsB w b r v) (t : ByteArray) : RsB (w.setCell ⟨b, 2, none⟩ (.string t)) b ⟨r.s, r.l, t⟩ v where
  c0 := by rw [World.cell?_setCell_other _ _ _ _ (by simp)]; exact h.c0
  c1 := by rw [World.cell?_setCell_other _ _ _ _ (by simp)]; exact h.c1
  c2 := World.cell?_setCell_same _ _ _ h.c2
  fz := fun k => by rw [World.frozen?_setCell]; exact h.fz k
  hi := by rw [World.size_setCell]; exact h.hi
theorem RsB.puts10 {w : World} {b : Nat} {r0 : Rs} {v0 : Value} (h : RsB w b r0 v0) (r : Rs) (v : Value) : RsB (((w.setCell ⟨b, 0, none⟩ (.int .i64 r.s)).setCell ⟨b, 1, none⟩ v).setCell ⟨b, 2, none⟩ (.string r.b)) b r v where
  c0 := by rw [World.cell?_setCell_other _ _ _ _ (by simp), World.cell?_setCell_other _ _ _ _ (by simp)]; exact World.cell?_setCell_same _ _ _ h.c0
  c1 := by rw [World.cell?_setCell_other _ _ _ _ (by simp)]; exact World.cell?_setCell_same _ _ _ (by rw [World.cell?_setCell_other _ _ _ _ (by simp)]; exact h.c1)
  c2 := World.cell?_setCell_same _ _ _ (by rw [World.cell?_setCell_other _ _ _ _ (by simp), World.cell?_setCell_other _ _ _ _ (by simp)]; exact h.c2)
  fz := fun k => by rw [World.frozen?_setCell, World.frozen?_setCell, World.frozen?_setCell]; exact h.fz k
  hi := by rw [World.size_setCell, World.size_setCell, World.size_setCell]; exact h.hi
end Go.Proofs.YtkaogmdhjcgcdaaGreatDoor
