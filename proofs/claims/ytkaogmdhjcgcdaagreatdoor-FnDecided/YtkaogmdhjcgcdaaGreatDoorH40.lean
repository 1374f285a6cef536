/-
  The program's policy by its contracts: the control, the tag and the moment of fields; what may be stored.
  The program's objects behind their interface, by contract: its methods; how long one is fresh, how old it is.
  The program's Lifetime, AgeAt and FreshAt by their contracts.
  The program's FreshAt and Decided by their contracts.
  The program's Decided by its contract.
  What the listed table of powers of ten gives to the walks of policy.
-/
import Derived.Test.YtkaogmdhjcgcdaaGreatDoorH37
import Derived.Test.YtkaogmdhjcgcdaaGreatDoorH29
import Derived.Test.YtkaogmdhjcgcdaaGreatDoorH11
import Derived.Test.YtkaogmdhjcgcdaaGreatDoorH39
import Derived.Test.YtkaogmdhjcgcdaaGreatDoorH36
import Derived.Test.YtkaogmdhjcgcdaaGreatDoorH38
import Derived.Stop.Asserts
import Derived.Lib.QuietBelow
import Derived.BigQuiet
import Derived.ProofKit
import Derived.Lib.LaidU8
import Derived.MakeChecks
namespace Go.Proofs.YtkaogmdhjcgcdaaGreatDoor
open Go.RowKit Go.Sort
set_option linter.unusedVariables false
set_option linter.unusedSimpArgs false

theorem cell_lt10 {w : World} {b k : Nat} {v : Value} (h : w.cell? ⟨b, k, Option.none⟩ = some v) : b < w.heap.size := by
  refine Nat.lt_of_not_le fun hb => ?_
  have e : w.heap[b]? = none := Array.getElem?_eq_none hb
  simp [World.cell?, e] at h
theorem getF_few {l : List Fl} (n : ByteArray) (h : fldsOk l = true) : (getF l n).1.size ≤ 14000 := by
  have h1 := szL_flds h
  have h2 := (fldsOk_parts h).1
  have h3 := getF_bound n l (⟨#[]⟩, false)
  have h0 : (⟨#[]⟩ : ByteArray).size = 0 := rfl
  unfold getF
  simp only [h0] at h3
  omega
theorem implGetF (v : Value) (l : List Fl) (n : ByteArray) (w : World) (h : Fits w v l) (hok : fldsOk l = true) (hn : n.size ≤ 1048576) :
    Calls Tryz.prog 103 #[v, .string n] w fun e w' => e = .returned (getE (getF l n)) ∧ Below w.heap.size w w' := by
  have := implGet v l n w h.1 h.2.1 hn
  rw [← getA_yes n hok] at this
  exact this
set_option maxRecDepth 100000 in
set_option maxHeartbeats 2000000 in
theorem implCtl (v : Value) (l : List Fl) (w : World) (h : Fits w v l) (hok : fldsOk l = true) (m : Int) (hm : w.cell? ⟨0, 0, Option.none⟩ = some (.int .i64 m)) :
    Calls Tryz.prog 69 #[v] w fun e w' => e = .returned (ctV (ctlOf l)) ∧ Below w.heap.size w w' := by
  have hgz := getF_few nCC hok
  have hmz : 0 < w.heap.size := cell_lt10 hm
  have hg := fun W (hW : Fits W v l) => implGetF v l nCC W hW hok (by decide)
  have hr := fun W (hW : W.cell? ⟨0, 0, Option.none⟩ = some (.int .i64 m)) => implRdC (getF l nCC).1 m W (by omega) hW
  have HC : Hid (ctlOf l = rdCt (getF l nCC).1) := rfl
  unfold getE at hg
  generalize ctlOf l = C at HC ⊢
  rw [← HC.out] at hr
  generalize getF l nCC = g at hg hr
  obtain ⟨t, b⟩ := g
  simp only at hg hr
  obtain ⟨va, vc, rfl⟩ := h.form
  have b0 : Hid (Below w.heap.size w (w.alloc (.cells #[.int .i64 0, .int .i64 0, .int .i64 0, .bool false, .bool false, .bool false, .bool false] 50))) := (Below.refl _ w).alloc (Nat.le_refl _) _
  have Z0 : Hid (CtB (w.alloc (.cells #[.int .i64 0, .int .i64 0, .int .i64 0, .bool false, .bool false, .bool false, .bool false] 50)) w.heap.size ctZ) := CtB.born w ctZ 50
  have F0 : Hid (Fits (w.alloc (.cells #[.int .i64 0, .int .i64 0, .int .i64 0, .bool false, .bool false, .bool false, .bool false] 50)) (.slice va l.length vc) l) := h.kept b0.out
  have HM : Hid (w.cell? ⟨0, 0, Option.none⟩ = some (.int .i64 m)) := hm
  clear h HC hm hgz
  unfold nCC at hg
  go_enter Tryz.func69, Tryz.ntmps69
  go_wp2_with fail
  refine (hg _ F0.out).mono ?_
  rintro e w1 ⟨rfl, hb1⟩
  have Z1 : Hid (CtB w1 w.heap.size ctZ) := Z0.out.kept hb1
  have B1 : Hid (Below w.heap.size w w1) := past6 b0.out hb1
  clear hb1 Z0 F0 b0 hg
  go_wp2_with fail
  refine (hr _ ((B1.out.cell hmz).trans HM.out)).mono ?_
  rintro e w2 ⟨rfl, hb2⟩
  have Z2 : Hid (CtB w2 w.heap.size ctZ) := Z1.out.kept hb2
  have B2 : Hid (Below w.heap.size w w2) := past6 B1.out hb2
  clear hb2 Z1 B1 hr
  obtain ⟨xa, xs, xt, xns, xnc, xpr, xmu⟩ := C
  obtain ⟨z0, z1, z2, z3, z4, z5, z6⟩ := Z2.out.all
  have zf := Z2.out.fz
  have P1 := Z2.out.puts ⟨xa, xs, xt, xns, xnc, xpr, xmu⟩
  have HP : Hid _ := CtB.all P1
  have BP : Hid _ := putL_below (B := w.heap.size) (b := w.heap.size) (Nat.le_refl _) (ctE.c ⟨xa, xs, xt, xns, xnc, xpr, xmu⟩) 0 B2.out
  unfold ctZ at z0 z1 z2 z3 z4 z5 z6
  simp only at z0 z1 z2 z3 z4 z5 z6
  unfold ctV
  clear P1 Z2
  go_wp2
  obtain ⟨p0, p1, p2, p3, p4, p5, p6⟩ := HP.out
  rw [ctE_c] at p0 p1 p2 p3 p4 p5 p6
  have bp := BP.out
  rw [ctE_c] at bp
  simp only [putL, Nat.zero_add, Nat.reduceAdd] at p0 p1 p2 p3 p4 p5 p6 bp
  exact bodyPost_ret (v := ctV ⟨xa, xs, xt, xns, xnc, xpr, xmu⟩) (by unfold ctV; simp [results, Tryz.results69, go_sem, p0, p1, p2, p3, p4, p5, p6]) rfl ⟨rfl, bp⟩
set_option maxHeartbeats 1000000 in
theorem implTagL (u : Value) (l : List Fl) (w : World) (h : Fits w u l) (hok : fldsOk l = true) :
    Calls Tryz.prog 105 #[u] w fun e w' => e = .returned (.bool (tagOf l)) ∧ Below w.heap.size w w' := by
  have hgz := getF_few nET hok
  have hg := fun W (hW : Fits W u l) => implGetF u l nET W hW hok (by decide)
  have hr := fun W => implRd (getF l nET).1 W (by omega)
  have HT : Hid (tagOf l = (rdT (getF l nET).1).isSome) := rfl
  unfold getE at hg
  generalize tagOf l = T at HT ⊢
  generalize rdT (getF l nET).1 = q at HT hr
  generalize getF l nET = g at hg hr
  obtain ⟨t, b⟩ := g
  simp only at hg hr
  obtain ⟨ua, uc, rfl⟩ := h.form
  have F0 : Hid (Fits w (.slice ua l.length uc) l) := h
  clear h hgz
  unfold nET at hg
  go_enter Tryz.func105, Tryz.ntmps105
  go_wp2_with fail
  refine (hg _ F0.out).mono ?_
  rintro e w1 ⟨rfl, hb1⟩
  have B1 : Hid (Below w.heap.size w w1) := hb1
  clear hb1 F0 hg
  go_wp2_with fail
  refine (hr _).mono ?_
  rintro e w2 ⟨rfl, hb2⟩
  have B2 : Hid (Below w.heap.size w w2) := past6 B1.out hb2
  clear hb2 B1 hr
  cases q with
  | none =>
    have HR : Hid (false = T) := HT.out.symm
    have e0 : rdV Option.none = .tuple #[.agg #[.bool false, .string ⟨#[]⟩], .bool false] := rfl
    rw [e0]
    go_wp2
    go_ret
    exact ⟨ret_bool HR.out, B2.out.alloc B2.out.size _⟩
  | some x =>
    have HR : Hid (true = T) := HT.out.symm
    have e0 : rdV (some x) = .tuple #[.agg #[.bool x.w, .string x.t], .bool true] := rfl
    rw [e0]
    go_wp2
    go_ret
    exact ⟨ret_bool HR.out, B2.out.alloc B2.out.size _⟩
/-- What momentTold answers where the moment is n. -/
def tolV (n : Int) : Value := if 0 ≤ n then .tuple #[.int .i64 n, .bool true] else .tuple #[.int .i64 0, .bool false]
theorem tolV_y {n : Int} (h : 0 ≤ n) : tolV n = .tuple #[.int .i64 n, .bool true] := if_pos h
theorem tolV_n {n : Int} (h : ¬ 0 ≤ n) : tolV n = .tuple #[.int .i64 0, .bool false] := if_neg h
theorem momN_bd {y m d hh i s : Int} (h1 : Dd.okD y m d hh i s) : 0 ≤ Dd.momN y m d hh i s ∧ Dd.momN y m d hh i s ≤ 253402300799 := by
  have h3 := Dd.day_bd (Dd.dayOk_of (decide_eq_true h1 : Dd.okB y m d hh i s = true))
  have h4 : (0 ≤ hh ∧ hh ≤ 23) ∧ (0 ≤ i ∧ i ≤ 59) ∧ (0 ≤ s ∧ s ≤ 59) := h1.2.2.2
  unfold Dd.momN
  omega
theorem MomIs.read2 {t : ByteArray} {n : Int} (h : MomIs t n) : (∃ y m d hh i s : Int, Dd.okB y m d hh i s = true ∧ 0 ≤ n ∧ n = Dd.momN y m d hh i s ∧ ∀ v, Dd.ReadIs t v → v = .tuple #[.agg #[.int .i64 y, .int .i64 m, .int .i64 d, .int .i64 hh, .int .i64 i, .int .i64 s], .bool true]) ∨ (n = -1 ∧ ∀ v, Dd.ReadIs t v → v = .tuple #[.agg #[.int .i64 0, .int .i64 0, .int .i64 0, .int .i64 0, .int .i64 0, .int .i64 0], .bool false]) := by
  rcases h with ⟨y, m, d, hh, i, s, h1, h2, h3⟩ | ⟨h1, h2⟩
  · exact .inl ⟨y, m, d, hh, i, s, decide_eq_true h1, by rw [h3]; exact (momN_bd h1).1, h3, fun v hv => hv.one (.inl ⟨y, m, d, hh, i, s, h1, h2, rfl⟩)⟩
  · exact .inr ⟨h2, fun v hv => hv.one (.inr ⟨h1, rfl⟩)⟩
set_option maxHeartbeats 1000000 in
theorem implMomT (v : Value) (l : List Fl) (name : ByteArray) (n : Int) (w : World) (h : Fits w v l) (hok : fldsOk l = true) (hn : FldMom l name n) (hz : name.size ≤ 1000) (ht : Dd.Tab w) :
    Calls Tryz.prog 91 #[v, .string name] w fun e w' => e = .returned (tolV n) ∧ Below w.heap.size w w' := by
  have hgz := getF_few name hok
  have hg := fun W (hW : Fits W v l) => implGetF v l name W hW hok (by omega)
  have hr := fun W (hW : Dd.Tab W) => Dd.implRead (getF l name).1 W hW (by unfold maxLen; omega)
  have HM := MomIs.read2 (show MomIs (getF l name).1 n from hn)
  unfold getE at hg
  clear hn
  generalize getF l name = g at hg hr HM
  obtain ⟨t, b⟩ := g
  simp only at hg hr HM
  obtain ⟨va, vc, rfl⟩ := h.form
  have F0 : Hid (Fits w (.slice va l.length vc) l) := h
  have T0 : Hid (Dd.Tab w) := ht
  generalize hV : tolV n = V
  have HV : Hid (tolV n = V) := hV
  clear h ht hgz hV
  go_enter Tryz.func91, Tryz.ntmps91
  go_wp2_with fail
  refine (hg _ F0.out).mono ?_
  rintro e w1 ⟨rfl, hb1⟩
  have B1 : Hid (Below w.heap.size w w1) := hb1
  clear hb1 hg
  go_wp2_with fail
  refine (hr _ (T0.out.low B1.out)).mono ?_
  rintro e w2 ⟨⟨vv, rfl, hv⟩, hb2⟩
  have B2 : Hid (Below w.heap.size w w2) := past6 B1.out hb2.low
  clear hb2 B1 hr
  rcases HM with ⟨y, m, d, hh, i, s, hk, h0, hn, hone⟩ | ⟨hn, hone⟩
  · obtain rfl := hone _ hv
    have hmo := fun W => Dd.implMom y m d hh i s W
    have e1 : Dd.momV y m d hh i s = Dd.momN y m d hh i s := by unfold Dd.momV; rw [if_pos hk]
    rw [e1, ← hn] at hmo
    have HN : Hid (.tuple #[.int .i64 n, .bool true] = V) := by show _ = _; rw [← HV.out, tolV_y h0]
    clear hone hv hk e1 hn h0
    go_wp2_with (go_at_call 119; refine (hmo _).mono ?_; rintro e w3 ⟨rfl, hg3⟩; have HG : Hid _ := hg3.low; clear hg3)
    go_ret2
    exact ⟨congrArg Ending.returned HN.out, past6 (B2.out.alloc B2.out.size _) HG.out⟩
  · obtain rfl := hone _ hv
    have HN : Hid (.tuple #[.int .i64 0, .bool false] = V) := by show _ = _; rw [← HV.out, tolV_n (by omega)]
    clear hone hv hn
    go_wp2
    go_ret2
    exact ⟨congrArg Ending.returned HN.out, B2.out.alloc B2.out.size _⟩
theorem tld_y {a : Int} (h : 0 ≤ a) : (a != -1) = true := by rw [bne_iff_ne]; omega
theorem tld_n {a : Int} (h : -1 ≤ a) (h2 : ¬ 0 ≤ a) : (a != -1) = false := by
  have : a = -1 := by omega
  subst this
  rfl
end Go.Proofs.YtkaogmdhjcgcdaaGreatDoor
namespace Go.Proofs.YtkaogmdhjcgcdaaGreatDoor
open Go.RowKit Go.Sort
set_option linter.unusedVariables false
set_option linter.unusedSimpArgs false

/-- What the program asks of the world: the cell of MaxLen, the table of powers. -/
def XP (w : World) : Prop := (∃ m, w.cell? ⟨0, 0, Option.none⟩ = some (.int .i64 m)) ∧ Dd.Tab w
theorem XP.kept {w w' : World} (h : XP w) (hb : Below w.heap.size w w') : XP w' := by
  obtain ⟨⟨m, hm⟩, ht⟩ := h
  exact ⟨⟨m, (hb.cell (cell_lt10 hm)).trans hm⟩, ht.low hb⟩
/-- An object whose response has right fields. -/
def KIn (w : World) (u : Value) (o : Ob) : Prop := RsIn w u o.r ∧ fldsOk o.r.l = true ∧ XP w
theorem KIn.kept {w w' : World} {u : Value} {o : Ob} (h : KIn w u o) (hb : Below w.heap.size w w') : KIn w' u o := ⟨h.1.kept hb, h.2.1, h.2.2.kept hb⟩
theorem asU (v : Value) (w : World) : (Instr.typeAssert (.iface 116 v) 76 142 true).run Tryz.prog w = .ok (.tuple #[.nilIface, .bool false]) w := run_typeAssert_lacksB Tryz.underlying142 (by kernel_rfl) (by kernel_rfl) v _ w
theorem asD (v : Value) (w : World) : (Instr.typeAssert (.iface 119 v) 76 142 true).run Tryz.prog w = .ok (.tuple #[.iface 119 v, .bool true]) w := run_typeAssert_hasB Tryz.underlying142 (by kernel_rfl) v _ w
theorem mCtlU (o : Ob) (v u : Value) (w : World) : (method 334 116 (.agg #[.string o.k, v, .int .i64 o.r.s, u, .string o.r.b, .int .i64 o.asked, .int .i64 o.got, .int .i64 o.ep]) "loop.example/g00207/impl.control").run Tryz.prog w = .ok (236, .agg #[.string o.k, v, .int .i64 o.r.s, u, .string o.r.b, .int .i64 o.asked, .int .i64 o.got, .int .i64 o.ep]) w := by kernel_rfl
theorem mCtlD (o : Ob) (v u : Value) (d : Int) (w : World) : (method 334 119 (.agg #[.string o.k, v, .int .i64 o.r.s, u, .string o.r.b, .int .i64 o.asked, .int .i64 o.got, .int .i64 o.ep, .int .i64 d]) "loop.example/g00207/impl.control").run Tryz.prog w = .ok (236, .agg #[.string o.k, v, .int .i64 o.r.s, u, .string o.r.b, .int .i64 o.asked, .int .i64 o.got, .int .i64 o.ep]) w := by kernel_rfl
theorem mExpU (o : Ob) (v u : Value) (w : World) : (method 334 116 (.agg #[.string o.k, v, .int .i64 o.r.s, u, .string o.r.b, .int .i64 o.asked, .int .i64 o.got, .int .i64 o.ep]) "loop.example/g00207/impl.expires").run Tryz.prog w = .ok (237, .agg #[.string o.k, v, .int .i64 o.r.s, u, .string o.r.b, .int .i64 o.asked, .int .i64 o.got, .int .i64 o.ep]) w := by kernel_rfl
theorem mExpD (o : Ob) (v u : Value) (d : Int) (w : World) : (method 334 119 (.agg #[.string o.k, v, .int .i64 o.r.s, u, .string o.r.b, .int .i64 o.asked, .int .i64 o.got, .int .i64 o.ep, .int .i64 d]) "loop.example/g00207/impl.expires").run Tryz.prog w = .ok (237, .agg #[.string o.k, v, .int .i64 o.r.s, u, .string o.r.b, .int .i64 o.asked, .int .i64 o.got, .int .i64 o.ep]) w := by kernel_rfl
theorem mAgeU (o : Ob) (v u : Value) (w : World) : (method 334 116 (.agg #[.string o.k, v, .int .i64 o.r.s, u, .string o.r.b, .int .i64 o.asked, .int .i64 o.got, .int .i64 o.ep]) "loop.example/g00207/impl.toldAge").run Tryz.prog w = .ok (240, .agg #[.string o.k, v, .int .i64 o.r.s, u, .string o.r.b, .int .i64 o.asked, .int .i64 o.got, .int .i64 o.ep]) w := by kernel_rfl
theorem mAgeD (o : Ob) (v u : Value) (d : Int) (w : World) : (method 334 119 (.agg #[.string o.k, v, .int .i64 o.r.s, u, .string o.r.b, .int .i64 o.asked, .int .i64 o.got, .int .i64 o.ep, .int .i64 d]) "loop.example/g00207/impl.toldAge").run Tryz.prog w = .ok (240, .agg #[.string o.k, v, .int .i64 o.r.s, u, .string o.r.b, .int .i64 o.asked, .int .i64 o.got, .int .i64 o.ep]) w := by kernel_rfl
theorem mWaiU (o : Ob) (v u : Value) (w : World) : (method 334 116 (.agg #[.string o.k, v, .int .i64 o.r.s, u, .string o.r.b, .int .i64 o.asked, .int .i64 o.got, .int .i64 o.ep]) "loop.example/g00207/impl.waited").run Tryz.prog w = .ok (241, .agg #[.string o.k, v, .int .i64 o.r.s, u, .string o.r.b, .int .i64 o.asked, .int .i64 o.got, .int .i64 o.ep]) w := by kernel_rfl
theorem mWaiD (o : Ob) (v u : Value) (d : Int) (w : World) : (method 334 119 (.agg #[.string o.k, v, .int .i64 o.r.s, u, .string o.r.b, .int .i64 o.asked, .int .i64 o.got, .int .i64 o.ep, .int .i64 d]) "loop.example/g00207/impl.waited").run Tryz.prog w = .ok (241, .agg #[.string o.k, v, .int .i64 o.r.s, u, .string o.r.b, .int .i64 o.asked, .int .i64 o.got, .int .i64 o.ep]) w := by kernel_rfl
theorem mGotU (o : Ob) (v u : Value) (w : World) : (method 334 116 (.agg #[.string o.k, v, .int .i64 o.r.s, u, .string o.r.b, .int .i64 o.asked, .int .i64 o.got, .int .i64 o.ep]) "loop.example/g00207/impl.got").run Tryz.prog w = .ok (238, .agg #[.string o.k, v, .int .i64 o.r.s, u, .string o.r.b, .int .i64 o.asked, .int .i64 o.got, .int .i64 o.ep]) w := by kernel_rfl
theorem mGotD (o : Ob) (v u : Value) (d : Int) (w : World) : (method 334 119 (.agg #[.string o.k, v, .int .i64 o.r.s, u, .string o.r.b, .int .i64 o.asked, .int .i64 o.got, .int .i64 o.ep, .int .i64 d]) "loop.example/g00207/impl.got").run Tryz.prog w = .ok (238, .agg #[.string o.k, v, .int .i64 o.r.s, u, .string o.r.b, .int .i64 o.asked, .int .i64 o.got, .int .i64 o.ep]) w := by kernel_rfl
theorem mTgdU (o : Ob) (v u : Value) (w : World) : (method 334 116 (.agg #[.string o.k, v, .int .i64 o.r.s, u, .string o.r.b, .int .i64 o.asked, .int .i64 o.got, .int .i64 o.ep]) "loop.example/g00207/impl.tagged").run Tryz.prog w = .ok (239, .agg #[.string o.k, v, .int .i64 o.r.s, u, .string o.r.b, .int .i64 o.asked, .int .i64 o.got, .int .i64 o.ep]) w := by kernel_rfl
theorem mTgdD (o : Ob) (v u : Value) (d : Int) (w : World) : (method 334 119 (.agg #[.string o.k, v, .int .i64 o.r.s, u, .string o.r.b, .int .i64 o.asked, .int .i64 o.got, .int .i64 o.ep, .int .i64 d]) "loop.example/g00207/impl.tagged").run Tryz.prog w = .ok (239, .agg #[.string o.k, v, .int .i64 o.r.s, u, .string o.r.b, .int .i64 o.asked, .int .i64 o.got, .int .i64 o.ep]) w := by kernel_rfl
theorem mDatD (o : Ob) (v u : Value) (d : Int) (w : World) : (method 334 119 (.agg #[.string o.k, v, .int .i64 o.r.s, u, .string o.r.b, .int .i64 o.asked, .int .i64 o.got, .int .i64 o.ep, .int .i64 d]) "loop.example/g00207/impl.date").run Tryz.prog w = .ok (242, .agg #[.string o.k, v, .int .i64 o.r.s, u, .string o.r.b, .int .i64 o.asked, .int .i64 o.got, .int .i64 o.ep, .int .i64 d]) w := by kernel_rfl
set_option maxRecDepth 100000 in
set_option maxHeartbeats 2000000 in
theorem mthCtl (o : Ob) (va ua : Option Addr) (vn vc uc : Nat) (w : World) (h : KIn w (.slice ua o.r.l.length uc) o) :
    Calls Tryz.prog 236 #[.agg #[.string o.k, .slice va vn vc, .int .i64 o.r.s, .slice ua o.r.l.length uc, .string o.r.b, .int .i64 o.asked, .int .i64 o.got, .int .i64 o.ep]] w fun e w' => e = .returned (ctV (ctlOf o.r.l)) ∧ Below w.heap.size w w' := by
  have hr := fun W (hW : KIn W (.slice ua o.r.l.length uc) o) => hW.2.2.1.elim fun mx hm => implCtl (.slice ua o.r.l.length uc) o.r.l W hW.1.1 hW.2.1 mx hm
  generalize ctlOf o.r.l = C at hr ⊢
  have Q0 : Hid (ObB ((w.alloc (.cells #[.string o.k, .slice va vn vc, .int .i64 o.r.s, .slice ua o.r.l.length uc, .string o.r.b, .int .i64 o.asked, .int .i64 o.got, .int .i64 o.ep] 116)).alloc (.cells #[.int .i64 0, .int .i64 0, .int .i64 0, .bool false, .bool false, .bool false, .bool false] 50)) w.heap.size o (.slice va vn vc) (.slice ua o.r.l.length uc)) := (ObB.new w o (.slice va vn vc) (.slice ua o.r.l.length uc) 116).alloc _
  have Z0 : Hid (CtB ((w.alloc (.cells #[.string o.k, .slice va vn vc, .int .i64 o.r.s, .slice ua o.r.l.length uc, .string o.r.b, .int .i64 o.asked, .int .i64 o.got, .int .i64 o.ep] 116)).alloc (.cells #[.int .i64 0, .int .i64 0, .int .i64 0, .bool false, .bool false, .bool false, .bool false] 50)) (w.heap.size + 1) ctZ) := by
    have := CtB.born (w.alloc (.cells #[.string o.k, .slice va vn vc, .int .i64 o.r.s, .slice ua o.r.l.length uc, .string o.r.b, .int .i64 o.asked, .int .i64 o.got, .int .i64 o.ep] 116)) ctZ 50
    simp only [World.size_alloc] at this
    exact this
  have b0 : Hid (Below w.heap.size w ((w.alloc (.cells #[.string o.k, .slice va vn vc, .int .i64 o.r.s, .slice ua o.r.l.length uc, .string o.r.b, .int .i64 o.asked, .int .i64 o.got, .int .i64 o.ep] 116)).alloc (.cells #[.int .i64 0, .int .i64 0, .int .i64 0, .bool false, .bool false, .bool false, .bool false] 50))) := ((Below.refl _ w).alloc (Nat.le_refl _) _).alloc (by simp) _
  have F0 : Hid (KIn ((w.alloc (.cells #[.string o.k, .slice va vn vc, .int .i64 o.r.s, .slice ua o.r.l.length uc, .string o.r.b, .int .i64 o.asked, .int .i64 o.got, .int .i64 o.ep] 116)).alloc (.cells #[.int .i64 0, .int .i64 0, .int .i64 0, .bool false, .bool false, .bool false, .bool false] 50)) (.slice ua o.r.l.length uc) o) := h.kept b0.out
  clear h
  obtain ⟨q0, q1, q2, q3, q4, q5, q6, q7, qf, qh⟩ := Q0.out
  go_enter Tryz.func236, Tryz.ntmps236
  go_wp2_with fail
  refine (hr _ F0.out).mono ?_
  rintro e w2 ⟨rfl, hb2⟩
  have Z2 : Hid (CtB w2 (w.heap.size + 1) ctZ) := Z0.out.kept hb2
  have B2 : Hid (Below w.heap.size w w2) := past6 b0.out hb2
  clear hb2 Z0 b0 F0 hr Q0 q0 q1 q2 q3 q4 q5 q6 q7 qf qh
  obtain ⟨xa, xs, xt, xns, xnc, xpr, xmu⟩ := C
  obtain ⟨z0, z1, z2, z3, z4, z5, z6⟩ := Z2.out.all
  have zf := Z2.out.fz
  have P1 := Z2.out.puts ⟨xa, xs, xt, xns, xnc, xpr, xmu⟩
  have HP : Hid _ := CtB.all P1
  have BP : Hid _ := putL_below (B := w.heap.size) (b := w.heap.size + 1) (by omega) (ctE.c ⟨xa, xs, xt, xns, xnc, xpr, xmu⟩) 0 B2.out
  unfold ctZ at z0 z1 z2 z3 z4 z5 z6
  simp only at z0 z1 z2 z3 z4 z5 z6
  unfold ctV
  clear P1 Z2
  go_wp2
  obtain ⟨p0, p1, p2, p3, p4, p5, p6⟩ := HP.out
  rw [ctE_c] at p0 p1 p2 p3 p4 p5 p6
  have bp := BP.out
  rw [ctE_c] at bp
  simp only [putL, Nat.zero_add, Nat.reduceAdd] at p0 p1 p2 p3 p4 p5 p6 bp
  exact bodyPost_ret (v := ctV ⟨xa, xs, xt, xns, xnc, xpr, xmu⟩) (by unfold ctV; simp [results, Tryz.results236, go_sem, p0, p1, p2, p3, p4, p5, p6]) rfl ⟨rfl, bp⟩
set_option maxHeartbeats 1000000 in
theorem mthExp (o : Ob) (va ua : Option Addr) (vn vc uc : Nat) (en : Int) (w : World) (h : KIn w (.slice ua o.r.l.length uc) o) (hn : FldMom o.r.l nEX en) :
    Calls Tryz.prog 237 #[.agg #[.string o.k, .slice va vn vc, .int .i64 o.r.s, .slice ua o.r.l.length uc, .string o.r.b, .int .i64 o.asked, .int .i64 o.got, .int .i64 o.ep]] w fun e w' => e = .returned (tolV en) ∧ Below w.heap.size w w' := by
  have hr := fun W (hW : KIn W (.slice ua o.r.l.length uc) o) => implMomT (.slice ua o.r.l.length uc) o.r.l nEX en W hW.1.1 hW.2.1 hn (by decide) hW.2.2.2
  have Q0 : Hid (ObB (w.alloc (.cells #[.string o.k, .slice va vn vc, .int .i64 o.r.s, .slice ua o.r.l.length uc, .string o.r.b, .int .i64 o.asked, .int .i64 o.got, .int .i64 o.ep] 116)) w.heap.size o (.slice va vn vc) (.slice ua o.r.l.length uc)) := ObB.new w o (.slice va vn vc) (.slice ua o.r.l.length uc) 116
  have b0 : Hid (Below w.heap.size w (w.alloc (.cells #[.string o.k, .slice va vn vc, .int .i64 o.r.s, .slice ua o.r.l.length uc, .string o.r.b, .int .i64 o.asked, .int .i64 o.got, .int .i64 o.ep] 116))) := (Below.refl _ w).alloc (Nat.le_refl _) _
  have F0 : Hid (KIn (w.alloc (.cells #[.string o.k, .slice va vn vc, .int .i64 o.r.s, .slice ua o.r.l.length uc, .string o.r.b, .int .i64 o.asked, .int .i64 o.got, .int .i64 o.ep] 116)) (.slice ua o.r.l.length uc) o) := h.kept b0.out
  clear h hn
  obtain ⟨q0, q1, q2, q3, q4, q5, q6, q7, qf, qh⟩ := Q0.out
  unfold nEX at hr
  generalize hV : tolV en = V at hr ⊢
  have HV : Hid (tolV en = V) := hV
  clear hV
  go_enter Tryz.func237, Tryz.ntmps237
  go_wp2_with fail
  refine (hr _ F0.out).mono ?_
  rintro e w2 ⟨rfl, hb2⟩
  have B2 : Hid (Below w.heap.size w w2) := past6 b0.out hb2
  clear hb2 hr b0 F0 Q0 q0 q1 q2 q3 q4 q5 q6 q7 qf qh
  by_cases h0 : 0 ≤ en
  · have HN : Hid (.tuple #[.int .i64 en, .bool true] = V) := by show _ = _; rw [← HV.out, tolV_y h0]
    rw [← HN.out]
    clear h0
    go_wp2
    go_ret2
    exact ⟨congrArg Ending.returned HN.out, B2.out⟩
  · have HN : Hid (.tuple #[.int .i64 0, .bool false] = V) := by show _ = _; rw [← HV.out, tolV_n h0]
    rw [← HN.out]
    clear h0
    go_wp2
    go_ret2
    exact ⟨congrArg Ending.returned HN.out, B2.out⟩
set_option maxHeartbeats 1000000 in
theorem mthAge (o : Ob) (va ua : Option Addr) (vn vc uc : Nat) (w : World) (h : KIn w (.slice ua o.r.l.length uc) o) :
    Calls Tryz.prog 240 #[.agg #[.string o.k, .slice va vn vc, .int .i64 o.r.s, .slice ua o.r.l.length uc, .string o.r.b, .int .i64 o.asked, .int .i64 o.got, .int .i64 o.ep]] w fun e w' => e = .returned (.int .i64 (numV 10 15 (getF o.r.l nAG).1)) ∧ Below w.heap.size w w' := by
  have hz := getF_few nAG h.2.1
  have hg := fun W (hW : KIn W (.slice ua o.r.l.length uc) o) => implGetF (.slice ua o.r.l.length uc) o.r.l nAG W hW.1.1 hW.2.1 (by decide)
  have hr := fun W => Dd.digNought (getF o.r.l nAG).1 W (by unfold maxLen; omega)
  have Q0 : Hid (ObB (w.alloc (.cells #[.string o.k, .slice va vn vc, .int .i64 o.r.s, .slice ua o.r.l.length uc, .string o.r.b, .int .i64 o.asked, .int .i64 o.got, .int .i64 o.ep] 116)) w.heap.size o (.slice va vn vc) (.slice ua o.r.l.length uc)) := ObB.new w o (.slice va vn vc) (.slice ua o.r.l.length uc) 116
  have b0 : Hid (Below w.heap.size w (w.alloc (.cells #[.string o.k, .slice va vn vc, .int .i64 o.r.s, .slice ua o.r.l.length uc, .string o.r.b, .int .i64 o.asked, .int .i64 o.got, .int .i64 o.ep] 116))) := (Below.refl _ w).alloc (Nat.le_refl _) _
  have F0 : Hid (KIn (w.alloc (.cells #[.string o.k, .slice va vn vc, .int .i64 o.r.s, .slice ua o.r.l.length uc, .string o.r.b, .int .i64 o.asked, .int .i64 o.got, .int .i64 o.ep] 116)) (.slice ua o.r.l.length uc) o) := h.kept b0.out
  clear h hz
  obtain ⟨q0, q1, q2, q3, q4, q5, q6, q7, qf, qh⟩ := Q0.out
  unfold getE at hg
  generalize getF o.r.l nAG = g at hg hr ⊢
  obtain ⟨t, b⟩ := g
  simp only at hg hr ⊢
  generalize numV 10 15 t = A at hr ⊢
  unfold nAG at hg
  go_enter Tryz.func240, Tryz.ntmps240
  go_wp2_with fail
  refine (hg _ F0.out).mono ?_
  rintro e w2 ⟨rfl, hb2⟩
  have B2 : Hid (Below w.heap.size w w2) := past6 b0.out hb2
  clear hb2 hg b0 F0 Q0 q0 q1 q2 q3 q4 q5 q6 q7 qf qh
  go_wp2_with fail
  refine (hr _).mono ?_
  rintro e w3 ⟨rfl, hb3⟩
  have B3 : Hid (Below w.heap.size w w3) := past6 B2.out hb3.low
  clear hb3 hr B2
  go_wp2
  go_ret
  exact ⟨rfl, B3.out⟩
set_option maxHeartbeats 1000000 in
theorem mthTgd (o : Ob) (va ua : Option Addr) (vn vc uc : Nat) (w : World) (h : KIn w (.slice ua o.r.l.length uc) o) :
    Calls Tryz.prog 239 #[.agg #[.string o.k, .slice va vn vc, .int .i64 o.r.s, .slice ua o.r.l.length uc, .string o.r.b, .int .i64 o.asked, .int .i64 o.got, .int .i64 o.ep]] w fun e w' => e = .returned (.bool (tagOf o.r.l)) ∧ Below w.heap.size w w' := by
  have hr := fun W (hW : KIn W (.slice ua o.r.l.length uc) o) => implTagL (.slice ua o.r.l.length uc) o.r.l W hW.1.1 hW.2.1
  have Q0 : Hid (ObB (w.alloc (.cells #[.string o.k, .slice va vn vc, .int .i64 o.r.s, .slice ua o.r.l.length uc, .string o.r.b, .int .i64 o.asked, .int .i64 o.got, .int .i64 o.ep] 116)) w.heap.size o (.slice va vn vc) (.slice ua o.r.l.length uc)) := ObB.new w o (.slice va vn vc) (.slice ua o.r.l.length uc) 116
  have b0 : Hid (Below w.heap.size w (w.alloc (.cells #[.string o.k, .slice va vn vc, .int .i64 o.r.s, .slice ua o.r.l.length uc, .string o.r.b, .int .i64 o.asked, .int .i64 o.got, .int .i64 o.ep] 116))) := (Below.refl _ w).alloc (Nat.le_refl _) _
  have F0 : Hid (KIn (w.alloc (.cells #[.string o.k, .slice va vn vc, .int .i64 o.r.s, .slice ua o.r.l.length uc, .string o.r.b, .int .i64 o.asked, .int .i64 o.got, .int .i64 o.ep] 116)) (.slice ua o.r.l.length uc) o) := h.kept b0.out
  clear h
  obtain ⟨q0, q1, q2, q3, q4, q5, q6, q7, qf, qh⟩ := Q0.out
  generalize tagOf o.r.l = T at hr ⊢
  go_enter Tryz.func239, Tryz.ntmps239
  go_wp2_with fail
  refine (hr _ F0.out).mono ?_
  rintro e w2 ⟨rfl, hb2⟩
  have B2 : Hid (Below w.heap.size w w2) := past6 b0.out hb2
  clear hb2 hr b0 F0 Q0 q0 q1 q2 q3 q4 q5 q6 q7 qf qh
  go_wp2
  go_ret
  exact ⟨rfl, B2.out⟩
theorem mthGot (o : Ob) (va ua : Option Addr) (vn vc uc : Nat) (w : World) :
    Calls Tryz.prog 238 #[.agg #[.string o.k, .slice va vn vc, .int .i64 o.r.s, .slice ua o.r.l.length uc, .string o.r.b, .int .i64 o.asked, .int .i64 o.got, .int .i64 o.ep]] w fun e w' => e = .returned (.int .i64 o.got) ∧ Below w.heap.size w w' := by
  have Q0 : Hid (ObB (w.alloc (.cells #[.string o.k, .slice va vn vc, .int .i64 o.r.s, .slice ua o.r.l.length uc, .string o.r.b, .int .i64 o.asked, .int .i64 o.got, .int .i64 o.ep] 116)) w.heap.size o (.slice va vn vc) (.slice ua o.r.l.length uc)) := ObB.new w o (.slice va vn vc) (.slice ua o.r.l.length uc) 116
  have b0 : Hid (Below w.heap.size w (w.alloc (.cells #[.string o.k, .slice va vn vc, .int .i64 o.r.s, .slice ua o.r.l.length uc, .string o.r.b, .int .i64 o.asked, .int .i64 o.got, .int .i64 o.ep] 116))) := (Below.refl _ w).alloc (Nat.le_refl _) _
  obtain ⟨q0, q1, q2, q3, q4, q5, q6, q7, qf, qh⟩ := Q0.out
  go_enter Tryz.func238, Tryz.ntmps238
  go_wp2
  go_ret
  exact ⟨rfl, b0.out⟩
theorem mthWai (o : Ob) (va ua : Option Addr) (vn vc uc : Nat) (w : World) (h1 : 0 ≤ o.asked) (h2 : o.asked ≤ o.got) (h3 : o.got ≤ 253402300799) :
    Calls Tryz.prog 241 #[.agg #[.string o.k, .slice va vn vc, .int .i64 o.r.s, .slice ua o.r.l.length uc, .string o.r.b, .int .i64 o.asked, .int .i64 o.got, .int .i64 o.ep]] w fun e w' => e = .returned (.int .i64 (o.got - o.asked)) ∧ Below w.heap.size w w' := by
  have Q0 : Hid (ObB (w.alloc (.cells #[.string o.k, .slice va vn vc, .int .i64 o.r.s, .slice ua o.r.l.length uc, .string o.r.b, .int .i64 o.asked, .int .i64 o.got, .int .i64 o.ep] 116)) w.heap.size o (.slice va vn vc) (.slice ua o.r.l.length uc)) := ObB.new w o (.slice va vn vc) (.slice ua o.r.l.length uc) 116
  have b0 : Hid (Below w.heap.size w (w.alloc (.cells #[.string o.k, .slice va vn vc, .int .i64 o.r.s, .slice ua o.r.l.length uc, .string o.r.b, .int .i64 o.asked, .int .i64 o.got, .int .i64 o.ep] 116))) := (Below.refl _ w).alloc (Nat.le_refl _) _
  obtain ⟨q0, q1, q2, q3, q4, q5, q6, q7, qf, qh⟩ := Q0.out
  have ew : IntKind.i64.wrap (o.got - o.asked) = o.got - o.asked := by rw [IntKind.wrap_i64]; omega
  go_enter Tryz.func241, Tryz.ntmps241
  go_wp2
  go_ret
  exact ⟨rfl, b0.out⟩
theorem mthDat (o : Ob) (va ua : Option Addr) (vn vc uc : Nat) (d : Int) (w : World) :
    Calls Tryz.prog 242 #[.agg #[.string o.k, .slice va vn vc, .int .i64 o.r.s, .slice ua o.r.l.length uc, .string o.r.b, .int .i64 o.asked, .int .i64 o.got, .int .i64 o.ep, .int .i64 d]] w fun e w' => e = .returned (.int .i64 d) ∧ Below w.heap.size w w' := by
  have b0 : Hid (Below w.heap.size w (w.alloc (.cells #[.string o.k, .slice va vn vc, .int .i64 o.r.s, .slice ua o.r.l.length uc, .string o.r.b, .int .i64 o.asked, .int .i64 o.got, .int .i64 o.ep, .int .i64 d] 119))) := (Below.refl _ w).alloc (Nat.le_refl _) _
  go_enter Tryz.func242, Tryz.ntmps242
  go_wp2
  go_ret
  exact ⟨rfl, b0.out⟩
/-- The object behind the interface, its date being d. -/
def kV (o : Ob) (va ua : Option Addr) (vn vc uc : Nat) (d : Int) : Value := if 0 ≤ d then .iface 119 (.agg #[.string o.k, .slice va vn vc, .int .i64 o.r.s, .slice ua o.r.l.length uc, .string o.r.b, .int .i64 o.asked, .int .i64 o.got, .int .i64 o.ep, .int .i64 d]) else .iface 116 (.agg #[.string o.k, .slice va vn vc, .int .i64 o.r.s, .slice ua o.r.l.length uc, .string o.r.b, .int .i64 o.asked, .int .i64 o.got, .int .i64 o.ep])
theorem kV_y (o : Ob) (va ua : Option Addr) (vn vc uc : Nat) {d : Int} (h : 0 ≤ d) : kV o va ua vn vc uc d = .iface 119 (.agg #[.string o.k, .slice va vn vc, .int .i64 o.r.s, .slice ua o.r.l.length uc, .string o.r.b, .int .i64 o.asked, .int .i64 o.got, .int .i64 o.ep, .int .i64 d]) := if_pos h
theorem kV_n (o : Ob) (va ua : Option Addr) (vn vc uc : Nat) {d : Int} (h : ¬ 0 ≤ d) : kV o va ua vn vc uc d = .iface 116 (.agg #[.string o.k, .slice va vn vc, .int .i64 o.r.s, .slice ua o.r.l.length uc, .string o.r.b, .int .i64 o.asked, .int .i64 o.got, .int .i64 o.ep]) := if_neg h
set_option maxRecDepth 100000 in
set_option maxHeartbeats 2000000 in
theorem implKept (o : Ob) (va ua : Option Addr) (vn vc uc : Nat) (d : Int) (w : World) (h : KIn w (.slice ua o.r.l.length uc) o) (hn : FldMom o.r.l nDA d) :
    Calls Tryz.prog 47 #[.agg #[.string o.k, .slice va vn vc, .int .i64 o.r.s, .slice ua o.r.l.length uc, .string o.r.b, .int .i64 o.asked, .int .i64 o.got, .int .i64 o.ep]] w fun e w' => e = .returned (kV o va ua vn vc uc d) ∧ Below w.heap.size w w' := by
  have hr := fun W (hW : KIn W (.slice ua o.r.l.length uc) o) => implMomT (.slice ua o.r.l.length uc) o.r.l nDA d W hW.1.1 hW.2.1 hn (by decide) hW.2.2.2
  have Q0 : Hid (ObB ((w.alloc (.cells #[.string o.k, .slice va vn vc, .int .i64 o.r.s, .slice ua o.r.l.length uc, .string o.r.b, .int .i64 o.asked, .int .i64 o.got, .int .i64 o.ep] 28)).alloc (.cells #[.string o.k, .slice va vn vc, .int .i64 o.r.s, .slice ua o.r.l.length uc, .string o.r.b, .int .i64 o.asked, .int .i64 o.got, .int .i64 o.ep] 116)) w.heap.size o (.slice va vn vc) (.slice ua o.r.l.length uc)) := (ObB.new w o (.slice va vn vc) (.slice ua o.r.l.length uc) 28).alloc _
  have R0 : Hid (ObB ((w.alloc (.cells #[.string o.k, .slice va vn vc, .int .i64 o.r.s, .slice ua o.r.l.length uc, .string o.r.b, .int .i64 o.asked, .int .i64 o.got, .int .i64 o.ep] 28)).alloc (.cells #[.string o.k, .slice va vn vc, .int .i64 o.r.s, .slice ua o.r.l.length uc, .string o.r.b, .int .i64 o.asked, .int .i64 o.got, .int .i64 o.ep] 116)) (w.heap.size + 1) o (.slice va vn vc) (.slice ua o.r.l.length uc)) := by
    have := ObB.new (w.alloc (.cells #[.string o.k, .slice va vn vc, .int .i64 o.r.s, .slice ua o.r.l.length uc, .string o.r.b, .int .i64 o.asked, .int .i64 o.got, .int .i64 o.ep] 28)) o (.slice va vn vc) (.slice ua o.r.l.length uc) 116
    simp only [World.size_alloc] at this
    exact this
  have b0 : Hid (Below w.heap.size w ((w.alloc (.cells #[.string o.k, .slice va vn vc, .int .i64 o.r.s, .slice ua o.r.l.length uc, .string o.r.b, .int .i64 o.asked, .int .i64 o.got, .int .i64 o.ep] 28)).alloc (.cells #[.string o.k, .slice va vn vc, .int .i64 o.r.s, .slice ua o.r.l.length uc, .string o.r.b, .int .i64 o.asked, .int .i64 o.got, .int .i64 o.ep] 116))) := ((Below.refl _ w).alloc (Nat.le_refl _) _).alloc (by simp) _
  have F0 : Hid (KIn ((w.alloc (.cells #[.string o.k, .slice va vn vc, .int .i64 o.r.s, .slice ua o.r.l.length uc, .string o.r.b, .int .i64 o.asked, .int .i64 o.got, .int .i64 o.ep] 28)).alloc (.cells #[.string o.k, .slice va vn vc, .int .i64 o.r.s, .slice ua o.r.l.length uc, .string o.r.b, .int .i64 o.asked, .int .i64 o.got, .int .i64 o.ep] 116)) (.slice ua o.r.l.length uc) o) := h.kept b0.out
  clear h hn
  unfold nDA at hr
  generalize hV : kV o va ua vn vc uc d = V
  have HV : Hid (kV o va ua vn vc uc d = V) := hV
  clear hV
  obtain ⟨q0, q1, q2, q3, q4, q5, q6, q7, qf, qh⟩ := Q0.out
  go_enter Tryz.func47, Tryz.ntmps47
  go_wp2_with fail
  refine (hr _ F0.out).mono ?_
  rintro e w2 ⟨rfl, hb2⟩
  have B2 : Hid (Below w.heap.size w w2) := past6 b0.out hb2
  have R2 : Hid (ObB w2 (w.heap.size + 1) o (.slice va vn vc) (.slice ua o.r.l.length uc)) := R0.out.next hb2
  clear hb2 hr b0 F0 Q0 q0 q1 q2 q3 q4 q5 q6 q7 qf qh R0
  obtain ⟨q0, q1, q2, q3, q4, q5, q6, q7, qf, qh⟩ := R2.out
  by_cases h0 : 0 ≤ d
  · have HN : Hid (.iface 119 (.agg #[.string o.k, .slice va vn vc, .int .i64 o.r.s, .slice ua o.r.l.length uc, .string o.r.b, .int .i64 o.asked, .int .i64 o.got, .int .i64 o.ep, .int .i64 d]) = V) := by show _ = _; rw [← HV.out, kV_y _ _ _ _ _ _ h0]
    rw [tolV_y h0]
    clear h0
    go_wp2
    go_ret
    exact ⟨congrArg Ending.returned HN.out, B2.out⟩
  · have HN : Hid (.iface 116 (.agg #[.string o.k, .slice va vn vc, .int .i64 o.r.s, .slice ua o.r.l.length uc, .string o.r.b, .int .i64 o.asked, .int .i64 o.got, .int .i64 o.ep]) = V) := by show _ = _; rw [← HV.out, kV_n _ _ _ _ _ _ h0]
    rw [tolV_n h0]
    clear h0
    go_wp2
    go_ret
    exact ⟨congrArg Ending.returned HN.out, B2.out⟩
set_option maxRecDepth 100000 in
set_option maxHeartbeats 2000000 in
theorem implSince (o : Ob) (va ua : Option Addr) (vn vc uc : Nat) (d n : Int) (w : World) (hd : d ≤ 253402300799) (h0 : 0 ≤ n) (h1 : n ≤ 253402300799) :
    Calls Tryz.prog 90 #[kV o va ua vn vc uc d, .int .i64 n] w fun e w' => e = .returned (.int .i64 (if 0 ≤ d then maxI 0 (n - d) else 0)) ∧ Below w.heap.size w w' := by
  by_cases hk : 0 ≤ d
  · rw [kV_y _ _ _ _ _ _ hk, if_pos hk]
    have h3 := asD
    have h4 := mDatD o (.slice va vn vc) (.slice ua o.r.l.length uc) d
    have hr := fun W => mthDat o va ua vn vc uc d W
    have ew : IntKind.i64.wrap (n - d) = n - d := by rw [IntKind.wrap_i64]; omega
    have HM : Hid (maxI 0 (n - d) = max (n - d) 0) := by show _ = _; unfold maxI; split <;> omega
    generalize maxI 0 (n - d) = M at HM ⊢
    go_enter Tryz.func90, Tryz.ntmps90
    go_wp2_with fail
    refine (hr _).mono ?_
    rintro e w2 ⟨rfl, hb2⟩
    have B2 : Hid (Below w.heap.size w w2) := hb2
    clear hb2 hr h3 h4
    go_wp2
    all_goals go_ret
    all_goals exact ⟨ret_i10 (by have := HM.out; omega), B2.out⟩
  · rw [kV_n _ _ _ _ _ _ hk, if_neg hk]
    have h3 := asU
    go_enter Tryz.func90, Tryz.ntmps90
    go_wp2
    go_ret
    exact ⟨rfl, Below.refl _ _⟩
end Go.Proofs.YtkaogmdhjcgcdaaGreatDoor
namespace Go.Proofs.YtkaogmdhjcgcdaaGreatDoor
open Go.RowKit Go.Sort
set_option linter.unusedVariables false
set_option linter.unusedSimpArgs false

set_option maxRecDepth 100000 in
set_option maxHeartbeats 2000000 in
theorem lifeOfD (o : Ob) (va ua : Option Addr) (vn vc uc : Nat) (en d : Int) (w : World) (h : KIn w (.slice ua o.r.l.length uc) o) (hn : FldMom o.r.l nEX en) (hdb : d ≤ 253402300799) (hk : 0 ≤ d) :
    Calls Tryz.prog 57 #[.iface 119 (.agg #[.string o.k, .slice va vn vc, .int .i64 o.r.s, .slice ua o.r.l.length uc, .string o.r.b, .int .i64 o.asked, .int .i64 o.got, .int .i64 o.ep, .int .i64 d])] w fun e w' => e = .returned (.int .i64 (lifeF (ctlOf o.r.l) en d)) ∧ Below w.heap.size w w' := by
  have g1 := mCtlD o (.slice va vn vc) (.slice ua o.r.l.length uc) d
  have g2 := mExpD o (.slice va vn vc) (.slice ua o.r.l.length uc) d
  have hc := fun W hW => mthCtl o va ua vn vc uc W hW
  have he := fun W hW => mthExp o va ua vn vc uc en W hW hn
  have hs : Hid (0 ≤ en → ∀ W, Calls Tryz.prog 90 #[.iface 119 (.agg #[.string o.k, .slice va vn vc, .int .i64 o.r.s, .slice ua o.r.l.length uc, .string o.r.b, .int .i64 o.asked, .int .i64 o.got, .int .i64 o.ep, .int .i64 d]), .int .i64 en] W fun e w' => e = .returned (.int .i64 (if 0 ≤ d then maxI 0 (en - d) else 0)) ∧ Below W.heap.size W w') := fun h0 W => by
    have := implSince o va ua vn vc uc d en W hdb h0 hn.bd.2
    rw [kV_y _ _ _ _ _ _ hk] at this
    exact this
  have cb := ctB_iff.1 (ctlOf_ok o.r.l)
  have cb1 := (secB_iff.1 cb.1).1
  have cb2 := (secB_iff.1 cb.2.1).1
  generalize ctlOf o.r.l = C at hc cb1 cb2 ⊢
  clear cb
  obtain ⟨ca, cs, ct, cns, cnc, cpr, cmu⟩ := C
  have HL : Hid (lifeF ⟨ca, cs, ct, cns, cnc, cpr, cmu⟩ en d = if 0 ≤ cs then cs else if 0 ≤ ca then ca else if 0 ≤ en ∧ 0 ≤ d then maxI 0 (en - d) else 0) := rfl
  generalize lifeF ⟨ca, cs, ct, cns, cnc, cpr, cmu⟩ en d = L at HL ⊢
  simp only at cb1 cb2
  unfold ctV at hc
  have F0 : Hid (KIn w (.slice ua o.r.l.length uc) o) := h
  clear h hn
  go_enter Tryz.func57, Tryz.ntmps57
  go_wp2_with fail
  refine (hc _ F0.out).mono ?_
  rintro e w1 ⟨rfl, hb1⟩
  have D1 : Hid (CtB (w1.alloc (.cells #[.int .i64 ca, .int .i64 cs, .int .i64 ct, .bool cns, .bool cnc, .bool cpr, .bool cmu] 50)) w1.heap.size ⟨ca, cs, ct, cns, cnc, cpr, cmu⟩) := CtB.born w1 ⟨ca, cs, ct, cns, cnc, cpr, cmu⟩ 50
  have B1 : Hid (Below w.heap.size w (w1.alloc (.cells #[.int .i64 ca, .int .i64 cs, .int .i64 ct, .bool cns, .bool cnc, .bool cpr, .bool cmu] 50))) := hb1.alloc hb1.size _
  have F1 : Hid (KIn (w1.alloc (.cells #[.int .i64 ca, .int .i64 cs, .int .i64 ct, .bool cns, .bool cnc, .bool cpr, .bool cmu] 50)) (.slice ua o.r.l.length uc) o) := F0.out.kept B1.out
  clear hb1 hc F0
  by_cases h1 : 0 ≤ cs
  · have k1 := tld_y h1
    have HR : Hid (cs = L) := by show _ = _; rw [HL.out, if_pos h1]
    clear h1
    go_wp2
    go_ret
    exact ⟨ret_i10 HR.out, B1.out⟩
  have k1 := tld_n cb2 h1
  by_cases h2 : 0 ≤ ca
  · have k2 := tld_y h2
    have HR : Hid (ca = L) := by show _ = _; rw [HL.out, if_neg h1, if_pos h2]
    clear h1 h2
    go_wp2
    go_ret
    exact ⟨ret_i10 HR.out, B1.out⟩
  have k2 := tld_n cb1 h2
  have HR : Hid (L = if 0 ≤ en ∧ 0 ≤ d then maxI 0 (en - d) else 0) := by show _ = _; rw [HL.out, if_neg h1, if_neg h2]
  clear h1 h2 HL cb1 cb2
  go_wp2_with fail
  refine (he _ F1.out).mono ?_
  rintro e w3 ⟨rfl, hb3⟩
  have B3 : Hid (Below w.heap.size w w3) := past6 B1.out hb3
  clear hb3 he F1 B1 D1 k1 k2 g1 g2
  by_cases h3 : 0 ≤ en
  · have HS : Hid ((if 0 ≤ d then maxI 0 (en - d) else 0) = L) := by
      show _ = _
      rw [HR.out]
      by_cases h4 : 0 ≤ d
      · rw [if_pos h4, if_pos ⟨h3, h4⟩]
      · rw [if_neg h4, if_neg (fun x => h4 x.2)]
    have hs2 := hs.out h3
    rw [tolV_y h3]
    generalize (if 0 ≤ d then maxI 0 (en - d) else 0) = M at HS hs2
    clear h3 HR hs hk hdb
    go_wp2_with fail
    refine (hs2 _).mono ?_
    rintro e w4 ⟨rfl, hb4⟩
    have B4 : Hid (Below w.heap.size w w4) := past6 B3.out hb4
    clear hb4 hs2 B3
    go_wp2
    go_ret
    exact ⟨ret_i10 HS.out, B4.out⟩
  · have HS : Hid (0 = L) := by show _ = _; rw [HR.out, if_neg (fun x => h3 x.1)]
    rw [tolV_n h3]
    clear h3 HR hs hk hdb
    go_wp2
    go_ret
    exact ⟨ret_i10 HS.out, B3.out⟩
set_option maxRecDepth 100000 in
set_option maxHeartbeats 2000000 in
theorem lifeOfU (o : Ob) (va ua : Option Addr) (vn vc uc : Nat) (en d : Int) (w : World) (h : KIn w (.slice ua o.r.l.length uc) o) (hn : FldMom o.r.l nEX en) (hdb : d ≤ 253402300799) (hk : ¬ 0 ≤ d) :
    Calls Tryz.prog 57 #[.iface 116 (.agg #[.string o.k, .slice va vn vc, .int .i64 o.r.s, .slice ua o.r.l.length uc, .string o.r.b, .int .i64 o.asked, .int .i64 o.got, .int .i64 o.ep])] w fun e w' => e = .returned (.int .i64 (lifeF (ctlOf o.r.l) en d)) ∧ Below w.heap.size w w' := by
  have g1 := mCtlU o (.slice va vn vc) (.slice ua o.r.l.length uc)
  have g2 := mExpU o (.slice va vn vc) (.slice ua o.r.l.length uc)
  have hc := fun W hW => mthCtl o va ua vn vc uc W hW
  have he := fun W hW => mthExp o va ua vn vc uc en W hW hn
  have hs : Hid (0 ≤ en → ∀ W, Calls Tryz.prog 90 #[.iface 116 (.agg #[.string o.k, .slice va vn vc, .int .i64 o.r.s, .slice ua o.r.l.length uc, .string o.r.b, .int .i64 o.asked, .int .i64 o.got, .int .i64 o.ep]), .int .i64 en] W fun e w' => e = .returned (.int .i64 (if 0 ≤ d then maxI 0 (en - d) else 0)) ∧ Below W.heap.size W w') := fun h0 W => by
    have := implSince o va ua vn vc uc d en W hdb h0 hn.bd.2
    rw [kV_n _ _ _ _ _ _ hk] at this
    exact this
  have cb := ctB_iff.1 (ctlOf_ok o.r.l)
  have cb1 := (secB_iff.1 cb.1).1
  have cb2 := (secB_iff.1 cb.2.1).1
  generalize ctlOf o.r.l = C at hc cb1 cb2 ⊢
  clear cb
  obtain ⟨ca, cs, ct, cns, cnc, cpr, cmu⟩ := C
  have HL : Hid (lifeF ⟨ca, cs, ct, cns, cnc, cpr, cmu⟩ en d = if 0 ≤ cs then cs else if 0 ≤ ca then ca else if 0 ≤ en ∧ 0 ≤ d then maxI 0 (en - d) else 0) := rfl
  generalize lifeF ⟨ca, cs, ct, cns, cnc, cpr, cmu⟩ en d = L at HL ⊢
  simp only at cb1 cb2
  unfold ctV at hc
  have F0 : Hid (KIn w (.slice ua o.r.l.length uc) o) := h
  clear h hn
  go_enter Tryz.func57, Tryz.ntmps57
  go_wp2_with fail
  refine (hc _ F0.out).mono ?_
  rintro e w1 ⟨rfl, hb1⟩
  have D1 : Hid (CtB (w1.alloc (.cells #[.int .i64 ca, .int .i64 cs, .int .i64 ct, .bool cns, .bool cnc, .bool cpr, .bool cmu] 50)) w1.heap.size ⟨ca, cs, ct, cns, cnc, cpr, cmu⟩) := CtB.born w1 ⟨ca, cs, ct, cns, cnc, cpr, cmu⟩ 50
  have B1 : Hid (Below w.heap.size w (w1.alloc (.cells #[.int .i64 ca, .int .i64 cs, .int .i64 ct, .bool cns, .bool cnc, .bool cpr, .bool cmu] 50))) := hb1.alloc hb1.size _
  have F1 : Hid (KIn (w1.alloc (.cells #[.int .i64 ca, .int .i64 cs, .int .i64 ct, .bool cns, .bool cnc, .bool cpr, .bool cmu] 50)) (.slice ua o.r.l.length uc) o) := F0.out.kept B1.out
  clear hb1 hc F0
  by_cases h1 : 0 ≤ cs
  · have k1 := tld_y h1
    have HR : Hid (cs = L) := by show _ = _; rw [HL.out, if_pos h1]
    clear h1
    go_wp2
    go_ret
    exact ⟨ret_i10 HR.out, B1.out⟩
  have k1 := tld_n cb2 h1
  by_cases h2 : 0 ≤ ca
  · have k2 := tld_y h2
    have HR : Hid (ca = L) := by show _ = _; rw [HL.out, if_neg h1, if_pos h2]
    clear h1 h2
    go_wp2
    go_ret
    exact ⟨ret_i10 HR.out, B1.out⟩
  have k2 := tld_n cb1 h2
  have HR : Hid (L = if 0 ≤ en ∧ 0 ≤ d then maxI 0 (en - d) else 0) := by show _ = _; rw [HL.out, if_neg h1, if_neg h2]
  clear h1 h2 HL cb1 cb2
  go_wp2_with fail
  refine (he _ F1.out).mono ?_
  rintro e w3 ⟨rfl, hb3⟩
  have B3 : Hid (Below w.heap.size w w3) := past6 B1.out hb3
  clear hb3 he F1 B1 D1 k1 k2 g1 g2
  by_cases h3 : 0 ≤ en
  · have HS : Hid ((if 0 ≤ d then maxI 0 (en - d) else 0) = L) := by
      show _ = _
      rw [HR.out]
      by_cases h4 : 0 ≤ d
      · rw [if_pos h4, if_pos ⟨h3, h4⟩]
      · rw [if_neg h4, if_neg (fun x => h4 x.2)]
    have hs2 := hs.out h3
    rw [tolV_y h3]
    generalize (if 0 ≤ d then maxI 0 (en - d) else 0) = M at HS hs2
    clear h3 HR hs hk hdb
    go_wp2_with fail
    refine (hs2 _).mono ?_
    rintro e w4 ⟨rfl, hb4⟩
    have B4 : Hid (Below w.heap.size w w4) := past6 B3.out hb4
    clear hb4 hs2 B3
    go_wp2
    go_ret
    exact ⟨ret_i10 HS.out, B4.out⟩
  · have HS : Hid (0 = L) := by show _ = _; rw [HR.out, if_neg (fun x => h3 x.1)]
    rw [tolV_n h3]
    clear h3 HR hs hk hdb
    go_wp2
    go_ret
    exact ⟨ret_i10 HS.out, B3.out⟩
theorem implLifeOf (o : Ob) (va ua : Option Addr) (vn vc uc : Nat) (en d : Int) (w : World) (h : KIn w (.slice ua o.r.l.length uc) o) (hn : FldMom o.r.l nEX en) (hd : FldMom o.r.l nDA d) :
    Calls Tryz.prog 57 #[kV o va ua vn vc uc d] w fun e w' => e = .returned (.int .i64 (lifeF (ctlOf o.r.l) en d)) ∧ Below w.heap.size w w' := by
  by_cases hk : 0 ≤ d
  · rw [kV_y _ _ _ _ _ _ hk]
    exact lifeOfD o va ua vn vc uc en d w h hn hd.bd.2 hk
  · rw [kV_n _ _ _ _ _ _ hk]
    exact lifeOfU o va ua vn vc uc en d w h hn hd.bd.2 hk
set_option maxRecDepth 100000 in
set_option maxHeartbeats 2000000 in
theorem ageOfD (o : Ob) (va ua : Option Addr) (vn vc uc : Nat) (now d : Int) (w : World) (h : KIn w (.slice ua o.r.l.length uc) o) (hdb : d ≤ 253402300799) (hk : 0 ≤ d) (a1 : 0 ≤ o.asked) (a2 : o.asked ≤ o.got) (a3 : o.got ≤ now) (a4 : now ≤ 253402300799) :
    Calls Tryz.prog 46 #[.iface 119 (.agg #[.string o.k, .slice va vn vc, .int .i64 o.r.s, .slice ua o.r.l.length uc, .string o.r.b, .int .i64 o.asked, .int .i64 o.got, .int .i64 o.ep, .int .i64 d]), .int .i64 now] w fun e w' => e = .returned (.int .i64 (ageF o (numV 10 15 (getF o.r.l nAG).1) d now)) ∧ Below w.heap.size w w' := by
  have g1 := mGotD o (.slice va vn vc) (.slice ua o.r.l.length uc) d
  have g2 := mAgeD o (.slice va vn vc) (.slice ua o.r.l.length uc) d
  have g3 := mWaiD o (.slice va vn vc) (.slice ua o.r.l.length uc) d
  have hG := fun W => mthGot o va ua vn vc uc W
  have hA := fun W hW => mthAge o va ua vn vc uc W hW
  have hW := fun W => mthWai o va ua vn vc uc W a1 a2 (by omega)
  have hs := fun W => implSince o va ua vn vc uc d o.got W hdb (by omega) (by omega)
  simp only [kV_y _ _ _ _ _ _ hk] at hs
  have lim := numV_lim (getF o.r.l nAG).1
  have HM : Hid (ageF o (numV 10 15 (getF o.r.l nAG).1) d now = min (max (if 0 ≤ d then maxI 0 (o.got - d) else 0) (numV 10 15 (getF o.r.l nAG).1 + (o.got - o.asked)) + now - o.got) 1000000000) := by
    show _ = _
    unfold ageF minI maxI
    repeat' split
    all_goals omega
  have hsb : 0 ≤ (if 0 ≤ d then maxI 0 (o.got - d) else 0) ∧ (if 0 ≤ d then maxI 0 (o.got - d) else 0) ≤ 253402300799 := by
    unfold maxI
    repeat' split
    all_goals omega
  generalize ageF o (numV 10 15 (getF o.r.l nAG).1) d now = R at HM ⊢
  generalize numV 10 15 (getF o.r.l nAG).1 = A at HM hA lim
  generalize (if 0 ≤ d then maxI 0 (o.got - d) else 0) = S at HM hs hsb
  have e1 : IntKind.i64.wrap (A + (o.got - o.asked)) = A + (o.got - o.asked) := by rw [IntKind.wrap_i64]; omega
  have e2 : IntKind.i64.wrap (max S (A + (o.got - o.asked)) + now) = max S (A + (o.got - o.asked)) + now := by rw [IntKind.wrap_i64]; omega
  have e3 : IntKind.i64.wrap (max S (A + (o.got - o.asked)) + now - o.got) = max S (A + (o.got - o.asked)) + now - o.got := by rw [IntKind.wrap_i64]; omega
  have F0 : Hid (KIn w (.slice ua o.r.l.length uc) o) := h
  have LB : Hid ((0 ≤ S ∧ S ≤ 253402300799) ∧ (0 ≤ A ∧ A < 1000000000000000) ∧ 0 ≤ o.asked ∧ o.asked ≤ o.got ∧ o.got ≤ now ∧ now ≤ 253402300799) := ⟨hsb, lim, a1, a2, a3, a4⟩
  clear h hk hdb a1 a2 a3 a4 hsb lim
  go_enter Tryz.func46, Tryz.ntmps46
  go_wp2_with fail
  refine (hG _).mono ?_
  rintro e w1 ⟨rfl, hb1⟩
  have B1 : Hid (Below w.heap.size w w1) := hb1
  clear hb1
  go_wp2_with fail
  refine (hs _).mono ?_
  rintro e w2 ⟨rfl, hb2⟩
  have B2 : Hid (Below w.heap.size w w2) := past6 B1.out hb2
  clear hb2 hs B1
  go_wp2_with fail
  refine (hA _ (F0.out.kept B2.out)).mono ?_
  rintro e w3 ⟨rfl, hb3⟩
  have B3 : Hid (Below w.heap.size w w3) := past6 B2.out hb3
  clear hb3 hA B2 F0
  go_wp2_with fail
  refine (hW _).mono ?_
  rintro e w4 ⟨rfl, hb4⟩
  have B4 : Hid (Below w.heap.size w w4) := past6 B3.out hb4
  clear hb4 hW B3
  go_wp2_with fail
  all_goals
    refine (hG _).mono ?_
    rintro e w5 ⟨rfl, hb5⟩
    have B5 : Hid (Below w.heap.size w w5) := past6 B4.out hb5
    clear hb5
    go_wp2
  all_goals
    go_ret
    exact ⟨ret_i10 (by have := HM.out; have := LB.out; omega), B5.out⟩
set_option maxRecDepth 100000 in
set_option maxHeartbeats 2000000 in
theorem ageOfU (o : Ob) (va ua : Option Addr) (vn vc uc : Nat) (now d : Int) (w : World) (h : KIn w (.slice ua o.r.l.length uc) o) (hdb : d ≤ 253402300799) (hk : ¬ 0 ≤ d) (a1 : 0 ≤ o.asked) (a2 : o.asked ≤ o.got) (a3 : o.got ≤ now) (a4 : now ≤ 253402300799) :
    Calls Tryz.prog 46 #[.iface 116 (.agg #[.string o.k, .slice va vn vc, .int .i64 o.r.s, .slice ua o.r.l.length uc, .string o.r.b, .int .i64 o.asked, .int .i64 o.got, .int .i64 o.ep]), .int .i64 now] w fun e w' => e = .returned (.int .i64 (ageF o (numV 10 15 (getF o.r.l nAG).1) d now)) ∧ Below w.heap.size w w' := by
  have g1 := mGotU o (.slice va vn vc) (.slice ua o.r.l.length uc)
  have g2 := mAgeU o (.slice va vn vc) (.slice ua o.r.l.length uc)
  have g3 := mWaiU o (.slice va vn vc) (.slice ua o.r.l.length uc)
  have hG := fun W => mthGot o va ua vn vc uc W
  have hA := fun W hW => mthAge o va ua vn vc uc W hW
  have hW := fun W => mthWai o va ua vn vc uc W a1 a2 (by omega)
  have hs := fun W => implSince o va ua vn vc uc d o.got W hdb (by omega) (by omega)
  simp only [kV_n _ _ _ _ _ _ hk] at hs
  have lim := numV_lim (getF o.r.l nAG).1
  have HM : Hid (ageF o (numV 10 15 (getF o.r.l nAG).1) d now = min (max (if 0 ≤ d then maxI 0 (o.got - d) else 0) (numV 10 15 (getF o.r.l nAG).1 + (o.got - o.asked)) + now - o.got) 1000000000) := by
    show _ = _
    unfold ageF minI maxI
    repeat' split
    all_goals omega
  have hsb : 0 ≤ (if 0 ≤ d then maxI 0 (o.got - d) else 0) ∧ (if 0 ≤ d then maxI 0 (o.got - d) else 0) ≤ 253402300799 := by
    unfold maxI
    repeat' split
    all_goals omega
  generalize ageF o (numV 10 15 (getF o.r.l nAG).1) d now = R at HM ⊢
  generalize numV 10 15 (getF o.r.l nAG).1 = A at HM hA lim
  generalize (if 0 ≤ d then maxI 0 (o.got - d) else 0) = S at HM hs hsb
  have e1 : IntKind.i64.wrap (A + (o.got - o.asked)) = A + (o.got - o.asked) := by rw [IntKind.wrap_i64]; omega
  have e2 : IntKind.i64.wrap (max S (A + (o.got - o.asked)) + now) = max S (A + (o.got - o.asked)) + now := by rw [IntKind.wrap_i64]; omega
  have e3 : IntKind.i64.wrap (max S (A + (o.got - o.asked)) + now - o.got) = max S (A + (o.got - o.asked)) + now - o.got := by rw [IntKind.wrap_i64]; omega
  have F0 : Hid (KIn w (.slice ua o.r.l.length uc) o) := h
  have LB : Hid ((0 ≤ S ∧ S ≤ 253402300799) ∧ (0 ≤ A ∧ A < 1000000000000000) ∧ 0 ≤ o.asked ∧ o.asked ≤ o.got ∧ o.got ≤ now ∧ now ≤ 253402300799) := ⟨hsb, lim, a1, a2, a3, a4⟩
  clear h hk hdb a1 a2 a3 a4 hsb lim
  go_enter Tryz.func46, Tryz.ntmps46
  go_wp2_with fail
  refine (hG _).mono ?_
  rintro e w1 ⟨rfl, hb1⟩
  have B1 : Hid (Below w.heap.size w w1) := hb1
  clear hb1
  go_wp2_with fail
  refine (hs _).mono ?_
  rintro e w2 ⟨rfl, hb2⟩
  have B2 : Hid (Below w.heap.size w w2) := past6 B1.out hb2
  clear hb2 hs B1
  go_wp2_with fail
  refine (hA _ (F0.out.kept B2.out)).mono ?_
  rintro e w3 ⟨rfl, hb3⟩
  have B3 : Hid (Below w.heap.size w w3) := past6 B2.out hb3
  clear hb3 hA B2 F0
  go_wp2_with fail
  refine (hW _).mono ?_
  rintro e w4 ⟨rfl, hb4⟩
  have B4 : Hid (Below w.heap.size w w4) := past6 B3.out hb4
  clear hb4 hW B3
  go_wp2_with fail
  all_goals
    refine (hG _).mono ?_
    rintro e w5 ⟨rfl, hb5⟩
    have B5 : Hid (Below w.heap.size w w5) := past6 B4.out hb5
    clear hb5
    go_wp2
  all_goals
    go_ret
    exact ⟨ret_i10 (by have := HM.out; have := LB.out; omega), B5.out⟩
theorem implAgeOf (o : Ob) (va ua : Option Addr) (vn vc uc : Nat) (now d : Int) (w : World) (h : KIn w (.slice ua o.r.l.length uc) o) (hd : FldMom o.r.l nDA d) (a1 : 0 ≤ o.asked) (a2 : o.asked ≤ o.got) (a3 : o.got ≤ now) (a4 : now ≤ 253402300799) :
    Calls Tryz.prog 46 #[kV o va ua vn vc uc d, .int .i64 now] w fun e w' => e = .returned (.int .i64 (ageF o (numV 10 15 (getF o.r.l nAG).1) d now)) ∧ Below w.heap.size w w' := by
  by_cases hk : 0 ≤ d
  · rw [kV_y _ _ _ _ _ _ hk]
    exact ageOfD o va ua vn vc uc now d w h hd.bd.2 hk a1 a2 a3 a4
  · rw [kV_n _ _ _ _ _ _ hk]
    exact ageOfU o va ua vn vc uc now d w h hd.bd.2 hk a1 a2 a3 a4
theorem obB_ord {o : Ob} (h : obB o = true) : 0 ≤ o.asked ∧ o.asked ≤ o.got ∧ o.got ≤ 253402300799 := by
  have h1 := h
  unfold obB at h1
  simp only [Bool.and_eq_true, decide_eq_true_eq] at h1
  exact ⟨(momB_iff.1 h1.2.2.2.1).1, h1.2.2.2.2.2.1, (momB_iff.1 h1.2.2.2.2.1).2⟩
theorem obB_kin {o : Ob} (h : obB o = true) : fldsOk o.r.l = true := rsOk_flds (obB_all h).2.2.1
set_option maxRecDepth 100000 in
set_option maxHeartbeats 2000000 in
theorem implAge (o : Ob) (v u : Value) (now dn : Int) (w : World) (hx : XP w) (h : ObIn w v u o) (hd : FldMom o.r.l nDA dn) :
    Calls Tryz.prog 12 #[obV o v u, .int .i64 now] w fun e w' => e = .returned (.int .i64 (ageV o now dn)) ∧ Below w.heap.size w w' := by
  have HA : Hid (ageV o now dn = if obB o = true ∧ momB now = true ∧ o.got ≤ now then ageF o (numV 10 15 (getF o.r.l nAG).1) dn now else -1) := rfl
  have j1 := fun W hW => implObOk o v u W hW
  have j2 := fun W => implMomB now W
  obtain ⟨va, vc, rfl⟩ := h.1.form
  obtain ⟨ua, uc, rfl⟩ := h.2.1.1.form
  have jK : Hid (obB o = true → ∀ W, XP W → ObIn W (.slice va o.l.length vc) (.slice ua o.r.l.length uc) o → Calls Tryz.prog 47 #[.agg #[.string o.k, .slice va o.l.length vc, .int .i64 o.r.s, .slice ua o.r.l.length uc, .string o.r.b, .int .i64 o.asked, .int .i64 o.got, .int .i64 o.ep]] W fun e w' => e = .returned (kV o va ua o.l.length vc uc dn) ∧ Below W.heap.size W w') := fun hk W hX hW => implKept o va ua o.l.length vc uc dn W ⟨hW.2.1, obB_kin hk, hX⟩ hd
  have jA : Hid (obB o = true → momB now = true → o.got ≤ now → ∀ W, XP W → ObIn W (.slice va o.l.length vc) (.slice ua o.r.l.length uc) o → Calls Tryz.prog 46 #[kV o va ua o.l.length vc uc dn, .int .i64 now] W fun e w' => e = .returned (.int .i64 (ageF o (numV 10 15 (getF o.r.l nAG).1) dn now)) ∧ Below W.heap.size W w') := fun hk hm hg W hX hW => implAgeOf o va ua o.l.length vc uc now dn W ⟨hW.2.1, obB_kin hk, hX⟩ hd (obB_ord hk).1 (obB_ord hk).2.1 hg (momB_iff.1 hm).2
  generalize kV o va ua o.l.length vc uc dn = kv at jK jA
  generalize ageF o (numV 10 15 (getF o.r.l nAG).1) dn now = M at HA jA
  generalize ageV o now dn = R at HA ⊢
  generalize obB o = b1 at HA j1 jK jA
  generalize momB now = b2 at HA j2 jA
  have Q0 : Hid (ObB (w.alloc (.cells #[.string o.k, .slice va o.l.length vc, .int .i64 o.r.s, .slice ua o.r.l.length uc, .string o.r.b, .int .i64 o.asked, .int .i64 o.got, .int .i64 o.ep] 28)) w.heap.size o (.slice va o.l.length vc) (.slice ua o.r.l.length uc)) := ObB.new w o _ _ _
  have B0 : Hid (Below w.heap.size w (w.alloc (.cells #[.string o.k, .slice va o.l.length vc, .int .i64 o.r.s, .slice ua o.r.l.length uc, .string o.r.b, .int .i64 o.asked, .int .i64 o.got, .int .i64 o.ep] 28))) := (Below.refl _ w).alloc (Nat.le_refl _) _
  have I0 : Hid (ObIn (w.alloc (.cells #[.string o.k, .slice va o.l.length vc, .int .i64 o.r.s, .slice ua o.r.l.length uc, .string o.r.b, .int .i64 o.asked, .int .i64 o.got, .int .i64 o.ep] 28)) (.slice va o.l.length vc) (.slice ua o.r.l.length uc) o) := h.kept B0.out
  have X0 : Hid (XP (w.alloc (.cells #[.string o.k, .slice va o.l.length vc, .int .i64 o.r.s, .slice ua o.r.l.length uc, .string o.r.b, .int .i64 o.asked, .int .i64 o.got, .int .i64 o.ep] 28))) := hx.kept B0.out
  clear h hx hd
  unfold obV at j1 ⊢
  go_enter Tryz.func12, Tryz.ntmps12
  go_wp2_with fail
  refine (j1 _ I0.out).mono ?_
  rintro e w1 ⟨rfl, hb1⟩
  have Q1 : Hid (ObB w1 w.heap.size o (.slice va o.l.length vc) (.slice ua o.r.l.length uc)) := Q0.out.next hb1
  have B1 : Hid (Below w.heap.size w w1) := past6 B0.out hb1
  have I1 : Hid (ObIn w1 (.slice va o.l.length vc) (.slice ua o.r.l.length uc) o) := I0.out.kept hb1
  have X1 : Hid (XP w1) := X0.out.kept hb1
  clear hb1 Q0 B0 I0 X0
  clear j1
  obtain ⟨q0, q1, q2, q3, q4, q5, q6, q7, qf, qh⟩ := Q1.out
  cases b1 with
  | false =>
    have HR : Hid (-1 = R) := by show _ = _; rw [HA.out]; simp
    go_wp2
    go_ret
    exact ⟨ret_i10 HR.out, B1.out⟩
  | true =>
    go_wp2_with fail
    refine (j2 _).mono ?_
    rintro e w2 ⟨rfl, rfl⟩
    clear j2
    cases b2 with
    | false =>
      have HR : Hid (-1 = R) := by show _ = _; rw [HA.out]; simp
      go_wp2
      go_ret
      exact ⟨ret_i10 HR.out, B1.out⟩
    | true =>
      by_cases hg : o.got ≤ now
      · have HR : Hid (M = R) := by show _ = _; rw [HA.out]; simp [hg]
        have jA2 : Hid _ := jA.out (by simp) (by simp) hg
        clear jA HA
        go_wp2_with fail
        refine (jK.out (by simp) _ X1.out I1.out).mono ?_
        rintro e w3 ⟨rfl, hb3⟩
        have Q3 : Hid (ObB w3 w.heap.size o (.slice va o.l.length vc) (.slice ua o.r.l.length uc)) := Q1.out.next hb3
        have B3 : Hid (Below w.heap.size w w3) := past6 B1.out hb3
        have I3 : Hid (ObIn w3 (.slice va o.l.length vc) (.slice ua o.r.l.length uc) o) := I1.out.kept hb3
        have X3 : Hid (XP w3) := X1.out.kept hb3
        clear hb3 Q1 B1 I1 X1
        clear jK q0 q1 q2 q3 q4 q5 q6 q7 qf qh
        go_wp2_with fail
        refine (jA2.out _ X3.out I3.out).mono ?_
        rintro e w4 ⟨rfl, hb4⟩
        have B4 : Hid (Below w.heap.size w w4) := past6 B3.out hb4
        clear hb4 jA2 B3 I3 X3 Q3
        go_wp2
        go_ret
        exact ⟨ret_i10 HR.out, B4.out⟩
      · have HR : Hid (-1 = R) := by show _ = _; rw [HA.out, if_neg (fun x => hg x.2.2)]
        go_wp2
        go_ret
        exact ⟨ret_i10 HR.out, B1.out⟩
end Go.Proofs.YtkaogmdhjcgcdaaGreatDoor
namespace Go.Proofs.YtkaogmdhjcgcdaaGreatDoor
open Go.RowKit Go.Sort
set_option linter.unusedVariables false
set_option linter.unusedSimpArgs false

set_option maxRecDepth 100000 in
set_option maxHeartbeats 2000000 in
theorem freshOfD (o : Ob) (va ua : Option Addr) (vn vc uc : Nat) (en d age : Int) (w : World) (h : KIn w (.slice ua o.r.l.length uc) o) (hn : FldMom o.r.l nEX en) (hd : FldMom o.r.l nDA d) (hk : 0 ≤ d) :
    Calls Tryz.prog 54 #[.iface 119 (.agg #[.string o.k, .slice va vn vc, .int .i64 o.r.s, .slice ua o.r.l.length uc, .string o.r.b, .int .i64 o.asked, .int .i64 o.got, .int .i64 o.ep, .int .i64 d]), .int .i64 age] w fun e w' => e = .returned (.bool (decide (age < lifeF (ctlOf o.r.l) en d) && !(ctlOf o.r.l).nc)) ∧ Below w.heap.size w w' := by
  have g1 := mCtlD o (.slice va vn vc) (.slice ua o.r.l.length uc) d
  have hc := fun W hW => mthCtl o va ua vn vc uc W hW
  have hl := fun W hW => implLifeOf o va ua vn vc uc en d W hW hn hd
  simp only [kV_y _ _ _ _ _ _ hk] at hl
  generalize lifeF (ctlOf o.r.l) en d = L at hl ⊢
  generalize ctlOf o.r.l = D at hc ⊢
  obtain ⟨da, ds, dt, dns, dnc, dpr, dmu⟩ := D
  simp only
  unfold ctV at hc
  have F0 : Hid (KIn w (.slice ua o.r.l.length uc) o) := h
  have hfd : ∀ W : World, (Instr.field 50 (.agg #[.int .i64 da, .int .i64 ds, .int .i64 dt, .bool dns, .bool dnc, .bool dpr, .bool dmu]) 4).run Tryz.prog W = .ok (.bool dnc) W := fun _ => by kernel_rfl
  clear h hn hd hk
  generalize hR : (decide (age < L) && !dnc) = R
  have HR : Hid ((decide (age < L) && !dnc) = R) := hR
  clear hR
  go_enter Tryz.func54, Tryz.ntmps54
  go_wp2_with fail
  refine (hl _ F0.out).mono ?_
  rintro e w1 ⟨rfl, hb1⟩
  have B1 : Hid (Below w.heap.size w w1) := hb1
  clear hb1 hl
  by_cases ha : age < L
  · have HX : Hid ((!dnc) = R) := by show _ = _; rw [← HR.out, decide_eq_true ha, Bool.true_and]
    go_wp2_with fail
    refine (hc _ (F0.out.kept B1.out)).mono ?_
    rintro e w2 ⟨rfl, hb2⟩
    have B2 : Hid (Below w.heap.size w w2) := past6 B1.out hb2
    clear hb2 hc B1 F0
    go_wp2
    go_ret
    exact ⟨ret_bool HX.out, B2.out⟩
  · have HX : Hid (false = R) := by show _ = _; rw [← HR.out, decide_eq_false ha, Bool.false_and]
    go_wp2
    go_ret
    exact ⟨ret_bool HX.out, B1.out⟩
set_option maxRecDepth 100000 in
set_option maxHeartbeats 2000000 in
theorem freshOfU (o : Ob) (va ua : Option Addr) (vn vc uc : Nat) (en d age : Int) (w : World) (h : KIn w (.slice ua o.r.l.length uc) o) (hn : FldMom o.r.l nEX en) (hd : FldMom o.r.l nDA d) (hk : ¬ 0 ≤ d) :
    Calls Tryz.prog 54 #[.iface 116 (.agg #[.string o.k, .slice va vn vc, .int .i64 o.r.s, .slice ua o.r.l.length uc, .string o.r.b, .int .i64 o.asked, .int .i64 o.got, .int .i64 o.ep]), .int .i64 age] w fun e w' => e = .returned (.bool (decide (age < lifeF (ctlOf o.r.l) en d) && !(ctlOf o.r.l).nc)) ∧ Below w.heap.size w w' := by
  have g1 := mCtlU o (.slice va vn vc) (.slice ua o.r.l.length uc)
  have hc := fun W hW => mthCtl o va ua vn vc uc W hW
  have hl := fun W hW => implLifeOf o va ua vn vc uc en d W hW hn hd
  simp only [kV_n _ _ _ _ _ _ hk] at hl
  generalize lifeF (ctlOf o.r.l) en d = L at hl ⊢
  generalize ctlOf o.r.l = D at hc ⊢
  obtain ⟨da, ds, dt, dns, dnc, dpr, dmu⟩ := D
  simp only
  unfold ctV at hc
  have F0 : Hid (KIn w (.slice ua o.r.l.length uc) o) := h
  have hfd : ∀ W : World, (Instr.field 50 (.agg #[.int .i64 da, .int .i64 ds, .int .i64 dt, .bool dns, .bool dnc, .bool dpr, .bool dmu]) 4).run Tryz.prog W = .ok (.bool dnc) W := fun _ => by kernel_rfl
  clear h hn hd hk
  generalize hR : (decide (age < L) && !dnc) = R
  have HR : Hid ((decide (age < L) && !dnc) = R) := hR
  clear hR
  go_enter Tryz.func54, Tryz.ntmps54
  go_wp2_with fail
  refine (hl _ F0.out).mono ?_
  rintro e w1 ⟨rfl, hb1⟩
  have B1 : Hid (Below w.heap.size w w1) := hb1
  clear hb1 hl
  by_cases ha : age < L
  · have HX : Hid ((!dnc) = R) := by show _ = _; rw [← HR.out, decide_eq_true ha, Bool.true_and]
    go_wp2_with fail
    refine (hc _ (F0.out.kept B1.out)).mono ?_
    rintro e w2 ⟨rfl, hb2⟩
    have B2 : Hid (Below w.heap.size w w2) := past6 B1.out hb2
    clear hb2 hc B1 F0
    go_wp2
    go_ret
    exact ⟨ret_bool HX.out, B2.out⟩
  · have HX : Hid (false = R) := by show _ = _; rw [← HR.out, decide_eq_false ha, Bool.false_and]
    go_wp2
    go_ret
    exact ⟨ret_bool HX.out, B1.out⟩
theorem implFrOf (o : Ob) (va ua : Option Addr) (vn vc uc : Nat) (en d age : Int) (w : World) (h : KIn w (.slice ua o.r.l.length uc) o) (hn : FldMom o.r.l nEX en) (hd : FldMom o.r.l nDA d) :
    Calls Tryz.prog 54 #[kV o va ua vn vc uc d, .int .i64 age] w fun e w' => e = .returned (.bool (decide (age < lifeF (ctlOf o.r.l) en d) && !(ctlOf o.r.l).nc)) ∧ Below w.heap.size w w' := by
  by_cases hk : 0 ≤ d
  · rw [kV_y _ _ _ _ _ _ hk]
    exact freshOfD o va ua vn vc uc en d age w h hn hd hk
  · rw [kV_n _ _ _ _ _ _ hk]
    exact freshOfU o va ua vn vc uc en d age w h hn hd hk
theorem ageV_ok {o : Ob} {now d : Int} (h : 0 ≤ ageV o now d) : obB o = true := by
  unfold ageV at h
  split at h
  · rename_i h0; exact h0.1
  · omega
theorem lifeV_ok {r : Rs} {e d : Int} (h : rsOk r = true) : lifeV r e d = lifeF (ctlOf r.l) e d := by unfold lifeV; rw [if_pos h]
/-- What the program serves. -/
def servI (a b : Ct) (age life : Int) : Bool := !(a.nc || (decide (0 ≤ a.a) && decide (a.a < age))) && (if (decide (age < life) && !b.nc) = true then !a.ns else (!b.nc && (!b.mu && (decide (0 ≤ a.t) && decide (age - life ≤ a.t)))))
def decI (l : List Fl) (o : Ob) (now e d : Int) : Int :=
  if fldsOk l = true ∧ 0 ≤ ageV o now d then
    if servI (ctlOf l) (ctlOf o.r.l) (ageV o now d) (lifeV o.r e d) = true then 1
    else if tagOf o.r.l = true then 2 else 3
  else 0
theorem decI_is {l : List Fl} {o : Ob} {now e d : Int} (h : (ctlOf l).ns = false) : decI l o now e d = decV l o now e d := by
  unfold decI decV
  by_cases h0 : fldsOk l = true ∧ 0 ≤ ageV o now d
  · rw [if_pos h0, if_pos h0]
    have hb := (secB_iff.1 (ctB_iff.1 (ctlOf_ok l)).1).1
    have hf : freshV o now e d = (decide (ageV o now d < lifeV o.r e d) && !(ctlOf o.r.l).nc) := by unfold freshV; rw [decide_eq_true h0.2, Bool.true_and]
    have hs : servI (ctlOf l) (ctlOf o.r.l) (ageV o now d) (lifeV o.r e d) = true ↔ (mayV (ctlOf l) (ageV o now d) = true ∧ (freshV o now e d = true ∨ staleV (ctlOf l) (ctlOf o.r.l) (ageV o now d) (lifeV o.r e d) = true)) := by
      rw [hf]
      unfold servI mayV staleV
      rw [h]
      generalize ageV o now d = A at *
      generalize lifeV o.r e d = L at *
      generalize ctlOf l = a at *
      generalize ctlOf o.r.l = b at *
      have hm : (!(a.nc || (decide (0 ≤ a.a) && decide (a.a < A)))) = (!a.nc && (decide (a.a < 0) || decide (A ≤ a.a))) := by
        cases a.nc with
        | true => rfl
        | false =>
          by_cases h1 : 0 ≤ a.a
          · by_cases h2 : a.a < A
            · rw [decide_eq_true h1, decide_eq_true h2, decide_eq_false (by omega : ¬ a.a < 0), decide_eq_false (by omega : ¬ A ≤ a.a)]; rfl
            · rw [decide_eq_true h1, decide_eq_false h2, decide_eq_false (by omega : ¬ a.a < 0), decide_eq_true (by omega : A ≤ a.a)]; rfl
          · rw [decide_eq_false h1, decide_eq_true (by omega : a.a < 0)]; rfl
      rw [hm]
      cases hF : (decide (A < L) && !b.nc) with
      | true => simp
      | false => simp [and_assoc]
    by_cases h1 : servI (ctlOf l) (ctlOf o.r.l) (ageV o now d) (lifeV o.r e d) = true
    · rw [if_pos h1, if_pos (hs.1 h1)]
    · rw [if_neg h1, if_neg (fun x => h1 (hs.2 x))]
  · rw [if_neg h0, if_neg h0]
set_option maxRecDepth 100000 in
set_option maxHeartbeats 4000000 in
theorem servOfD (a : Ct) (o : Ob) (va ua : Option Addr) (vn vc uc : Nat) (en d age : Int) (w : World) (h : KIn w (.slice ua o.r.l.length uc) o) (hn : FldMom o.r.l nEX en) (hd : FldMom o.r.l nDA d) (hk : 0 ≤ d) (ha1 : -1 ≤ a.a) (ha2 : -1 ≤ a.t) (hg0 : 0 ≤ age) (hg1 : age ≤ 1000000000) :
    Calls Tryz.prog 73 #[ctV a, .iface 119 (.agg #[.string o.k, .slice va vn vc, .int .i64 o.r.s, .slice ua o.r.l.length uc, .string o.r.b, .int .i64 o.asked, .int .i64 o.got, .int .i64 o.ep, .int .i64 d]), .int .i64 age] w fun e w' => e = .returned (.bool (servI a (ctlOf o.r.l) age (lifeF (ctlOf o.r.l) en d))) ∧ Below w.heap.size w w' := by
  have g1 := mCtlD o (.slice va vn vc) (.slice ua o.r.l.length uc) d
  have hc := fun W hW => mthCtl o va ua vn vc uc W hW
  have hl := fun W hW => implLifeOf o va ua vn vc uc en d W hW hn hd
  have hf := fun W hW => implFrOf o va ua vn vc uc en d age W hW hn hd
  simp only [kV_y _ _ _ _ _ _ hk] at hl hf
  have hlb : -1 ≤ lifeF (ctlOf o.r.l) en d ∧ lifeF (ctlOf o.r.l) en d ≤ 253402300800 := by
    have cb := ctB_iff.1 (ctlOf_ok o.r.l)
    have c1 := secB_iff.1 cb.1
    have c2 := secB_iff.1 cb.2.1
    have b1 := hn.bd
    have b2 := hd.bd
    unfold lifeF maxI
    repeat' split
    all_goals omega
  have e1 : IntKind.i64.wrap (age - lifeF (ctlOf o.r.l) en d) = age - lifeF (ctlOf o.r.l) en d := by rw [IntKind.wrap_i64]; omega
  have HS : Hid (servI a (ctlOf o.r.l) age (lifeF (ctlOf o.r.l) en d) = (!(a.nc || (decide (0 ≤ a.a) && decide (a.a < age))) && (if (decide (age < lifeF (ctlOf o.r.l) en d) && !(ctlOf o.r.l).nc) = true then !a.ns else (!(ctlOf o.r.l).nc && (!(ctlOf o.r.l).mu && (decide (0 ≤ a.t) && decide (age - lifeF (ctlOf o.r.l) en d ≤ a.t))))))) := rfl
  generalize servI a (ctlOf o.r.l) age (lifeF (ctlOf o.r.l) en d) = R at HS ⊢
  generalize lifeF (ctlOf o.r.l) en d = L at hl hf HS e1
  clear hlb hg0 hg1
  generalize ctlOf o.r.l = D at hc hf HS
  obtain ⟨da, ds, dt, dns, dnc, dpr, dmu⟩ := D
  obtain ⟨ca, cs, ct, cns, cnc, cpr, cmu⟩ := a
  simp only at HS hf ha1 ha2
  generalize hP : (decide (age < L) && !dnc) = P at hf HS
  clear hP
  unfold ctV at hc ⊢
  have C0 : Hid (CtB (w.alloc (.cells #[.int .i64 ca, .int .i64 cs, .int .i64 ct, .bool cns, .bool cnc, .bool cpr, .bool cmu] 50)) w.heap.size ⟨ca, cs, ct, cns, cnc, cpr, cmu⟩) := CtB.born w ⟨ca, cs, ct, cns, cnc, cpr, cmu⟩ 50
  have B0 : Hid (Below w.heap.size w (w.alloc (.cells #[.int .i64 ca, .int .i64 cs, .int .i64 ct, .bool cns, .bool cnc, .bool cpr, .bool cmu] 50))) := (Below.refl _ w).alloc (Nat.le_refl _) _
  have F0 : Hid (KIn (w.alloc (.cells #[.int .i64 ca, .int .i64 cs, .int .i64 ct, .bool cns, .bool cnc, .bool cpr, .bool cmu] 50)) (.slice ua o.r.l.length uc) o) := h.kept B0.out
  clear h hn hd hk
  obtain ⟨a0, a1, a2, a3, a4, a5, a6⟩ := C0.out.all
  simp only at a0 a1 a2 a3 a4 a5 a6
  go_enter Tryz.func73, Tryz.ntmps73
  cases cnc with
  | true =>
    have HX : Hid (false = R) := by show _ = _; rw [HS.out]; rfl
    go_wp2
    go_ret
    exact ⟨ret_bool HX.out, B0.out⟩
  | false =>
    suffices HG : (decide (0 ≤ ca) && decide (ca < age)) = false → _ by
      by_cases h1 : 0 ≤ ca
      · by_cases h2 : ca < age
        · have k1 := tld_y h1
          have HX : Hid (false = R) := by show _ = _; rw [HS.out, decide_eq_true h1, decide_eq_true h2]; rfl
          clear h1 HG
          go_wp2
          go_ret
          exact ⟨ret_bool HX.out, B0.out⟩
        · exact HG (by rw [decide_eq_false h2, Bool.and_false])
      · exact HG (by rw [decide_eq_false h1, Bool.false_and])
    intro hq
    have HX : Hid ((if P = true then !cns else (!dnc && (!dmu && (decide (0 ≤ ct) && decide (age - L ≤ ct))))) = R) := by show _ = _; rw [HS.out, hq]; rfl
    have HQ : (ca != -1) = false ∨ ((ca != -1) = true ∧ ¬ ca < age) := by
      by_cases h1 : 0 ≤ ca
      · refine .inr ⟨tld_y h1, fun h2 => ?_⟩
        rw [decide_eq_true h1, decide_eq_true h2] at hq
        cases hq
      · exact .inl (tld_n ha1 h1)
    clear hq HS ha1
    rcases HQ with k1 | ⟨k1, k2⟩
    all_goals
      go_wp2_with fail
      refine (hf _ F0.out).mono ?_
      rintro e w1 ⟨rfl, hb1⟩
      have C1 : Hid (CtB w1 w.heap.size ⟨ca, cs, ct, cns, false, cpr, cmu⟩) := C0.out.kept hb1
      have B1 : Hid (Below w.heap.size w w1) := past6 B0.out hb1
      have F1 : Hid (KIn w1 (.slice ua o.r.l.length uc) o) := F0.out.kept hb1
      clear hb1 hf C0 B0 F0 a0 a1 a2 a3 a4 a5 a6
      cases P with
      | true =>
        have HY : Hid ((!cns) = R) := HX.out
        obtain ⟨a0, a1, a2, a3, a4, a5, a6⟩ := C1.out.all
        simp only at a0 a1 a2 a3 a4 a5 a6
        go_wp2
        go_ret
        exact ⟨ret_bool HY.out, B1.out⟩
      | false =>
        have HY : Hid ((!dnc && (!dmu && (decide (0 ≤ ct) && decide (age - L ≤ ct)))) = R) := HX.out
        clear HX
        go_wp2_with fail
        refine (hc _ F1.out).mono ?_
        rintro e w2 ⟨rfl, hb2⟩
        have D3 : Hid (CtB (w2.alloc (.cells #[.int .i64 da, .int .i64 ds, .int .i64 dt, .bool dns, .bool dnc, .bool dpr, .bool dmu] 50)) w2.heap.size ⟨da, ds, dt, dns, dnc, dpr, dmu⟩) := CtB.born w2 ⟨da, ds, dt, dns, dnc, dpr, dmu⟩ 50
        have bb := hb2.alloc hb2.size (.cells #[.int .i64 da, .int .i64 ds, .int .i64 dt, .bool dns, .bool dnc, .bool dpr, .bool dmu] 50)
        have C3 : Hid (CtB (w2.alloc (.cells #[.int .i64 da, .int .i64 ds, .int .i64 dt, .bool dns, .bool dnc, .bool dpr, .bool dmu] 50)) w.heap.size ⟨ca, cs, ct, cns, false, cpr, cmu⟩) := C1.out.kept bb
        have B3 : Hid (Below w.heap.size w (w2.alloc (.cells #[.int .i64 da, .int .i64 ds, .int .i64 dt, .bool dns, .bool dnc, .bool dpr, .bool dmu] 50))) := past6 B1.out bb
        have F3 : Hid (KIn (w2.alloc (.cells #[.int .i64 da, .int .i64 ds, .int .i64 dt, .bool dns, .bool dnc, .bool dpr, .bool dmu] 50)) (.slice ua o.r.l.length uc) o) := F1.out.kept bb
        clear bb hb2 hc C1 B1 F1
        go_upto_region 6 with fail
        generalize (w2.alloc (.cells #[.int .i64 da, .int .i64 ds, .int .i64 dt, .bool dns, .bool dnc, .bool dpr, .bool dmu] 50)) = x0 at D3 C3 B3 F3 ⊢
        have B4 : Hid (Below w.heap.size w x0) := B3
        obtain ⟨k10, k11, k12, k13, k14, k15, k16⟩ := CtB.rg C3.out
        simp only at k10 k11 k12 k13 k14 k15 k16
        obtain ⟨k20, k21, k22, k23, k24, k25, k26⟩ := CtB.rg D3.out
        simp only at k20 k21 k22 k23 k24 k25 k26
        have G4 : Hid (∀ d os, Below x0.heap.size x0 (grow (redrawn x0 d) os)) := fun d os => below_regrown x0 d os
        have cA : ∀ q os, Calls Tryz.prog 57 #[.iface 119 (.agg #[.string o.k, .slice va vn vc, .int .i64 o.r.s, .slice ua o.r.l.length uc, .string o.r.b, .int .i64 o.asked, .int .i64 o.got, .int .i64 o.ep, .int .i64 d])] (grow (redrawn x0 q) os) fun e w'' => e = .returned (.int .i64 L) ∧ ∃ p : Regrown, w'' = grow (redrawn x0 p.d) p.os := fun q os => Calls.regrown_of (hl _ (F3.out.kept (G4.out q os)))
        clear hl g1 B3 C3 D3
        cases dnc with
        | true =>
          have HR2 : Hid (false = R) := HY.out
          refine wp_region_quiet_below (by kernel_rfl) (by kernel_rfl) ?_
          repeat (go_big_quiet_step (first | (with_reducible exact cA _ _)))
          refine wpQuiet_nil ?_
          intro _ hw'
          obtain ⟨⟨dq, osq⟩, hw''⟩ := hw'
          subst hw''
          go_wp2
          go_ret
          exact ⟨ret_bool HR2.out, past6 B4.out (below_regrown x0 dq osq)⟩
        | false =>
          cases dmu with
          | true =>
            have HR2 : Hid (false = R) := HY.out
            refine wp_region_quiet_below (by kernel_rfl) (by kernel_rfl) ?_
            repeat (go_big_quiet_step (first | (with_reducible exact cA _ _)))
            refine wpQuiet_nil ?_
            intro _ hw'
            obtain ⟨⟨dq, osq⟩, hw''⟩ := hw'
            subst hw''
            go_wp2
            go_ret
            exact ⟨ret_bool HR2.out, past6 B4.out (below_regrown x0 dq osq)⟩
          | false =>
            by_cases h3 : 0 ≤ ct
            · have k3 := tld_y h3
              have HR2 : Hid (decide (age - L ≤ ct) = R) := by show _ = _; rw [← HY.out, decide_eq_true h3]; rfl
              refine wp_region_quiet_below (by kernel_rfl) (by kernel_rfl) ?_
              repeat (go_big_quiet_step (first | (with_reducible exact cA _ _)))
              refine wpQuiet_nil ?_
              intro _ hw'
              obtain ⟨⟨dq, osq⟩, hw''⟩ := hw'
              subst hw''
              go_wp2
              go_ret
              exact ⟨ret_bool HR2.out, past6 B4.out (below_regrown x0 dq osq)⟩
            · have k3 := tld_n ha2 h3
              have HR2 : Hid (false = R) := by show _ = _; rw [← HY.out, decide_eq_false h3]; rfl
              refine wp_region_quiet_below (by kernel_rfl) (by kernel_rfl) ?_
              repeat (go_big_quiet_step (first | (with_reducible exact cA _ _)))
              refine wpQuiet_nil ?_
              intro _ hw'
              obtain ⟨⟨dq, osq⟩, hw''⟩ := hw'
              subst hw''
              go_wp2
              go_ret
              exact ⟨ret_bool HR2.out, past6 B4.out (below_regrown x0 dq osq)⟩
set_option maxRecDepth 100000 in
set_option maxHeartbeats 4000000 in
theorem servOfU (a : Ct) (o : Ob) (va ua : Option Addr) (vn vc uc : Nat) (en d age : Int) (w : World) (h : KIn w (.slice ua o.r.l.length uc) o) (hn : FldMom o.r.l nEX en) (hd : FldMom o.r.l nDA d) (hk : ¬ 0 ≤ d) (ha1 : -1 ≤ a.a) (ha2 : -1 ≤ a.t) (hg0 : 0 ≤ age) (hg1 : age ≤ 1000000000) :
    Calls Tryz.prog 73 #[ctV a, .iface 116 (.agg #[.string o.k, .slice va vn vc, .int .i64 o.r.s, .slice ua o.r.l.length uc, .string o.r.b, .int .i64 o.asked, .int .i64 o.got, .int .i64 o.ep]), .int .i64 age] w fun e w' => e = .returned (.bool (servI a (ctlOf o.r.l) age (lifeF (ctlOf o.r.l) en d))) ∧ Below w.heap.size w w' := by
  have g1 := mCtlU o (.slice va vn vc) (.slice ua o.r.l.length uc)
  have hc := fun W hW => mthCtl o va ua vn vc uc W hW
  have hl := fun W hW => implLifeOf o va ua vn vc uc en d W hW hn hd
  have hf := fun W hW => implFrOf o va ua vn vc uc en d age W hW hn hd
  simp only [kV_n _ _ _ _ _ _ hk] at hl hf
  have hlb : -1 ≤ lifeF (ctlOf o.r.l) en d ∧ lifeF (ctlOf o.r.l) en d ≤ 253402300800 := by
    have cb := ctB_iff.1 (ctlOf_ok o.r.l)
    have c1 := secB_iff.1 cb.1
    have c2 := secB_iff.1 cb.2.1
    have b1 := hn.bd
    have b2 := hd.bd
    unfold lifeF maxI
    repeat' split
    all_goals omega
  have e1 : IntKind.i64.wrap (age - lifeF (ctlOf o.r.l) en d) = age - lifeF (ctlOf o.r.l) en d := by rw [IntKind.wrap_i64]; omega
  have HS : Hid (servI a (ctlOf o.r.l) age (lifeF (ctlOf o.r.l) en d) = (!(a.nc || (decide (0 ≤ a.a) && decide (a.a < age))) && (if (decide (age < lifeF (ctlOf o.r.l) en d) && !(ctlOf o.r.l).nc) = true then !a.ns else (!(ctlOf o.r.l).nc && (!(ctlOf o.r.l).mu && (decide (0 ≤ a.t) && decide (age - lifeF (ctlOf o.r.l) en d ≤ a.t))))))) := rfl
  generalize servI a (ctlOf o.r.l) age (lifeF (ctlOf o.r.l) en d) = R at HS ⊢
  generalize lifeF (ctlOf o.r.l) en d = L at hl hf HS e1
  clear hlb hg0 hg1
  generalize ctlOf o.r.l = D at hc hf HS
  obtain ⟨da, ds, dt, dns, dnc, dpr, dmu⟩ := D
  obtain ⟨ca, cs, ct, cns, cnc, cpr, cmu⟩ := a
  simp only at HS hf ha1 ha2
  generalize hP : (decide (age < L) && !dnc) = P at hf HS
  clear hP
  unfold ctV at hc ⊢
  have C0 : Hid (CtB (w.alloc (.cells #[.int .i64 ca, .int .i64 cs, .int .i64 ct, .bool cns, .bool cnc, .bool cpr, .bool cmu] 50)) w.heap.size ⟨ca, cs, ct, cns, cnc, cpr, cmu⟩) := CtB.born w ⟨ca, cs, ct, cns, cnc, cpr, cmu⟩ 50
  have B0 : Hid (Below w.heap.size w (w.alloc (.cells #[.int .i64 ca, .int .i64 cs, .int .i64 ct, .bool cns, .bool cnc, .bool cpr, .bool cmu] 50))) := (Below.refl _ w).alloc (Nat.le_refl _) _
  have F0 : Hid (KIn (w.alloc (.cells #[.int .i64 ca, .int .i64 cs, .int .i64 ct, .bool cns, .bool cnc, .bool cpr, .bool cmu] 50)) (.slice ua o.r.l.length uc) o) := h.kept B0.out
  clear h hn hd hk
  obtain ⟨a0, a1, a2, a3, a4, a5, a6⟩ := C0.out.all
  simp only at a0 a1 a2 a3 a4 a5 a6
  go_enter Tryz.func73, Tryz.ntmps73
  cases cnc with
  | true =>
    have HX : Hid (false = R) := by show _ = _; rw [HS.out]; rfl
    go_wp2
    go_ret
    exact ⟨ret_bool HX.out, B0.out⟩
  | false =>
    suffices HG : (decide (0 ≤ ca) && decide (ca < age)) = false → _ by
      by_cases h1 : 0 ≤ ca
      · by_cases h2 : ca < age
        · have k1 := tld_y h1
          have HX : Hid (false = R) := by show _ = _; rw [HS.out, decide_eq_true h1, decide_eq_true h2]; rfl
          clear h1 HG
          go_wp2
          go_ret
          exact ⟨ret_bool HX.out, B0.out⟩
        · exact HG (by rw [decide_eq_false h2, Bool.and_false])
      · exact HG (by rw [decide_eq_false h1, Bool.false_and])
    intro hq
    have HX : Hid ((if P = true then !cns else (!dnc && (!dmu && (decide (0 ≤ ct) && decide (age - L ≤ ct))))) = R) := by show _ = _; rw [HS.out, hq]; rfl
    have HQ : (ca != -1) = false ∨ ((ca != -1) = true ∧ ¬ ca < age) := by
      by_cases h1 : 0 ≤ ca
      · refine .inr ⟨tld_y h1, fun h2 => ?_⟩
        rw [decide_eq_true h1, decide_eq_true h2] at hq
        cases hq
      · exact .inl (tld_n ha1 h1)
    clear hq HS ha1
    rcases HQ with k1 | ⟨k1, k2⟩
    all_goals
      go_wp2_with fail
      refine (hf _ F0.out).mono ?_
      rintro e w1 ⟨rfl, hb1⟩
      have C1 : Hid (CtB w1 w.heap.size ⟨ca, cs, ct, cns, false, cpr, cmu⟩) := C0.out.kept hb1
      have B1 : Hid (Below w.heap.size w w1) := past6 B0.out hb1
      have F1 : Hid (KIn w1 (.slice ua o.r.l.length uc) o) := F0.out.kept hb1
      clear hb1 hf C0 B0 F0 a0 a1 a2 a3 a4 a5 a6
      cases P with
      | true =>
        have HY : Hid ((!cns) = R) := HX.out
        obtain ⟨a0, a1, a2, a3, a4, a5, a6⟩ := C1.out.all
        simp only at a0 a1 a2 a3 a4 a5 a6
        go_wp2
        go_ret
        exact ⟨ret_bool HY.out, B1.out⟩
      | false =>
        have HY : Hid ((!dnc && (!dmu && (decide (0 ≤ ct) && decide (age - L ≤ ct)))) = R) := HX.out
        clear HX
        go_wp2_with fail
        refine (hc _ F1.out).mono ?_
        rintro e w2 ⟨rfl, hb2⟩
        have D3 : Hid (CtB (w2.alloc (.cells #[.int .i64 da, .int .i64 ds, .int .i64 dt, .bool dns, .bool dnc, .bool dpr, .bool dmu] 50)) w2.heap.size ⟨da, ds, dt, dns, dnc, dpr, dmu⟩) := CtB.born w2 ⟨da, ds, dt, dns, dnc, dpr, dmu⟩ 50
        have bb := hb2.alloc hb2.size (.cells #[.int .i64 da, .int .i64 ds, .int .i64 dt, .bool dns, .bool dnc, .bool dpr, .bool dmu] 50)
        have C3 : Hid (CtB (w2.alloc (.cells #[.int .i64 da, .int .i64 ds, .int .i64 dt, .bool dns, .bool dnc, .bool dpr, .bool dmu] 50)) w.heap.size ⟨ca, cs, ct, cns, false, cpr, cmu⟩) := C1.out.kept bb
        have B3 : Hid (Below w.heap.size w (w2.alloc (.cells #[.int .i64 da, .int .i64 ds, .int .i64 dt, .bool dns, .bool dnc, .bool dpr, .bool dmu] 50))) := past6 B1.out bb
        have F3 : Hid (KIn (w2.alloc (.cells #[.int .i64 da, .int .i64 ds, .int .i64 dt, .bool dns, .bool dnc, .bool dpr, .bool dmu] 50)) (.slice ua o.r.l.length uc) o) := F1.out.kept bb
        clear bb hb2 hc C1 B1 F1
        go_upto_region 6 with fail
        generalize (w2.alloc (.cells #[.int .i64 da, .int .i64 ds, .int .i64 dt, .bool dns, .bool dnc, .bool dpr, .bool dmu] 50)) = x0 at D3 C3 B3 F3 ⊢
        have B4 : Hid (Below w.heap.size w x0) := B3
        obtain ⟨k10, k11, k12, k13, k14, k15, k16⟩ := CtB.rg C3.out
        simp only at k10 k11 k12 k13 k14 k15 k16
        obtain ⟨k20, k21, k22, k23, k24, k25, k26⟩ := CtB.rg D3.out
        simp only at k20 k21 k22 k23 k24 k25 k26
        have G4 : Hid (∀ d os, Below x0.heap.size x0 (grow (redrawn x0 d) os)) := fun d os => below_regrown x0 d os
        have cA : ∀ q os, Calls Tryz.prog 57 #[.iface 116 (.agg #[.string o.k, .slice va vn vc, .int .i64 o.r.s, .slice ua o.r.l.length uc, .string o.r.b, .int .i64 o.asked, .int .i64 o.got, .int .i64 o.ep])] (grow (redrawn x0 q) os) fun e w'' => e = .returned (.int .i64 L) ∧ ∃ p : Regrown, w'' = grow (redrawn x0 p.d) p.os := fun q os => Calls.regrown_of (hl _ (F3.out.kept (G4.out q os)))
        clear hl g1 B3 C3 D3
        cases dnc with
        | true =>
          have HR2 : Hid (false = R) := HY.out
          refine wp_region_quiet_below (by kernel_rfl) (by kernel_rfl) ?_
          repeat (go_big_quiet_step (first | (with_reducible exact cA _ _)))
          refine wpQuiet_nil ?_
          intro _ hw'
          obtain ⟨⟨dq, osq⟩, hw''⟩ := hw'
          subst hw''
          go_wp2
          go_ret
          exact ⟨ret_bool HR2.out, past6 B4.out (below_regrown x0 dq osq)⟩
        | false =>
          cases dmu with
          | true =>
            have HR2 : Hid (false = R) := HY.out
            refine wp_region_quiet_below (by kernel_rfl) (by kernel_rfl) ?_
            repeat (go_big_quiet_step (first | (with_reducible exact cA _ _)))
            refine wpQuiet_nil ?_
            intro _ hw'
            obtain ⟨⟨dq, osq⟩, hw''⟩ := hw'
            subst hw''
            go_wp2
            go_ret
            exact ⟨ret_bool HR2.out, past6 B4.out (below_regrown x0 dq osq)⟩
          | false =>
            by_cases h3 : 0 ≤ ct
            · have k3 := tld_y h3
              have HR2 : Hid (decide (age - L ≤ ct) = R) := by show _ = _; rw [← HY.out, decide_eq_true h3]; rfl
              refine wp_region_quiet_below (by kernel_rfl) (by kernel_rfl) ?_
              repeat (go_big_quiet_step (first | (with_reducible exact cA _ _)))
              refine wpQuiet_nil ?_
              intro _ hw'
              obtain ⟨⟨dq, osq⟩, hw''⟩ := hw'
              subst hw''
              go_wp2
              go_ret
              exact ⟨ret_bool HR2.out, past6 B4.out (below_regrown x0 dq osq)⟩
            · have k3 := tld_n ha2 h3
              have HR2 : Hid (false = R) := by show _ = _; rw [← HY.out, decide_eq_false h3]; rfl
              refine wp_region_quiet_below (by kernel_rfl) (by kernel_rfl) ?_
              repeat (go_big_quiet_step (first | (with_reducible exact cA _ _)))
              refine wpQuiet_nil ?_
              intro _ hw'
              obtain ⟨⟨dq, osq⟩, hw''⟩ := hw'
              subst hw''
              go_wp2
              go_ret
              exact ⟨ret_bool HR2.out, past6 B4.out (below_regrown x0 dq osq)⟩
end Go.Proofs.YtkaogmdhjcgcdaaGreatDoor
namespace Go.Proofs.YtkaogmdhjcgcdaaGreatDoor
open Go.RowKit Go.Sort
set_option linter.unusedVariables false
set_option linter.unusedSimpArgs false

set_option maxRecDepth 100000 in
set_option maxHeartbeats 4000000 in
theorem implDecD (v0 : Value) (l : List Fl) (o : Ob) (v u : Value) (now en dn : Int) (w : World) (hx : XP w) (hl : Fits w v0 l) (h : ObIn w v u o) (hn : FldMom o.r.l nEX en) (hd : FldMom o.r.l nDA dn) (hk : 0 ≤ dn) :
    Calls Tryz.prog 25 #[v0, obV o v u, .int .i64 now] w fun e w' => e = .returned (.int .i64 (decI l o now en dn)) ∧ Below w.heap.size w w' := by
  have HD : Hid (decI l o now en dn = if fldsOk l = true ∧ 0 ≤ ageV o now dn then (if servI (ctlOf l) (ctlOf o.r.l) (ageV o now dn) (lifeV o.r en dn) = true then 1 else if tagOf o.r.l = true then 2 else 3) else 0) := rfl
  have hbd : -1 ≤ ageV o now dn := ageV_bd o now dn
  have hle : ageV o now dn ≤ 1000000000 := ageV_le o now dn
  have HOK : Hid (0 ≤ ageV o now dn → obB o = true) := ageV_ok
  have HLV : Hid (obB o = true → lifeV o.r en dn = lifeF (ctlOf o.r.l) en dn) := fun hk => lifeV_ok (obB_all hk).2.2.1
  have j1 := fun W (hX : XP W) hW => implAge o v u now dn W hX hW hd
  have j2 := fun W (hW : Fits W v0 l) => implOk v0 l W hW.1 hW.2.1
  obtain ⟨za, zc, rfl⟩ := hl.form
  obtain ⟨va, vc, rfl⟩ := h.1.form
  obtain ⟨ua, uc, rfl⟩ := h.2.1.1.form
  have jK : Hid (obB o = true → ∀ W, XP W → ObIn W (.slice va o.l.length vc) (.slice ua o.r.l.length uc) o → Calls Tryz.prog 47 #[.agg #[.string o.k, .slice va o.l.length vc, .int .i64 o.r.s, .slice ua o.r.l.length uc, .string o.r.b, .int .i64 o.asked, .int .i64 o.got, .int .i64 o.ep]] W fun e w' => e = .returned (.iface 119 (.agg #[.string o.k, .slice va o.l.length vc, .int .i64 o.r.s, .slice ua o.r.l.length uc, .string o.r.b, .int .i64 o.asked, .int .i64 o.got, .int .i64 o.ep, .int .i64 dn])) ∧ Below W.heap.size W w') := fun hb W hX hW => by
    have := implKept o va ua o.l.length vc uc dn W ⟨hW.2.1, obB_kin hb, hX⟩ hd
    rw [kV_y _ _ _ _ _ _ hk] at this
    exact this
  have jC : Hid (fldsOk l = true → ∀ W, XP W → Fits W (.slice za l.length zc) l → Calls Tryz.prog 69 #[(.slice za l.length zc)] W fun e w' => e = .returned (ctV (ctlOf l)) ∧ Below W.heap.size W w') := fun hb W hX hW => hX.1.elim fun mx hm => implCtl (.slice za l.length zc) l W hW hb mx hm
  have jT : Hid (obB o = true → ∀ W, XP W → ObIn W (.slice va o.l.length vc) (.slice ua o.r.l.length uc) o → Calls Tryz.prog 239 #[.agg #[.string o.k, .slice va o.l.length vc, .int .i64 o.r.s, .slice ua o.r.l.length uc, .string o.r.b, .int .i64 o.asked, .int .i64 o.got, .int .i64 o.ep]] W fun e w' => e = .returned (.bool (tagOf o.r.l)) ∧ Below W.heap.size W w') := fun hb W hX hW => mthTgd o va ua o.l.length vc uc W ⟨hW.2.1, obB_kin hb, hX⟩
  have jS : Hid (0 ≤ ageV o now dn → obB o = true → ∀ W, XP W → ObIn W (.slice va o.l.length vc) (.slice ua o.r.l.length uc) o → Calls Tryz.prog 73 #[ctV (ctlOf l), .iface 119 (.agg #[.string o.k, .slice va o.l.length vc, .int .i64 o.r.s, .slice ua o.r.l.length uc, .string o.r.b, .int .i64 o.asked, .int .i64 o.got, .int .i64 o.ep, .int .i64 dn]), .int .i64 (ageV o now dn)] W fun e w' => e = .returned (.bool (servI (ctlOf l) (ctlOf o.r.l) (ageV o now dn) (lifeF (ctlOf o.r.l) en dn))) ∧ Below W.heap.size W w') := fun h0 hb W hX hW => servOfD (ctlOf l) o va ua o.l.length vc uc en dn (ageV o now dn) W ⟨hW.2.1, obB_kin hb, hX⟩ hn hd hk (secB_iff.1 (ctB_iff.1 (ctlOf_ok l)).1).1 (secB_iff.1 (ctB_iff.1 (ctlOf_ok l)).2.2).1 h0 hle
  have g1 := mTgdD o (.slice va o.l.length vc) (.slice ua o.r.l.length uc) dn
  have HLS : Hid (obB o = true → servI (ctlOf l) (ctlOf o.r.l) (ageV o now dn) (lifeV o.r en dn) = servI (ctlOf l) (ctlOf o.r.l) (ageV o now dn) (lifeF (ctlOf o.r.l) en dn)) := fun hb => by rw [HLV.out hb]
  generalize servI (ctlOf l) (ctlOf o.r.l) (ageV o now dn) (lifeF (ctlOf o.r.l) en dn) = S at HLS jS
  generalize servI (ctlOf l) (ctlOf o.r.l) (ageV o now dn) (lifeV o.r en dn) = S' at HLS HD
  generalize decI l o now en dn = R at HD ⊢
  generalize ageV o now dn = A at HD hbd hle HOK j1 jS
  generalize ctlOf l = C at jC jS
  obtain ⟨ca, cs, ct, cns, cnc, cpr, cmu⟩ := C
  generalize tagOf o.r.l = T at HD jT
  generalize obB o = b1 at HOK HLV HLS jK jT jS
  generalize fldsOk l = b0 at HD j2 jC
  have Q0 : Hid (ObB (w.alloc (.cells #[.string o.k, .slice va o.l.length vc, .int .i64 o.r.s, .slice ua o.r.l.length uc, .string o.r.b, .int .i64 o.asked, .int .i64 o.got, .int .i64 o.ep] 28)) w.heap.size o (.slice va o.l.length vc) (.slice ua o.r.l.length uc)) := ObB.new w o _ _ _
  have B0 : Hid (Below w.heap.size w (w.alloc (.cells #[.string o.k, .slice va o.l.length vc, .int .i64 o.r.s, .slice ua o.r.l.length uc, .string o.r.b, .int .i64 o.asked, .int .i64 o.got, .int .i64 o.ep] 28))) := (Below.refl _ w).alloc (Nat.le_refl _) _
  have I0 : Hid (ObIn (w.alloc (.cells #[.string o.k, .slice va o.l.length vc, .int .i64 o.r.s, .slice ua o.r.l.length uc, .string o.r.b, .int .i64 o.asked, .int .i64 o.got, .int .i64 o.ep] 28)) (.slice va o.l.length vc) (.slice ua o.r.l.length uc) o) := h.kept B0.out
  have X0 : Hid (XP (w.alloc (.cells #[.string o.k, .slice va o.l.length vc, .int .i64 o.r.s, .slice ua o.r.l.length uc, .string o.r.b, .int .i64 o.asked, .int .i64 o.got, .int .i64 o.ep] 28))) := hx.kept B0.out
  have F0 : Hid (Fits (w.alloc (.cells #[.string o.k, .slice va o.l.length vc, .int .i64 o.r.s, .slice ua o.r.l.length uc, .string o.r.b, .int .i64 o.asked, .int .i64 o.got, .int .i64 o.ep] 28)) (.slice za l.length zc) l) := hl.kept B0.out
  clear h hx hd hn hl hk HLV hle
  unfold obV at j1 ⊢
  unfold ctV at jC jS
  go_enter Tryz.func25, Tryz.ntmps25
  go_wp2_with fail
  refine (j1 _ X0.out I0.out).mono ?_
  rintro e w1 ⟨rfl, hb1⟩
  have Q1 : Hid (ObB w1 w.heap.size o (.slice va o.l.length vc) (.slice ua o.r.l.length uc)) := Q0.out.next hb1
  have B1 : Hid (Below w.heap.size w w1) := past6 B0.out hb1
  have I1 : Hid (ObIn w1 (.slice va o.l.length vc) (.slice ua o.r.l.length uc) o) := I0.out.kept hb1
  have X1 : Hid (XP w1) := X0.out.kept hb1
  have F1 : Hid (Fits w1 (.slice za l.length zc) l) := F0.out.kept hb1
  clear hb1 Q0 B0 I0 X0 F0
  clear j1
  obtain ⟨q0, q1, q2, q3, q4, q5, q6, q7, qf, qh⟩ := Q1.out
  by_cases ha : 0 ≤ A
  · have k1 : (A == -1) = false := by rw [beq_eq_false_iff_ne]; omega
    obtain rfl := HOK.out ha
    have jS2 : Hid _ := jS.out ha
    have HD2 : Hid (R = if b0 = true then (if S = true then 1 else if T = true then 2 else 3) else 0) := by
      show _ = _
      rw [HD.out, HLS.out rfl]
      by_cases hb0 : b0 = true
      · rw [if_pos ⟨hb0, ha⟩, if_pos hb0]
      · rw [if_neg (fun x => hb0 x.1), if_neg hb0]
    clear HD HOK HLS jS ha hbd
    go_wp2_with fail
    refine (j2 _ F1.out).mono ?_
    rintro e w2 ⟨rfl, hb2⟩
    have Q2 : Hid (ObB w2 w.heap.size o (.slice va o.l.length vc) (.slice ua o.r.l.length uc)) := Q1.out.next hb2
    have B2 : Hid (Below w.heap.size w w2) := past6 B1.out hb2
    have I2 : Hid (ObIn w2 (.slice va o.l.length vc) (.slice ua o.r.l.length uc) o) := I1.out.kept hb2
    have X2 : Hid (XP w2) := X1.out.kept hb2
    have F2 : Hid (Fits w2 (.slice za l.length zc) l) := F1.out.kept hb2
    clear hb2 Q1 B1 I1 X1 F1
    clear j2 q0 q1 q2 q3 q4 q5 q6 q7 qf qh
    obtain ⟨q0, q1, q2, q3, q4, q5, q6, q7, qf, qh⟩ := Q2.out
    cases b0 with
    | false =>
      have HX : Hid (0 = R) := HD2.out.symm
      go_wp2
      go_ret
      exact ⟨ret_i10 HX.out, B2.out⟩
    | true =>
      have HX : Hid (R = if S = true then 1 else if T = true then 2 else 3) := HD2.out
      clear HD2
      go_wp2_with fail
      refine (jK.out (by simp) _ X2.out I2.out).mono ?_
      rintro e w3 ⟨rfl, hb3⟩
      have Q3 : Hid (ObB w3 w.heap.size o (.slice va o.l.length vc) (.slice ua o.r.l.length uc)) := Q2.out.next hb3
      have B3 : Hid (Below w.heap.size w w3) := past6 B2.out hb3
      have I3 : Hid (ObIn w3 (.slice va o.l.length vc) (.slice ua o.r.l.length uc) o) := I2.out.kept hb3
      have X3 : Hid (XP w3) := X2.out.kept hb3
      have F3 : Hid (Fits w3 (.slice za l.length zc) l) := F2.out.kept hb3
      clear hb3 Q2 B2 I2 X2 F2
      clear jK q0 q1 q2 q3 q4 q5 q6 q7 qf qh
      go_wp2_with fail
      refine (jC.out (by simp) _ X3.out F3.out).mono ?_
      rintro e w4 ⟨rfl, hb4⟩
      have Q4 : Hid (ObB w4 w.heap.size o (.slice va o.l.length vc) (.slice ua o.r.l.length uc)) := Q3.out.next hb4
      have B4 : Hid (Below w.heap.size w w4) := past6 B3.out hb4
      have I4 : Hid (ObIn w4 (.slice va o.l.length vc) (.slice ua o.r.l.length uc) o) := I3.out.kept hb4
      have X4 : Hid (XP w4) := X3.out.kept hb4
      have F4 : Hid (Fits w4 (.slice za l.length zc) l) := F3.out.kept hb4
      clear hb4 Q3 B3 I3 X3 F3
      clear jC
      go_wp2_with fail
      refine (jS2.out (by simp) _ X4.out I4.out).mono ?_
      rintro e w5 ⟨rfl, hb5⟩
      have Q5 : Hid (ObB w5 w.heap.size o (.slice va o.l.length vc) (.slice ua o.r.l.length uc)) := Q4.out.next hb5
      have B5 : Hid (Below w.heap.size w w5) := past6 B4.out hb5
      have I5 : Hid (ObIn w5 (.slice va o.l.length vc) (.slice ua o.r.l.length uc) o) := I4.out.kept hb5
      have X5 : Hid (XP w5) := X4.out.kept hb5
      have F5 : Hid (Fits w5 (.slice za l.length zc) l) := F4.out.kept hb5
      clear hb5 Q4 B4 I4 X4 F4
      clear jS2
      cases S with
      | true =>
        have HY : Hid (1 = R) := HX.out.symm
        go_wp2
        go_ret
        exact ⟨ret_i10 HY.out, B5.out⟩
      | false =>
        have HY : Hid (R = if T = true then 2 else 3) := HX.out
        clear HX
        go_wp2_with fail
        refine (jT.out (by simp) _ X5.out I5.out).mono ?_
        rintro e w6 ⟨rfl, hb6⟩
        have B6 : Hid (Below w.heap.size w w6) := past6 B5.out hb6
        clear hb6 B5 I5 X5 F5 Q5 jT
        cases T with
        | true =>
          have HZ : Hid (2 = R) := HY.out.symm
          go_wp2
          go_ret
          exact ⟨ret_i10 HZ.out, B6.out⟩
        | false =>
          have HZ : Hid (3 = R) := HY.out.symm
          go_wp2
          go_ret
          exact ⟨ret_i10 HZ.out, B6.out⟩
  · have k1 : (A == -1) = true := by rw [beq_iff_eq]; omega
    have HX : Hid (0 = R) := by show _ = _; rw [HD.out, if_neg (fun x => ha x.2)]
    clear ha hbd
    go_wp2
    go_ret
    exact ⟨ret_i10 HX.out, B1.out⟩
set_option maxRecDepth 100000 in
set_option maxHeartbeats 4000000 in
theorem implDecU (v0 : Value) (l : List Fl) (o : Ob) (v u : Value) (now en dn : Int) (w : World) (hx : XP w) (hl : Fits w v0 l) (h : ObIn w v u o) (hn : FldMom o.r.l nEX en) (hd : FldMom o.r.l nDA dn) (hk : ¬ 0 ≤ dn) :
    Calls Tryz.prog 25 #[v0, obV o v u, .int .i64 now] w fun e w' => e = .returned (.int .i64 (decI l o now en dn)) ∧ Below w.heap.size w w' := by
  have HD : Hid (decI l o now en dn = if fldsOk l = true ∧ 0 ≤ ageV o now dn then (if servI (ctlOf l) (ctlOf o.r.l) (ageV o now dn) (lifeV o.r en dn) = true then 1 else if tagOf o.r.l = true then 2 else 3) else 0) := rfl
  have hbd : -1 ≤ ageV o now dn := ageV_bd o now dn
  have hle : ageV o now dn ≤ 1000000000 := ageV_le o now dn
  have HOK : Hid (0 ≤ ageV o now dn → obB o = true) := ageV_ok
  have HLV : Hid (obB o = true → lifeV o.r en dn = lifeF (ctlOf o.r.l) en dn) := fun hk => lifeV_ok (obB_all hk).2.2.1
  have j1 := fun W (hX : XP W) hW => implAge o v u now dn W hX hW hd
  have j2 := fun W (hW : Fits W v0 l) => implOk v0 l W hW.1 hW.2.1
  obtain ⟨za, zc, rfl⟩ := hl.form
  obtain ⟨va, vc, rfl⟩ := h.1.form
  obtain ⟨ua, uc, rfl⟩ := h.2.1.1.form
  have jK : Hid (obB o = true → ∀ W, XP W → ObIn W (.slice va o.l.length vc) (.slice ua o.r.l.length uc) o → Calls Tryz.prog 47 #[.agg #[.string o.k, .slice va o.l.length vc, .int .i64 o.r.s, .slice ua o.r.l.length uc, .string o.r.b, .int .i64 o.asked, .int .i64 o.got, .int .i64 o.ep]] W fun e w' => e = .returned (.iface 116 (.agg #[.string o.k, .slice va o.l.length vc, .int .i64 o.r.s, .slice ua o.r.l.length uc, .string o.r.b, .int .i64 o.asked, .int .i64 o.got, .int .i64 o.ep])) ∧ Below W.heap.size W w') := fun hb W hX hW => by
    have := implKept o va ua o.l.length vc uc dn W ⟨hW.2.1, obB_kin hb, hX⟩ hd
    rw [kV_n _ _ _ _ _ _ hk] at this
    exact this
  have jC : Hid (fldsOk l = true → ∀ W, XP W → Fits W (.slice za l.length zc) l → Calls Tryz.prog 69 #[(.slice za l.length zc)] W fun e w' => e = .returned (ctV (ctlOf l)) ∧ Below W.heap.size W w') := fun hb W hX hW => hX.1.elim fun mx hm => implCtl (.slice za l.length zc) l W hW hb mx hm
  have jT : Hid (obB o = true → ∀ W, XP W → ObIn W (.slice va o.l.length vc) (.slice ua o.r.l.length uc) o → Calls Tryz.prog 239 #[.agg #[.string o.k, .slice va o.l.length vc, .int .i64 o.r.s, .slice ua o.r.l.length uc, .string o.r.b, .int .i64 o.asked, .int .i64 o.got, .int .i64 o.ep]] W fun e w' => e = .returned (.bool (tagOf o.r.l)) ∧ Below W.heap.size W w') := fun hb W hX hW => mthTgd o va ua o.l.length vc uc W ⟨hW.2.1, obB_kin hb, hX⟩
  have jS : Hid (0 ≤ ageV o now dn → obB o = true → ∀ W, XP W → ObIn W (.slice va o.l.length vc) (.slice ua o.r.l.length uc) o → Calls Tryz.prog 73 #[ctV (ctlOf l), .iface 116 (.agg #[.string o.k, .slice va o.l.length vc, .int .i64 o.r.s, .slice ua o.r.l.length uc, .string o.r.b, .int .i64 o.asked, .int .i64 o.got, .int .i64 o.ep]), .int .i64 (ageV o now dn)] W fun e w' => e = .returned (.bool (servI (ctlOf l) (ctlOf o.r.l) (ageV o now dn) (lifeF (ctlOf o.r.l) en dn))) ∧ Below W.heap.size W w') := fun h0 hb W hX hW => servOfU (ctlOf l) o va ua o.l.length vc uc en dn (ageV o now dn) W ⟨hW.2.1, obB_kin hb, hX⟩ hn hd hk (secB_iff.1 (ctB_iff.1 (ctlOf_ok l)).1).1 (secB_iff.1 (ctB_iff.1 (ctlOf_ok l)).2.2).1 h0 hle
  have g1 := mTgdU o (.slice va o.l.length vc) (.slice ua o.r.l.length uc)
  have HLS : Hid (obB o = true → servI (ctlOf l) (ctlOf o.r.l) (ageV o now dn) (lifeV o.r en dn) = servI (ctlOf l) (ctlOf o.r.l) (ageV o now dn) (lifeF (ctlOf o.r.l) en dn)) := fun hb => by rw [HLV.out hb]
  generalize servI (ctlOf l) (ctlOf o.r.l) (ageV o now dn) (lifeF (ctlOf o.r.l) en dn) = S at HLS jS
  generalize servI (ctlOf l) (ctlOf o.r.l) (ageV o now dn) (lifeV o.r en dn) = S' at HLS HD
  generalize decI l o now en dn = R at HD ⊢
  generalize ageV o now dn = A at HD hbd hle HOK j1 jS
  generalize ctlOf l = C at jC jS
  obtain ⟨ca, cs, ct, cns, cnc, cpr, cmu⟩ := C
  generalize tagOf o.r.l = T at HD jT
  generalize obB o = b1 at HOK HLV HLS jK jT jS
  generalize fldsOk l = b0 at HD j2 jC
  have Q0 : Hid (ObB (w.alloc (.cells #[.string o.k, .slice va o.l.length vc, .int .i64 o.r.s, .slice ua o.r.l.length uc, .string o.r.b, .int .i64 o.asked, .int .i64 o.got, .int .i64 o.ep] 28)) w.heap.size o (.slice va o.l.length vc) (.slice ua o.r.l.length uc)) := ObB.new w o _ _ _
  have B0 : Hid (Below w.heap.size w (w.alloc (.cells #[.string o.k, .slice va o.l.length vc, .int .i64 o.r.s, .slice ua o.r.l.length uc, .string o.r.b, .int .i64 o.asked, .int .i64 o.got, .int .i64 o.ep] 28))) := (Below.refl _ w).alloc (Nat.le_refl _) _
  have I0 : Hid (ObIn (w.alloc (.cells #[.string o.k, .slice va o.l.length vc, .int .i64 o.r.s, .slice ua o.r.l.length uc, .string o.r.b, .int .i64 o.asked, .int .i64 o.got, .int .i64 o.ep] 28)) (.slice va o.l.length vc) (.slice ua o.r.l.length uc) o) := h.kept B0.out
  have X0 : Hid (XP (w.alloc (.cells #[.string o.k, .slice va o.l.length vc, .int .i64 o.r.s, .slice ua o.r.l.length uc, .string o.r.b, .int .i64 o.asked, .int .i64 o.got, .int .i64 o.ep] 28))) := hx.kept B0.out
  have F0 : Hid (Fits (w.alloc (.cells #[.string o.k, .slice va o.l.length vc, .int .i64 o.r.s, .slice ua o.r.l.length uc, .string o.r.b, .int .i64 o.asked, .int .i64 o.got, .int .i64 o.ep] 28)) (.slice za l.length zc) l) := hl.kept B0.out
  clear h hx hd hn hl hk HLV hle
  unfold obV at j1 ⊢
  unfold ctV at jC jS
  go_enter Tryz.func25, Tryz.ntmps25
  go_wp2_with fail
  refine (j1 _ X0.out I0.out).mono ?_
  rintro e w1 ⟨rfl, hb1⟩
  have Q1 : Hid (ObB w1 w.heap.size o (.slice va o.l.length vc) (.slice ua o.r.l.length uc)) := Q0.out.next hb1
  have B1 : Hid (Below w.heap.size w w1) := past6 B0.out hb1
  have I1 : Hid (ObIn w1 (.slice va o.l.length vc) (.slice ua o.r.l.length uc) o) := I0.out.kept hb1
  have X1 : Hid (XP w1) := X0.out.kept hb1
  have F1 : Hid (Fits w1 (.slice za l.length zc) l) := F0.out.kept hb1
  clear hb1 Q0 B0 I0 X0 F0
  clear j1
  obtain ⟨q0, q1, q2, q3, q4, q5, q6, q7, qf, qh⟩ := Q1.out
  by_cases ha : 0 ≤ A
  · have k1 : (A == -1) = false := by rw [beq_eq_false_iff_ne]; omega
    obtain rfl := HOK.out ha
    have jS2 : Hid _ := jS.out ha
    have HD2 : Hid (R = if b0 = true then (if S = true then 1 else if T = true then 2 else 3) else 0) := by
      show _ = _
      rw [HD.out, HLS.out rfl]
      by_cases hb0 : b0 = true
      · rw [if_pos ⟨hb0, ha⟩, if_pos hb0]
      · rw [if_neg (fun x => hb0 x.1), if_neg hb0]
    clear HD HOK HLS jS ha hbd
    go_wp2_with fail
    refine (j2 _ F1.out).mono ?_
    rintro e w2 ⟨rfl, hb2⟩
    have Q2 : Hid (ObB w2 w.heap.size o (.slice va o.l.length vc) (.slice ua o.r.l.length uc)) := Q1.out.next hb2
    have B2 : Hid (Below w.heap.size w w2) := past6 B1.out hb2
    have I2 : Hid (ObIn w2 (.slice va o.l.length vc) (.slice ua o.r.l.length uc) o) := I1.out.kept hb2
    have X2 : Hid (XP w2) := X1.out.kept hb2
    have F2 : Hid (Fits w2 (.slice za l.length zc) l) := F1.out.kept hb2
    clear hb2 Q1 B1 I1 X1 F1
    clear j2 q0 q1 q2 q3 q4 q5 q6 q7 qf qh
    obtain ⟨q0, q1, q2, q3, q4, q5, q6, q7, qf, qh⟩ := Q2.out
    cases b0 with
    | false =>
      have HX : Hid (0 = R) := HD2.out.symm
      go_wp2
      go_ret
      exact ⟨ret_i10 HX.out, B2.out⟩
    | true =>
      have HX : Hid (R = if S = true then 1 else if T = true then 2 else 3) := HD2.out
      clear HD2
      go_wp2_with fail
      refine (jK.out (by simp) _ X2.out I2.out).mono ?_
      rintro e w3 ⟨rfl, hb3⟩
      have Q3 : Hid (ObB w3 w.heap.size o (.slice va o.l.length vc) (.slice ua o.r.l.length uc)) := Q2.out.next hb3
      have B3 : Hid (Below w.heap.size w w3) := past6 B2.out hb3
      have I3 : Hid (ObIn w3 (.slice va o.l.length vc) (.slice ua o.r.l.length uc) o) := I2.out.kept hb3
      have X3 : Hid (XP w3) := X2.out.kept hb3
      have F3 : Hid (Fits w3 (.slice za l.length zc) l) := F2.out.kept hb3
      clear hb3 Q2 B2 I2 X2 F2
      clear jK q0 q1 q2 q3 q4 q5 q6 q7 qf qh
      go_wp2_with fail
      refine (jC.out (by simp) _ X3.out F3.out).mono ?_
      rintro e w4 ⟨rfl, hb4⟩
      have Q4 : Hid (ObB w4 w.heap.size o (.slice va o.l.length vc) (.slice ua o.r.l.length uc)) := Q3.out.next hb4
      have B4 : Hid (Below w.heap.size w w4) := past6 B3.out hb4
      have I4 : Hid (ObIn w4 (.slice va o.l.length vc) (.slice ua o.r.l.length uc) o) := I3.out.kept hb4
      have X4 : Hid (XP w4) := X3.out.kept hb4
      have F4 : Hid (Fits w4 (.slice za l.length zc) l) := F3.out.kept hb4
      clear hb4 Q3 B3 I3 X3 F3
      clear jC
      go_wp2_with fail
      refine (jS2.out (by simp) _ X4.out I4.out).mono ?_
      rintro e w5 ⟨rfl, hb5⟩
      have Q5 : Hid (ObB w5 w.heap.size o (.slice va o.l.length vc) (.slice ua o.r.l.length uc)) := Q4.out.next hb5
      have B5 : Hid (Below w.heap.size w w5) := past6 B4.out hb5
      have I5 : Hid (ObIn w5 (.slice va o.l.length vc) (.slice ua o.r.l.length uc) o) := I4.out.kept hb5
      have X5 : Hid (XP w5) := X4.out.kept hb5
      have F5 : Hid (Fits w5 (.slice za l.length zc) l) := F4.out.kept hb5
      clear hb5 Q4 B4 I4 X4 F4
      clear jS2
      cases S with
      | true =>
        have HY : Hid (1 = R) := HX.out.symm
        go_wp2
        go_ret
        exact ⟨ret_i10 HY.out, B5.out⟩
      | false =>
        have HY : Hid (R = if T = true then 2 else 3) := HX.out
        clear HX
        go_wp2_with fail
        refine (jT.out (by simp) _ X5.out I5.out).mono ?_
        rintro e w6 ⟨rfl, hb6⟩
        have B6 : Hid (Below w.heap.size w w6) := past6 B5.out hb6
        clear hb6 B5 I5 X5 F5 Q5 jT
        cases T with
        | true =>
          have HZ : Hid (2 = R) := HY.out.symm
          go_wp2
          go_ret
          exact ⟨ret_i10 HZ.out, B6.out⟩
        | false =>
          have HZ : Hid (3 = R) := HY.out.symm
          go_wp2
          go_ret
          exact ⟨ret_i10 HZ.out, B6.out⟩
  · have k1 : (A == -1) = true := by rw [beq_iff_eq]; omega
    have HX : Hid (0 = R) := by show _ = _; rw [HD.out, if_neg (fun x => ha x.2)]
    clear ha hbd
    go_wp2
    go_ret
    exact ⟨ret_i10 HX.out, B1.out⟩
theorem implDec (v0 : Value) (l : List Fl) (o : Ob) (v u : Value) (now en dn : Int) (w : World) (hx : XP w) (hl : Fits w v0 l) (h : ObIn w v u o) (hn : FldMom o.r.l nEX en) (hd : FldMom o.r.l nDA dn) :
    Calls Tryz.prog 25 #[v0, obV o v u, .int .i64 now] w fun e w' => e = .returned (.int .i64 (decI l o now en dn)) ∧ Below w.heap.size w w' := by
  by_cases hk : 0 ≤ dn
  · exact implDecD v0 l o v u now en dn w hx hl h hn hd hk
  · exact implDecU v0 l o v u now en dn w hx hl h hn hd hk
end Go.Proofs.YtkaogmdhjcgcdaaGreatDoor
namespace Go.Proofs.YtkaogmdhjcgcdaaGreatDoor
open Go

theorem gPowTypeT : (Tryz.prog.globals[1]?).map (·.type) = some 205 := by kernel_rfl
theorem underPAT : Tryz.prog.underlying 205 = some (.array 20 196) := by kernel_rfl
theorem underPUT : Tryz.prog.underlying 196 = some (.int .u64) := by kernel_rfl
theorem cellsPAT : Tryz.prog.cellsOf 205 = 20 := by kernel_rfl
theorem cellsPUT : Tryz.prog.cellsOf 196 = 1 := by kernel_rfl
theorem powT_is : (Rows.laid_internal_strconv_uint64pow10 : DataW Unit) = Lib.tabData .u64 Lib.pow10Tab := rfl
theorem powT_reads {W : World} (h : Lib.VarReads Tryz.prog W "internal/strconv.uint64pow10" Rows.laid_internal_strconv_uint64pow10) : Dd.Tab W := by
  obtain ⟨g, t, cs, fuel, p, hg, ht, hv, hd⟩ := h
  obtain rfl := Option.some.inj (Dd.gPow.symm.trans hg)
  obtain rfl := Option.some.inj (gPowTypeT.symm.trans ht)
  rw [powT_is] at hd
  unfold Dd.Tab Lib.TabIs
  rw [hv, ← Lib.cells_of_tab underPAT underPUT cellsPUT cellsPAT hd]
theorem decided_laid {W : World} (h : laidMetH Tryz.prog Rows.fnDecidedRow.laid W) : Dd.Tab W := by
  rw [MakeChecks.laidMetH_plain _ _ _ (by kernel_rfl)] at h
  exact powT_reads (Lib.laidMet.reads h (.tail _ (.tail _ (.head _))))
end Go.Proofs.YtkaogmdhjcgcdaaGreatDoor
