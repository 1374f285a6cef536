/-
  The contract of the program's Chosen.
  What is chosen: it matches, and none that matches was got later.
  A region that draws its order: its first n operations whichever way, by what each of them leaves; the others wait for them and come one behind the other.
  Slices of fields that a call has for itself, whatever room lies behind them; how the law marks them, and asks for the marks.
-/
import Derived.Test.YtnachhmhjodbhaaGreatDoorG29
import Derived.Test.YtnachhmhjodbhaaGreatDoorRows
import Derived.StillTail
import Derived.Deep.QuietTactic
import Derived.Lib.QuietBelow
import Derived.BigQuiet
import Derived.Test.YtnachhmhjodbhaaGreatDoorG20
import Derived.Test.YtnachhmhjodbhaaGreatDoorG15
namespace Go.Proofs.YtnachhmhjodbhaaGreatDoor
open Go.RowKit Go.Sort
set_option linter.unusedVariables false
set_option linter.unusedSimpArgs false

set_option maxRecDepth 100000 in
set_option maxHeartbeats 8000000 in
theorem implCho (v : Value) (L : List Ox) (key : ByteArray) (x : Value) (l : List Fl) (w : World) (h : Sls oxE w v L) (hin : ∀ y ∈ L, ObIn w y.v y.u y.o) (hl : Fits w x l) (hk : key.size ≤ 1048576) (hn : L.length ≤ 1048576) (hz : ∀ y ∈ L, getZ y.o.l ≤ 400) (hzl : getZ l ≤ 400) :
    Calls Tryz.prog 11 #[v, .string key, x] w fun e w' => e = .returned (.int .i64 (choV (L.map (·.o)) key l)) ∧ Below w.heap.size w w' := by
  have hv := h
  obtain ⟨a, cap, rfl, _⟩ := hv
  obtain ⟨xa, xc, rfl⟩ := hl.form
  have HL : Hid (Sls oxE w (.slice a L.length cap) L) := h
  have HIN : Hid (∀ y ∈ L, ObIn w y.v y.u y.o) := hin
  have HZ : Hid (∀ y ∈ L, getZ y.o.l ≤ 400) := hz
  have HF : Hid (Fits w (.slice xa l.length xc) l) := hl
  have HV : Hid (choV (L.map (·.o)) key l = choT (L.map (·.o)) key l L.length) := by show _ = _; unfold choV; rw [List.length_map]
  have CI := choT_in (L.map (·.o)) key l
  have HNX : Hid (∀ k (hk : k < L.length), choT (L.map (·.o)) key l (k + 1) = if matV L[k].o key l = true ∧ (choT (L.map (·.o)) key l k < 0 ∨ (((L.map (·.o))[(choT (L.map (·.o)) key l k).toNat]?).map (·.got)).getD 0 < L[k].o.got) then (k : Int) else choT (L.map (·.o)) key l k) := fun k hk => by
    have := choT_next (L := L.map (·.o)) (key := key) (asks := l) (k := k) (by rw [List.length_map]; exact hk)
    rw [this]
    simp
  have HGT : Hid (∀ b (hb : b < L.length), (((L.map (·.o))[((b : Nat) : Int).toNat]?).map (·.got)).getD 0 = L[b].o.got) := fun b hb => by
    simp [hb]
  have CI2 : Hid (∀ k, choT (L.map (·.o)) key l k = -1 ∨ ∃ b : Nat, choT (L.map (·.o)) key l k = b ∧ b < k ∧ b < L.length) := fun k => by
    rcases CI k with h | ⟨b, h1, h2, h3⟩
    · exact .inl h
    · exact .inr ⟨b, h1, h2, by rw [List.length_map] at h3; exact h3⟩
  generalize choV (L.map (·.o)) key l = R at HV ⊢
  have H0 : Hid (choT (L.map (·.o)) key l 0 = -1) := rfl
  generalize choT (L.map (·.o)) key l = T at HV HNX CI2 H0
  clear h hin hl CI hz
  go_enter Tryz.func11, Tryz.ntmps11
  go_wp2_with fail
  go_loopw [7, 12] (fun b i wr => ∃ (k : Nat), k ≤ L.length ∧ i = .int .i64 k ∧ b = .int .i64 (T k) ∧ Hid (Below w.heap.size w wr)) (fun _ i _ => L.length - (intOf i).toNat)
  case atStart => exact ⟨0, Nat.zero_le _, rfl, by rw [H0.out], Below.refl _ _⟩
  case round =>
    obtain ⟨k, hkl, rfl, rfl, hb⟩ := hrel
    by_cases hlt : k < L.length
    · have HL2 := HL.out.kept hb.out
      obtain ⟨g, q, rfl⟩ : ∃ g q, a = some ⟨g, q, none⟩ := by
        obtain ⟨a', cap', hv, _, _, h3⟩ := HL2
        obtain ⟨g, q, ha, _⟩ := h3 (by omega)
        cases hv
        exact ⟨g, q, ha⟩
      have CK := oxCells HL2 hlt
      have HCB : Hid (∀ b (hb : b < L.length), wr.cell? ⟨g, q + b * 8 + 6, none⟩ = some (.int .i64 L[b].o.got)) := fun b hb => (oxCells HL2 hb).2.2.2.2.2.2.1
      have HN1 := HNX.out k hlt
      have hob := HIN.out L[k] (List.getElem_mem hlt)
      have hzo := HZ.out L[k] (List.getElem_mem hlt)
      have hsm := fun W (hW : Below w.heap.size w W) => implMat L[k].o L[k].v L[k].u key (.slice xa l.length xc) l W (hob.kept hW) (HF.out.kept hW) hk hzo hzl
      have HK1 : Hid (T (k + 1) = if matV L[k].o key l = true ∧ (T k < 0 ∨ (((L.map (·.o))[(T k).toNat]?).map (·.got)).getD 0 < L[k].o.got) then (k : Int) else T k) := HN1
      generalize L[k] = y at CK hsm HK1
      clear HN1 hob HL2 hzo
      unfold Ox.v Ox.u at CK hsm
      obtain ⟨k0, k1, k2, k3, k4, k5, k6, k7⟩ := CK
      have hki : (k : Int) < (L.length : Int) := by omega
      generalize matV y.o key l = m at hsm HK1
      unfold obV at hsm
      go_wp2_with fail
      refine (hsm _ (hb.out.alloc hb.out.size _)).mono ?_
      rintro e w3 ⟨rfl, hb3⟩
      have Q3 := (ObB.new wr y.o (.slice y.pa y.o.l.length y.pc) (.slice y.ua y.o.r.l.length y.uc) 32).next hb3
      have B3 : Hid (Below w.heap.size w w3) := past6 (hb.out.alloc hb.out.size _) hb3
      have hgw : g < wr.heap.size := ltV k0
      have HCB3 : Hid (∀ b (hb : b < L.length), w3.cell? ⟨g, q + b * 8 + 6, none⟩ = some (.int .i64 L[b].o.got)) := fun b hbl => by
        have h1 : Below wr.heap.size wr w3 := ((Below.refl _ wr).alloc (Nat.le_refl _) _).trans (hb3.mono (by simp))
        exact (h1.cell (p := ⟨g, q + b * 8 + 6, none⟩) hgw).trans (HCB.out b hbl)
      have c6 := Q3.c6
      clear k0 k1 k2 k3 k4 k5 k6 k7 hsm Q3 hb3 hb HCB hgw
      cases m with
      | false =>
        have HD : Hid (T (k + 1) = T k) := by
          show _ = _
          rw [HK1.out]
          simp
        go_wp2
        go_roundw
        case rel => exact ⟨k + 1, by omega, by go_num, by rw [HD.out], B3⟩
        case measure => simp [intOf]; omega
      | true =>
        rcases CI2.out k with hT | ⟨b, hT, hbk, hbl⟩
        · have HD : Hid (T (k + 1) = (k : Int)) := by
            show _ = _
            rw [HK1.out, hT]
            simp
          rw [hT]
          clear hT HK1
          go_wp2_with fail
          go_cut [33] (fun r wx => r = .bool true ∧ Below w3.heap.size w3 wx)
          case first =>
            refine wp_region_quiet_below (by kernel_rfl) (by kernel_rfl) ?_
            repeat (go_big_quiet_step (fail))
            refine wpQuiet_nil ?_
            intro _ hw'
            obtain ⟨⟨dq, osq⟩, hw''⟩ := hw'
            subst hw''
            go_wp2_with fail
            go_meet
            exact ⟨rfl, below_regrown w3 dq osq⟩
          case rest =>
            obtain ⟨rfl, hb6⟩ := hcut
            obtain ⟨w6, rfl⟩ : ∃ z, z = wc := ⟨wc, rfl⟩
            have B6 : Hid (Below w.heap.size w w6) := past6 B3.out hb6
            clear hb6
            go_wp2_with fail
            go_roundw
            case rel => exact ⟨k + 1, by omega, by go_num, by rw [HD.out], B6⟩
            case measure => simp [intOf]; omega
        · have HG := HGT.out b hbl
          have kb := cell_regrown (HCB3.out b hbl)
          have k9 := cell_regrown c6
          have HD : Hid (T (k + 1) = if L[b].o.got < y.o.got then (k : Int) else (b : Int)) := by
            show _ = _
            rw [HK1.out, hT, HG]
            simp
            have : ¬ (b : Int) < 0 := by omega
            simp [this]
          have HT : Hid (T k = (b : Int)) := hT
          rw [hT]
          generalize L[b].o.got = gotb at kb HD
          have hb1 : (b : Int) < (L.length : Int) := by omega
          have hb9 : ((b : Int) == -1) = false := by rw [beq_eq_false_iff_ne]; omega
          clear hT HK1 HG c6
          go_wp2_with fail
          go_cut [33] (fun r wx => r = .bool (decide (gotb < y.o.got)) ∧ Below w3.heap.size w3 wx)
          case first =>
            refine wp_region_quiet_below (by kernel_rfl) (by kernel_rfl) ?_
            repeat (go_big_quiet_step (fail))
            refine wpQuiet_nil ?_
            intro _ hw'
            obtain ⟨⟨dq, osq⟩, hw''⟩ := hw'
            subst hw''
            go_wp2_with fail
            go_meet
            exact ⟨rfl, below_regrown w3 dq osq⟩
          case rest =>
            obtain ⟨rfl, hb6⟩ := hcut
            obtain ⟨w6, rfl⟩ : ∃ z, z = wc := ⟨wc, rfl⟩
            have B6 : Hid (Below w.heap.size w w6) := past6 B3.out hb6
            clear hb6 kb k9
            by_cases hlt2 : gotb < y.o.got
            · have HD2 : Hid (T (k + 1) = (k : Int)) := by show _ = _; rw [HD.out, if_pos hlt2]
              rw [decide_eq_true hlt2]
              clear HD hlt2
              go_wp2_with fail
              go_roundw
              case rel => exact ⟨k + 1, by omega, by go_num, by rw [HD2.out], B6⟩
              case measure => simp [intOf]; omega
            · have HD2 : Hid (T (k + 1) = (b : Int)) := by show _ = _; rw [HD.out, if_neg hlt2]
              rw [decide_eq_false hlt2]
              clear HD hlt2
              go_wp2_with fail
              go_roundw
              case rel => exact ⟨k + 1, by omega, by go_num, by rw [HD2.out], B6⟩
              case measure => simp [intOf]; omega
    · have HE : Hid (T k = R) := by
        have : k = L.length := by omega
        show _ = _
        rw [HV.out, this]
      go_wp2
      go_ret
      exact ⟨congrArg (fun z => Ending.returned (.int .i64 z)) HE.out, hb.out⟩
end Go.Proofs.YtnachhmhjodbhaaGreatDoor
namespace Go.Proofs.YtnachhmhjodbhaaGreatDoor
open Go.RowKit Go.Sort
set_option linter.unusedVariables false

theorem choT_best (L : List Ob) (key : ByteArray) (asks : List Fl) : ∀ k, k ≤ L.length →
    (∀ i (hi : i < k) (hl : i < L.length), matV L[i] key asks = true → ∃ (b : Nat) (hb : b < L.length), choT L key asks k = b ∧ L[i].got ≤ L[b].got) ∧
    (∀ b : Nat, choT L key asks k = b → ∃ hb : b < L.length, matV L[b] key asks = true)
  | 0, _ => ⟨fun i hi => absurd hi (Nat.not_lt_zero _), fun b hb => by unfold choT at hb; omega⟩
  | k + 1, hk => by
    obtain ⟨h1, h2⟩ := choT_best L key asks k (by omega)
    have hkl : k < L.length := by omega
    have hn := choT_next (L := L) (key := key) (asks := asks) hkl
    by_cases hc : matV L[k] key asks = true ∧ (choT L key asks k < 0 ∨ ((L[(choT L key asks k).toNat]?).map (·.got)).getD 0 < L[k].got)
    · rw [if_pos hc] at hn
      refine ⟨fun i hi hl hm => ⟨k, hkl, hn, ?_⟩, fun b hb => ?_⟩
      · by_cases hik : i = k
        · subst hik; omega
        · obtain ⟨b, hb, e, hg⟩ := h1 i (by omega) hl hm
          rcases hc.2 with h | h
          · omega
          · rw [e] at h
            simp [hb] at h
            omega
      · have : b = k := by omega
        subst this
        exact ⟨hkl, hc.1⟩
    · rw [if_neg hc] at hn
      refine ⟨fun i hi hl hm => ?_, fun b hb => h2 b (by omega)⟩
      by_cases hik : i = k
      · subst hik
        have hh : ¬ (choT L key asks i < 0 ∨ ((L[(choT L key asks i).toNat]?).map (·.got)).getD 0 < L[i].got) := fun h => hc ⟨hm, h⟩
        rcases choT_in L key asks i with e | ⟨b, e, _, hb⟩
        · exact absurd (Or.inl (by omega)) hh
        · refine ⟨b, hb, by omega, ?_⟩
          have := fun h => hh (Or.inr h)
          rw [e] at this
          simp [hb] at this
          omega
      · obtain ⟨b, hb, e, hg⟩ := h1 i (by omega) hl hm
        exact ⟨b, hb, by omega, hg⟩
/-- None that matches was got later than the chosen one. -/
theorem choV_best {L : List Ob} {key : ByteArray} {asks : List Fl} {i : Nat} (hl : i < L.length) (hm : matV L[i] key asks = true) : ∃ (b : Nat) (hb : b < L.length), choV L key asks = b ∧ L[i].got ≤ L[b].got :=
  (choT_best L key asks L.length (Nat.le_refl _)).1 i hl hl hm
/-- The chosen one matches. -/
theorem choV_mat {L : List Ob} {key : ByteArray} {asks : List Fl} {b : Nat} (h : choV L key asks = b) : ∃ hb : b < L.length, matV L[b] key asks = true :=
  (choT_best L key asks L.length (Nat.le_refl _)).2 b h
theorem choV_form (L : List Ob) (key : ByteArray) (asks : List Fl) : choV L key asks = -1 ∨ ∃ b : Nat, choV L key asks = b ∧ b < L.length := by
  rcases choT_in L key asks L.length with h | ⟨b, h, _, hb⟩
  · exact .inl h
  · exact .inr ⟨b, h, hb⟩
end Go.Proofs.YtnachhmhjodbhaaGreatDoor
namespace Go.Proofs.YtnachhmhjodbhaaGreatDoor
open Go Go.RowKit Go.Sort
set_option linter.unusedVariables false

def updH {α : Type} (f : Nat → α) (i : Nat) (x : α) : Nat → α := fun j => if j = i then x else f j
theorem updH_same {α : Type} (f : Nat → α) (i : Nat) (x : α) : updH f i x i = x := if_pos rfl
theorem updH_other {α : Type} (f : Nat → α) {i j : Nat} (x : α) (h : j ≠ i) : updH f i x j = f j := if_neg h
def leftH (listed : Array Bool) : Nat := listed.toList.count false
theorem leftH_set {listed : Array Bool} {i : Nat} (hi : listed.getD i true = false) : leftH (listed.setIfInBounds i true) + 1 = leftH listed := by
  have hlt : i < listed.size := by
    rcases Nat.lt_or_ge i listed.size with h | h
    · exact h
    · simp [Array.getElem?_eq_none h] at hi
  have he : listed.toList[i]'(by simpa using hlt) = false := by
    simp [hlt] at hi
    simpa using hi
  unfold leftH
  rw [Array.toList_setIfInBounds, List.count_set (by simpa using hlt)]
  have hp : 0 < listed.toList.count false := List.count_pos_iff.2 (by rw [← he]; exact List.getElem_mem _)
  rw [he]
  show listed.toList.count false - 1 + 0 + 1 = listed.toList.count false
  omega
/-- Each of the first n operations waits for elder ones alone. -/
def backB (ops : Array Oper) (n : Nat) : Bool := (List.range n).all fun i => match ops[i]? with
  | some o => o.after.all fun e => !Region.binds .any e || decide (e.on < i)
  | none => true
theorem backB_spec {ops : Array Oper} {n : Nat} (h : backB ops n = true) {i : Nat} {o : Oper} (hi : i < n) (ho : ops[i]? = some o) : ∀ e ∈ o.after, Region.binds .any e = true → e.on < i := by
  intro e he hb
  have h1 := List.all_eq_true.1 h i (List.mem_range.2 hi)
  simp only [ho] at h1
  have h2 := Array.all_eq_true'.1 h1 e he
  rw [hb] at h2
  simpa using h2
theorem firsts {ops : Array Oper} {n : Nat} {listed : Array Bool} (hs : listed.size = ops.size) (hn : n < ops.size) (hb : backB ops n = true) (hr : Region.ready .any ops listed = []) : ∀ i, i < n → listed.getD i false = true := by
  intro i
  induction i using Nat.strongRecOn with
  | _ i ih =>
    intro hi
    cases h : listed.getD i false with
    | true => rfl
    | false =>
      have hlt : i < ops.size := by omega
      have hm : i ∈ Region.ready .any ops listed := mem_ready.2 ⟨getD_in (by omega) h, ops[i], by simp [hlt], fun e he hbd => by
        have h2 := backB_spec hb hi (o := ops[i]) (by simp [hlt]) e he hbd
        exact ih e.on h2 (by omega)⟩
      rw [hr] at hm
      cases hm
theorem allListed {n m : Nat} {listed : Array Bool} (hs : listed.size = n + m) (h1 : ∀ i, i < n → listed.getD i false = true) (h2 : ∀ t, n ≤ t → t < n + m → listed.getD t true = false) : listed = Array.replicate n true ++ Array.replicate m false := by
  apply Array.ext
  · simp [hs]
  · intro i hi1 hi2
    rcases Nat.lt_or_ge i n with h | h
    · have := h1 i h
      simp [hi1] at this
      rw [this, Array.getElem_append_left (by simpa using h)]
      simp
    · have := h2 i h (by omega)
      simp [hi1] at this
      rw [this, Array.getElem_append_right (by simpa using h)]
      simp
section
variable {P : Program}
theorem any_heads {l : List Oper} {Q : Exit → Act → World → Prop} (n : Nat) (hn : n < l.length) (hs : Region.sinkB .any l.toArray n = true) (hc : Region.chainB .any l.toArray n = true)
    (hq : Region.seqB .any l.toArray (l.length - n) n (Array.replicate n true ++ Array.replicate (l.length - n) false) = true) (hb : backB l.toArray n = true)
    (F : (Nat → Value) → Act) (d : Nat → Nat) (S : World → Prop) (G : Nat → World → Value → Prop) (hinj : ∀ i j, i < n → j < n → j ≠ i → d j ≠ d i) (hput : ∀ (i : Nat) (o : Oper), i < n → l[i]? = some o → ∀ (t : Nat → Value) (v : Value), (F t).put o.dst v = F (updH t (d i) v))
    (hstep : ∀ (i : Nat) (o : Oper), i < n → l[i]? = some o → ∀ (t : Nat → Value) (x : World), S x → (∀ e ∈ o.after, Region.binds .any e = true → G e.on x (t (d e.on))) → ∀ K : Act → World → Prop,
      (∀ v y, S y → (∀ j u, j < n → j ≠ i → G j x u → G j y u) → G i y v → K ((F t).put o.dst v) y) →
      if Region.wanted o (yielded l.toArray (F t).tmps) = true then Oper.wp P o (F t) x K Q else K ((F t).put o.dst undef) x)
    (hdone : ∀ (t : Nat → Value) (x : World), S x → (∀ j, j < n → G j x (t (d j))) → wpList P l.toArray Q (l.drop n) (F t) x) :
    ∀ (f : Nat) (listed : Array Bool) (t : Nat → Value) (x : World), leftH listed = f → HeadInv .any l.toArray n listed → S x → (∀ j, j < n → listed.getD j false = true → G j x (t (d j))) → wpAny P .any l.toArray Q f listed (F t) x := by
  have hsz : l.toArray.size = n + (l.length - n) := by simp; omega
  have hn2 : n < l.toArray.size := by simpa using hn
  intro f
  induction f with
  | zero =>
    intro listed t x hf inv hS hG
    have h1 := inv.tail n (Nat.le_refl _) hn2
    have := leftH_set h1
    omega
  | succ f ih =>
    intro listed t x hf inv hS hG
    by_cases hall : ∀ i, i < n → listed.getD i false = true
    · have e := allListed (inv.size.trans hsz) hall (fun u h1 h2 => inv.tail u h1 (by omega))
      have hl : leftH listed = l.length - n := by rw [e]; unfold leftH; simp [List.count_replicate]
      have hf2 : f + 1 = (l.drop n).length := by rw [List.length_drop]; omega
      rw [hf2]
      refine wpAny_of_seq (md := .any) (Q' := Q) (l.drop n) n listed (F t) x (fun j => by simp [List.getElem?_drop]) ?_ (hdone t x hS fun j hj => hG j hj (hall j hj))
      rw [List.length_drop, e]
      exact hq
    · obtain ⟨i0, hi0, hu0⟩ : ∃ i, i < n ∧ listed.getD i false = false := by
        refine Classical.byContradiction fun hno => hall fun i hi => ?_
        cases h : listed.getD i false with
        | true => rfl
        | false => exact absurd ⟨i, hi, h⟩ hno
      have hu0' : listed.getD i0 true = false := getD_in (by rw [inv.size]; omega) hu0
      refine ⟨fun hr => absurd (firsts inv.size hn2 hb hr) hall, fun i hi => ?_⟩
      have hin : i < n := by
        rcases Nat.lt_or_ge i n with h | h
        · exact h
        · exact absurd hi (tail_waits hs hc hn2 inv _ i0 rfl hi0 hu0' i h)
      obtain ⟨h1, o, ho, hdep⟩ := mem_ready.1 hi
      have hdn : ∀ e ∈ o.after, Region.binds .any e = true → e.on < i := backB_spec hb hin ho
      have ho2 : l[i]? = some o := by simpa using ho
      have hc1 := leftH_set h1
      have key := hstep i o hin ho2 t x hS (fun e he hbd => hG e.on (by have := hdn e he hbd; omega) (hdep e he hbd)) (wpAny P .any l.toArray Q f (listed.setIfInBounds i true)) (fun v y hSy hkeep hGi => by
        rw [hput i o hin ho2 t v]
        refine ih _ _ y (by omega) (inv.set hi hin) hSy fun j hj hl => ?_
        by_cases hji : j = i
        · subst hji
          rw [updH_same]
          exact hGi
        · rw [updH_other _ _ (hinj i j hin hj hji)]
          rw [getD_set_ne false (Ne.symm hji)] at hl
          exact hkeep j _ hj hji (hG j hj hl))
      unfold wpOp
      rw [ho]
      show if Region.wanted o (yielded l.toArray (F t).tmps) = true then _ else _
      split
      · rename_i hw
        rw [if_pos hw] at key
        exact Or.inl key
      · rename_i hw
        rw [if_neg hw] at key
        exact key
/-- The first n operations come whichever way; what each leaves (G) is good for as long as the others leave it so; then the rest, in order. -/
theorem region_heads {l : List Oper} {Q : Exit → Act → World → Prop} {id : Nat} {a : Act} {w : World} (n : Nat) (hm : P.follows .mixedOrders = true) (hn : n < l.length) (hs : Region.sinkB .any l.toArray n = true) (hc : Region.chainB .any l.toArray n = true)
    (hq : Region.seqB .any l.toArray (l.length - n) n (Array.replicate n true ++ Array.replicate (l.length - n) false) = true) (hb : backB l.toArray n = true)
    (F : (Nat → Value) → Act) (d : Nat → Nat) (S : World → Prop) (G : Nat → World → Value → Prop) (hinj : ∀ i j, i < n → j < n → j ≠ i → d j ≠ d i) (hput : ∀ (i : Nat) (o : Oper), i < n → l[i]? = some o → ∀ (t : Nat → Value) (v : Value), (F t).put o.dst v = F (updH t (d i) v)) (t0 : Nat → Value) (h0 : a = F t0) (hS : S w.drew)
    (hstep : ∀ (i : Nat) (o : Oper), i < n → l[i]? = some o → ∀ (t : Nat → Value) (x : World), S x → (∀ e ∈ o.after, Region.binds .any e = true → G e.on x (t (d e.on))) → ∀ K : Act → World → Prop,
      (∀ v y, S y → (∀ j u, j < n → j ≠ i → G j x u → G j y u) → G i y v → K ((F t).put o.dst v) y) →
      if Region.wanted o (yielded l.toArray (F t).tmps) = true then Oper.wp P o (F t) x K Q else K ((F t).put o.dst undef) x)
    (hdone : ∀ (t : Nat → Value) (x : World), S x → (∀ j, j < n → G j x (t (d j))) → wpList P l.toArray Q (l.drop n) (F t) x) : (Code.region id l.toArray true).wp P Q a w := by
  subst h0
  refine wp_region_any hm ?_
  have inv0 : HeadInv .any l.toArray n (Array.replicate l.toArray.size false) := ⟨by simp, fun j oj _ hl => (by rw [getD_replicate_false] at hl; cases hl), fun t _ ht => getD_in (by simpa using ht) (getD_replicate_false _ _)⟩
  exact any_heads n hn hs hc hq hb F d S G hinj hput hstep hdone _ _ t0 _ (by unfold leftH; simp) inv0 hS (fun j _ hl => by rw [getD_replicate_false] at hl; cases hl)
end
end Go.Proofs.YtnachhmhjodbhaaGreatDoor
namespace Go.Proofs.YtnachhmhjodbhaaGreatDoor
open Go.RowKit Go.Sort

/-- The value v has the fields l, in a block from B on. -/
def HasF (w : World) (B : Nat) (v : Value) (l : List Fl) : Prop :=
  (v = .slice none 0 0 ∧ l = []) ∨ ∃ g cap cur, v = .slice (some ⟨g, 0, none⟩) l.length cap ∧ B ≤ g ∧ w.heap[g]? = some (.cells cur 41 (0, 0)) ∧ l.length ≤ cap ∧ cap ≤ maxLen ∧ cap * 2 ≤ cur.size ∧ cur.toList.take (l.length * 2) = cellsF l
theorem OwnsF.has {w : World} {B : Nat} {v : Value} {l : List Fl} (h : OwnsF w B v l) : HasF w B v l := by
  rcases h.2 with ⟨h0, h1⟩ | ⟨g, cap, cur, hv, hb, hg, hc, hm, hz, ht⟩
  · exact .inl ⟨h0, List.eq_nil_of_length_eq_zero h1⟩
  · exact .inr ⟨g, cap, cur, hv, hb, hg, hc, hm, by omega, ht⟩
theorem HasF.kept {w w' : World} {B : Nat} {v : Value} {l : List Fl} (h : HasF w B v l) (hb : Below w.heap.size w w') : HasF w' B v l := by
  rcases h with h0 | ⟨g, cap, cur, hv, hbg, hg, rest⟩
  · exact .inl h0
  · exact .inr ⟨g, cap, cur, hv, hbg, by rw [hb.block g (Array.getElem?_eq_some_iff.1 hg).1]; exact hg, rest⟩
theorem HasF.grown {w w' : World} {B : Nat} {v : Value} {l : List Fl} {r : Option Nat} (h : HasF w B v l) (hg : w.grownBy w' r) (hne : ∀ k, v.ownBlock = some k → some k ≠ r) : HasF w' B v l := by
  rcases h with h0 | ⟨g, cap, cur, hv, hbg, hh, rest⟩
  · exact .inl h0
  · exact .inr ⟨g, cap, cur, hv, hbg, by rw [hg.block g (Array.getElem?_eq_some_iff.1 hh).1 (hne g (by rw [hv]; rfl))]; exact hh, rest⟩
theorem HasF.low {w : World} {B B' : Nat} {v : Value} {l : List Fl} (h : HasF w B v l) (hB : B' ≤ B) : HasF w B' v l := by
  rcases h with h0 | ⟨g, cap, cur, hv, hb, rest⟩
  · exact .inl h0
  · exact .inr ⟨g, cap, cur, hv, by omega, rest⟩
theorem HasF.from {w : World} {B : Nat} {v : Value} {l : List Fl} (h : HasF w B v l) : ∀ k, v.ownBlock = some k → B ≤ k := by
  intro k hk
  rcases h with ⟨rfl, _⟩ | ⟨g, cap, cur, rfl, hb, _⟩
  · simp [Value.ownBlock] at hk
  · simp [Value.ownBlock] at hk; omega
theorem HasF.under {w : World} {B : Nat} {v : Value} {l : List Fl} (h : HasF w B v l) : ∀ k, v.ownBlock = some k → k < w.heap.size := by
  intro k hk
  rcases h with ⟨rfl, _⟩ | ⟨g, cap, cur, rfl, hb, hg, _⟩
  · simp [Value.ownBlock] at hk
  · simp [Value.ownBlock] at hk; subst hk; exact (Array.getElem?_eq_some_iff.1 hg).1
theorem HasF.form {w : World} {B : Nat} {v : Value} {l : List Fl} (h : HasF w B v l) : ∃ a cap, v = .slice a l.length cap ∧ l.length ≤ cap ∧ cap ≤ maxLen ∧ (0 < l.length → ∃ g, a = some ⟨g, 0, none⟩) := by
  rcases h with ⟨rfl, rfl⟩ | ⟨g, cap, cur, rfl, hb, hg, hc, hm, _⟩
  · exact ⟨none, 0, rfl, Nat.le_refl _, Nat.zero_le _, fun h => absurd h (by simp)⟩
  · exact ⟨_, cap, rfl, hc, hm, fun _ => ⟨g, rfl⟩⟩
theorem HasF.at {w : World} {B g n cap : Nat} {l : List Fl} (h : HasF w B (.slice (some ⟨g, 0, none⟩) n cap) l) (j : Nat) (hj : j < l.length) : w.cell? ⟨g, j * 2, none⟩ = some (.string l[j].1) ∧ w.cell? ⟨g, j * 2 + 1, none⟩ = some (.string l[j].2) := by
  rcases h with ⟨h0, _⟩ | ⟨g', cap', cur, hv, hb, hg, hc, hm, hz, ht⟩
  · cases h0
  · simp only [Value.slice.injEq, Option.some.injEq, Addr.mk.injEq, and_true] at hv
    obtain ⟨rfl, _⟩ := hv
    obtain ⟨c1, c2⟩ := cellsF_at l j hj
    rw [← ht, List.getElem?_take_of_lt (by omega)] at c1 c2
    rw [cell_of_row w g _ cur _ _ hg, cell_of_row w g _ cur _ _ hg]
    exact ⟨by simpa using c1, by simpa using c2⟩
theorem HasF.fls {w : World} {B : Nat} {v : Value} {l : List Fl} (h : HasF w B v l) : Fls w v l := by
  obtain ⟨a, cap, rfl, h1, h2, h3⟩ := h.form
  refine ⟨a, cap, rfl, h1, h2, fun h0 => ?_⟩
  obtain ⟨g, rfl⟩ := h3 h0
  exact ⟨g, 0, rfl, h.under g rfl, fun j hj => by rw [Nat.zero_add]; exact h.at j hj⟩
theorem HasF.put2 {w : World} {B g cap n : Nat} {l : List Fl} (h : HasF w B (.slice (some ⟨g, 0, none⟩) n cap) l) {k : Nat} (hk : k < l.length) (c : ByteArray) : HasF (w.setCell ⟨g, k * 2 + 1, none⟩ (.string c)) B (.slice (some ⟨g, 0, none⟩) n cap) (l.set k (l[k].1, c)) := by
  rcases h with ⟨h0, _⟩ | ⟨g', cap', cur, hv, hb, hg, hc, hm, hz, ht⟩
  · cases h0
  · simp only [Value.slice.injEq, Option.some.injEq, Addr.mk.injEq, and_true] at hv
    obtain ⟨rfl, rfl, rfl⟩ := hv
    refine .inr ⟨g, cap, cur.setIfInBounds (k * 2 + 1) (.string c), by rw [List.length_set], hb, heap_setCell_same w g _ cur _ _ hg, by rw [List.length_set]; exact hc, hm, by simpa using hz, ?_⟩
    rw [List.length_set, ← cellsF_set2 l c k hk, Array.toList_setIfInBounds, ← ht, List.take_set]

/-! ### Marks -/
end Go.Proofs.YtnachhmhjodbhaaGreatDoor
