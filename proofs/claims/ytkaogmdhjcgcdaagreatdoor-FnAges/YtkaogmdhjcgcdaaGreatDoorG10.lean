/-
  The specification's l1Int of a number that is not negative: its decimal digits.
  Control as plain data: what is right, what is read, what it is shown as, what is tighter.
  The contract of the specification's Items.
  Control read out of a text, as plain data.
-/
import Derived.Test.YtkaogmdhjcgcdaaGreatDoorG04
import Derived.Lib.ItoaNum
import Derived.WalkKit
import Derived.WalkSpells
import Derived.Test.YtkaogmdhjcgcdaaGreatDoorG09
import Derived.Test.YtkaogmdhjcgcdaaGreatDoorG06
import Derived.Test.YtkaogmdhjcgcdaaGreatDoorG03
namespace Go.Proofs.YtkaogmdhjcgcdaaGreatDoor
open Go.RowKit
set_option linter.unusedVariables false

def itoS (n : Nat) : ByteArray := ⟨(Lib.decDigits n).toArray⟩
theorem dec_small {u : Nat} (h : u < 10) : Lib.decDigits u = [UInt8.ofNat (48 + u)] := by rw [Lib.decDigits, dif_pos h]
theorem dec_big {u : Nat} (h : ¬ u < 10) : Lib.decDigits u = Lib.decDigits (u / 10) ++ [UInt8.ofNat (48 + u % 10)] := by rw [Lib.decDigits, dif_neg h]
theorem dec_len : ∀ (f u : Nat), u < 10 ^ (f + 1) → (Lib.decDigits u).length ≤ f + 1
  | 0, u, h => by rw [dec_small (by simpa using h)]; simp
  | f + 1, u, h => by
    by_cases h10 : u < 10
    · rw [dec_small h10]; simp
    · rw [dec_big h10, List.length_append]
      have := dec_len f (u / 10) (Nat.div_lt_of_lt_mul (by rw [Nat.mul_comm, ← Nat.pow_succ]; exact h))
      simp
      omega
theorem itoS_size {n : Nat} (h : n < 10000000000000000000) : (itoS n).size ≤ 19 := by
  have := dec_len 18 n (by simpa using h)
  unfold itoS
  show ((Lib.decDigits n).toArray).size ≤ 19
  simpa using this
theorem itoS_is {n : Nat} {x : ByteArray} (h : Lib.decDigits n = x.data.toList) : x = itoS n := by
  unfold itoS
  have : x.data = (Lib.decDigits n).toArray := Array.ext' (by rw [h])
  cases x
  exact congrArg _ this
theorem void8 (x : ByteArray) : x.toList.isEmpty = decide (x.size = 0) := by
  have e : x.toList = x.data.toList := by rw [ByteArray.toList_eq]
  rw [e]
  have h : x.data.toList.length = x.size := by simp
  cases hx : x.data.toList with
  | nil => rw [hx] at h; simp at h; simp [← h]
  | cons a b =>
    rw [hx] at h
    have h2 : ¬ x.size = 0 := by rw [← h]; simp
    rw [decide_eq_false h2]; rfl
/-- How far digits are written. -/
def DecZ (u m : Nat) (x : ByteArray) : Prop := (x.size = 0 ∧ m = u) ∨ (0 < x.size ∧ Lib.decDigits u = (if m = 0 then [] else Lib.decDigits m) ++ x.data.toList)
theorem cat8 (c : UInt8) (x : ByteArray) : ((⟨#[c]⟩ : ByteArray) ++ x).data.toList = c :: x.data.toList := by simp
theorem DecZ.next {u m : Nat} {x : ByteArray} (h : DecZ u m x) (h2 : x.size = 0 ∨ 0 < m) : DecZ u (m / 10) ((⟨#[UInt8.ofNat (48 + m % 10)]⟩ : ByteArray) ++ x) := by
  have hs : ((⟨#[UInt8.ofNat (48 + m % 10)]⟩ : ByteArray) ++ x).size = 1 + x.size := by rw [ByteArray.size_append]; rfl
  have hd : Lib.decDigits u = Lib.decDigits m ++ x.data.toList := by
    rcases h with ⟨h1, rfl⟩ | ⟨h1, h3⟩
    · have : x.data.toList = [] := List.eq_nil_of_length_eq_zero (by rw [← h1]; simp)
      rw [this, List.append_nil]
    · rw [if_neg (by omega)] at h3; exact h3
  refine .inr ⟨by omega, ?_⟩
  rw [hd, cat8]
  by_cases h10 : m < 10
  · rw [if_pos (by omega), dec_small h10, Nat.mod_eq_of_lt h10]; rfl
  · rw [if_neg (by omega), dec_big h10]; simp
theorem DecZ.size {u m : Nat} {x : ByteArray} (h : DecZ u m x) (hu : u < 10000000000000000000) : x.size ≤ 19 := by
  have hl : x.data.toList.length = x.size := by simp
  rcases h with ⟨h1, _⟩ | ⟨_, h3⟩
  · omega
  · have := dec_len 18 u (by simpa using hu)
    rw [h3, List.length_append] at this
    omega
theorem byte8 (w : World) (n : Int) (c : UInt8) (h : n = (c.toNat : Int)) : (convert 22 9 (.slice (some ⟨w.heap.size, 0, none⟩) 1 1)).run Tryz.prog (w.alloc (.cells #[.int .u8 n] 5)) = .ok (.string ⟨#[c]⟩) (w.alloc (.cells #[.int .u8 n] 5)) := by
  subst h
  exact OwnsB.text (OwnsB.one w c)
theorem dig8 {d : Nat} (h : d < 10) : ((UInt8.ofNat (48 + d)).toNat : Int) = 48 + (d : Int) := by
  have k : ∀ j : Fin 10, ((UInt8.ofNat (48 + j.val)).toNat : Int) = 48 + (j.val : Int) := by decide +kernel
  exact k ⟨d, h⟩
def decMu8 (a b : Value) : Nat := 2 * (intOf a).toNat + (match b with | .string s => if s.size = 0 then 1 else 0 | _ => 0)
theorem ret_str8 {a b : ByteArray} (h : a = b) : Ending.returned (.string a) = .returned (.string b) := by rw [h]
set_option maxHeartbeats 1000000 in
theorem specIntZ (n : Nat) (w : World) (hn : n ≤ 9223372036854775807) :
    Calls Tryz.prog 110 #[.int .i64 (n : Int)] w fun e w' => e = .returned (.string (itoS n)) ∧ Below w.heap.size w w' := by
  have H0 : Hid (DecZ n n ⟨#[]⟩) := .inl ⟨rfl, rfl⟩
  have hneg : decide ((n : Int) < 0) = false := by simp
  go_enter Tryz.func110, Tryz.ntmps110
  go_wp2
  go_loopw [0, 3, 5] (fun a b _ wr => ∃ (m : Nat) (x : ByteArray), a = .int .i64 m ∧ b = .string x ∧ m ≤ 9223372036854775807 ∧ Hid (DecZ n m x) ∧ Hid (Below w.heap.size w wr)) (fun a b _ _ => decMu8 a b)
  case atStart => exact ⟨n, ⟨#[]⟩, rfl, rfl, hn, H0, Below.refl _ _⟩
  case round =>
    obtain ⟨m, x, rfl, rfl, hm, hx, hb⟩ := hrel
    have hxs := hx.out.size (by omega)
    have hmod : m % 10 < 10 := Nat.mod_lt _ (by decide)
    by_cases hend : 0 < x.size ∧ m = 0
    · obtain ⟨h1, rfl⟩ := hend
      have hfe : x.toList.isEmpty = false := by rw [void8]; exact decide_eq_false (by omega)
      have HX : Hid (x = itoS n) := by
        rcases hx.out with ⟨h, _⟩ | ⟨_, h⟩
        · omega
        · exact itoS_is (by simpa using h)
      clear hx
      go_wp2
      go_ret
      exact ⟨ret_str8 HX.out, hb.out⟩
    · have hc : x.size = 0 ∨ 0 < m := by omega
      have HN : Hid (DecZ n (m / 10) ((⟨#[UInt8.ofNat (48 + m % 10)]⟩ : ByteArray) ++ x)) := hx.out.next hc
      have hby := dig8 hmod
      obtain ⟨q, hq⟩ : ∃ q, m % 10 = q := ⟨_, rfl⟩
      obtain ⟨p, hp⟩ : ∃ p, m / 10 = p := ⟨_, rfl⟩
      rw [hq] at HN hby hmod
      rw [hp] at HN
      have hpq : m = 10 * p + q := by omega
      have e3 : (m : Int) % 10 = (q : Int) := by omega
      have e4 : (m : Int) / 10 = (p : Int) := by omega
      have e1 : (m : Int).tmod 10 = (q : Int) := by rw [Int.tmod_eq_emod_of_nonneg (by omega)]; exact e3
      have e2 : (m : Int).tdiv 10 = (p : Int) := by rw [Int.tdiv_eq_ediv_of_nonneg (by omega)]; exact e4
      have d1 : ¬ (q : Int) < 0 := by omega
      have hwr : IntKind.u8.wrap (48 + (q : Int)) = 48 + (q : Int) := by rw [show IntKind.u8.wrap (48 + (q : Int)) = (48 + (q : Int)) % 256 from rfl]; omega
      have htx := fun W => byte8 W (48 + (q : Int)) (UInt8.ofNat (48 + q)) hby.symm
      have hsz : ((⟨#[UInt8.ofNat (48 + q)]⟩ : ByteArray) ++ x).size = 1 + x.size := by rw [ByteArray.size_append]; rfl
      have hsz1 : (⟨#[UInt8.ofNat (48 + q)]⟩ : ByteArray).size = 1 := rfl
      have HM : Hid (decMu8 (.int .i64 (p : Int)) (.string ((⟨#[UInt8.ofNat (48 + q)]⟩ : ByteArray) ++ x)) < decMu8 (.int .i64 (m : Int)) (.string x)) := by
        show 2 * (p : Int).toNat + (if ((⟨#[UInt8.ofNat (48 + q)]⟩ : ByteArray) ++ x).size = 0 then 1 else 0) < 2 * (m : Int).toNat + (if x.size = 0 then 1 else 0)
        rw [hsz, if_neg (by omega), Int.toNat_natCast, Int.toNat_natCast]
        rcases hc with hc | hc
        · rw [if_pos hc]; omega
        · omega
      have HP : Hid (p ≤ 9223372036854775807) := by show p ≤ _; omega
      clear hby hx hend hq hp hpq
      generalize UInt8.ofNat (48 + q) = c at HN htx hsz HM hsz1
      by_cases hv : x.size = 0
      · have hfe : x.toList.isEmpty = true := by rw [void8]; exact decide_eq_true hv
        go_wp2
        go_roundw
        case rel => exact ⟨p, _, rfl, rfl, HP.out, HN, hb.out.alloc hb.out.size _⟩
        case measure => exact HM.out
      · have hfe : x.toList.isEmpty = false := by rw [void8]; exact decide_eq_false hv
        have hne : ((m : Int) != 0) = true := by simp; omega
        have hne2 : ¬ (m : Int) = 0 := by omega
        go_wp2
        go_roundw
        case rel => exact ⟨p, _, rfl, rfl, HP.out, HN, hb.out.alloc hb.out.size _⟩
        case measure => exact HM.out
end Go.Proofs.YtkaogmdhjcgcdaaGreatDoor
namespace Go.Proofs.YtkaogmdhjcgcdaaGreatDoor
open Go.RowKit
set_option linter.unusedVariables false

structure Ct where
  a : Int
  s : Int
  t : Int
  ns : Bool
  nc : Bool
  pr : Bool
  mu : Bool
def ctV (c : Ct) : Value := .agg #[.int .i64 c.a, .int .i64 c.s, .int .i64 c.t, .bool c.ns, .bool c.nc, .bool c.pr, .bool c.mu]
def ctZ : Ct := ⟨0, 0, 0, false, false, false, false⟩
def ctN : Ct := ⟨-1, -1, -1, false, false, false, false⟩
def secB (n : Int) : Bool := decide (-1 ≤ n) && decide (n ≤ 1000000000)
theorem secB_iff {n : Int} : secB n = true ↔ -1 ≤ n ∧ n ≤ 1000000000 := by
  unfold secB; rw [Bool.and_eq_true, decide_eq_true_iff, decide_eq_true_iff]
def ctB (c : Ct) : Bool := secB c.a && (secB c.s && secB c.t)
theorem ctB_iff {c : Ct} : ctB c = true ↔ secB c.a = true ∧ secB c.s = true ∧ secB c.t = true := by unfold ctB; rw [Bool.and_eq_true, Bool.and_eq_true]
/-! ### What is tighter -/
theorem ct_low {a : Ct} (h : ctB a = true) : -1 ≤ a.a ∧ -1 ≤ a.s ∧ -1 ≤ a.t := by
  rw [ctB_iff, secB_iff, secB_iff, secB_iff] at h; exact ⟨h.1.1, h.2.1.1, h.2.2.1⟩
def nmA : ByteArray := ⟨#[109, 97, 120, 45, 97, 103, 101, 61]⟩
def nmS : ByteArray := ⟨#[115, 45, 109, 97, 120, 97, 103, 101, 61]⟩
def nmT : ByteArray := ⟨#[109, 97, 120, 45, 115, 116, 97, 108, 101, 61]⟩
def wdT : ByteArray := ⟨#[109, 97, 120, 45, 115, 116, 97, 108, 101]⟩
def wdS : ByteArray := ⟨#[110, 111, 45, 115, 116, 111, 114, 101]⟩
def wdC : ByteArray := ⟨#[110, 111, 45, 99, 97, 99, 104, 101]⟩
def wdP : ByteArray := ⟨#[112, 114, 105, 118, 97, 116, 101]⟩
def wdM : ByteArray := ⟨#[109, 117, 115, 116, 45, 114, 101, 118, 97, 108, 105, 100, 97, 116, 101]⟩
/-! ### Showing -/
end Go.Proofs.YtkaogmdhjcgcdaaGreatDoor
namespace Go.Proofs.YtkaogmdhjcgcdaaGreatDoor
open Go.RowKit

theorem vis_size {s : ByteArray} (h : visB s = true) : s.size ≤ 400 := by
  unfold visB at h; rw [Bool.and_eq_true] at h; exact of_decide_eq_true h.1
theorem ieq_yes {a b : Int} (h : a = b) : (a == b) = true := by simp [h]
theorem ieq_no {a b : Int} (h : a ≠ b) : (a == b) = false := by simp [h]
theorem ext_size (s : ByteArray) (a i : Nat) : (s.extract a i).size ≤ s.size := by
  have : (s.extract a i).size = min i s.size - a := by simp
  omega

/-- Spec: at the end of a part: the trimmed part is appended where it is not empty. -/
theorem At.comma' {s : ByteArray} {out : List ByteArray} {a i : Nat} (h : At s out a i false) (hi : i < s.size) (hc : (s[i].toNat : Int) = 44) : At s (out ++ one (s.extract a i)) (i + 1) (i + 1) false := by
  rw [cut_text s a i (by omega)]; exact h.comma hi hc

set_option maxRecDepth 100000 in
set_option maxHeartbeats 1000000 in
theorem specItems (s : ByteArray) (w : World) (hs : s.size ≤ maxLen) :
    Calls Tryz.prog 83 #[.string s] w fun e w' => ∃ v, e = .returned v ∧ OwnsS w' w.heap.size v (itemsA s) ∧ Below w.heap.size w w' := by
  by_cases hv : visB s = true
  · have hz := vis_size hv
    have HA : Hid (itemsT s = itemsA s) := itemsA_yes hv
    go_enter Tryz.func83, Tryz.ntmps83
    go_wp2_with (go_at_call 117; refine (specVis _ _ hs).mono ?_; rintro e w' ⟨rfl, rfl⟩)
    go_loopw [3, 4, 5, 6] (fun v f o i wr => ∃ (out : List ByteArray) (a k : Nat) (op : Bool), f = .int .i64 a ∧ o = .bool op ∧ i = .int .i64 k ∧ OwnsS wr w.heap.size v out ∧ Below w.heap.size w wr ∧ out.length ≤ k ∧ a ≤ k ∧ ((k ≤ s.size ∧ Hid (At s out a k op)) ∨ (k = s.size + 1 ∧ Hid (out = itemsT s)))) (fun _ _ _ i _ => s.size + 2 - (intOf i).toNat)
    case atStart => exact ⟨[], 0, 0, false, rfl, rfl, rfl, OwnsS.born w, (Below.refl _ w).alloc (Nat.le_refl _) _, Nat.le_refl _, Nat.le_refl _, Or.inl ⟨Nat.zero_le _, At.start s⟩⟩
    case round =>
      obtain ⟨out, a, k, op, rfl, rfl, rfl, hown, hb, hol, hak, hst⟩ := hrel
      clear hv
      rcases hst with ⟨hk, hat⟩ | ⟨hk, hout⟩
      · by_cases hend : k < s.size
        · have hqe : ((k : Int) == (s.size : Int)) = false := ieq_no (by omega)
          by_cases h44 : (s[k].toNat : Int) = 44
          · have hq44 := ieq_yes h44
            cases op with
            | false =>
              have HN : Hid (At s (out ++ one (s.extract a k)) (k + 1) (k + 1) false) := hat.out.comma' hend h44
              clear h44
              have hxz : (s.extract a k).size ≤ 1048576 := by have := ext_size s a k; omega
              by_cases ht : 0 < (trimB (s.extract a k)).size
              · have hfull := full ht
                have hfe : (trimB (s.extract a k)).toList.isEmpty = false := by simpa using hfull
                have HO : Hid (one (s.extract a k) = [trimB (s.extract a k)]) := one_yes ht
                clear ht
                go_wp2_with (first | (go_at_call 107; refine (specTrim _ _ hxz).mono ?_; rintro e w' ⟨rfl, rfl⟩) | (at_builtin; refine wpList_pushS _ rfl (.tmp 40) (.tmp 42) rfl w.heap.size _ _ _ rfl hown rfl (by omega) hb.size ?_; intro v2 w2 ho2 hg2))
                go_roundw
                case rel => exact ⟨_, k + 1, k + 1, false, by go_num, rfl, by go_num, ho2, (hb.grown hg2 hb.size (OwnsS.from hown)), by simp; omega, Nat.le_refl _, Or.inl ⟨by omega, by have := HN.out; rw [HO.out] at this; first | exact this | (rw [List.append_nil] at this; exact this)⟩⟩
                case measure => simp [intOf]; omega
              · have hnil := void ht
                have HO : Hid (one (s.extract a k) = []) := one_no ht
                clear ht
                go_wp2_with (go_at_call 107; refine (specTrim _ _ hxz).mono ?_; rintro e w' ⟨rfl, rfl⟩)
                go_roundw
                case rel => exact ⟨_, k + 1, k + 1, false, by go_num, rfl, by go_num, hown, hb, by omega, Nat.le_refl _, Or.inl ⟨by omega, by have := HN.out; rw [HO.out] at this; first | exact this | (rw [List.append_nil] at this; exact this)⟩⟩
                case measure => simp [intOf]; omega
            | true =>
              have HN : Hid (At s out a (k + 1) true) := hat.out.plain hend hak (by simp) (by omega) (by omega)
              have hq34 : ((s[k].toNat : Int) == 34) = false := ieq_no (by omega)
              have hq92 : ((s[k].toNat : Int) == 92) = false := ieq_no (by omega)
              clear h44
              go_wp2
              go_roundw
              case rel => exact ⟨out, a, k + 1, true, rfl, rfl, by go_num, hown, hb, by omega, by omega, Or.inl ⟨by omega, HN⟩⟩
              case measure => simp [intOf]; omega
          · have hq44 := ieq_no h44
            by_cases h34 : (s[k].toNat : Int) = 34
            · have hq34 := ieq_yes h34
              have HN : Hid (At s out a (k + 1) (!op)) := hat.out.quote hend hak h34
              clear h44 h34
              go_wp2
              go_roundw
              case rel => exact ⟨out, a, k + 1, !op, rfl, rfl, by go_num, hown, hb, by omega, by omega, Or.inl ⟨by omega, HN⟩⟩
              case measure => simp [intOf]; omega
            · have hq34 := ieq_no h34
              by_cases h92 : (s[k].toNat : Int) = 92
              · have hq92 := ieq_yes h92
                cases op with
                | false =>
                  have HN : Hid (At s out a (k + 1) false) := hat.out.plain hend hak (by omega) h34 (by simp)
                  clear h44 h34 h92
                  go_wp2
                  go_roundw
                  case rel => exact ⟨out, a, k + 1, false, rfl, rfl, by go_num, hown, hb, by omega, by omega, Or.inl ⟨by omega, HN⟩⟩
                  case measure => simp [intOf]; omega
                | true =>
                  by_cases hl : k + 1 < s.size
                  · have HN : Hid (At s out a (k + 2) true) := hat.out.take hend hak h92
                    have hq1 : ((k : Int) + 1 == (s.size : Int)) = false := ieq_no (by omega)
                    clear h44 h34 h92
                    go_wp2
                    go_roundw
                    case rel => exact ⟨out, a, k + 2, true, rfl, rfl, by go_num, hown, hb, by omega, by omega, Or.inl ⟨by omega, HN⟩⟩
                    case measure => simp [intOf]; omega
                  · have HN : Hid (At s out a (k + 1) true) := hat.out.last hend hak h92 hl
                    have hq1 : ((k : Int) + 1 == (s.size : Int)) = true := ieq_yes (by omega)
                    clear h44 h34 h92
                    go_wp2
                    go_roundw
                    case rel => exact ⟨out, a, k + 1, true, rfl, rfl, by go_num, hown, hb, by omega, by omega, Or.inl ⟨by omega, HN⟩⟩
                    case measure => simp [intOf]; omega
              · have hq92 := ieq_no h92
                have HN : Hid (At s out a (k + 1) op) := hat.out.plain hend hak (fun x => h44 x.2) h34 (fun x => h92 x.2)
                clear h44 h34 h92
                go_wp2
                go_roundw
                case rel => exact ⟨out, a, k + 1, op, rfl, rfl, by go_num, hown, hb, by omega, by omega, Or.inl ⟨by omega, HN⟩⟩
                case measure => simp [intOf]; omega
        · obtain rfl : k = s.size := by omega
          have hqe : ((s.size : Int) == (s.size : Int)) = true := ieq_yes rfl
          have HN : Hid (out ++ one (s.extract a s.size) = itemsT s) := hat.out.done hend
          have hxz : (s.extract a s.size).size ≤ 1048576 := by have := ext_size s a s.size; omega
          by_cases ht : 0 < (trimB (s.extract a s.size)).size
          · have hfull := full ht
            have hfe : (trimB (s.extract a s.size)).toList.isEmpty = false := by simpa using hfull
            have HO : Hid (one (s.extract a s.size) = [trimB (s.extract a s.size)]) := one_yes ht
            clear ht
            go_wp2_with (first | (go_at_call 107; refine (specTrim _ _ hxz).mono ?_; rintro e w' ⟨rfl, rfl⟩) | (at_builtin; refine wpList_pushS _ rfl (.tmp 40) (.tmp 42) rfl w.heap.size _ _ _ rfl hown rfl (by omega) hb.size ?_; intro v2 w2 ho2 hg2))
            go_roundw
            case rel => exact ⟨_, s.size + 1, s.size + 1, op, by go_num, rfl, by go_num, ho2, (hb.grown hg2 hb.size (OwnsS.from hown)), by simp; omega, Nat.le_refl _, Or.inr ⟨rfl, by have := HN.out; rw [HO.out] at this; first | exact this | (rw [List.append_nil] at this; exact this)⟩⟩
            case measure => simp [intOf]
          · have hnil := void ht
            have HO : Hid (one (s.extract a s.size) = []) := one_no ht
            clear ht
            go_wp2_with (go_at_call 107; refine (specTrim _ _ hxz).mono ?_; rintro e w' ⟨rfl, rfl⟩)
            go_roundw
            case rel => exact ⟨_, s.size + 1, s.size + 1, op, by go_num, rfl, by go_num, hown, hb, by omega, Nat.le_refl _, Or.inr ⟨rfl, by have := HN.out; rw [HO.out] at this; first | exact this | (rw [List.append_nil] at this; exact this)⟩⟩
            case measure => simp [intOf]
      · subst hk
        go_wp2
        go_ret
        exact ⟨_, rfl, by rw [← HA.out, ← hout.out]; exact hown, hb⟩
  · have hv' : visB s = false := by simpa using hv
    clear hv
    have HA : Hid ([] = itemsA s) := itemsA_no hv'
    go_enter Tryz.func83, Tryz.ntmps83
    go_wp2_with (go_at_call 117; refine (specVis _ _ hs).mono ?_; rintro e w' ⟨rfl, rfl⟩)
    go_ret
    exact ⟨_, rfl, by rw [← HA.out]; exact OwnsS.born _, (Below.refl _ _).alloc (Nat.le_refl _) _⟩
end Go.Proofs.YtkaogmdhjcgcdaaGreatDoor
namespace Go.Proofs.YtkaogmdhjcgcdaaGreatDoor
open Go.RowKit
set_option linter.unusedVariables false

/-- The number of a directive, and whether it is one. -/
def told (x name : ByteArray) : Int × Bool := if x.size ≤ name.size ∨ ¬ x.extract 0 name.size = name then (0, false) else (minI 1000000000 (numV 10 15 (x.extract name.size x.size)), numOk 10 15 (x.extract name.size x.size))
def st1 (c : Ct) (x : ByteArray) : Ct := if (told x nmA).2 = true ∧ c.a < 0 then { c with a := (told x nmA).1 } else c
def st2 (c : Ct) (x : ByteArray) : Ct := if (told x nmS).2 = true ∧ c.s < 0 then { c with s := (told x nmS).1 } else c
def st3 (c : Ct) (x : ByteArray) : Ct := if (told x nmT).2 = true ∧ c.t < 0 then { c with t := (told x nmT).1 } else c
def st4 (c : Ct) (x : ByteArray) : Ct :=
  if x = wdT then (if c.t < 0 then { c with t := 1000000000 } else c)
  else if x = wdS then { c with ns := true }
  else if x = wdC then { c with nc := true }
  else if x = wdP then { c with pr := true }
  else if x = wdM then { c with mu := true }
  else c
def stp (c : Ct) (x : ByteArray) : Ct := st4 (st3 (st2 (st1 c x) x) x) x
def lowT (s : ByteArray) : ByteArray := ⟨(s.data.toList.map lowB).toArray⟩
def rdLt (l : List ByteArray) : Ct := l.foldl (fun c t => stp c (lowT t)) ctN
/-- What ReadControl answers. -/
def rdCt (s : ByteArray) : Ct := rdLt (itemsA s)
theorem rdL_snoc (l : List ByteArray) (t : ByteArray) : rdLt (l ++ [t]) = stp (rdLt l) (lowT t) := by unfold rdLt; rw [List.foldl_append]; rfl
theorem told_sec (x name : ByteArray) (h : ∀ t, 0 ≤ numV 10 15 t) : secB (told x name).1 = true := by
  unfold told
  split
  · exact secB_iff.2 ⟨by show (-1 : Int) ≤ 0; omega, by show (0 : Int) ≤ _; omega⟩
  · rw [secB_iff]
    have := h (x.extract name.size x.size)
    show -1 ≤ minI _ _ ∧ minI _ _ ≤ _
    unfold minI
    split <;> omega
theorem stp_ok (h : ∀ t, 0 ≤ numV 10 15 t) {c : Ct} (hc : ctB c = true) (x : ByteArray) : ctB (stp c x) = true := by
  have h1 : ctB (st1 c x) = true := by
    unfold st1; split
    · rw [ctB_iff] at *; exact ⟨told_sec x nmA h, hc.2⟩
    · exact hc
  have h2 : ctB (st2 (st1 c x) x) = true := by
    unfold st2; split
    · rw [ctB_iff] at *; exact ⟨h1.1, told_sec x nmS h, h1.2.2⟩
    · exact h1
  have h3 : ctB (st3 (st2 (st1 c x) x) x) = true := by
    unfold st3; split
    · rw [ctB_iff] at *; exact ⟨h2.1, h2.2.1, told_sec x nmT h⟩
    · exact h2
  unfold stp st4
  split
  · split
    · rw [ctB_iff] at *; exact ⟨h3.1, h3.2.1, by show secB 1000000000 = true; decide⟩
    · exact h3
  · repeat' split
    all_goals exact h3
theorem rdL_ok (h : ∀ t, 0 ≤ numV 10 15 t) (l : List ByteArray) : ctB (rdLt l) = true := by
  unfold rdLt
  have : ∀ c, ctB c = true → ctB (l.foldl (fun c t => stp c (lowT t)) c) = true := by
    induction l with
    | nil => intro c hc; exact hc
    | cons t l ih => intro c hc; exact ih _ (stp_ok h hc _)
  exact this ctN (by decide)
theorem numL_bound9 (l : List UInt8) : ∀ (acc : Int) (m : Nat), 0 ≤ acc → acc < 10 ^ m → allB (digN 10) l = true → 0 ≤ l.foldl (fun n c => n * 10 + digV (c.toNat : Int)) acc ∧ l.foldl (fun n c => n * 10 + digV (c.toNat : Int)) acc < 10 ^ (m + l.length) := by
  induction l with
  | nil => intro acc m h1 h2 _; exact ⟨h1, h2⟩
  | cons c l ih =>
    intro acc m h1 h2 ha
    have h3 : digN 10 (c.toNat : Int) = true ∧ allB (digN 10) l = true := by unfold allB at ha ⊢; rw [List.all_cons, Bool.and_eq_true] at ha; exact ha
    have h4 := of_decide_eq_true h3.1
    have := ih (acc * 10 + digV (c.toNat : Int)) (m + 1) (by omega) (by rw [Int.pow_succ]; omega) h3.2
    rw [List.length_cons, show m + (l.length + 1) = m + 1 + l.length by omega]
    exact this
theorem numV_bound9 (t : ByteArray) : 0 ≤ numV 10 15 t ∧ numV 10 15 t < 1000000000000000 := by
  unfold numV
  split
  · rename_i h
    unfold numOk at h
    rw [Bool.and_eq_true] at h
    have h1 := of_decide_eq_true h.1
    have h2 := numL_bound9 t.data.toList 0 0 (Int.le_refl _) (by decide) h.2
    have hl : t.data.toList.length = t.size := by simp
    rw [hl, Nat.zero_add] at h2
    refine ⟨h2.1, Int.lt_of_lt_of_le h2.2 ?_⟩
    have : (10 : Int) ^ t.size ≤ 10 ^ 15 := by
      have h3 : (10 : Nat) ^ t.size ≤ 10 ^ 15 := Nat.pow_le_pow_right (by decide) h1.2
      exact_mod_cast h3
    exact this
  · exact ⟨Int.le_refl _, by decide⟩
end Go.Proofs.YtkaogmdhjcgcdaaGreatDoor
