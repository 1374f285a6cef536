/-
  The contract of the specification's ReadFields.
  The contract of the specification's Hex.
  The program's ChunkerOk by its contract.
-/
import Derived.Test.YteibacmohplblaaGreatDoorG18
import Derived.Deep.Cut
import Derived.Deep.CutRange
import Derived.Test.YteibacmohplblaaGreatDoorG06
import Derived.Test.YteibacmohplblaaGreatDoorRows
import Derived.WalkKit
import Derived.WalkSpells
import Derived.Laws.Bits64b
import Derived.Laws.IdiomStrings
import Derived.Laws.Strings
import Derived.Test.YteibacmohplblaaGreatDoorG07
import Derived.Test.YteibacmohplblaaGreatDoorG11
namespace Go.Proofs.YteibacmohplblaaGreatDoor
open Go.RowKit Go.Sort

theorem col_found {t : ByteArray} {k : Nat} (hk : k < t.size) (h : ∀ c ∈ t.data.toList.take k, c ≠ 58) (h58 : t[k] = 58) : colL t.data.toList = some (t.data.toList.take k, t.data.toList.drop (k + 1)) := by
  have e : t.data.toList = t.data.toList.take k ++ [58] ++ t.data.toList.drop (k + 1) := by
    rw [← h58, ← take_snoc t k hk, List.take_append_drop]
  conv => lhs; rw [e]
  exact colL_at _ h
theorem col_lost {t : ByteArray} {k : Nat} (hk : ¬ k < t.size) (h : ∀ c ∈ t.data.toList.take k, c ≠ 58) : colL t.data.toList = none := by
  rw [take_all t k hk] at h
  exact colL_none h
theorem col_next {t : ByteArray} {k : Nat} (hk : k < t.size) (h : ∀ c ∈ t.data.toList.take k, c ≠ 58) (h58 : t[k] ≠ 58) : ∀ c ∈ t.data.toList.take (k + 1), c ≠ 58 := by
  rw [take_snoc t k hk]
  intro c hc
  rcases List.mem_append.1 hc with hc | hc
  · exact h c hc
  · rw [List.mem_singleton.1 hc]; exact h58
theorem fld_at (t : ByteArray) (k : Nat) (hk : k < t.size) : fldT (t.data.toList.take k) (t.data.toList.drop (k + 1)) = (t.extract 0 k, trimB (t.extract (k + 1) t.size)) := by
  unfold fldT
  rw [cut_text t 0 k (by omega), cut_text t (k + 1) t.size (Nat.le_refl _)]
  have e1 : cutL t.data.toList 0 k = t.data.toList.take k := by simp [cutL]
  have e2 : cutL t.data.toList (k + 1) t.size = t.data.toList.drop (k + 1) := by
    unfold cutL
    rw [take_all t t.size (by omega)]
  rw [e1, e2]
theorem line_next {s : ByteArray} {j : Nat} {x r : List UInt8} (h : lnC (s.data.toList.drop j) = some (x, r)) (hj : j ≤ s.size) : r = s.data.toList.drop (j + x.length + 2) ∧ r.length + (j + x.length + 2) = s.size := by
  have e := lnC_length h
  have hl := congrArg List.length e
  simp at hl
  constructor
  · have e2 := congrArg (List.drop (x.length + 2)) e
    rw [List.drop_drop, List.append_assoc] at e2
    have e3 : (x ++ ([13, 10] ++ r)).drop (x.length + 2) = r := by
      rw [← List.append_assoc]
      exact List.drop_left' (by simp)
    rw [e3] at e2
    rw [← e2]
    congr 1
  · omega

set_option maxRecDepth 100000 in
set_option maxHeartbeats 4000000 in
theorem specRead (s : ByteArray) (w : World) (hs : s.size ≤ 1048576) :
    Calls Tryz.prog 105 #[.string s] w fun e w' => GivesR w w' e s (rdA s.data.toList) := by
  have hsl := len_of s
  go_enter Tryz.func105, Tryz.ntmps105
  go_wp2
  go_loopw [5, 6] (fun u a wr => ∃ (n j : Nat) (out : List Fl), a = .int .i64 j ∧ out.length + n = 30 ∧ j ≤ s.size ∧ OwnsF wr w.heap.size u out ∧ Hid (rdN (n + 1) out (s.data.toList.drop j) = rdA s.data.toList) ∧ Below w.heap.size w wr) (fun _ a _ => s.size - (intOf a).toNat)
  case atStart => exact ⟨30, 0, [], rfl, rfl, Nat.zero_le _, OwnsF.born w, rfl, (Below.refl _ _).alloc (Nat.le_refl _) _⟩
  case round =>
    obtain ⟨n, j, out, rfl, hn, hj, hown, hrd, hb⟩ := hrel
    obtain ⟨w1, rfl⟩ : ∃ y, y = wr := ⟨wr, rfl⟩
    obtain ⟨au, cu, rfl, huc, hum⟩ := hown.form
    have hline := specLine s j w1 hj (by omega)
    cases hl : lnS (s.data.toList.drop j) with
    | none =>
      rw [hl] at hline
      unfold lineE at hline
      have HN : Hid (rdA s.data.toList = none) := by show _ = _; rw [← hrd.out, rdN_lnS hl]
      go_wp2_with (go_at_call 60; refine hline.mono ?_; rintro e w2 ⟨rfl, rfl⟩)
      go_ret3
      exact givesR_none HN.out hb rfl
    | some p =>
      obtain ⟨x, r⟩ := p
      rw [hl] at hline
      unfold lineE at hline
      obtain ⟨hc, _⟩ := lnS_some hl
      obtain ⟨hr, hrl⟩ := line_next hc hj
      have hint : (s.size : Int) - (r.length : Int) = ((j + x.length + 2 : Nat) : Int) := by omega
      simp only [hint] at hline
      by_cases hx : x = []
      · subst hx
        have HN : Hid (rdA s.data.toList = some (out, r)) := by show _ = _; rw [← hrd.out, rdN_void hc]
        go_wp2_with (go_at_call 60; refine hline.mono ?_; rintro e w2 ⟨rfl, rfl⟩)
        go_ret3
        exact givesR_some HN.out (by simp at hint ⊢; omega) hown.has hb
      · have hx0 : 0 < x.length := List.length_pos_iff.2 hx
        have zx := txt_size x
        have ht : (⟨x.toArray⟩ : ByteArray).data.toList = x := by simp
        have hne : 0 < (⟨x.toArray⟩ : ByteArray).size := by omega
        have hfull := full hne
        have hfe := full4 hne
        have HF : Hid ((⟨x.toArray⟩ : ByteArray).data.toList = x) := ht
        generalize (⟨x.toArray⟩ : ByteArray) = t at hline zx hfull hfe hne HF
        clear ht
        have HZ : Hid (t.size = x.length) := zx
        have ht6 : t.size ≤ 1048576 := by omega
        clear zx
        go_wp2_with (go_at_call 60; refine hline.mono ?_; rintro e w2 ⟨rfl, rfl⟩)
        clear hline
        go_loopw [10] (fun i wr => ∃ k : Nat, k ≤ t.size ∧ i = .int .i64 k ∧ Hid (∀ c ∈ t.data.toList.take k, c ≠ 58) ∧ wr = w1) (fun i _ => t.size - (intOf i).toNat)
        case atStart => exact ⟨0, Nat.zero_le _, rfl, (by intro c hc; simp at hc : Hid (∀ c ∈ t.data.toList.take 0, c ≠ 58)), rfl⟩
        case round =>
          obtain ⟨k, hk, rfl, hno, rfl⟩ := hrel
          by_cases hlt : k < t.size
          · by_cases h58 : (t[k].toNat : Int) = 58
            · have hcol := col_found hlt hno.out (byte_is h58)
              rw [HF.out] at hcol
              have hq1 := bne_no h58
              have hq2 := ieq_yes h58
              have hke : ((k : Int) == (t.size : Int)) = false := ieq_no (by omega)
              by_cases h30 : out.length = 30
              · have HN : Hid (rdA s.data.toList = none) := by show _ = _; rw [← hrd.out, rdN_many hc hx (by omega)]
                have hoe : ((out.length : Int) == 30) = true := ieq_yes (by omega)
                clear h58
                go_wp2
                go_ret3
                exact givesR_none HN.out hb rfl
              · have hoe : ((out.length : Int) == 30) = false := ieq_no (by omega)
                have hfa := fld_at t k hlt
                rw [HF.out] at hfa
                clear h58
                have a1 : (0 : Int) ≤ (k : Int) := by omega
                have a2 : (k : Int) ≤ (t.size : Int) := by omega
                have a3 : (k : Int) + 1 ≤ (t.size : Int) := by omega
                have a4 : IntKind.i64.wrap ((k : Int) + 1) = (k : Int) + 1 := by rw [IntKind.wrap_i64]; omega
                have a5 : (0 : Int) ≤ (k : Int) + 1 := by omega
                have a6 : ((k : Int) + 1).toNat = k + 1 := by omega
                go_wp2
                generalize hfe0 : trimB (t.extract (k + 1) t.size) = v0 at hfa
                have ha7 : ∀ y : World, Calls Tryz.prog 131 #[.string (t.extract (k + 1) t.size)] y fun e w' => e = .returned (.string v0) ∧ y = w' := by rw [← hfe0]; exact fun y => specTrim _ y (by simp; omega)
                have hz1 : (t.extract 0 k).size ≤ 1048576 := by simp; omega
                have hz2 : v0.size ≤ 1048576 := by
                  rw [← hfe0]
                  have := trimB_size (t.extract (k + 1) t.size)
                  have : (t.extract (k + 1) t.size).size ≤ t.size := by simp
                  omega
                clear hfe0
                go_cut [11] from 50 to 58 (fun a wx => a = .pointer (some ⟨wr.heap.size, 0, none⟩) ∧ wx = (wr.alloc (.cells #[.string (t.extract 0 k), .string v0] 81)).drew)
                case first =>
                  go_region_with (go_at_call 131; refine (ha7 _).mono ?_; rintro e w3 ⟨rfl, rfl⟩)
                  all_goals (try go_wp2_with fail)
                  all_goals go_meet
                  all_goals exact ⟨rfl, rfl⟩
                case rest =>
                  obtain ⟨rfl, rfl⟩ := hcut
                  have e0 : (wr.alloc (.cells #[.string (t.extract 0 k), .string v0] 81)).drew.cell? ⟨wr.heap.size, 0, none⟩ = some (.string (t.extract 0 k)) := box0 wr (t.extract 0 k, v0) 81
                  have e1 : (wr.alloc (.cells #[.string (t.extract 0 k), .string v0] 81)).drew.cell? ⟨wr.heap.size, 1, none⟩ = some (.string v0) := box1 wr (t.extract 0 k, v0) 81
                  have ho3 : OwnsF (wr.alloc (.cells #[.string (t.extract 0 k), .string v0] 81)).drew w.heap.size (.slice au out.length cu) out := hown.alloc _
                  have hba := hb.alloc hb.size (.cells #[.string (t.extract 0 k), .string v0] 81)
                  have hb3 : Below w.heap.size w (wr.alloc (.cells #[.string (t.extract 0 k), .string v0] 81)).drew := ⟨hba.os, hba.tape, hba.output, hba.size, hba.block⟩
                  have hzl : wr.heap.size < (wr.alloc (.cells #[.string (t.extract 0 k), .string v0] 81)).drew.heap.size := box_lt wr _
                  generalize (wr.alloc (.cells #[.string (t.extract 0 k), .string v0] 81)).drew = w3 at e0 e1 ho3 hb3 hzl ⊢
                  generalize t.extract 0 k = n0 at e0 e1 ha7 hfa hz1 ⊢
                  cases hok : fldOk (n0, v0) with
                  | false =>
                    have HN : Hid (rdA s.data.toList = none) := by show _ = _; rw [← hrd.out, rdN_no hc hx (rdF_no hcol (by rw [hfa]; exact hok))]
                    clear ha7 hown hba hb ho3
                    go_wp2_with (go_at_call 111; refine (specFld (n0, v0) w3 hz1 hz2).mono ?_; rw [hok]; rintro e w4 ⟨rfl, hb4⟩)
                    go_ret3
                    exact givesR_none HN.out (hb3.trans (hb4.mono hb3.size)) rfl
                  | true =>
                    obtain ⟨n', rfl⟩ : ∃ n', n = n' + 1 := ⟨n - 1, by omega⟩
                    have HN : Hid (rdN (n' + 1) (out ++ [(n0, v0)]) r = rdA s.data.toList) := by show _ = _; rw [← hrd.out, rdN_more hc hx (rdF_yes hcol (by rw [hfa]; exact hok)) (by omega), hfa]
                    clear ha7 hown hba hb
                    go_wp2_with (first
                      | (go_at_call 111; refine (specFld (n0, v0) w3 hz1 hz2).mono ?_; rw [hok]; rintro e w4 ⟨rfl, hb4⟩; have d0 := (hb4.cell (p := ⟨wr.heap.size, 0, none⟩) hzl).trans e0; have d1 := (hb4.cell (p := ⟨wr.heap.size, 1, none⟩) hzl).trans e1; have ho4 := ho3.kept hb4; have hb04 := hb3.trans (hb4.mono hb3.size))
                      | (at_builtin; refine wpList_pushF _ rfl (.tmp 63) (.tmp 65) rfl w.heap.size _ _ (n0, v0) rfl ho4 rfl (by omega) hb04.size ?_; intro v5 w5 ho5 hg5))
                    have hb05 := hb04.grown hg5 hb04.size (OwnsF.from ho4)
                    clear d0 d1 e0 e1 ho3 ho4 hb3 hb4 hb04 hg5
                    rw [hr] at HN
                    go_roundw
                    case rel => exact ⟨n', j + x.length + 2, out ++ [(n0, v0)], by go_num, by simp; omega, by omega, ho5, HN, hb05⟩
                    case measure => simp [intOf]; omega
            · have HN : Hid (∀ c ∈ t.data.toList.take (k + 1), c ≠ 58) := col_next hlt hno.out (fun e => h58 (by rw [e]; rfl))
              have hq1 := bne_yes h58
              have hq2 := ieq_no h58
              clear h58
              go_wp2
              go_roundw
              case rel => exact ⟨k + 1, by omega, by go_num, HN, trivial⟩
              case measure => simp [intOf]; omega
          · have hcol := col_lost hlt hno.out
            rw [HF.out] at hcol
            have HN : Hid (rdA s.data.toList = none) := by show _ = _; rw [← hrd.out, rdN_no hc hx (rdF_col hcol)]
            have hke : ((k : Int) == (t.size : Int)) = true := ieq_yes (by omega)
            have hkd : decide ((k : Int) < (t.size : Int)) = false := decide_eq_false (by omega)
            go_wp2
            go_ret3
            exact givesR_none HN.out hb rfl
end Go.Proofs.YteibacmohplblaaGreatDoor
namespace Go.Proofs.YteibacmohplblaaGreatDoor
open Go.RowKit

def lenS : Value → Nat | .string s => s.size | _ => 0
def hexMu (a b : Value) : Nat := 2 * (intOf a).toNat + (if lenS b = 0 then 1 else 0)

theorem full' {x : ByteArray} (h : 0 < x.size) : ¬ x.toList = [] := by
  rw [ByteArray.toList_eq]
  intro e
  have h3 : x.data.toList.length = x.size := by simp
  rw [e] at h3
  simp at h3
  omega
theorem void' {x : ByteArray} (h : ¬ 0 < x.size) : x.toList = [] := by
  rw [ByteArray.toList_eq]
  have h3 : x.data.toList.length = x.size := by simp
  exact List.eq_nil_of_length_eq_zero (by omega)

/-- n lies between lo and hi. -/
def inR (n lo hi : Int) : Bool := decide (lo ≤ n ∧ n ≤ hi)
theorem inRange (n lo hi : Int) (w : World) : Calls Tryz.prog 79 #[.int .i64 n, .int .i64 lo, .int .i64 hi] w fun e w' => e = .returned (.bool (inR n lo hi)) ∧ w = w' := by
  unfold inR
  by_cases h1 : lo ≤ n
  · by_cases h2 : n ≤ hi
    · have e : decide (lo ≤ n ∧ n ≤ hi) = true := decide_eq_true ⟨h1, h2⟩
      rw [e]
      clear e
      go_enter Tryz.func79, Tryz.ntmps79
      go_wp2
      go_ret
      exact ⟨by simp, rfl⟩
    · have e : decide (lo ≤ n ∧ n ≤ hi) = false := decide_eq_false (fun x => h2 x.2)
      rw [e]
      clear e
      go_enter Tryz.func79, Tryz.ntmps79
      go_wp2
      go_ret
      exact ⟨by simp, rfl⟩
  · have e : decide (lo ≤ n ∧ n ≤ hi) = false := decide_eq_false (fun x => h1 x.1)
    rw [e]
    clear e
    go_enter Tryz.func79, Tryz.ntmps79
    go_wp2
    go_ret
    exact ⟨rfl, rfl⟩

theorem cat16 (d : Nat) (x : ByteArray) (h : d < 16) : ((⟨#[48, 49, 50, 51, 52, 53, 54, 55, 56, 57, 97, 98, 99, 100, 101, 102]⟩ : ByteArray).extract d (d + 1) ++ x).data.toList = hexB d :: x.data.toList := by
  have e : ((⟨#[48, 49, 50, 51, 52, 53, 54, 55, 56, 57, 97, 98, 99, 100, 101, 102]⟩ : ByteArray).extract d (d + 1)).data.toList = [hexB d] := by
    rcases (show d = 0 ∨ d = 1 ∨ d = 2 ∨ d = 3 ∨ d = 4 ∨ d = 5 ∨ d = 6 ∨ d = 7 ∨ d = 8 ∨ d = 9 ∨ d = 10 ∨ d = 11 ∨ d = 12 ∨ d = 13 ∨ d = 14 ∨ d = 15 from by omega) with rfl | rfl | rfl | rfl | rfl | rfl | rfl | rfl | rfl | rfl | rfl | rfl | rfl | rfl | rfl | rfl <;> decide
  rw [ByteArray.data_append, Array.toList_append, e]
  rfl
theorem size_cons {x : ByteArray} {c : UInt8} {l : List UInt8} (h : x.data.toList = c :: l) : 0 < x.size := by
  have h3 : x.data.toList.length = x.size := by simp
  rw [h, List.length_cons] at h3
  omega
theorem hexMu_lt {a b : Nat} {x y : ByteArray} (hy : 0 < y.size) (h : a < b ∨ (a ≤ b ∧ x.size = 0)) : hexMu (.int .i64 (a : Int)) (.string y) < hexMu (.int .i64 (b : Int)) (.string x) := by
  have e1 : hexMu (.int .i64 (a : Int)) (.string y) = 2 * a := by
    show 2 * ((a : Int)).toNat + (if y.size = 0 then 1 else 0) = 2 * a
    rw [if_neg (by omega)]; simp
  have e2 : hexMu (.int .i64 (b : Int)) (.string x) = 2 * b + (if x.size = 0 then 1 else 0) := by
    show 2 * ((b : Int)).toNat + (if x.size = 0 then 1 else 0) = _
    simp
  rw [e1, e2]
  rcases h with h | ⟨h, h'⟩
  · split <;> omega
  · rw [if_pos h']; omega
theorem hexS_is {n : Nat} {x : ByteArray} (h : hexF 13 n = x.data.toList) : x = hexS n := by
  unfold hexS
  have : x.data = (hexF 13 n).toArray := Array.ext' (by rw [h])
  cases x
  exact congrArg _ this

set_option maxHeartbeats 400000 in
theorem specHex_in (n : Nat) (hn : n ≤ 4503599627370496) (w : World) :
    Calls Tryz.prog 147 #[.int .i64 n] w fun e w' => e = .returned (.string (hexA n)) ∧ w = w' := by
  have HA : Hid (hexS n = hexA (n : Int)) := hexA_yes hn
  have hin : inR (n : Int) 0 4503599627370496 = true := decide_eq_true (by omega)
  have hbound : n < 16 ^ (13 + 1) := by omega
  have HB : Hid (n < 16 ^ (13 + 1)) := hbound
  clear hbound
  go_enter Tryz.func147, Tryz.ntmps147
  go_wp2_with (go_at_call 79; refine (inRange _ _ _ _).mono ?_; rintro e w' ⟨rfl, rfl⟩)
  clear hin
  go_loop [0, 3] (fun a b => ∃ (m f : Nat) (x : ByteArray), a = .int .i64 m ∧ b = .string x ∧ m ≤ 4503599627370496 ∧ Hid ((0 < x.size ∧ m = 0 ∧ hexF 13 n = x.data.toList) ∨ ((x.size = 0 ∨ 0 < m) ∧ f + x.data.toList.length = 13 ∧ m < 16 ^ (f + 1) ∧ hexF 13 n = hexF f m ++ x.data.toList))) (fun a b => hexMu a b)
  case atStart => exact ⟨n, 13, ⟨#[]⟩, rfl, rfl, hn, Or.inr ⟨Or.inl rfl, rfl, HB, by show hexF 13 n = hexF 13 n ++ []; rw [List.append_nil]⟩⟩
  case round =>
    obtain ⟨m, f, x, rfl, rfl, hm, hx⟩ := hrel
    rcases hx.out with ⟨x1, x2, x3⟩ | ⟨x1, x2, x3, x4⟩
    · have hne := full' x1
      have hfe : x.toList.isEmpty = false := by simpa using hne
      subst x2
      have HX : Hid (hexF 13 n = x.data.toList) := x3
      clear x3 hx
      go_wp2
      go_ret
      exact ⟨ret_hex ((hexS_is HX.out).trans HA.out), rfl⟩
    · have hcond : x.toList = [] ∨ 0 < m := by
        rcases x1 with h | h
        · exact Or.inl (void' (by omega))
        · exact Or.inr h
      have hmod : m % 16 < 16 := Nat.mod_lt _ (by decide)
      have hxs : x.size ≤ 13 := by
        have h3 : x.data.toList.length = x.size := by simp
        omega
      have hcat := cat16 (m % 16) x hmod
      have HC : Hid _ := hcat
      have HZ : Hid (0 < ((⟨#[48, 49, 50, 51, 52, 53, 54, 55, 56, 57, 97, 98, 99, 100, 101, 102]⟩ : ByteArray).extract (m % 16) (m % 16 + 1) ++ x).size) := size_cons hcat
      clear hcat
      have HW : Hid (0 < m ∨ x.size = 0) := by
        rcases x1 with h | h
        · exact Or.inr h
        · exact Or.inl h
      by_cases h16 : 16 ≤ m
      · obtain ⟨f', hf', hm', hx'⟩ := hex_more x2 x3 h16 x4
        have HN : Hid (f' + (hexB (m % 16) :: x.data.toList).length = 13 ∧ m / 16 < 16 ^ (f' + 1) ∧ hexF 13 n = hexF f' (m / 16) ++ (hexB (m % 16) :: x.data.toList)) := ⟨hf', hm', hx'⟩
        clear hf' hm' hx' hx x4 x3 x2 x1 hcond
        have hpos : 0 < m := by omega
        go_wp2
        all_goals
          go_round
          case rel => exact ⟨m / 16, f', _, by go_num, rfl, by omega, Or.inr ⟨Or.inr (by omega), by rw [HC.out]; exact HN.out.1, HN.out.2.1, by rw [HC.out]; exact HN.out.2.2⟩⟩
          case measure =>
            rw [show ((m : Int) / 16) = ((m / 16 : Nat) : Int) from by omega]
            exact hexMu_lt HZ.out (Or.inl (by omega))
      · have HN : Hid (hexF 13 n = hexB (m % 16) :: x.data.toList) := by
          show hexF 13 n = hexB (m % 16) :: x.data.toList
          rw [x4, hexF_small f m (by omega), Nat.mod_eq_of_lt (by omega)]
          rfl
        have hdiv : (m : Int) / 16 = 0 := by omega
        clear hx x4 x3 x2 x1
        rcases hcond with hc | hc
        all_goals
          go_wp2
          all_goals
            go_round
            case rel => exact ⟨0, f, _, rfl, rfl, by omega, Or.inl ⟨HZ.out, rfl, by rw [HC.out]; exact HN.out⟩⟩
            case measure => exact hexMu_lt (a := 0) HZ.out (by have := HW.out; omega)

theorem specHex (n : Int) (w : World) :
    Calls Tryz.prog 147 #[.int .i64 n] w fun e w' => e = .returned (.string (hexA n)) ∧ w = w' := by
  by_cases hn : 0 ≤ n ∧ n ≤ 4503599627370496
  · obtain ⟨m, rfl⟩ := Int.eq_ofNat_of_zero_le hn.1
    exact specHex_in m (by omega) w
  · have HA : Hid ((⟨#[]⟩ : ByteArray) = hexA n) := hexA_no hn
    have hin : inR n 0 4503599627370496 = false := decide_eq_false hn
    clear hn
    go_enter Tryz.func147, Tryz.ntmps147
    go_wp2_with (go_at_call 79; refine (inRange _ _ _ _).mono ?_; rintro e w' ⟨rfl, rfl⟩)
    go_ret
    exact ⟨ret_hex HA.out, rfl⟩
end Go.Proofs.YteibacmohplblaaGreatDoor
namespace Go.Proofs.YteibacmohplblaaGreatDoor
open Go.RowKit

def leftP (c : Ck) : Prop := 0 ≤ c.lf ∧ c.lf ≤ 4000 ∧ (c.bd.size : Int) + c.lf ≤ 4000 ∧ (c.st = 3 → 0 < c.lf) ∧ (c.st ≠ 2 → c.st ≠ 3 → c.lf = 0)
def digP (c : Ck) : Prop := c.dg.size = 0 ∨ (numOk 16 13 c.dg = true ∧ c.st = 1)
theorem okP_iff (c : Ck) : okP c ↔ (1 ≤ c.st ∧ c.st ≤ 9) ∧ leftP c ∧ digP c := by
  constructor
  · rintro ⟨h0, ⟨h1, h2⟩, h3, h4, h5, h6, h7, h8, h9⟩
    refine ⟨h0, ⟨h1, h2, h4, h8, fun x y => h9 x y⟩, ?_⟩
    by_cases hz : c.dg.size = 0
    · exact .inl hz
    · by_cases hs : c.st = 1
      · exact .inr ⟨numOk_in (by omega) h3 h5.symm, hs⟩
      · exact absurd (h7 hs) hz
  · rintro ⟨h0, ⟨h1, h2, h3, h4, h5⟩, h6⟩
    have e : ∀ l : List UInt8, l.length = 0 → allB (digN 16) l = true := fun l hl => by rw [List.eq_nil_of_length_eq_zero hl]; rfl
    rcases h6 with h6 | ⟨h6, h7⟩
    · exact ⟨h0, ⟨h1, h2⟩, by omega, h3, e _ (by simpa using h6), fun x => h5 (by omega) (by omega), fun _ => h6, h4, h5⟩
    · unfold numOk at h6
      rw [Bool.and_eq_true] at h6
      have h8 := of_decide_eq_true h6.1
      exact ⟨h0, ⟨h1, h2⟩, h8.2, h3, h6.2, fun x => h5 (by omega) (by omega), fun x => absurd h7 x, h4, h5⟩
theorem size_zero {s : ByteArray} (h : s.size = 0) : s = ⟨#[]⟩ := ba_ext (by
  have : s.data.toList.length = s.size := by simp
  rw [List.eq_nil_of_length_eq_zero (this.trans h)])

set_option maxHeartbeats 1000000 in
theorem implLeft_yes (c : Ck) (w : World) (h : leftP c) (hb : c.bd.size ≤ 100000000) :
    Calls Tryz.prog 182 #[ckV c] w fun e w' => e = .returned (.bool true) ∧ Below w.heap.size w w' := by
  unfold ckV
  obtain ⟨h1, h2, h3, h4, h5⟩ := h
  have n1 : ¬ c.lf < 0 := by omega
  have n2 : ¬ 4000 < c.lf := by omega
  have n3 : ¬ 4000 < (c.bd.size : Int) + c.lf := by omega
  by_cases s3 : c.st = 3
  · have h4' := h4 s3
    clear h4 h5
    go_enter Tryz.func182, Tryz.ntmps182
    go_wp2
    go_ret
    exact ⟨rfl, (Below.refl _ w).alloc (Nat.le_refl _) _⟩
  · by_cases s2 : c.st = 2
    · clear h4 h5
      go_enter Tryz.func182, Tryz.ntmps182
      go_wp2
      go_ret
      exact ⟨rfl, (Below.refl _ w).alloc (Nat.le_refl _) _⟩
    · have h5' := h5 s2 s3
      clear h4 h5
      go_enter Tryz.func182, Tryz.ntmps182
      go_wp2
      go_ret
      exact ⟨rfl, (Below.refl _ w).alloc (Nat.le_refl _) _⟩
set_option maxHeartbeats 1000000 in
theorem implLeft_no (c : Ck) (w : World) (h : ¬ leftP c) (hb : c.bd.size ≤ 100000000) :
    Calls Tryz.prog 182 #[ckV c] w fun e w' => e = .returned (.bool false) ∧ Below w.heap.size w w' := by
  unfold ckV
  by_cases n1 : c.lf < 0
  · clear h
    go_enter Tryz.func182, Tryz.ntmps182
    go_wp2
    go_ret
    exact ⟨rfl, (Below.refl _ w).alloc (Nat.le_refl _) _⟩
  by_cases n2 : 4000 < c.lf
  · clear h
    go_enter Tryz.func182, Tryz.ntmps182
    go_wp2
    go_ret
    exact ⟨rfl, (Below.refl _ w).alloc (Nat.le_refl _) _⟩
  by_cases n3 : 4000 < (c.bd.size : Int) + c.lf
  · clear h
    go_enter Tryz.func182, Tryz.ntmps182
    go_wp2
    go_ret
    exact ⟨rfl, (Below.refl _ w).alloc (Nat.le_refl _) _⟩
  by_cases s3 : c.st = 3
  · have hl : ¬ 0 < c.lf := fun x => h ⟨by omega, by omega, by omega, fun _ => x, fun _ y => absurd s3 y⟩
    clear h
    go_enter Tryz.func182, Tryz.ntmps182
    go_wp2
    go_ret
    exact ⟨by simp; try omega, (Below.refl _ w).alloc (Nat.le_refl _) _⟩
  · by_cases s2 : c.st = 2
    · exact absurd ⟨by omega, by omega, by omega, fun x => absurd x s3, fun x => absurd s2 x⟩ h
    · have hl : ¬ c.lf = 0 := fun x => h ⟨by omega, by omega, by omega, fun y => absurd y s3, fun _ _ => x⟩
      have hbe : (c.lf == 0) = false := by simpa using hl
      clear h
      go_enter Tryz.func182, Tryz.ntmps182
      go_wp2
      go_ret
      exact ⟨rfl, (Below.refl _ w).alloc (Nat.le_refl _) _⟩

set_option maxHeartbeats 1000000 in
theorem implDg (c : Ck) (w : World) (hz : c.dg.size ≤ 100000000) (r : Bool) (hr : r = true ↔ digP c) :
    Calls Tryz.prog 183 #[ckV c] w fun e w' => e = .returned (.bool r) ∧ Below w.heap.size w w' := by
  unfold ckV
  by_cases h0 : c.dg.size = 0
  · obtain rfl : r = true := hr.2 (.inl h0)
    rw [size_zero h0]
    clear hr
    go_enter Tryz.func183, Tryz.ntmps183
    go_wp2
    go_ret
    exact ⟨rfl, (Below.refl _ w).alloc (Nat.le_refl _) _⟩
  · have hne := full' (x := c.dg) (by omega)
    have hfe : c.dg.toList.isEmpty = false := by simpa using hne
    have hx := implHexD c.dg (w.alloc (.cells #[.int .i64 c.st, .int .i64 c.lf, .string c.dg, .string c.bd] 138)) (by unfold maxLen; omega)
    have hb0 : Hid (Below w.heap.size w (w.alloc (.cells #[.int .i64 c.st, .int .i64 c.lf, .string c.dg, .string c.bd] 138))) := (Below.refl _ w).alloc (Nat.le_refl _) _
    have hc0 : (w.alloc (.cells #[.int .i64 c.st, .int .i64 c.lf, .string c.dg, .string c.bd] 138)).cell? ⟨w.heap.size, 0, none⟩ = some (.int .i64 c.st) := by rw [World.cell?_alloc_mark]; rfl
    have hlt : w.heap.size < (w.alloc (.cells #[.int .i64 c.st, .int .i64 c.lf, .string c.dg, .string c.bd] 138)).heap.size := by simp
    by_cases hn : numOk 16 13 c.dg = true
    · by_cases h1 : c.st = 1
      · obtain rfl : r = true := hr.2 (.inr ⟨hn, h1⟩)
        have hbe : (c.st == 1) = true := by simp [h1]
        clear hr h1
        go_enter Tryz.func183, Tryz.ntmps183
        go_wp2_with (go_at_call 196; refine hx.mono ?_; unfold numE; rw [hn]; rintro e w1 ⟨rfl, hb1⟩; have hc1 := (hb1.cell (p := ⟨w.heap.size, 0, none⟩) hlt).trans hc0)
        go_ret
        exact ⟨rfl, hb0.out.trans (hb1.mono hb0.out.size)⟩
      · obtain rfl : r = false := by cases r; rfl; rcases hr.1 rfl with x | x; exact absurd x h0; exact absurd x.2 h1
        have hbe : (c.st == 1) = false := by simpa using h1
        clear hr h1
        go_enter Tryz.func183, Tryz.ntmps183
        go_wp2_with (go_at_call 196; refine hx.mono ?_; unfold numE; rw [hn]; rintro e w1 ⟨rfl, hb1⟩; have hc1 := (hb1.cell (p := ⟨w.heap.size, 0, none⟩) hlt).trans hc0)
        go_ret
        exact ⟨rfl, hb0.out.trans (hb1.mono hb0.out.size)⟩
    · have hn' : numOk 16 13 c.dg = false := by simpa using hn
      obtain rfl : r = false := by cases r; rfl; rcases hr.1 rfl with x | x; exact absurd x h0; exact absurd x.1 hn
      clear hr
      go_enter Tryz.func183, Tryz.ntmps183
      go_wp2_with (go_at_call 196; refine hx.mono ?_; unfold numE; rw [hn']; rintro e w1 ⟨rfl, hb1⟩; have hc1 := (hb1.cell (p := ⟨w.heap.size, 0, none⟩) hlt).trans hc0)
      go_ret
      exact ⟨rfl, hb0.out.trans (hb1.mono hb0.out.size)⟩

set_option maxHeartbeats 1000000 in
theorem implOkC (c : Ck) (w : World) (hz : c.dg.size ≤ 100000000) (hb : c.bd.size ≤ 100000000) :
    Calls Tryz.prog 165 #[ckV c] w fun e w' => e = .returned (.bool (okC c)) ∧ Below w.heap.size w w' := by
  have hb0 : Hid (Below w.heap.size w (w.alloc (.cells #[.int .i64 c.st, .int .i64 c.lf, .string c.dg, .string c.bd] 138))) := (Below.refl _ w).alloc (Nat.le_refl _) _
  have hcc : ∀ k, (w.alloc (.cells #[.int .i64 c.st, .int .i64 c.lf, .string c.dg, .string c.bd] 138)).cell? ⟨w.heap.size, k, none⟩ = (#[.int .i64 c.st, .int .i64 c.lf, .string c.dg, .string c.bd] : Array Value)[k]? := fun k => World.cell?_alloc_mark _ _ _ _ _
  have hlt : w.heap.size < (w.alloc (.cells #[.int .i64 c.st, .int .i64 c.lf, .string c.dg, .string c.bd] 138)).heap.size := by simp
  by_cases s1 : c.st < 1
  · rw [okC_no (fun x => by have := x.1.1; omega)]
    unfold ckV
    go_enter Tryz.func165, Tryz.ntmps165
    go_wp2
    go_ret
    exact ⟨rfl, hb0.out⟩
  by_cases s2 : 9 < c.st
  · rw [okC_no (fun x => by have := x.1.2; omega)]
    unfold ckV
    go_enter Tryz.func165, Tryz.ntmps165
    go_wp2
    go_ret
    exact ⟨rfl, hb0.out⟩
  by_cases hl : leftP c
  · have h1 := implLeft_yes c (w.alloc (.cells #[.int .i64 c.st, .int .i64 c.lf, .string c.dg, .string c.bd] 138)) hl hb
    have hr : okC c = true ↔ digP c := by
      constructor
      · intro x; exact ((okP_iff c).1 (okC_is x)).2.2
      · intro x; exact okC_yes ((okP_iff c).2 ⟨by omega, hl, x⟩)
    have h2 : Hid (∀ x, Calls Tryz.prog 183 #[ckV c] x fun e w' => e = .returned (.bool (okC c)) ∧ Below x.heap.size x w') := fun x => implDg c x hz _ hr
    unfold ckV at h1 h2 ⊢
    generalize okC c = r at h2 ⊢
    clear hr hl
    go_enter Tryz.func165, Tryz.ntmps165
    go_wp2_with (first
      | (go_at_call 182; refine h1.mono ?_; rintro e w1 ⟨rfl, hb1⟩; have q0 := (hb1.cell (p := ⟨w.heap.size, 0, none⟩) hlt).trans (hcc 0); have q1 := (hb1.cell (p := ⟨w.heap.size, 1, none⟩) hlt).trans (hcc 1); have q2 := (hb1.cell (p := ⟨w.heap.size, 2, none⟩) hlt).trans (hcc 2); have q3 := (hb1.cell (p := ⟨w.heap.size, 3, none⟩) hlt).trans (hcc 3))
      | (go_at_call 183; refine (h2.out _).mono ?_; rintro e w2 ⟨rfl, hb2⟩))
    go_ret
    exact ⟨rfl, (hb0.out.trans (hb1.mono hb0.out.size)).trans (hb2.mono (hb0.out.trans (hb1.mono hb0.out.size)).size)⟩
  · have h1 := implLeft_no c (w.alloc (.cells #[.int .i64 c.st, .int .i64 c.lf, .string c.dg, .string c.bd] 138)) hl hb
    rw [okC_no (fun x => hl ((okP_iff c).1 x).2.1)]
    unfold ckV at h1 ⊢
    clear hl
    go_enter Tryz.func165, Tryz.ntmps165
    go_wp2_with (go_at_call 182; refine h1.mono ?_; rintro e w1 ⟨rfl, hb1⟩)
    go_ret
    exact ⟨rfl, hb0.out.trans (hb1.mono hb0.out.size)⟩
end Go.Proofs.YteibacmohplblaaGreatDoor
