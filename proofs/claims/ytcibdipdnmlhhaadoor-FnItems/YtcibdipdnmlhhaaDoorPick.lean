/-
  The contracts of the law's own helpers pick and digits, and that what digits or Hex writes is read back.
-/
import Derived.Test.YtcibdipdnmlhhaaDoorNum
import Derived.Test.YtcibdipdnmlhhaaDoorHex2
import Derived.Test.YtcibdipdnmlhhaaDoorDraw3
namespace Go.Proofs.YtcibdipdnmlhhaaDoor
open Go.RowKit

/-- The bytes of a code, by their list. -/
def CodeZ (w : World) (b : Nat) (sa : Option Addr) (sl : Nat) (zs : List Int) : Prop := ∀ j : Nat, j < sl → ∃ g o : Nat, sa = some ⟨g, o, none⟩ ∧ g < b ∧ w.cell? ⟨g, o + j, none⟩ = some (.int .u8 (zs.getD j 0)) ∧ 0 ≤ zs.getD j 0 ∧ zs.getD j 0 ≤ 255
theorem CodeZ.code {w : World} {b : Nat} {sa : Option Addr} {sl : Nat} {zs : List Int} (h : CodeZ w b sa sl zs) : Code8 w b sa sl := fun j hj => by
  obtain ⟨g, o, h1, h2, h3, h4⟩ := h j hj
  exact ⟨g, o, _, h1, h2, h3, h4⟩
theorem CodeZ.kept {w w' : World} {b B : Nat} {sa : Option Addr} {sl : Nat} {zs : List Int} (h : CodeZ w b sa sl zs) (hb : Below B w w') (hB : b ≤ B) : CodeZ w' b sa sl zs := by
  intro j hj
  obtain ⟨g, o, h1, h2, h3, h4⟩ := h j hj
  exact ⟨g, o, h1, h2, (hb.cell (p := ⟨g, o + j, none⟩) (by show g < B; omega)).trans h3, h4⟩
theorem CodeZ.up {w : World} {b b' : Nat} {sa : Option Addr} {sl : Nat} {zs : List Int} (h : CodeZ w b sa sl zs) (hb : b ≤ b') : CodeZ w b' sa sl zs := by
  intro j hj
  obtain ⟨g, o, h1, h2, h3⟩ := h j hj
  exact ⟨g, o, h1, by omega, h3⟩

def pickTo (zs : List Int) (n : Nat) : Nat → Int
  | 0 => (n : Int) + 7919
  | k + 1 => (pickTo zs n k * 113 + zs.getD k 0 + 1) % 1000003
theorem pickTo_bd (zs : List Int) (n : Nat) (hn : n ≤ 4096) : ∀ k, k ≤ n → 0 ≤ pickTo zs n k ∧ pickTo zs n k ≤ 1000002 := by
  intro k
  cases k with
  | zero => intro _; unfold pickTo; omega
  | succ k => intro _; unfold pickTo; omega

set_option maxHeartbeats 400000 in
theorem pick (sa : Option Addr) (sl sc : Nat) (zs : List Int) (w : World) (hc : CodeZ w w.heap.size sa sl zs) (hl : sl ≤ 4096) :
    Calls Tryd.prog 24 #[.slice sa sl sc, .int .i64 1, .int .i64 100000] w fun e w' => e = .returned (.int .i64 (pickTo zs sl sl % 100000)) ∧ w = w' := by
  have HB : Hid (∀ k, k ≤ sl → 0 ≤ pickTo zs sl k ∧ pickTo zs sl k ≤ 1000002) := pickTo_bd zs sl hl
  go_enter Tryd.func24, Tryd.ntmps24
  go_wp2
  go_loop [7, 8] (fun x i => ∃ k : Nat, k ≤ sl ∧ i = .int .i64 k ∧ x = .int .i64 (pickTo zs sl k)) (fun _ i => sl - (intOf i).toNat)
  case atStart => exact ⟨0, Nat.zero_le _, rfl, rfl⟩
  case round =>
    obtain ⟨k, hk, rfl, rfl⟩ := hrel
    obtain ⟨b0, b1⟩ := HB.out k hk
    by_cases hlt : k < sl
    · obtain ⟨g, o, rfl, hg, hcell, hz0, hz1⟩ := hc k hlt
      clear hc
      have HN : Hid ((pickTo zs sl k * 113 + zs.getD k 0 + 1) % 1000003 = pickTo zs sl (k + 1)) := rfl
      generalize zs.getD k 0 = z at hcell hz0 hz1 HN
      generalize pickTo zs sl k = p at b0 b1 HN
      go_wp2
      go_round
      case rel => exact ⟨k + 1, by omega, by go_num, by rw [← HN.out]⟩
      case measure => simp [intOf]; omega
    · obtain rfl : k = sl := by omega
      generalize hp : pickTo zs k k = p at b0 b1
      have HP : Hid (pickTo zs k k = p) := hp
      clear hp
      go_wp2
      go_ret
      exact ⟨ret_int (by rw [HP.out]), rfl⟩

/-- The decimal digit. -/
def decC (d : Nat) : UInt8 := UInt8.ofNat (48 + d)
theorem decC_nat {d : Nat} (h : d < 10) : (decC d).toNat = 48 + d := by
  unfold decC
  rw [UInt8.toNat_ofNat', Nat.mod_eq_of_lt (by omega)]
/-- The decimal digits of n, at most f + 1 of them. -/
def decG : Nat → Nat → List UInt8
  | 0, n => [decC n]
  | f + 1, n => if n < 10 then [decC n] else decG f (n / 10) ++ [decC (n % 10)]
theorem decG_small (f n : Nat) (h : n < 10) : decG f n = [decC n] := by
  cases f with
  | zero => rfl
  | succ f => simp [decG, h]
theorem decG_step (f n : Nat) (h : ¬ n < 10) : decG (f + 1) n = decG f (n / 10) ++ [decC (n % 10)] := by simp [decG, h]
theorem decG_length (f : Nat) : ∀ n, 1 ≤ (decG f n).length ∧ (decG f n).length ≤ f + 1 := by
  induction f with
  | zero => intro n; simp [decG]
  | succ f ih =>
    intro n
    by_cases h : n < 10
    · rw [decG_small _ _ h]; simp
    · rw [decG_step f n h, List.length_append]
      have := ih (n / 10)
      simp only [List.length_singleton]
      omega
theorem decG_num (f : Nat) : ∀ n, n < 10 ^ (f + 1) → numL 10 (decG f n) = (n : Int) ∧ allB (digN 10) (decG f n) = true := by
  have one : ∀ d : Nat, d < 10 → digV ((decC d).toNat : Int) = (d : Int) := fun d hd => by
    rw [decC_nat hd, digV_d (by omega)]; omega
  have oneB : ∀ d : Nat, d < 10 → digN 10 ((decC d).toNat : Int) = true := fun d hd => digN_yes (by rw [one d hd]; omega) (by rw [one d hd]; omega)
  have base : ∀ (f n : Nat), n < 10 → numL 10 (decG f n) = (n : Int) ∧ allB (digN 10) (decG f n) = true := fun f n h => by
    rw [decG_small f n h]
    refine ⟨?_, ?_⟩
    · show 0 * 10 + digV ((decC n).toNat : Int) = (n : Int)
      rw [one n h]; omega
    · unfold allB; simp [oneB n h]
  induction f with
  | zero => intro n hn; exact base 0 n (by omega)
  | succ f ih =>
    intro n hn
    by_cases h : n < 10
    · exact base _ n h
    · have h1 : n / 10 < 10 ^ (f + 1) := by
        rw [Nat.pow_succ] at hn
        exact Nat.div_lt_of_lt_mul (by rw [Nat.mul_comm]; exact hn)
      obtain ⟨g1, g2⟩ := ih (n / 10) h1
      rw [decG_step f n h, numL_snoc, g1, one _ (by omega)]
      refine ⟨by omega, ?_⟩
      unfold allB at g2 ⊢
      rw [List.all_append, g2]
      simp [oneB (n % 10) (by omega)]
theorem hexB_nat {d : Nat} (h : d < 16) : digV ((hexB d).toNat : Int) = (d : Int) := by
  have k : ∀ j : Fin 16, digV ((hexB j.val).toNat : Int) = (j.val : Int) := by decide +kernel
  exact k ⟨d, h⟩
theorem hexF_length (f : Nat) : ∀ n, 1 ≤ (hexF f n).length := by
  intro n
  cases f with
  | zero => simp [hexF]
  | succ f =>
    by_cases h : n < 16
    · rw [hexF_small _ _ h]; simp
    · rw [hexF_step f n h, List.length_append]; simp
theorem hexF_num (f : Nat) : ∀ n, n < 16 ^ (f + 1) → numL 16 (hexF f n) = (n : Int) ∧ allB (digN 16) (hexF f n) = true := by
  have oneB : ∀ d : Nat, d < 16 → digN 16 ((hexB d).toNat : Int) = true := fun d hd => digN_yes (by rw [hexB_nat hd]; omega) (by rw [hexB_nat hd]; omega)
  have base : ∀ (f n : Nat), n < 16 → numL 16 (hexF f n) = (n : Int) ∧ allB (digN 16) (hexF f n) = true := fun f n h => by
    rw [hexF_small f n h]
    refine ⟨?_, ?_⟩
    · show 0 * 16 + digV ((hexB n).toNat : Int) = (n : Int)
      rw [hexB_nat h]; omega
    · unfold allB; simp [oneB n h]
  induction f with
  | zero => intro n hn; exact base 0 n (by omega)
  | succ f ih =>
    intro n hn
    by_cases h : n < 16
    · exact base _ n h
    · have h1 : n / 16 < 16 ^ (f + 1) := by
        rw [Nat.pow_succ] at hn
        exact Nat.div_lt_of_lt_mul (by rw [Nat.mul_comm]; exact hn)
      obtain ⟨g1, g2⟩ := ih (n / 16) h1
      rw [hexF_step f n h, numL_snoc, g1, hexB_nat (by omega)]
      refine ⟨by omega, ?_⟩
      unfold allB at g2 ⊢
      rw [List.all_append, g2]
      simp [oneB (n % 16) (by omega)]
/-- What Hex writes is read back, where it has at most 13 digits. -/
theorem hex_back {n : Nat} (hn : n ≤ 4503599627370496) (hz : (hexS n).size ≤ 13) : numOk 16 13 (hexS n) = true ∧ numV 16 13 (hexS n) = (n : Int) := by
  obtain ⟨g1, g2⟩ := hexF_num 13 n (by omega)
  have hl := hexF_length 13 n
  have e : (hexS n).data.toList = hexF 13 n := rfl
  have hz1 : (hexS n).size = (hexF 13 n).length := by show (hexF 13 n).toArray.size = _; simp
  have h1 : numOk 16 13 (hexS n) = true := numOk_in (by omega) hz (by rw [e, g2])
  exact ⟨h1, by rw [num_yes h1, e, g1]⟩
/-- Digits with two noughts ahead are read as the number. -/
theorem dec_back {n : Nat} (hn : n < 100000) {x : ByteArray} (hx : x.data.toList = decG 4 n) : numOk 10 15 ((⟨#[48, 48]⟩ : ByteArray) ++ x) = true ∧ numV 10 15 ((⟨#[48, 48]⟩ : ByteArray) ++ x) = (n : Int) := by
  obtain ⟨g1, g2⟩ := decG_num 4 n (by omega)
  have hl := decG_length 4 n
  have e : ((⟨#[48, 48]⟩ : ByteArray) ++ x).data.toList = 48 :: 48 :: decG 4 n := by
    rw [ByteArray.data_append, Array.toList_append, hx]; rfl
  have hz1 : ((⟨#[48, 48]⟩ : ByteArray) ++ x).size = (decG 4 n).length + 2 := by
    have h3 : ((⟨#[48, 48]⟩ : ByteArray) ++ x).data.toList.length = ((⟨#[48, 48]⟩ : ByteArray) ++ x).size := by simp only [Array.length_toList]; rfl
    rw [← h3, e]; simp
  have h1 : numOk 10 15 ((⟨#[48, 48]⟩ : ByteArray) ++ x) = true := numOk_in (by omega) (by omega) (by
    rw [e]
    unfold allB at g2 ⊢
    rw [List.all_cons, List.all_cons, g2]
    rfl)
  refine ⟨h1, ?_⟩
  rw [num_yes h1, e]
  show numL 10 (decG 4 n) = (n : Int)
  exact g1
/-- A number that was read has digits, within the range. -/
theorem hex_full {n : Int} (h0 : 0 ≤ n) (h1 : n ≤ 4503599627370496) : 0 < (hexA n).size := by
  obtain ⟨m, rfl⟩ := Int.eq_ofNat_of_zero_le h0
  rw [← hexA_yes (by omega)]
  have hl := hexF_length 13 m
  have : (hexS m).size = (hexF 13 m).length := by show (hexF 13 m).toArray.size = _; simp
  omega
theorem numV_nonneg {s : ByteArray} (h : numOk 16 13 s = true) : 0 ≤ numV 16 13 s := by
  rw [num_yes h]
  unfold numOk at h
  rw [Bool.and_eq_true] at h
  have h1 := of_decide_eq_true h.1
  have e : s.data.toList.take s.size = s.data.toList := List.take_of_length_le (by simp)
  have := numL_bd 16 (by decide) s s.size (Nat.le_refl _) (by rw [e]; exact h.2)
  rw [e] at this
  exact this.1
end Go.Proofs.YtcibdipdnmlhhaaDoor
