/-
  Plain facts on codes of paths: which bytes are plain, the code of a text, and what a code is the code of.
-/
import Derived.Test.YthadmhleibhlgaaDoorPlain3
namespace Go.Proofs.YthadmhleibhlgaaDoor
open Go.RowKit

/-- The number of a byte that is plain in a path. -/
def plnN (r : Int) : Bool := decide ((97 ≤ r ∧ r ≤ 122) ∨ (65 ≤ r ∧ r ≤ 90) ∨ (48 ≤ r ∧ r ≤ 57) ∨ r = 45 ∨ r = 46 ∨ r = 95 ∨ r = 126 ∨ r = 47 ∨ r = 58 ∨ r = 64 ∨ r = 33 ∨ r = 36 ∨ r = 38 ∨ r = 39 ∨ r = 40 ∨ r = 41 ∨ r = 42 ∨ r = 43 ∨ r = 44 ∨ r = 59 ∨ r = 61)
theorem plnN_yes {r : Int} (h : (97 ≤ r ∧ r ≤ 122) ∨ (65 ≤ r ∧ r ≤ 90) ∨ (48 ≤ r ∧ r ≤ 57) ∨ r = 45 ∨ r = 46 ∨ r = 95 ∨ r = 126 ∨ r = 47 ∨ r = 58 ∨ r = 64 ∨ r = 33 ∨ r = 36 ∨ r = 38 ∨ r = 39 ∨ r = 40 ∨ r = 41 ∨ r = 42 ∨ r = 43 ∨ r = 44 ∨ r = 59 ∨ r = 61) : true = plnN r := (decide_eq_true h).symm
theorem plnN_no {r : Int} (h : ¬ ((97 ≤ r ∧ r ≤ 122) ∨ (65 ≤ r ∧ r ≤ 90) ∨ (48 ≤ r ∧ r ≤ 57) ∨ r = 45 ∨ r = 46 ∨ r = 95 ∨ r = 126 ∨ r = 47 ∨ r = 58 ∨ r = 64 ∨ r = 33 ∨ r = 36 ∨ r = 38 ∨ r = 39 ∨ r = 40 ∨ r = 41 ∨ r = 42 ∨ r = 43 ∨ r = 44 ∨ r = 59 ∨ r = 61)) : false = plnN r := (decide_eq_false h).symm
theorem plnN_pct {r : Int} (h : plnN r = true) : r ≠ 37 := by
  have := of_decide_eq_true h; omega

/-- The capital digit of a number below 16. -/
def capB (n : Nat) : UInt8 := if n < 10 then UInt8.ofNat (48 + n) else UInt8.ofNat (55 + n)
theorem capB_val : ∀ n : Nat, n < 16 → digV ((capB n).toNat : Int) = n ∧ (capB n).toNat ≠ 37 ∧ plnN ((capB n).toNat : Int) = true ∧ (capB n).toNat ≠ 47 := by
  intro n hn
  have h : ∀ j : Fin 16, digV ((capB j.val).toNat : Int) = j.val ∧ (capB j.val).toNat ≠ 37 ∧ plnN ((capB j.val).toNat : Int) = true ∧ (capB j.val).toNat ≠ 47 := by decide
  exact h ⟨n, hn⟩

/-- The code of a byte. -/
def codC (c : UInt8) : List UInt8 := if plnN (c.toNat : Int) = true then [c] else [37, capB (c.toNat / 16), capB (c.toNat % 16)]
def codL (l : List UInt8) : List UInt8 := l.flatMap codC
theorem codC_yes {c : UInt8} (h : plnN (c.toNat : Int) = true) : codC c = [c] := by unfold codC; rw [if_pos h]
theorem codC_no {c : UInt8} (h : plnN (c.toNat : Int) = false) : codC c = [37, capB (c.toNat / 16), capB (c.toNat % 16)] := by unfold codC; rw [if_neg (by simp [h])]
theorem codC_length (c : UInt8) : (codC c).length ≤ 3 := by unfold codC; split <;> simp
theorem codL_nil : codL [] = [] := rfl
theorem codL_cons (c : UInt8) (l : List UInt8) : codL (c :: l) = codC c ++ codL l := by simp [codL]
theorem codL_append (a b : List UInt8) : codL (a ++ b) = codL a ++ codL b := by simp [codL]
theorem codL_length (l : List UInt8) : (codL l).length ≤ 3 * l.length := by
  induction l with
  | nil => simp [codL]
  | cons c l ih =>
    have h2 := codC_length c
    rw [codL_cons, List.length_append, List.length_cons]
    omega
/-- What is made so far. -/
def codTo (s : ByteArray) (k : Nat) : List UInt8 := codL (s.data.toList.take k)
theorem codTo_zero (s : ByteArray) : codTo s 0 = [] := rfl
theorem codTo_next {s : ByteArray} {k : Nat} (h : k < s.size) : codTo s (k + 1) = codTo s k ++ codC s[k] := by
  unfold codTo
  rw [take_snoc s k h, codL_append]
  congr 1
  simp [codL]
theorem codTo_yes {s : ByteArray} {k : Nat} (h : k < s.size) (hp : plnN (s[k].toNat : Int) = true) : codTo s k ++ [s[k]] = codTo s (k + 1) := by
  rw [codTo_next h, codC_yes hp]
theorem codTo_no {s : ByteArray} {k : Nat} (h : k < s.size) (hp : plnN (s[k].toNat : Int) = false) : codTo s k ++ [37, capB (s[k].toNat / 16), capB (s[k].toNat % 16)] = codTo s (k + 1) := by
  rw [codTo_next h, codC_no hp]
theorem codTo_length {s : ByteArray} (k : Nat) : (codTo s k).length ≤ 3 * s.size := by
  have h1 := codL_length (s.data.toList.take k)
  have h2 : (s.data.toList.take k).length ≤ s.data.toList.length := List.length_take_le' _ _
  have h3 : s.data.toList.length = s.size := by simp
  unfold codTo
  omega
/-- The code of a text. -/
def codS (s : ByteArray) : ByteArray := ⟨(codL s.data.toList).toArray⟩
theorem codTo_end {s : ByteArray} {k : Nat} (h : ¬ k < s.size) : (⟨(codTo s k).toArray⟩ : ByteArray) = codS s := by
  unfold codTo codS; rw [take_all s k h]
theorem codS_size (s : ByteArray) : (codS s).size ≤ 3 * s.size := by
  have h1 := codL_length s.data.toList
  have h3 : s.data.toList.length = s.size := by simp
  have h4 : (codS s).size = (codL s.data.toList).length := by show (codL s.data.toList).toArray.size = _; simp
  omega
/-- What Coded answers. -/
def codA (s : ByteArray) : ByteArray := if s.size ≤ 200 then codS s else ⟨#[]⟩
theorem codA_yes {s : ByteArray} (h : s.size ≤ 200) : codS s = codA s := by unfold codA; rw [if_pos h]
theorem codA_no {s : ByteArray} (h : 200 < s.size) : (⟨#[]⟩ : ByteArray) = codA s := by unfold codA; rw [if_neg (by omega)]
theorem codA_size (s : ByteArray) : (codA s).size ≤ 600 := by
  unfold codA
  split
  · have := codS_size s; omega
  · show 0 ≤ 600; omega

theorem beq_yes3 {a b : Int} (h : a = b) : (a == b) = true := by simp [h]
theorem beq_no3 {a b : Int} (h : a ≠ b) : (a == b) = false := by simp [h]
/-- The byte of two digits. -/
def hexB (a b : UInt8) : UInt8 := UInt8.ofNat (16 * digV (a.toNat : Int) + digV (b.toNat : Int)).toNat
/-- What is coded so; none where a % has no two digits behind it. -/
def uncL : List UInt8 → Option (List UInt8)
  | [] => some []
  | [c] => if c.toNat = 37 then none else some [c]
  | [c, d] => if c.toNat = 37 then none else (uncL [d]).map (c :: ·)
  | c :: a :: b :: r => if c.toNat = 37 then (if 0 ≤ digV (a.toNat : Int) ∧ 0 ≤ digV (b.toNat : Int) then (uncL r).map (hexB a b :: ·) else none) else (uncL (a :: b :: r)).map (c :: ·)
theorem uncL_nil : uncL [] = some [] := by simp [uncL]
theorem uncL_plain {c : UInt8} (r : List UInt8) (h : c.toNat ≠ 37) : uncL (c :: r) = (uncL r).map (c :: ·) := by
  match r with
  | [] => simp [uncL, h]
  | [d] => conv => lhs; rw [uncL, if_neg h]
  | a :: b :: r => conv => lhs; rw [uncL, if_neg h]
theorem uncL_hex {c : UInt8} (a b : UInt8) (r : List UInt8) (h : c.toNat = 37) (h1 : 0 ≤ digV (a.toNat : Int)) (h2 : 0 ≤ digV (b.toNat : Int)) : uncL (c :: a :: b :: r) = (uncL r).map (hexB a b :: ·) := by
  rw [uncL, if_pos h, if_pos ⟨h1, h2⟩]
theorem uncL_bad {c : UInt8} (a b : UInt8) (r : List UInt8) (h : c.toNat = 37) (h1 : ¬ (0 ≤ digV (a.toNat : Int) ∧ 0 ≤ digV (b.toNat : Int))) : uncL (c :: a :: b :: r) = none := by
  rw [uncL, if_pos h, if_neg h1]
theorem uncL_short {c : UInt8} (r : List UInt8) (h : c.toNat = 37) (h1 : r.length < 2) : uncL (c :: r) = none := by
  match r, h1 with
  | [], _ => simp [uncL, h]
  | [d], _ => rw [uncL, if_pos h]
theorem uncL_length : ∀ (n : Nat) (l : List UInt8), l.length ≤ n → ∀ m, uncL l = some m → m.length ≤ l.length
  | 0, l, hl, m, h => by
    obtain rfl := List.eq_nil_of_length_eq_zero (by omega : l.length = 0)
    rw [uncL_nil] at h
    cases h
    simp
  | n + 1, [], _, m, h => by
    rw [uncL_nil] at h
    cases h
    simp
  | n + 1, c :: r, hl, m, h => by
    by_cases hc : c.toNat = 37
    · match r, hl, h with
      | [], _, h => rw [uncL_short _ hc (by simp)] at h; cases h
      | [d], _, h => rw [uncL_short _ hc (by simp)] at h; cases h
      | a :: b :: r, hl, h =>
        by_cases hd : 0 ≤ digV (a.toNat : Int) ∧ 0 ≤ digV (b.toNat : Int)
        · rw [uncL_hex a b r hc hd.1 hd.2, Option.map_eq_some_iff] at h
          obtain ⟨x, hx, rfl⟩ := h
          have := uncL_length n r (by simp at hl; omega) x hx
          simp
          omega
        · rw [uncL_bad a b r hc hd] at h; cases h
    · rw [uncL_plain r hc, Option.map_eq_some_iff] at h
      obtain ⟨x, hx, rfl⟩ := h
      have := uncL_length n r (by simp at hl; omega) x hx
      simp
      omega

theorem hexB_cap (c : UInt8) : hexB (capB (c.toNat / 16)) (capB (c.toNat % 16)) = c := by
  have hc := byte_lt c
  unfold hexB
  rw [(capB_val (c.toNat / 16) (by omega)).1, (capB_val (c.toNat % 16) (by omega)).1]
  have e : (16 * ((c.toNat / 16 : Nat) : Int) + ((c.toNat % 16 : Nat) : Int)).toNat = c.toNat := by omega
  rw [e]
  exact UInt8.ofNat_toNat
/-- A text is uncoded from its code. -/
theorem uncL_codC (c : UInt8) (r : List UInt8) : uncL (codC c ++ r) = (uncL r).map (c :: ·) := by
  cases hp : plnN (c.toNat : Int) with
  | true =>
    rw [codC_yes hp]
    exact uncL_plain r (fun e => plnN_pct hp (by omega))
  | false =>
    rw [codC_no hp]
    have hc := byte_lt c
    have h1 := (capB_val (c.toNat / 16) (by omega)).1
    have h2 := (capB_val (c.toNat % 16) (by omega)).1
    have e := uncL_hex (c := 37) (capB (c.toNat / 16)) (capB (c.toNat % 16)) r rfl (by omega) (by omega)
    rw [hexB_cap] at e
    exact e
theorem uncL_codL (l : List UInt8) : uncL (codL l) = some l := by
  induction l with
  | nil => rw [codL_nil, uncL_nil]
  | cons c l ih => rw [codL_cons, uncL_codC, ih]; rfl

/-- What Uncoded answers. -/
def uncA (s : ByteArray) : Option ByteArray := if s.size ≤ 200 then (uncL s.data.toList).map (fun l => ⟨l.toArray⟩) else none
def uncT (s : ByteArray) : ByteArray := (uncA s).getD ⟨#[]⟩
def uncE (s : ByteArray) : Value := .tuple #[.string (uncT s), .bool (uncA s).isSome]
theorem uncE_none {s : ByteArray} (h : uncA s = none) : Ending.returned (.tuple #[.string ⟨#[]⟩, .bool false]) = .returned (uncE s) := by
  unfold uncE uncT; rw [h]; rfl
theorem uncE_some {s t : ByteArray} (h : uncA s = some t) : Ending.returned (.tuple #[.string t, .bool true]) = .returned (uncE s) := by
  unfold uncE uncT; rw [h]; rfl
theorem uncA_big {s : ByteArray} (h : 200 < s.size) : uncA s = none := by unfold uncA; rw [if_neg (by omega)]
theorem uncA_of {s : ByteArray} (h : s.size ≤ 200) : uncA s = (uncL s.data.toList).map (fun l => ⟨l.toArray⟩) := by unfold uncA; rw [if_pos h]
theorem uncA_size {s t : ByteArray} (h : uncA s = some t) : t.size ≤ s.size ∧ s.size ≤ 200 := by
  by_cases hs : s.size ≤ 200
  · rw [uncA_of hs, Option.map_eq_some_iff] at h
    obtain ⟨l, hl, rfl⟩ := h
    have := uncL_length _ _ (Nat.le_refl _) l hl
    have e : s.data.toList.length = s.size := by simp
    have e2 : (⟨l.toArray⟩ : ByteArray).size = l.length := by show l.toArray.size = _; simp
    omega
  · rw [uncA_big (by omega)] at h; cases h

theorem uncT_size (s : ByteArray) : (uncT s).size ≤ 200 := by
  unfold uncT
  cases h : uncA s with
  | none => show 0 ≤ 200; omega
  | some t => have := uncA_size h; show t.size ≤ 200; omega
theorem drop_at3 (s : ByteArray) (i : Nat) (h : i < s.size) : s.data.toList.drop i = s[i] :: s.data.toList.drop (i + 1) := by
  rw [List.drop_eq_getElem_cons (by simpa using h)]; rfl
theorem drop_past3 (s : ByteArray) (i : Nat) (h : ¬ i < s.size) : s.data.toList.drop i = [] :=
  List.drop_of_length_le (by have e : s.data.toList.length = s.size := by simp
                             omega)
theorem drop_len3 (s : ByteArray) (i : Nat) : (s.data.toList.drop i).length = s.size - i := by
  rw [List.length_drop]
  have e : s.data.toList.length = s.size := by simp
  omega
/-- What stands at place k: what is uncoded so far, and what is still to be read. -/
def UncAt (s : ByteArray) (acc : List UInt8) (k : Nat) : Prop := uncL s.data.toList = (uncL (s.data.toList.drop k)).map (acc ++ ·)
theorem UncAt.start (s : ByteArray) : UncAt s [] 0 := by
  unfold UncAt
  simp
theorem UncAt.plain {s : ByteArray} {acc : List UInt8} {k : Nat} (h : UncAt s acc k) (hk : k < s.size) (hc : (s[k].toNat : Int) ≠ 37) : UncAt s (acc ++ [s[k]]) (k + 1) := by
  unfold UncAt at *
  rw [h, drop_at3 s k hk, uncL_plain _ (by omega), Option.map_map]
  congr 1
  funext x
  simp
theorem UncAt.hex {s : ByteArray} {acc : List UInt8} {k : Nat} (h : UncAt s acc k) (hk : k + 2 < s.size) (hc : (s[k].toNat : Int) = 37) (h1 : 0 ≤ digV (s[k + 1].toNat : Int)) (h2 : 0 ≤ digV (s[k + 2].toNat : Int)) : UncAt s (acc ++ [hexB s[k + 1] s[k + 2]]) (k + 3) := by
  unfold UncAt at *
  rw [h, drop_at3 s k (by omega), drop_at3 s (k + 1) (by omega), drop_at3 s (k + 2) hk, uncL_hex _ _ _ (by omega) h1 h2, Option.map_map]
  congr 1
  funext x
  simp
theorem UncAt.bad {s : ByteArray} {acc : List UInt8} {k : Nat} (h : UncAt s acc k) (hz : s.size ≤ 200) (hk : k + 2 < s.size) (hc : (s[k].toNat : Int) = 37) (h1 : ¬ (0 ≤ digV (s[k + 1].toNat : Int) ∧ 0 ≤ digV (s[k + 2].toNat : Int))) : uncA s = none := by
  rw [uncA_of hz, h, drop_at3 s k (by omega), drop_at3 s (k + 1) (by omega), drop_at3 s (k + 2) hk, uncL_bad _ _ _ (by omega) h1]
  rfl
theorem UncAt.short {s : ByteArray} {acc : List UInt8} {k : Nat} (h : UncAt s acc k) (hz : s.size ≤ 200) (hk : k < s.size) (hn : ¬ k + 2 < s.size) (hc : (s[k].toNat : Int) = 37) : uncA s = none := by
  rw [uncA_of hz, h, drop_at3 s k hk, uncL_short _ (by omega) (by rw [drop_len3]; omega)]
  rfl
theorem UncAt.done {s : ByteArray} {acc : List UInt8} {k : Nat} (h : UncAt s acc k) (hz : s.size ≤ 200) (hk : ¬ k < s.size) : uncA s = some ⟨acc.toArray⟩ := by
  rw [uncA_of hz, h, drop_past3 s k hk, uncL_nil]
  simp
theorem hexB_val {a b : UInt8} (h1 : 0 ≤ digV (a.toNat : Int)) (h2 : 0 ≤ digV (b.toNat : Int)) : ((hexB a b).toNat : Int) = 16 * digV (a.toNat : Int) + digV (b.toNat : Int) := by
  have ha := digV_bd (a.toNat : Int)
  have hb := digV_bd (b.toNat : Int)
  unfold hexB
  rw [UInt8.toNat_ofNat_of_lt' (by show _ < 256; omega)]
  omega
end Go.Proofs.YthadmhleibhlgaaDoor
