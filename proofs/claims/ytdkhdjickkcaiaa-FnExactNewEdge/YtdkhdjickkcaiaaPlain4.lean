/-
  Plain facts on a row of bytes that is turned byte by byte, on the bytes of a rune, and on capitals.
-/
import Derived.Test.YtdkhdjickkcaiaaPlain2
import Derived.Laws.IdiomStrings
import Derived.Laws.NewBlocks
namespace Go.Proofs.Ytdkhdjickkcaiaa
open Go.RowKit

/-- The row of block B holds the bytes of l, none of them frozen. -/
def RowIs (w : World) (B : Nat) (l : List UInt8) : Prop := ∀ j (h : j < l.length), w.cell? ⟨B, j, none⟩ = some (.int .u8 (l[j].toNat : Int)) ∧ w.frozen? ⟨B, j, none⟩ = false

theorem RowIs.put {w : World} {B : Nat} {l : List UInt8} (h : RowIs w B l) {k : Nat} (hk : k < l.length) (v : UInt8) : RowIs (w.setCell ⟨B, k, none⟩ (.int .u8 (v.toNat : Int))) B (l.set k v) := by
  intro j hj
  have hl : j < l.length := by rw [List.length_set] at hj; exact hj
  refine ⟨?_, by rw [World.frozen?_setCell]; exact (h j hl).2⟩
  by_cases e : j = k
  · subst e
    rw [World.cell?_setCell_same _ _ _ (h j hl).1]
    simp
  · rw [World.cell?_setCell_other _ _ _ _ (by simp; omega), (h j hl).1]
    rw [List.getElem_set_ne (fun x => e x.symm)]

/-- The first k bytes are turned, the others not yet. -/
def cur (f : UInt8 → UInt8) (l : List UInt8) (k : Nat) : List UInt8 := (l.take k).map f ++ l.drop k
theorem cur_length (f : UInt8 → UInt8) (l : List UInt8) (k : Nat) : (cur f l k).length = l.length := by
  unfold cur; rw [List.length_append, List.length_map, List.length_take, List.length_drop]; omega
theorem cur_zero (f : UInt8 → UInt8) (l : List UInt8) : cur f l 0 = l := by simp [cur]
theorem cur_all (f : UInt8 → UInt8) (l : List UInt8) (k : Nat) (h : ¬ k < l.length) : cur f l k = l.map f := by
  unfold cur; rw [List.take_of_length_le (by omega), List.drop_of_length_le (by omega), List.append_nil]
theorem cur_at (f : UInt8 → UInt8) (l : List UInt8) (k : Nat) (h : k < l.length) : (cur f l k)[k]'(by rw [cur_length]; exact h) = l[k] := by
  unfold cur
  rw [List.getElem_append_right (by simp; omega)]
  simp [List.getElem_drop]
  congr 1
  omega
theorem cur_next (f : UInt8 → UInt8) (l : List UInt8) (k : Nat) (h : k < l.length) : (cur f l k).set k (f l[k]) = cur f l (k + 1) := by
  unfold cur
  have e : ((l.take k).map f).length = k := by simp; omega
  rw [List.set_append_right _ _ (by omega), e, Nat.sub_self, List.take_succ_eq_append_getElem h, List.map_append, List.append_assoc]
  congr 1
  rw [List.drop_eq_getElem_cons h, List.set_cons_zero]
  rfl
theorem cur_same (f : UInt8 → UInt8) (l : List UInt8) (k : Nat) (h : k < l.length) (hf : f l[k] = l[k]) : cur f l (k + 1) = cur f l k := by
  rw [← cur_next f l k h, hf]
  have := cur_at f l k h
  conv => lhs; rw [← this]
  exact List.set_getElem_self _
theorem cur_skip (f : UInt8 → UInt8) (l : List UInt8) (k : Nat) : ∀ n, (∀ j, j < n → ∃ h : k + j < l.length, f l[k + j] = l[k + j]) → cur f l (k + n) = cur f l k
  | 0, _ => rfl
  | n + 1, h => by
    obtain ⟨h1, h2⟩ := h n (by omega)
    have e : k + (n + 1) = k + n + 1 := by omega
    rw [e, cur_same f l (k + n) h1 h2]
    exact cur_skip f l k n (fun j hj => h j (by omega))

theorem byte_at (s : ByteArray) (i : Nat) (h : i < s.size) : s.get! i = s[i] := by
  simp [ByteArray.get!, getElem!_pos, h]
  rfl

/-- The bytes of a rune that begins with a high byte are high, all of them, and lie within the text. -/
theorem decode_skip (s : ByteArray) (pos : Nat) (h : pos < s.size) (ha : 128 ≤ (s[pos]).toNat) : ∀ j, j < (Utf8.decode s pos).2 → ∃ hj : pos + j < s.size, 128 ≤ (s[pos + j]).toNat := by
  have h0 : 128 ≤ (s.get! (pos + 0)).toNat := by rw [byte_at s (pos + 0) h]; exact ha
  have key : ∀ k, (decide (pos + k < s.size) && (s.get! (pos + k)).toNat / 64 == 2) = true → ∃ hj : pos + k < s.size, 128 ≤ (s[pos + k]).toNat := by
    intro k hk
    simp only [Bool.and_eq_true, decide_eq_true_eq, beq_iff_eq] at hk
    obtain ⟨g1, g2⟩ := hk
    refine ⟨g1, ?_⟩
    rw [← byte_at s (pos + k) g1]
    omega
  have z : ∃ hj : pos + 0 < s.size, 128 ≤ (s[pos + 0]).toNat := ⟨h, ha⟩
  have hn : ¬ (s.get! (pos + 0)).toNat < 128 := by omega
  intro j hj
  simp only [Utf8.decode, hn, if_false] at hj
  split at hj
  · rename_i c1
    simp only [Bool.and_eq_true] at c1
    have k1 := key 1 (by simp only [Bool.and_eq_true]; exact c1.2)
    split at hj
    · rcases (show j = 0 ∨ j = 1 from by simp at hj; omega) with rfl | rfl
      · exact z
      · exact k1
    · obtain rfl : j = 0 := by simp at hj; omega
      exact z
  · split at hj
    · rename_i c2
      simp only [Bool.and_eq_true] at c2
      have k1 := key 1 (by simp only [Bool.and_eq_true]; exact c2.1.2)
      have k2 := key 2 (by simp only [Bool.and_eq_true]; exact c2.2)
      split at hj
      · rcases (show j = 0 ∨ j = 1 ∨ j = 2 from by simp at hj; omega) with rfl | rfl | rfl
        · exact z
        · exact k1
        · exact k2
      · obtain rfl : j = 0 := by simp at hj; omega
        exact z
    · split at hj
      · rename_i c3
        simp only [Bool.and_eq_true] at c3
        have k1 := key 1 (by simp only [Bool.and_eq_true]; exact c3.1.1.2)
        have k2 := key 2 (by simp only [Bool.and_eq_true]; exact c3.1.2)
        have k3 := key 3 (by simp only [Bool.and_eq_true]; exact c3.2)
        split at hj
        · rcases (show j = 0 ∨ j = 1 ∨ j = 2 ∨ j = 3 from by simp at hj; omega) with rfl | rfl | rfl | rfl
          · exact z
          · exact k1
          · exact k2
          · exact k3
        · obtain rfl : j = 0 := by simp at hj; omega
          exact z
      · obtain rfl : j = 0 := by simp at hj; omega
        exact z

theorem decode_within (s : ByteArray) (pos : Nat) (h : pos < s.size) (ha : 128 ≤ (s[pos]).toNat) : pos + (Utf8.decode s pos).2 ≤ s.size := by
  have h1 := (decode_high s pos h ha).2
  obtain ⟨g, _⟩ := decode_skip s pos h ha ((Utf8.decode s pos).2 - 1) (by omega)
  omega

/-- A capital becomes a small letter. -/
def lowB (c : UInt8) : UInt8 := if 65 ≤ c.toNat ∧ c.toNat ≤ 90 then c + 32 else c
theorem lowB_yes {c : UInt8} (h : 65 ≤ c.toNat ∧ c.toNat ≤ 90) : ((lowB c).toNat : Int) = (c.toNat : Int) + 32 := by
  unfold lowB; rw [if_pos h]
  have : (c + 32).toNat = (c.toNat + 32) % 256 := by rw [UInt8.toNat_add]; rfl
  omega
theorem lowB_no {c : UInt8} (h : ¬ (65 ≤ c.toNat ∧ c.toNat ≤ 90)) : lowB c = c := by unfold lowB; rw [if_neg h]

/-- What '[]byte(s)' lays, told by what it is good for. -/
theorem bytes_laid {P : Program} (w : World) (src dst e : TypeId) (s : ByteArray) (hs : P.underlying src = some .string) (hd : P.underlying dst = some (.slice e)) (he : P.underlying e = some (.int .u8)) :
    ∃ (cap : Nat) (C : Array Value), (convert src dst (.string s)).run P w = .ok (.slice (some ⟨w.heap.size, 0, none⟩) s.size cap) (w.drew.alloc (.cells C e (C.size, C.size + 1))) ∧
      RowIs (w.alloc (.cells C e (C.size, C.size + 1))) w.heap.size s.data.toList := by
  refine ⟨_, _, run_bytes_of_string w src dst e s hs hd he, ?_⟩
  intro j hj
  have hj' : j < s.data.size := by simpa using hj
  have hz : j < (bytesRow s (grownCap w s.size 0 e)).size := by
    have : (bytesRow s (grownCap w s.size 0 e)).size = s.data.size + (grownCap w s.size 0 e - s.size) := by simp [bytesRow]
    omega
  refine ⟨?_, ?_⟩
  · rw [World.cell?_alloc_mark, bytesRow_at s _ j hj']
    rfl
  · rw [World.frozen?_alloc_mark]
    simp
    omega
end Go.Proofs.Ytdkhdjickkcaiaa
