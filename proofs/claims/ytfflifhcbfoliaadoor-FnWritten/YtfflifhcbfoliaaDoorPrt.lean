/-
  The parts of a date that is shown.
-/
import Derived.Test.YtfflifhcbfoliaaDoorPrs
namespace Go.Proofs.YtfflifhcbfoliaaDoor
open Go.RowKit

theorem three {s : ByteArray} (h : s.size = 3) : ∃ a b c, s = ⟨#[a, b, c]⟩ := by
  obtain ⟨⟨l⟩⟩ := s
  match l, h with
  | [a, b, c], _ => exact ⟨a, b, c, rfl⟩
theorem showA_is (y m d h i s : Int) : ∃ a b c p q r, moN m = ⟨#[p, q, r]⟩ ∧ showA y m d h i s = ⟨#[a, b, c, 44, 32, dgt (d / 10), dgt d, 32, p, q, r, 32, dgt (y / 100 / 10), dgt (y / 100), dgt (y / 10), dgt y, 32, dgt (h / 10), dgt h, 58, dgt (i / 10), dgt i, 58, dgt (s / 10), dgt s, 32, 71, 77, 84]⟩ := by
  obtain ⟨a, b, c, h1⟩ := three (wkN_size ((dayN y m d + 4) % 7))
  obtain ⟨p, q, r, h2⟩ := three (moN_size m)
  refine ⟨a, b, c, p, q, r, h2, ?_⟩
  unfold showA
  rw [h1, h2]
  rfl
theorem showA_size (y m d h i s : Int) : (showA y m d h i s).size = 29 := by
  obtain ⟨a, b, c, p, q, r, _, e⟩ := showA_is y m d h i s
  rw [e]; rfl
theorem dig_of (n : Int) : digV ((dgt n).toNat : Int) = n % 10 := by
  rw [dgt_nat, digV_d (by omega)]; omega
theorem digN_of (n : Int) : digN 10 ((dgt n).toNat : Int) = true := digN_yes (by rw [dig_of]; omega) (by rw [dig_of]; omega)
theorem two_num {n : Int} (h0 : 0 ≤ n) (h1 : n ≤ 99) : numV 10 15 (two n) = n := by
  have ok : numOk 10 15 (two n) = true := numOk_in (by rw [two_size]; omega) (by rw [two_size]; omega) (by simp [two, allB, digN_of])
  rw [num_yes ok]
  simp only [two, numL, List.foldl, dig_of]
  omega
theorem four_num {n : Int} (h0 : 0 ≤ n) (h1 : n ≤ 9999) : numV 10 15 ⟨#[dgt (n / 100 / 10), dgt (n / 100), dgt (n / 10), dgt n]⟩ = n := by
  have ok : numOk 10 15 ⟨#[dgt (n / 100 / 10), dgt (n / 100), dgt (n / 10), dgt n]⟩ = true := numOk_in (show 1 ≤ 4 by omega) (show 4 ≤ 15 by omega) (by simp [allB, digN_of])
  rw [num_yes ok]
  simp only [numL, List.foldl, dig_of]
  omega
/-- What the fixed places of a text hold. -/
theorem parts_of {y m d h i s : Int} (ok : okD y m d h i s) {t : ByteArray} (e : showA y m d h i s = t) :
    numV 10 15 (t.extract 12 16) = y ∧ monV (t.extract 8 11) = m ∧ numV 10 15 (t.extract 5 7) = d ∧ numV 10 15 (t.extract 17 19) = h ∧ numV 10 15 (t.extract 20 22) = i ∧ numV 10 15 (t.extract 23 25) = s ∧ numV 10 15 (t.extract 12 14) = y / 100 ∧ numV 10 15 (t.extract 14 16) = y % 100 := by
  obtain ⟨a, b, c, p, q, r, hm, hs⟩ := showA_is y m d h i s
  rw [hs] at e
  subst e
  have hd31 := mdays_bd y m
  obtain ⟨h1, h2, h3, h4, h5, h6⟩ := ok
  refine ⟨?_, ?_, ?_, ?_, ?_, ?_, ?_, ?_⟩
  · exact four_num (n := y) (by omega) (by omega)
  · have : monV ⟨#[p, q, r]⟩ = m := by rw [← hm]; exact monV_of h2.1 h2.2
    exact this
  · exact two_num (n := d) (by omega) (by omega)
  · exact two_num (n := h) (by omega) (by omega)
  · exact two_num (n := i) (by omega) (by omega)
  · exact two_num (n := s) (by omega) (by omega)
  · exact two_num (n := y / 100) (by omega) (by omega)
  · have := two_num (n := y % 100) (by omega) (by omega)
    have e1 : dgt (y % 100 / 10) = dgt (y / 10) := by unfold dgt; rw [show y % 100 / 10 % 10 = y / 10 % 10 from by omega]
    have e2 : dgt (y % 100) = dgt y := by unfold dgt; rw [show y % 100 % 10 = y % 10 from by omega]
    unfold two at this
    rw [e1, e2] at this
    exact this
end Go.Proofs.YtfflifhcbfoliaaDoor
