/-
  The calendar: days and moments of dates, and that one moment has one date.
-/
import Derived.Test.YtfflifhcbfoliaaDoorYear
namespace Go.Proofs.YtfflifhcbfoliaaDoor

/-- The days of a year ahead of its month k + 1. -/
def cum (y : Int) : Nat → Int
  | 0 => 0
  | k + 1 => cum y k + mdays y ((k : Int) + 1)
def lpN (y : Int) : Int := if leapB y = true then 1 else 0
theorem lpN_is {y : Int} (h : 0 ≤ y) : lpN y = if (y % 4 = 0 ∧ y % 100 ≠ 0) ∨ y % 400 = 0 then 1 else 0 := by
  unfold lpN leapB
  rw [Int.tmod_eq_emod_of_nonneg h, Int.tmod_eq_emod_of_nonneg h, Int.tmod_eq_emod_of_nonneg h]
  simp
theorem yr_next {y : Int} (h : 1970 ≤ y) : yr (y + 1) = yr y + 365 + lpN y := by
  rw [lpN_is (by omega)]
  unfold yr
  split <;> omega
theorem yr_mono {a b : Int} (h : a ≤ b) : yr a ≤ yr b := by unfold yr; omega
theorem yr_first {n : Int} (h0 : 0 ≤ n) : yr (1970 + n / 366) ≤ n := by unfold yr; omega
theorem yr_last {y : Int} (h : 10000 ≤ y) : 2932897 ≤ yr y := by unfold yr; omega
theorem yr_nonneg {y : Int} (h : 1970 ≤ y) : 0 ≤ yr y := by unfold yr; omega
theorem yr_top {y : Int} (h : y ≤ 10001) : yr y ≤ 2933300 := by unfold yr; omega
theorem cum_mono (y : Int) {a b : Nat} (h : a ≤ b) : cum y a ≤ cum y b := by
  induction b with
  | zero => rw [Nat.le_zero.1 h]; exact Int.le_refl _
  | succ b ih =>
    by_cases e : a = b + 1
    · rw [e]; exact Int.le_refl _
    · have := ih (by omega)
      have hb := mdays_bd y ((b : Int) + 1)
      show cum y a ≤ cum y b + mdays y ((b : Int) + 1)
      omega
theorem cum_12 (y : Int) : cum y 12 = 365 + lpN y := by
  simp only [cum, mdays, lpN]
  cases leapB y <;> decide
theorem lpN_bd (y : Int) : 0 ≤ lpN y ∧ lpN y ≤ 1 := by unfold lpN; split <;> omega
theorem cum_nonneg (y : Int) (k : Nat) : 0 ≤ cum y k := cum_mono y (Nat.zero_le k)
theorem cum_top (y : Int) {k : Nat} (h : k ≤ 12) : cum y k ≤ 366 := by
  have h1 := cum_mono y h
  have h2 := lpN_bd y
  rw [cum_12] at h1
  omega
theorem cum_at (y : Int) {m : Int} (h : 1 ≤ m) : cum y m.toNat = cum y (m - 1).toNat + mdays y m := by
  obtain ⟨k, rfl⟩ : ∃ k : Nat, m = (k : Int) + 1 := ⟨(m - 1).toNat, by omega⟩
  rw [show ((k : Int) + 1).toNat = k + 1 from by omega, show ((k : Int) + 1 - 1).toNat = k from by omega]
  rfl

/-- The number of a day. -/
def dayN (y m d : Int) : Int := yr y + d - 1 + cum y (m - 1).toNat
def momN (y m d h i s : Int) : Int := dayN y m d * 86400 + h * 3600 + i * 60 + s
/-- A day as it is. -/
def dayOk (y m d : Int) : Prop := (1970 ≤ y ∧ y ≤ 9999) ∧ (1 ≤ m ∧ m ≤ 12) ∧ (1 ≤ d ∧ d ≤ mdays y m)
theorem day_lo {y m d : Int} (h : dayOk y m d) : yr y ≤ dayN y m d := by
  have := cum_nonneg y (m - 1).toNat
  unfold dayOk at h; unfold dayN; omega
theorem day_hi {y m d : Int} (h : dayOk y m d) : dayN y m d < yr (y + 1) := by
  have h1 := cum_at y h.2.1.1
  have h2 := cum_mono y (show m.toNat ≤ 12 from by have := h.2.1.2; omega)
  rw [cum_12] at h2
  rw [yr_next h.1.1]
  unfold dayOk at h; unfold dayN; omega
theorem day_bd {y m d : Int} (h : dayOk y m d) : 0 ≤ dayN y m d ∧ dayN y m d ≤ 2932896 := by
  have h1 := day_lo h
  have h2 := day_hi h
  have h3 := yr_nonneg h.1.1
  have h4 := yr_mono (show y + 1 ≤ 10000 from by have := h.1.2; omega)
  rw [show yr 10000 = 2932897 from by decide] at h4
  omega
theorem day_year {y m d y' m' d' : Int} (h : dayOk y m d) (h' : dayOk y' m' d') (hl : y < y') : dayN y m d < dayN y' m' d' := by
  have h1 := day_hi h
  have h2 := day_lo h'
  have h3 := yr_mono (show y + 1 ≤ y' from hl)
  omega
theorem day_month {y m d m' d' : Int} (h : dayOk y m d) (h' : dayOk y m' d') (hl : m < m') : dayN y m d < dayN y m' d' := by
  have h1 := cum_at y h.2.1.1
  have h2 := cum_mono y (show m.toNat ≤ (m' - 1).toNat from by omega)
  unfold dayOk at h h'; unfold dayN; omega
/-- One day has one date. -/
theorem day_one {y m d y' m' d' : Int} (h : dayOk y m d) (h' : dayOk y' m' d') (he : dayN y m d = dayN y' m' d') : y = y' ∧ m = m' ∧ d = d' := by
  have hy : y = y' := by
    rcases Int.lt_trichotomy y y' with hl | hl | hl
    · have := day_year h h' hl; omega
    · exact hl
    · have := day_year h' h hl; omega
  subst hy
  have hm : m = m' := by
    rcases Int.lt_trichotomy m m' with hl | hl | hl
    · have := day_month h h' hl; omega
    · exact hl
    · have := day_month h' h hl; omega
  subst hm
  refine ⟨rfl, rfl, ?_⟩
  unfold dayN at he; omega
/-- The next day is later. -/
theorem day_next {y m d y' m' d' : Int} (h : dayOk y m d) (h' : dayOk y' m' d') (he : dayN y' m' d' = dayN y m d + 1) : y < y' ∨ y' = y ∧ (m < m' ∨ m' = m ∧ d' = d + 1) := by
  rcases Int.lt_trichotomy y y' with hl | hl | hl
  · exact .inl hl
  · subst hl
    refine .inr ⟨rfl, ?_⟩
    rcases Int.lt_trichotomy m m' with hl | hl | hl
    · exact .inl hl
    · subst hl
      refine .inr ⟨rfl, ?_⟩
      unfold dayN at he; omega
    · have := day_month h' h hl; omega
  · have := day_year h' h hl; omega
theorem leap_400 {y : Int} (h : 0 ≤ y) : leapB (y + 400) = leapB y := by
  unfold leapB
  rw [Int.tmod_eq_emod_of_nonneg h, Int.tmod_eq_emod_of_nonneg h, Int.tmod_eq_emod_of_nonneg h, Int.tmod_eq_emod_of_nonneg (by omega), Int.tmod_eq_emod_of_nonneg (by omega), Int.tmod_eq_emod_of_nonneg (by omega)]
  rw [show (y + 400) % 4 = y % 4 from by omega, show (y + 400) % 100 = y % 100 from by omega, show (y + 400) % 400 = y % 400 from by omega]
theorem mdays_400 {y : Int} (h : 0 ≤ y) (m : Int) : mdays (y + 400) m = mdays y m := by unfold mdays; rw [leap_400 h]
theorem cum_400 {y : Int} (h : 0 ≤ y) : ∀ k, cum (y + 400) k = cum y k
  | 0 => rfl
  | k + 1 => by show cum (y + 400) k + _ = cum y k + _; rw [cum_400 h k, mdays_400 h]
theorem day_400 {y : Int} (h : 0 ≤ y) (m d : Int) : dayN (y + 400) m d = dayN y m d + 146097 := by
  unfold dayN
  rw [cum_400 h]
  have : yr (y + 400) = yr y + 146097 := by unfold yr; omega
  omega
end Go.Proofs.YtfflifhcbfoliaaDoor
