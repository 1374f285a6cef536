/-
  The walk of the law on numbers.
-/
import Derived.Test.YtcibdipdnmlhhaaDoorRow
namespace Go.Proofs.YtcibdipdnmlhhaaDoor
open Go.RowKit

/-- What pick answers. -/
def pickN (zs : List Int) (sl : Nat) : Nat := (pickTo zs sl sl % 100000).toNat
theorem pickN_lt (zs : List Int) (sl : Nat) : pickN zs sl < 100000 := by unfold pickN; omega
theorem pick' (sa : Option Addr) (sl sc : Nat) (zs : List Int) (w : World) (hc : CodeZ w w.heap.size sa sl zs) (hl : sl ≤ 4096) :
    Calls Tryd.prog 24 #[.slice sa sl sc, .int .i64 1, .int .i64 100000] w fun e w' => e = .returned (.int .i64 (pickN zs sl : Int)) ∧ w = w' := by
  have h := pick sa sl sc zs w hc hl
  have e : ((pickN zs sl : Nat) : Int) = pickTo zs sl sl % 100000 := by unfold pickN; omega
  rw [e]
  exact h
theorem dec_size {n : Nat} {x : ByteArray} (h : x.data.toList = decG 4 n) : x.size ≤ 5 := by
  have h1 := (decG_length 4 n).2
  have h2 : x.data.toList.length = x.size := by simp
  rw [h] at h2
  omega
theorem hexF_most (f : Nat) : ∀ n, (hexF f n).length ≤ f + 1 := by
  induction f with
  | zero => intro n; simp [hexF]
  | succ f ih =>
    intro n
    by_cases h : n < 16
    · rw [hexF_small _ _ h]; simp
    · rw [hexF_step f n h, List.length_append]
      have := ih (n / 16)
      simp only [List.length_singleton]
      omega
theorem hexA_size (m : Nat) (h : m ≤ 4503599627370496) : (hexA (m : Int)).size ≤ 14 := by
  rw [← hexA_yes h]
  have h1 := hexF_most 13 m
  have : (hexS m).size = (hexF 13 m).length := by show (hexF 13 m).toArray.size = _; simp
  omega
theorem hexA_back {m : Nat} (h : m ≤ 4503599627370496) (hz : (hexA (m : Int)).size ≤ 13) : numOk 16 13 (hexA (m : Int)) = true ∧ numV 16 13 (hexA (m : Int)) = (m : Int) := by
  rw [← hexA_yes h] at hz ⊢
  exact hex_back h hz

/-- What the table gives in every later world. -/
theorem cell5 {w w' : World} (ht : w.cell? ⟨5, 15, none⟩ = some (.int .u8 4) ∧ 5 < w.heap.size) (hb : Below w.heap.size w w') : w'.cell? ⟨5, 15, none⟩ = some (.int .u8 4) ∧ 5 < w'.heap.size :=
  ⟨(hb.cell (p := ⟨5, 15, none⟩) ht.2).trans ht.1, Nat.lt_of_lt_of_le ht.2 hb.size⟩

set_option maxHeartbeats 4000000 in
set_option maxRecDepth 100000 in
theorem walkNum (sa : Option Addr) (sl sc : Nat) (zs : List Int) (w : World) (hrow : IsRow w sa sl sc zs) (ht : w.cell? ⟨5, 15, none⟩ = some (.int .u8 4) ∧ 5 < w.heap.size) :
    Calls Tryd.prog 4 #[.slice sa sl sc] w fun e w' => e = .returned (.bool true) ∧ Below w.heap.size w w' := by
  have hlen := hrow.len
  by_cases hbig : 4096 < sl
  · go_enter Tryd.func4, Tryd.ntmps4
    go_wp2_with fail
    refine (isBig _ _ _ _ hbig hlen).mono ?_
    rintro e x ⟨rfl, rfl⟩
    go_wp2
    go_ret
    exact ⟨rfl, Below.refl _ _⟩
  · have hl : sl ≤ 4096 := by omega
    have hz := hrow.code
    clear hrow hlen hbig
    go_enter Tryd.func4, Tryd.ntmps4
    go_wp2_with fail
    refine (notBig _ _ _ _ hl).mono ?_
    rintro e x ⟨rfl, rfl⟩
    go_wp2_with fail
    refine (drawHex _ _ _ _ hz.code hl).mono ?_
    rintro e w1 ⟨n, rfl, hb1⟩
    have t1 := cell5 ht hb1
    go_wp2_with fail
    refine (implHex n _ t1.1 t1.2).mono ?_
    rintro e w2 ⟨rfl, hb2'⟩
    have hb2 := hb1.trans (hb2'.mono hb1.size)
    clear hb2' t1 hb1
    have hz2 := (hz.kept hb2 (Nat.le_refl _)).up hb2.size
    go_wp2_with fail
    refine (drawHexDigits _ _ _ _ hz2.code hl).mono ?_
    rintro e w3 ⟨s, rfl, hs, hb3'⟩
    have hb3 := hb2.trans (hb3'.mono hb2.size)
    clear hb3' hz2 hb2
    have hz3 := (hz.kept hb3 (Nat.le_refl _)).up hb3.size
    go_wp2_with fail
    refine (drawDigits _ _ _ _ hz3.code hl).mono ?_
    rintro e w4 ⟨d, rfl, hd, hb4'⟩
    have hb4 := hb3.trans (hb4'.mono hb3.size)
    clear hb4' hz3 hb3
    have hsm : s.size ≤ maxLen := by unfold maxLen; omega
    have hdm : d.size ≤ maxLen := by unfold maxLen; omega
    go_wp2_with fail
    refine (implHexD s _ hsm).mono ?_
    unfold numE
    rintro e w5 ⟨rfl, hb5'⟩
    have hb5 := hb4.trans (hb5'.mono hb4.size)
    clear hb5' hb4
    go_wp2_with fail
    refine (implDig d _ hdm).mono ?_
    unfold numE
    rintro e w6 ⟨rfl, hb6'⟩
    have hb6 := hb5.trans (hb6'.mono hb5.size)
    clear hb6' hb5
    go_wp2_with fail
    refine (specHexD s _ hsm).mono ?_
    unfold numE
    rintro e w7 ⟨rfl, hb7'⟩
    have hb7 := hb6.trans (hb7'.mono hb6.size)
    clear hb7' hb6
    go_wp2_with fail
    refine (specDig d _ hdm).mono ?_
    unfold numE
    rintro e w8 ⟨rfl, hb8'⟩
    have hb8 := hb7.trans (hb8'.mono hb7.size)
    clear hb8' hb7
    go_wp2_with fail
    refine (specHex n _).mono ?_
    rintro e w9 ⟨rfl, rfl⟩
    by_cases hr : 0 ≤ n ∧ n ≤ 4503599627370496
    · obtain ⟨m, rfl⟩ := Int.eq_ofNat_of_zero_le hr.1
      have hm : m ≤ 4503599627370496 := by omega
      have hf := full' (hex_full hr.1 hr.2)
      have hfe : (hexA (m : Int)).toList.isEmpty = false := by simpa using hf
      have hhz := hexA_size m hm
      have hhm : (hexA (m : Int)).size ≤ maxLen := by unfold maxLen; omega
      clear hr
      go_wp2_with fail
      refine (implHexD _ _ hhm).mono ?_
      unfold numE
      rintro e wa ⟨rfl, hba'⟩
      have hba := hb8.trans (hba'.mono hb8.size)
      clear hba' hb8
      by_cases hsz : (hexA (m : Int)).size < 14
      · have hbk := hexA_back hm (by omega)
        obtain ⟨hk1, hk2⟩ := hbk
        have hzp := (hz.kept hba (Nat.le_refl _)).up hba.size
        have hp1 := pickN_lt zs sl
        have hpk := pick' sa sl sc zs _ hzp hl
        generalize hpn' : pickN zs sl = p at hp1 hpk
        have hpn : Hid (pickN zs sl = p) := hpn'
        clear hpn'
        go_wp2_with fail
        refine hpk.mono ?_
        rintro e y ⟨rfl, rfl⟩
        go_wp2_with fail
        refine (digitsT p hp1 _).mono ?_
        rintro e wb ⟨x, rfl, hx, hbb'⟩
        have hbb := hba.trans (hbb'.mono hba.size)
        have hxz : x.size ≤ 5 := dec_size hx
        have hcm : ((⟨#[48, 48]⟩ : ByteArray) ++ x).size ≤ maxLen := by
          rw [ByteArray.size_append]
          show 2 + x.size ≤ maxLen
          unfold maxLen
          omega
        have hok10 := (dec_back hp1 hx).1
        have hv10 := (dec_back hp1 hx).2
        clear hbb' hpk hzp hba hx
        go_wp2_with fail
        refine (implDig _ _ hcm).mono ?_
        unfold numE
        rw [hok10, hv10]
        rintro e wc ⟨rfl, hbc'⟩
        have hbc := hbb.trans (hbc'.mono hbb.size)
        have hzc := (hz.kept hbc (Nat.le_refl _)).up hbc.size
        have hpk := pick' sa sl sc zs _ hzc hl
        rw [hpn.out] at hpk
        have tc := cell5 ht hbc
        clear hbc' hbb hzc hok10 hv10 hcm hxz
        cases hone : numOk 16 13 s with
        | false =>
          go_wp2_with (go_at_call 24; refine hpk.mono ?_; rintro e y ⟨rfl, rfl⟩)
          go_ret
          exact ⟨rfl, hbc⟩
        | true =>
          have hnn := numV_nonneg hone
          by_cases hgt : 4503599627370496 < numV 16 13 s
          · go_wp2_with (go_at_call 24; refine hpk.mono ?_; rintro e y ⟨rfl, rfl⟩)
            go_ret
            exact ⟨rfl, hbc⟩
          · have hf := full' (hex_full hnn (by omega))
            have hfe : (hexA (numV 16 13 s)).toList.isEmpty = false := by simpa using hf
            have hih := implHex (numV 16 13 s) _ tc.1 tc.2
            go_wp2_with (first | (go_at_call 24; refine hpk.mono ?_; rintro e y ⟨rfl, rfl⟩) | (go_at_call 15; refine hih.mono ?_; rintro e wd ⟨rfl, hbd⟩))
            go_ret
            exact ⟨rfl, hbc.trans (hbd.mono hbc.size)⟩
      · have hlong : decide (((hexA (m : Int)).size : Int) < 14) = false := by simp; omega
        have hzp := (hz.kept hba (Nat.le_refl _)).up hba.size
        have hp1 := pickN_lt zs sl
        have hpk := pick' sa sl sc zs _ hzp hl
        generalize hpn' : pickN zs sl = p at hp1 hpk
        have hpn : Hid (pickN zs sl = p) := hpn'
        clear hpn'
        go_wp2_with fail
        refine hpk.mono ?_
        rintro e y ⟨rfl, rfl⟩
        go_wp2_with fail
        refine (digitsT p hp1 _).mono ?_
        rintro e wb ⟨x, rfl, hx, hbb'⟩
        have hbb := hba.trans (hbb'.mono hba.size)
        have hxz : x.size ≤ 5 := dec_size hx
        have hcm : ((⟨#[48, 48]⟩ : ByteArray) ++ x).size ≤ maxLen := by
          rw [ByteArray.size_append]
          show 2 + x.size ≤ maxLen
          unfold maxLen
          omega
        have hok10 := (dec_back hp1 hx).1
        have hv10 := (dec_back hp1 hx).2
        clear hbb' hpk hzp hba hx
        go_wp2_with fail
        refine (implDig _ _ hcm).mono ?_
        unfold numE
        rw [hok10, hv10]
        rintro e wc ⟨rfl, hbc'⟩
        have hbc := hbb.trans (hbc'.mono hbb.size)
        have hzc := (hz.kept hbc (Nat.le_refl _)).up hbc.size
        have hpk := pick' sa sl sc zs _ hzc hl
        rw [hpn.out] at hpk
        have tc := cell5 ht hbc
        clear hbc' hbb hzc hok10 hv10 hcm hxz
        cases hone : numOk 16 13 s with
        | false =>
          go_wp2_with (go_at_call 24; refine hpk.mono ?_; rintro e y ⟨rfl, rfl⟩)
          go_ret
          exact ⟨rfl, hbc⟩
        | true =>
          have hnn := numV_nonneg hone
          by_cases hgt : 4503599627370496 < numV 16 13 s
          · go_wp2_with (go_at_call 24; refine hpk.mono ?_; rintro e y ⟨rfl, rfl⟩)
            go_ret
            exact ⟨rfl, hbc⟩
          · have hf := full' (hex_full hnn (by omega))
            have hfe : (hexA (numV 16 13 s)).toList.isEmpty = false := by simpa using hf
            have hih := implHex (numV 16 13 s) _ tc.1 tc.2
            go_wp2_with (first | (go_at_call 24; refine hpk.mono ?_; rintro e y ⟨rfl, rfl⟩) | (go_at_call 15; refine hih.mono ?_; rintro e wd ⟨rfl, hbd⟩))
            go_ret
            exact ⟨rfl, hbc.trans (hbd.mono hbc.size)⟩
    · have hnil := void' (x := hexA n) (by rw [← hexA_no hr]; exact Nat.lt_irrefl 0)
      clear hr
      have hzp := (hz.kept hb8 (Nat.le_refl _)).up hb8.size
      have hp1 := pickN_lt zs sl
      have hpk := pick' sa sl sc zs _ hzp hl
      generalize hpn' : pickN zs sl = p at hp1 hpk
      have hpn : Hid (pickN zs sl = p) := hpn'
      clear hpn'
      go_wp2_with fail
      refine hpk.mono ?_
      rintro e y ⟨rfl, rfl⟩
      go_wp2_with fail
      refine (digitsT p hp1 _).mono ?_
      rintro e wb ⟨x, rfl, hx, hbb'⟩
      have hbb := hb8.trans (hbb'.mono hb8.size)
      have hxz : x.size ≤ 5 := dec_size hx
      have hcm : ((⟨#[48, 48]⟩ : ByteArray) ++ x).size ≤ maxLen := by
        rw [ByteArray.size_append]
        show 2 + x.size ≤ maxLen
        unfold maxLen
        omega
      have hok10 := (dec_back hp1 hx).1
      have hv10 := (dec_back hp1 hx).2
      clear hbb' hpk hzp hb8 hx
      go_wp2_with fail
      refine (implDig _ _ hcm).mono ?_
      unfold numE
      rw [hok10, hv10]
      rintro e wc ⟨rfl, hbc'⟩
      have hbc := hbb.trans (hbc'.mono hbb.size)
      have hzc := (hz.kept hbc (Nat.le_refl _)).up hbc.size
      have hpk := pick' sa sl sc zs _ hzc hl
      rw [hpn.out] at hpk
      have tc := cell5 ht hbc
      clear hbc' hbb hzc hok10 hv10 hcm hxz
      cases hone : numOk 16 13 s with
      | false =>
        go_wp2_with (go_at_call 24; refine hpk.mono ?_; rintro e y ⟨rfl, rfl⟩)
        go_ret
        exact ⟨rfl, hbc⟩
      | true =>
        have hnn := numV_nonneg hone
        by_cases hgt : 4503599627370496 < numV 16 13 s
        · go_wp2_with (go_at_call 24; refine hpk.mono ?_; rintro e y ⟨rfl, rfl⟩)
          go_ret
          exact ⟨rfl, hbc⟩
        · have hf := full' (hex_full hnn (by omega))
          have hfe : (hexA (numV 16 13 s)).toList.isEmpty = false := by simpa using hf
          have hih := implHex (numV 16 13 s) _ tc.1 tc.2
          go_wp2_with (first | (go_at_call 24; refine hpk.mono ?_; rintro e y ⟨rfl, rfl⟩) | (go_at_call 15; refine hih.mono ?_; rintro e wd ⟨rfl, hbd⟩))
          go_ret
          exact ⟨rfl, hbc.trans (hbd.mono hbc.size)⟩

end Go.Proofs.YtcibdipdnmlhhaaDoor
