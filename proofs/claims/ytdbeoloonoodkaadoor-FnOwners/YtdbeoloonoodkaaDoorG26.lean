/-
  The library's FormatInt of a number below 100, and the program's Weight.
-/
import Derived.Test.YtdbeoloonoodkaaDoorG25
namespace Go.Proofs.YtdbeoloonoodkaaDoor
open Go.RowKit Go.Sort Ow
set_option linter.unusedVariables false
set_option linter.unusedSimpArgs false

theorem ito1 {n : Nat} (h : n < 10) : itoS n = ⟨#[UInt8.ofNat (48 + n)]⟩ := by unfold itoS; rw [dec_small h]
theorem ito2 {n : Nat} (h : ¬ n < 10) (h2 : n ≤ 99) : itoS n = ⟨#[UInt8.ofNat (48 + n / 10), UInt8.ofNat (48 + n % 10)]⟩ := by
  unfold itoS
  rw [dec_big h, dec_small (by omega)]
  rfl
theorem fin_all {k : Nat} {p : Nat → Prop} (h : ∀ j : Fin k, p j.val) {n : Nat} (hn : n < k) : p n := h ⟨n, hn⟩
set_option maxRecDepth 100000 in
set_option maxHeartbeats 1000000 in
theorem implSml (n : Nat) (w : World) (hn : n ≤ 99) : Calls Tryd.prog 60 #[.int .i64 (n : Int)] w fun e w' => e = .returned (.string (itoS n)) ∧ w = w' := by
  by_cases h : n < 10
  · have h1 : (n : Int) < 10 := by omega
    have HI : Hid (itoS n = ⟨#[UInt8.ofNat (48 + n)]⟩) := ito1 h
    go_enter Tryd.func60, Tryd.ntmps60
    go_wp2
    go_ret
    refine ⟨ret_str8 ?_, rfl⟩
    rw [HI.out]
    exact fin_all (k := 10) (p := fun n => ByteArray.extract _ n (n + 1) = (⟨#[UInt8.ofNat (48 + n)]⟩ : ByteArray)) (by decide +kernel) h
  · have h1 : ¬ (n : Int) < 10 := by omega
    have HI : Hid (itoS n = ⟨#[UInt8.ofNat (48 + n / 10), UInt8.ofNat (48 + n % 10)]⟩) := ito2 h hn
    have e1 : ((n : Int) * 2).toNat = n * 2 := by omega
    have e2 : ((n : Int) * 2 + 2).toNat = n * 2 + 2 := by omega
    go_enter Tryd.func60, Tryd.ntmps60
    go_wp2
    go_ret
    refine ⟨ret_str8 ?_, rfl⟩
    rw [HI.out]
    exact fin_all (k := 100) (p := fun n => ByteArray.extract _ (n * 2) (n * 2 + 2) = (⟨#[UInt8.ofNat (48 + n / 10), UInt8.ofNat (48 + n % 10)]⟩ : ByteArray)) (by decide +kernel) (Nat.lt_succ_of_le hn)
theorem implFmI (n : Nat) (w : World) (hn : n ≤ 99) : Calls Tryd.prog 58 #[.int .i64 (n : Int), .int .i64 10] w fun e w' => e = .returned (.string (itoS n)) ∧ w = w' := by
  have h1 := fun W => implSml n W hn
  have e1 : (n : Int) < 100 := by omega
  have e0 : (0 : Int) ≤ (n : Int) := by omega
  generalize itoS n = T at h1
  go_enter Tryd.func58, Tryd.ntmps58
  go_wp2_with (go_at_call 60; refine (h1 _).mono ?_; rintro e w1 ⟨rfl, rfl⟩)
  go_ret
  exact ⟨rfl, rfl⟩
theorem implFm (n : Nat) (w : World) (hn : n ≤ 99) : Calls Tryd.prog 50 #[.int .i64 (n : Int), .int .i64 10] w fun e w' => e = .returned (.string (itoS n)) ∧ w = w' := by
  have h1 := fun W => implFmI n W hn
  generalize itoS n = T at h1
  go_enter Tryd.func50, Tryd.ntmps50
  go_wp2_with (go_at_call 58; refine (h1 _).mono ?_; rintro e w1 ⟨rfl, rfl⟩)
  go_ret
  exact ⟨rfl, rfl⟩
theorem implWgt (s : Int) (key : ByteArray) (w : World) (hk : key.size ≤ 1048576) :
    Calls Tryd.prog 20 #[.int .i64 s, .string key] w fun e w' => e = .returned (.int .i64 (wgV key s)) ∧ Below w.heap.size w w' := by
  have hs := fun W => implSrv s W
  cases h : inS s with
  | false =>
    rw [h] at hs
    have HR : Hid (-1 = wgV key s) := by show _ = _; unfold wgV; rw [h]; rfl
    go_enter Tryd.func20, Tryd.ntmps20
    go_wp2_with (go_at_call 49; refine (hs _).mono ?_; rintro e w1 ⟨rfl, rfl⟩)
    go_ret
    exact ⟨congrArg (fun z => Ending.returned (.int .i64 z)) HR.out, Below.refl _ _⟩
  | true =>
    rw [h] at hs
    have h2 := inS_iff.1 h
    obtain ⟨n, rfl⟩ : ∃ n : Nat, s = (n : Int) := ⟨s.toNat, by omega⟩
    have hz := itoS_size (n := n) (by omega)
    have hin := fun W => implFm n W (by omega)
    have hE : Hid (((itoS n ++ ⟨#[58]⟩) ++ key).data.toList = Lib.decDigits n ++ 58 :: key.data.toList) := wg_text n key
    have hh := fun W => implHsh ((itoS n ++ ⟨#[58]⟩) ++ key) W (by rw [ByteArray.size_append, ByteArray.size_append]; show _ + 1 + _ ≤ _; omega)
    have HR : Hid (hshL ((itoS n ++ ⟨#[58]⟩) ++ key).data.toList = wgV key (n : Int)) := by show _ = _; rw [hE.out]; unfold wgV; rw [if_pos h, Int.toNat_natCast]; rfl
    generalize hshL ((itoS n ++ ⟨#[58]⟩) ++ key).data.toList = H at hh HR
    have HR2 : Hid ((H : Int) = wgV key (n : Int)) := HR
    clear hE HR h
    generalize itoS n = T at hz hin hh
    go_enter Tryd.func20, Tryd.ntmps20
    go_wp2_with fail
    refine (hs _).mono ?_
    rintro e w1 ⟨rfl, rfl⟩
    go_wp2_with fail
    refine (hin _).mono ?_
    rintro e w1 ⟨rfl, rfl⟩
    go_wp2_with fail
    refine (hh _).mono ?_
    rintro e w1 ⟨rfl, hb1⟩
    have B1 : Hid _ := hb1
    clear hb1
    go_wp2
    go_ret
    exact ⟨congrArg (fun z => Ending.returned (.int .i64 z)) HR2.out, B1.out⟩
end Go.Proofs.YtdbeoloonoodkaaDoor
