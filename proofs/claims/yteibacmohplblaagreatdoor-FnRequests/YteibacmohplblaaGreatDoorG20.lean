/-
  A state of chunks by value in a block of four cells; what all bytes of a text come to.
  The specification's ChunkerOk and one byte eaten, by their contracts.
  The specification's eating of one byte, by its contract.
-/
import Derived.Test.YteibacmohplblaaGreatDoorG07
import Derived.Test.YteibacmohplblaaGreatDoorG02
import Derived.Test.YteibacmohplblaaGreatDoorG19
namespace Go.Proofs.YteibacmohplblaaGreatDoor
open Go.RowKit

/-- What EatAll answers. -/
def zeroC : Ck := ⟨0, 0, ⟨#[]⟩, ⟨#[]⟩⟩
def allC (c : Ck) (l : List UInt8) : Ck := if okC c = true then fin c l else zeroC
def allN (c : Ck) (l : List UInt8) : Nat := if okC c = true then cnt c l else 0
theorem allC_yes {c : Ck} (h : okC c = true) (l : List UInt8) : allC c l = fin c l := by unfold allC; rw [if_pos h]
theorem allN_yes {c : Ck} (h : okC c = true) (l : List UInt8) : allN c l = cnt c l := by unfold allN; rw [if_pos h]
theorem allC_no {c : Ck} (h : okC c = false) (l : List UInt8) : allC c l = zeroC := by unfold allC; rw [h]; rfl
theorem allN_no {c : Ck} (h : okC c = false) (l : List UInt8) : allN c l = 0 := by unfold allN; rw [h]; rfl
/-- The four cells of a state by value in block b. -/
structure Four (w : World) (b : Nat) (c : Ck) : Prop where
  c0 : w.cell? ⟨b, 0, none⟩ = some (.int .i64 c.st)
  c1 : w.cell? ⟨b, 1, none⟩ = some (.int .i64 c.lf)
  c2 : w.cell? ⟨b, 2, none⟩ = some (.string c.dg)
  c3 : w.cell? ⟨b, 3, none⟩ = some (.string c.bd)
  fz : ∀ k, w.frozen? ⟨b, k, none⟩ = false
  hi : b < w.heap.size
theorem Four.new (w : World) (c : Ck) : Four (w.alloc (.cells #[.int .i64 c.st, .int .i64 c.lf, .string c.dg, .string c.bd] 138)) w.heap.size c where
  c0 := World.cell?_alloc_mark _ _ _ _ _
  c1 := World.cell?_alloc_mark _ _ _ _ _
  c2 := World.cell?_alloc_mark _ _ _ _ _
  c3 := World.cell?_alloc_mark _ _ _ _ _
  fz := fun k => by rw [World.frozen?_alloc_mark]; simp
  hi := by simp
theorem Four.kept {w w' : World} {n b : Nat} {c : Ck} (h : Four w b c) (hb : Below n w w') (hn : b < n) : Four w' b c := by
  have e : w'.heap[b]? = w.heap[b]? := hb.block b hn
  have k : ∀ k, w'.cell? ⟨b, k, none⟩ = w.cell? ⟨b, k, none⟩ := fun k => World.cell?_of_block (a := ⟨b, k, none⟩) e
  exact ⟨(k 0).trans h.c0, (k 1).trans h.c1, (k 2).trans h.c2, (k 3).trans h.c3, fun j => (World.frozen?_of_block (a := ⟨b, j, none⟩) e).trans (h.fz j), Nat.lt_of_lt_of_le h.hi hb.size⟩
theorem Four.alloc {w : World} {b : Nat} {c : Ck} (h : Four w b c) (o : Obj) : Four (w.alloc o) b c := h.kept (n := w.heap.size) ((Below.refl _ w).alloc (Nat.le_refl _) _) h.hi

theorem Four.put {w : World} {b : Nat} {c : Ck} (h : Four w b c) (d : Ck) : Four ((((w.setCell ⟨b, 0, none⟩ (.int .i64 d.st)).setCell ⟨b, 1, none⟩ (.int .i64 d.lf)).setCell ⟨b, 2, none⟩ (.string d.dg)).setCell ⟨b, 3, none⟩ (.string d.bd)) b d where
  c0 := by rw [World.cell?_setCell_other _ _ _ _ (by simp), World.cell?_setCell_other _ _ _ _ (by simp), World.cell?_setCell_other _ _ _ _ (by simp)]; exact World.cell?_setCell_same _ _ _ h.c0
  c1 := by rw [World.cell?_setCell_other _ _ _ _ (by simp), World.cell?_setCell_other _ _ _ _ (by simp)]; exact World.cell?_setCell_same _ _ _ (by rw [World.cell?_setCell_other _ _ _ _ (by simp)]; exact h.c1)
  c2 := by rw [World.cell?_setCell_other _ _ _ _ (by simp)]; exact World.cell?_setCell_same _ _ _ (by rw [World.cell?_setCell_other _ _ _ _ (by simp), World.cell?_setCell_other _ _ _ _ (by simp)]; exact h.c2)
  c3 := World.cell?_setCell_same _ _ _ (by rw [World.cell?_setCell_other _ _ _ _ (by simp), World.cell?_setCell_other _ _ _ _ (by simp), World.cell?_setCell_other _ _ _ _ (by simp)]; exact h.c3)
  fz := fun k => by rw [World.frozen?_setCell, World.frozen?_setCell, World.frozen?_setCell, World.frozen?_setCell]; exact h.fz k
  hi := by rw [World.size_setCell, World.size_setCell, World.size_setCell, World.size_setCell]; exact h.hi

/-- One byte as a text. -/
theorem byte_text5 (w : World) (n : Int) (c : UInt8) (h : n = (c.toNat : Int)) : (convert 22 9 (.slice (some ⟨w.heap.size, 0, none⟩) 1 1)).run Tryz.prog (w.alloc (.cells #[.int .u8 n] 5)) = .ok (.string ⟨#[c]⟩) (w.alloc (.cells #[.int .u8 n] 5)) := by
  subst h
  exact OwnsB.text (OwnsB.one w c)
end Go.Proofs.YteibacmohplblaaGreatDoor
namespace Go.Proofs.YteibacmohplblaaGreatDoor
open Go.RowKit

theorem okP_leaf {c : Ck} (h1 : 1 ≤ c.st ∧ c.st ≤ 9) (h2 : 0 ≤ c.lf ∧ c.lf ≤ 4000) (h3 : ¬ 13 < c.dg.size) (h4 : ¬ 4000 < (c.bd.size : Int) + c.lf) (h5 : true = allB (digN 16) c.dg.data.toList) (h6 : c.st = 1 → c.lf = 0) (h7 : c.st ≠ 1 → c.dg.size = 0) (h8 : c.st = 3 → 0 < c.lf) (h9 : c.st ≠ 2 → c.st ≠ 3 → c.lf = 0) : true = okC c :=
  (okC_yes ⟨h1, h2, by omega, by omega, h5.symm, h6, h7, h8, h9⟩).symm
theorem void2 {x : ByteArray} (h : x.size = 0) : x.toList = [] := void' (by omega)

set_option maxHeartbeats 2000000 in
theorem specOk5 (c : Ck) (w : World) (hb : c.bd.size ≤ 100000000) (hd : c.dg.size ≤ 100000000) :
    Calls Tryz.prog 149 #[ckV c] w fun e w' => e = .returned (.bool (okC c)) ∧ Below w.heap.size w w' := by
  have hb0 : Hid (Below w.heap.size w (w.alloc (.cells #[.int .i64 c.st, .int .i64 c.lf, .string c.dg, .string c.bd] 138))) := (Below.refl _ w).alloc (Nat.le_refl _) _
  have hin : ∀ n lo hi w, Calls Tryz.prog 79 #[.int .i64 n, .int .i64 lo, .int .i64 hi] w fun e w' => e = .returned (.bool (inR n lo hi)) ∧ w = w' := fun n lo hi w => inRange n lo hi w
  have HIN : Hid _ := hin
  clear hin
  unfold ckV
  by_cases h1 : 1 ≤ c.st ∧ c.st ≤ 9
  case neg =>
    have i1 : inR c.st 1 9 = false := decide_eq_false h1
    have HR : Hid (false = okC c) := (okC_no fun x => h1 x.1).symm
    clear h1
    go_enter Tryz.func149, Tryz.ntmps149
    go_wp2_with (go_at_call 79; refine (inRange _ _ _ _).mono ?_; rintro e w' ⟨rfl, rfl⟩)
    go_ret
    exact ⟨ret_bool HR.out, hb0.out⟩
  have i1 : inR c.st 1 9 = true := decide_eq_true h1
  by_cases h2 : 0 ≤ c.lf ∧ c.lf ≤ 4000
  case neg =>
    have i2 : inR c.lf 0 4000 = false := decide_eq_false h2
    have HR : Hid (false = okC c) := (okC_no fun x => h2 x.2.1).symm
    clear h1 h2
    go_enter Tryz.func149, Tryz.ntmps149
    go_wp2_with (go_at_call 79; refine (inRange _ _ _ _).mono ?_; rintro e w' ⟨rfl, rfl⟩)
    go_ret
    exact ⟨ret_bool HR.out, hb0.out⟩
  have i2 : inR c.lf 0 4000 = true := decide_eq_true h2
  by_cases h3 : 13 < c.dg.size
  · have HR : Hid (false = okC c) := (okC_no fun x => by have := x.2.2.1; omega).symm
    clear h1 h2
    go_enter Tryz.func149, Tryz.ntmps149
    go_wp2_with (go_at_call 79; refine (inRange _ _ _ _).mono ?_; rintro e w' ⟨rfl, rfl⟩)
    go_ret
    exact ⟨ret_bool HR.out, hb0.out⟩
  by_cases h4 : 4000 < (c.bd.size : Int) + c.lf
  · have HR : Hid (false = okC c) := (okC_no fun x => by have := x.2.2.2.1; omega).symm
    go_enter Tryz.func149, Tryz.ntmps149
    go_wp2_with (go_at_call 79; refine (inRange _ _ _ _).mono ?_; rintro e w' ⟨rfl, rfl⟩)
    go_ret
    exact ⟨ret_bool HR.out, hb0.out⟩
  go_enter Tryz.func149, Tryz.ntmps149
  go_wp2_with (go_at_call 79; refine (inRange _ _ _ _).mono ?_; rintro e w' ⟨rfl, rfl⟩)
  clear i1 i2
  go_loop [3] (fun i => ∃ k : Nat, i = .int .i64 k ∧ k ≤ c.dg.size ∧ Hid (allB (digN 16) (c.dg.data.toList.take k) = true)) (fun i => c.dg.size - (intOf i).toNat)
  case atStart => exact ⟨0, rfl, Nat.zero_le _, rfl⟩
  case round =>
    obtain ⟨k, rfl, hk, hall⟩ := hrel
    by_cases hlt : k < c.dg.size
    · by_cases hdv : 0 ≤ digV (c.dg[k].toNat : Int)
      · have hn : Hid (allB (digN 16) (c.dg.data.toList.take (k + 1)) = true) := allB_step hlt hall.out (digN16 hdv)
        have hdv' : ¬ digV (c.dg[k].toNat : Int) < 0 := by omega
        clear hall
        go_wp2_with (go_at_call 167; refine (specHexV _ _).mono ?_; rintro e w' ⟨rfl, hw'⟩; obtain rfl := hw'.symm; clear hw')
        go_round
        case rel => exact ⟨k + 1, by go_num, by omega, hn⟩
        case measure => simp [intOf]; omega
      · have hf : false = allB (digN 16) c.dg.data.toList := allB_not hlt (digN16_no hdv)
        have HR : Hid (false = okC c) := (okC_no fun x => by rw [x.2.2.2.2.1] at hf; cases hf).symm
        have hdv' : digV (c.dg[k].toNat : Int) < 0 := by omega
        clear hall hf
        go_wp2_with (go_at_call 167; refine (specHexV _ _).mono ?_; rintro e w' ⟨rfl, hw'⟩; obtain rfl := hw'.symm; clear hw')
        go_ret
        exact ⟨ret_bool HR.out, (Below.refl _ w).alloc (Nat.le_refl _) _⟩
    · have h5 : true = allB (digN 16) c.dg.data.toList := allB_end hlt hall.out
      obtain rfl : k = c.dg.size := by omega
      have HF : Hid (∀ (h6 : c.st = 1 → c.lf = 0) (h7 : c.st ≠ 1 → c.dg.size = 0) (h8 : c.st = 3 → 0 < c.lf) (h9 : c.st ≠ 2 → c.st ≠ 3 → c.lf = 0), true = okC c) := okP_leaf h1 h2 (by omega) (by omega) h5
      clear h5 hall
      by_cases s1 : c.st = 1
      · by_cases hl : c.lf = 0
        · have hbe : (c.lf == 0) = true := by simp [hl]
          have HR : Hid (true = okC c) := HF.out (fun _ => hl) (fun x => absurd s1 x) (fun x => by omega) (fun _ _ => hl)
          clear HF
          go_wp2
          go_ret
          exact ⟨ret_bool HR.out, (Below.refl _ w).alloc (Nat.le_refl _) _⟩
        · have hbe : (c.lf == 0) = false := by simpa using hl
          have HR : Hid (false = okC c) := (okC_no fun x => hl (x.2.2.2.2.2.1 s1)).symm
          clear HF
          go_wp2
          go_ret
          exact ⟨ret_bool HR.out, (Below.refl _ w).alloc (Nat.le_refl _) _⟩
      by_cases s2 : c.st = 2
      · by_cases hd0 : c.dg.size = 0
        · have HR : Hid (true = okC c) := HF.out (fun x => absurd x s1) (fun _ => hd0) (fun x => by omega) (fun x => absurd s2 x)
          clear HF
          have v1 := void2 hd0
          have v2 : c.dg.toList.isEmpty = true := by rw [v1]; rfl
          go_wp2
          go_ret
          exact ⟨ret_bool HR.out, (Below.refl _ w).alloc (Nat.le_refl _) _⟩
        · have HR : Hid (false = okC c) := (okC_no fun x => hd0 (x.2.2.2.2.2.2.1 s1)).symm
          clear HF
          have v1 := full' (x := c.dg) (by omega)
          have v2 : c.dg.toList.isEmpty = false := by simpa using v1
          go_wp2
          go_ret
          exact ⟨ret_bool HR.out, (Below.refl _ w).alloc (Nat.le_refl _) _⟩
      by_cases s3 : c.st = 3
      · by_cases hd0 : c.dg.size = 0
        · by_cases hl : 0 < c.lf
          · have HR : Hid (true = okC c) := HF.out (fun x => absurd x s1) (fun _ => hd0) (fun _ => hl) (fun _ x => absurd s3 x)
            clear HF
            have v1 := void2 hd0
            have v2 : c.dg.toList.isEmpty = true := by rw [v1]; rfl
            go_wp2
            go_ret
            exact ⟨ret_bool HR.out, (Below.refl _ w).alloc (Nat.le_refl _) _⟩
          · have HR : Hid (false = okC c) := (okC_no fun x => hl (x.2.2.2.2.2.2.2.1 s3)).symm
            clear HF
            have v1 := void2 hd0
            have v2 : c.dg.toList.isEmpty = true := by rw [v1]; rfl
            go_wp2
            go_ret
            exact ⟨ret_bool HR.out, (Below.refl _ w).alloc (Nat.le_refl _) _⟩
        · have HR : Hid (false = okC c) := (okC_no fun x => hd0 (x.2.2.2.2.2.2.1 s1)).symm
          clear HF
          have v1 := full' (x := c.dg) (by omega)
          have v2 : c.dg.toList.isEmpty = false := by simpa using v1
          go_wp2
          go_ret
          exact ⟨ret_bool HR.out, (Below.refl _ w).alloc (Nat.le_refl _) _⟩
      by_cases hl : c.lf = 0
      · have hbe : (c.lf == 0) = true := by simp [hl]
        by_cases hd0 : c.dg.size = 0
        · have HR : Hid (true = okC c) := HF.out (fun x => absurd x s1) (fun _ => hd0) (fun x => absurd x s3) (fun _ _ => hl)
          clear HF
          have v1 := void2 hd0
          have v2 : c.dg.toList.isEmpty = true := by rw [v1]; rfl
          go_wp2
          go_ret
          exact ⟨ret_bool HR.out, (Below.refl _ w).alloc (Nat.le_refl _) _⟩
        · have HR : Hid (false = okC c) := (okC_no fun x => hd0 (x.2.2.2.2.2.2.1 s1)).symm
          clear HF
          have v1 := full' (x := c.dg) (by omega)
          have v2 : c.dg.toList.isEmpty = false := by simpa using v1
          go_wp2
          go_ret
          exact ⟨ret_bool HR.out, (Below.refl _ w).alloc (Nat.le_refl _) _⟩
      · have hbe : (c.lf == 0) = false := by simpa using hl
        have HR : Hid (false = okC c) := (okC_no fun x => hl (x.2.2.2.2.2.2.2.2 s2 s3)).symm
        clear HF
        go_wp2
        go_ret
        exact ⟨ret_bool HR.out, (Below.refl _ w).alloc (Nat.le_refl _) _⟩
end Go.Proofs.YteibacmohplblaaGreatDoor
namespace Go.Proofs.YteibacmohplblaaGreatDoor
open Go.RowKit
set_option linter.unusedVariables false

theorem ck_eta (c : Ck) {s : Int} (h : c.st = s) : c = ⟨s, c.lf, c.dg, c.bd⟩ := by cases c; simp at h; subst h; rfl
set_option maxRecDepth 100000 in
set_option maxHeartbeats 1000000 in
theorem sEat_8 (c : Ck) (x : UInt8) (w : World) (hb : c.bd.size ≤ 100000000) (hd : c.dg.size ≤ 100000000) (hl : 0 ≤ c.lf ∧ c.lf ≤ 4000) (hs : c.st = 8) :
    Calls Tryz.prog 150 #[ckV c, .int .u8 (x.toNat : Int)] w fun e w' => e = .returned (ckV (eat1 c x)) ∧ Below w.heap.size w w' := by
  have he : eat1 c x = ⟨8, c.lf, c.dg, c.bd⟩ := (eat_end (by omega)).trans (ck_eta c hs)
  rw [he]
  clear he
  unfold ckV
  go_enter Tryz.func150, Tryz.ntmps150
  go_wp2
  refine bodyPost_ret (v := .agg #[.int .i64 (8), .int .i64 (c.lf), .string (c.dg), .string (c.bd)]) (by simp [results, Tryz.results150, go_sem]) rfl ⟨rfl, ?_⟩
  repeat (first | exact Below.refl _ _ | refine Below.alloc ?_ (by simp <;> omega) _ | refine Below.setCell ?_ (by simp <;> omega) _)
set_option maxRecDepth 100000 in
set_option maxHeartbeats 1000000 in
theorem sEat_9 (c : Ck) (x : UInt8) (w : World) (hb : c.bd.size ≤ 100000000) (hd : c.dg.size ≤ 100000000) (hl : 0 ≤ c.lf ∧ c.lf ≤ 4000) (hs : c.st = 9) :
    Calls Tryz.prog 150 #[ckV c, .int .u8 (x.toNat : Int)] w fun e w' => e = .returned (ckV (eat1 c x)) ∧ Below w.heap.size w w' := by
  have he : eat1 c x = ⟨9, c.lf, c.dg, c.bd⟩ := (eat_end (by omega)).trans (ck_eta c hs)
  rw [he]
  clear he
  unfold ckV
  go_enter Tryz.func150, Tryz.ntmps150
  go_wp2
  refine bodyPost_ret (v := .agg #[.int .i64 (9), .int .i64 (c.lf), .string (c.dg), .string (c.bd)]) (by simp [results, Tryz.results150, go_sem]) rfl ⟨rfl, ?_⟩
  repeat (first | exact Below.refl _ _ | refine Below.alloc ?_ (by simp <;> omega) _ | refine Below.setCell ?_ (by simp <;> omega) _)
set_option maxRecDepth 100000 in
set_option maxHeartbeats 1000000 in
theorem sEat_4y (c : Ck) (x : UInt8) (w : World) (hb : c.bd.size ≤ 100000000) (hd : c.dg.size ≤ 100000000) (hl : 0 ≤ c.lf ∧ c.lf ≤ 4000) (hs : c.st = 4) (hx : x.toNat = 13) :
    Calls Tryz.prog 150 #[ckV c, .int .u8 (x.toNat : Int)] w fun e w' => e = .returned (ckV (eat1 c x)) ∧ Below w.heap.size w w' := by
  have he : eat1 c x = ⟨5, c.lf, c.dg, c.bd⟩ := eat_4 hs hx
  rw [he]
  clear he
  unfold ckV
  have hx' : (x.toNat : Int) = 13 := by omega
  clear hx
  go_enter Tryz.func150, Tryz.ntmps150
  go_wp2
  refine bodyPost_ret (v := .agg #[.int .i64 (5), .int .i64 (c.lf), .string (c.dg), .string (c.bd)]) (by simp [results, Tryz.results150, go_sem]) rfl ⟨rfl, ?_⟩
  repeat (first | exact Below.refl _ _ | refine Below.alloc ?_ (by simp <;> omega) _ | refine Below.setCell ?_ (by simp <;> omega) _)
set_option maxRecDepth 100000 in
set_option maxHeartbeats 1000000 in
theorem sEat_4n (c : Ck) (x : UInt8) (w : World) (hb : c.bd.size ≤ 100000000) (hd : c.dg.size ≤ 100000000) (hl : 0 ≤ c.lf ∧ c.lf ≤ 4000) (hs : c.st = 4) (hx : x.toNat ≠ 13) :
    Calls Tryz.prog 150 #[ckV c, .int .u8 (x.toNat : Int)] w fun e w' => e = .returned (ckV (eat1 c x)) ∧ Below w.heap.size w w' := by
  have he : eat1 c x = ⟨9, 0, ⟨#[]⟩, c.bd⟩ := eat_4' hs hx
  rw [he]
  clear he
  unfold ckV
  have hx' : ¬ (x.toNat : Int) = 13 := by omega
  clear hx
  go_enter Tryz.func150, Tryz.ntmps150
  go_wp2
  refine bodyPost_ret (v := .agg #[.int .i64 (9), .int .i64 (0), .string (⟨#[]⟩), .string (c.bd)]) (by simp [results, Tryz.results150, go_sem]) rfl ⟨rfl, ?_⟩
  repeat (first | exact Below.refl _ _ | refine Below.alloc ?_ (by simp <;> omega) _ | refine Below.setCell ?_ (by simp <;> omega) _)
set_option maxRecDepth 100000 in
set_option maxHeartbeats 1000000 in
theorem sEat_5y (c : Ck) (x : UInt8) (w : World) (hb : c.bd.size ≤ 100000000) (hd : c.dg.size ≤ 100000000) (hl : 0 ≤ c.lf ∧ c.lf ≤ 4000) (hs : c.st = 5) (hx : x.toNat = 10) :
    Calls Tryz.prog 150 #[ckV c, .int .u8 (x.toNat : Int)] w fun e w' => e = .returned (ckV (eat1 c x)) ∧ Below w.heap.size w w' := by
  have he : eat1 c x = ⟨1, c.lf, c.dg, c.bd⟩ := eat_5 hs hx
  rw [he]
  clear he
  unfold ckV
  have hx' : (x.toNat : Int) = 10 := by omega
  clear hx
  go_enter Tryz.func150, Tryz.ntmps150
  go_wp2
  refine bodyPost_ret (v := .agg #[.int .i64 (1), .int .i64 (c.lf), .string (c.dg), .string (c.bd)]) (by simp [results, Tryz.results150, go_sem]) rfl ⟨rfl, ?_⟩
  repeat (first | exact Below.refl _ _ | refine Below.alloc ?_ (by simp <;> omega) _ | refine Below.setCell ?_ (by simp <;> omega) _)
set_option maxRecDepth 100000 in
set_option maxHeartbeats 1000000 in
theorem sEat_5n (c : Ck) (x : UInt8) (w : World) (hb : c.bd.size ≤ 100000000) (hd : c.dg.size ≤ 100000000) (hl : 0 ≤ c.lf ∧ c.lf ≤ 4000) (hs : c.st = 5) (hx : x.toNat ≠ 10) :
    Calls Tryz.prog 150 #[ckV c, .int .u8 (x.toNat : Int)] w fun e w' => e = .returned (ckV (eat1 c x)) ∧ Below w.heap.size w w' := by
  have he : eat1 c x = ⟨9, 0, ⟨#[]⟩, c.bd⟩ := eat_5' hs hx
  rw [he]
  clear he
  unfold ckV
  have hx' : ¬ (x.toNat : Int) = 10 := by omega
  clear hx
  go_enter Tryz.func150, Tryz.ntmps150
  go_wp2
  refine bodyPost_ret (v := .agg #[.int .i64 (9), .int .i64 (0), .string (⟨#[]⟩), .string (c.bd)]) (by simp [results, Tryz.results150, go_sem]) rfl ⟨rfl, ?_⟩
  repeat (first | exact Below.refl _ _ | refine Below.alloc ?_ (by simp <;> omega) _ | refine Below.setCell ?_ (by simp <;> omega) _)
set_option maxRecDepth 100000 in
set_option maxHeartbeats 1000000 in
theorem sEat_6y (c : Ck) (x : UInt8) (w : World) (hb : c.bd.size ≤ 100000000) (hd : c.dg.size ≤ 100000000) (hl : 0 ≤ c.lf ∧ c.lf ≤ 4000) (hs : c.st = 6) (hx : x.toNat = 13) :
    Calls Tryz.prog 150 #[ckV c, .int .u8 (x.toNat : Int)] w fun e w' => e = .returned (ckV (eat1 c x)) ∧ Below w.heap.size w w' := by
  have he : eat1 c x = ⟨7, c.lf, c.dg, c.bd⟩ := eat_6 hs hx
  rw [he]
  clear he
  unfold ckV
  have hx' : (x.toNat : Int) = 13 := by omega
  clear hx
  go_enter Tryz.func150, Tryz.ntmps150
  go_wp2
  refine bodyPost_ret (v := .agg #[.int .i64 (7), .int .i64 (c.lf), .string (c.dg), .string (c.bd)]) (by simp [results, Tryz.results150, go_sem]) rfl ⟨rfl, ?_⟩
  repeat (first | exact Below.refl _ _ | refine Below.alloc ?_ (by simp <;> omega) _ | refine Below.setCell ?_ (by simp <;> omega) _)
set_option maxRecDepth 100000 in
set_option maxHeartbeats 1000000 in
theorem sEat_6n (c : Ck) (x : UInt8) (w : World) (hb : c.bd.size ≤ 100000000) (hd : c.dg.size ≤ 100000000) (hl : 0 ≤ c.lf ∧ c.lf ≤ 4000) (hs : c.st = 6) (hx : x.toNat ≠ 13) :
    Calls Tryz.prog 150 #[ckV c, .int .u8 (x.toNat : Int)] w fun e w' => e = .returned (ckV (eat1 c x)) ∧ Below w.heap.size w w' := by
  have he : eat1 c x = ⟨9, 0, ⟨#[]⟩, c.bd⟩ := eat_6' hs hx
  rw [he]
  clear he
  unfold ckV
  have hx' : ¬ (x.toNat : Int) = 13 := by omega
  clear hx
  go_enter Tryz.func150, Tryz.ntmps150
  go_wp2
  refine bodyPost_ret (v := .agg #[.int .i64 (9), .int .i64 (0), .string (⟨#[]⟩), .string (c.bd)]) (by simp [results, Tryz.results150, go_sem]) rfl ⟨rfl, ?_⟩
  repeat (first | exact Below.refl _ _ | refine Below.alloc ?_ (by simp <;> omega) _ | refine Below.setCell ?_ (by simp <;> omega) _)
set_option maxRecDepth 100000 in
set_option maxHeartbeats 1000000 in
theorem sEat_7y (c : Ck) (x : UInt8) (w : World) (hb : c.bd.size ≤ 100000000) (hd : c.dg.size ≤ 100000000) (hl : 0 ≤ c.lf ∧ c.lf ≤ 4000) (hs : c.st = 7) (hx : x.toNat = 10) :
    Calls Tryz.prog 150 #[ckV c, .int .u8 (x.toNat : Int)] w fun e w' => e = .returned (ckV (eat1 c x)) ∧ Below w.heap.size w w' := by
  have he : eat1 c x = ⟨8, c.lf, c.dg, c.bd⟩ := eat_7 hs hx
  rw [he]
  clear he
  unfold ckV
  have hx' : (x.toNat : Int) = 10 := by omega
  clear hx
  go_enter Tryz.func150, Tryz.ntmps150
  go_wp2
  refine bodyPost_ret (v := .agg #[.int .i64 (8), .int .i64 (c.lf), .string (c.dg), .string (c.bd)]) (by simp [results, Tryz.results150, go_sem]) rfl ⟨rfl, ?_⟩
  repeat (first | exact Below.refl _ _ | refine Below.alloc ?_ (by simp <;> omega) _ | refine Below.setCell ?_ (by simp <;> omega) _)
set_option maxRecDepth 100000 in
set_option maxHeartbeats 1000000 in
theorem sEat_7n (c : Ck) (x : UInt8) (w : World) (hb : c.bd.size ≤ 100000000) (hd : c.dg.size ≤ 100000000) (hl : 0 ≤ c.lf ∧ c.lf ≤ 4000) (hs : c.st = 7) (hx : x.toNat ≠ 10) :
    Calls Tryz.prog 150 #[ckV c, .int .u8 (x.toNat : Int)] w fun e w' => e = .returned (ckV (eat1 c x)) ∧ Below w.heap.size w w' := by
  have he : eat1 c x = ⟨9, 0, ⟨#[]⟩, c.bd⟩ := eat_7' hs hx
  rw [he]
  clear he
  unfold ckV
  have hx' : ¬ (x.toNat : Int) = 10 := by omega
  clear hx
  go_enter Tryz.func150, Tryz.ntmps150
  go_wp2
  refine bodyPost_ret (v := .agg #[.int .i64 (9), .int .i64 (0), .string (⟨#[]⟩), .string (c.bd)]) (by simp [results, Tryz.results150, go_sem]) rfl ⟨rfl, ?_⟩
  repeat (first | exact Below.refl _ _ | refine Below.alloc ?_ (by simp <;> omega) _ | refine Below.setCell ?_ (by simp <;> omega) _)
set_option maxRecDepth 100000 in
set_option maxHeartbeats 1000000 in
theorem sEat_2n (c : Ck) (x : UInt8) (w : World) (hb : c.bd.size ≤ 100000000) (hd : c.dg.size ≤ 100000000) (hl : 0 ≤ c.lf ∧ c.lf ≤ 4000) (hs : c.st = 2) (hx : x.toNat ≠ 10) :
    Calls Tryz.prog 150 #[ckV c, .int .u8 (x.toNat : Int)] w fun e w' => e = .returned (ckV (eat1 c x)) ∧ Below w.heap.size w w' := by
  have he : eat1 c x = ⟨9, 0, ⟨#[]⟩, c.bd⟩ := eat_2' hs hx
  rw [he]
  clear he
  unfold ckV
  have hx' : ¬ (x.toNat : Int) = 10 := by omega
  clear hx
  go_enter Tryz.func150, Tryz.ntmps150
  go_wp2
  refine bodyPost_ret (v := .agg #[.int .i64 (9), .int .i64 (0), .string (⟨#[]⟩), .string (c.bd)]) (by simp [results, Tryz.results150, go_sem]) rfl ⟨rfl, ?_⟩
  repeat (first | exact Below.refl _ _ | refine Below.alloc ?_ (by simp <;> omega) _ | refine Below.setCell ?_ (by simp <;> omega) _)
set_option maxRecDepth 100000 in
set_option maxHeartbeats 1000000 in
theorem sEat_2y0 (c : Ck) (x : UInt8) (w : World) (hb : c.bd.size ≤ 100000000) (hd : c.dg.size ≤ 100000000) (hl : 0 ≤ c.lf ∧ c.lf ≤ 4000) (hs : c.st = 2) (hx : x.toNat = 10) (h0 : c.lf = 0) :
    Calls Tryz.prog 150 #[ckV c, .int .u8 (x.toNat : Int)] w fun e w' => e = .returned (ckV (eat1 c x)) ∧ Below w.heap.size w w' := by
  have he : eat1 c x = ⟨6, 0, c.dg, c.bd⟩ := by rw [eat_2 hs hx, if_pos h0, h0]
  rw [he]
  clear he
  unfold ckV
  have hx' : (x.toNat : Int) = 10 := by omega
  clear hx hl
  go_enter Tryz.func150, Tryz.ntmps150
  go_wp2
  refine bodyPost_ret (v := .agg #[.int .i64 (6), .int .i64 (0), .string (c.dg), .string (c.bd)]) (by simp [results, Tryz.results150, go_sem]) rfl ⟨rfl, ?_⟩
  repeat (first | exact Below.refl _ _ | refine Below.alloc ?_ (by simp <;> omega) _ | refine Below.setCell ?_ (by simp <;> omega) _)
set_option maxRecDepth 100000 in
set_option maxHeartbeats 1000000 in
theorem sEat_2y1 (c : Ck) (x : UInt8) (w : World) (hb : c.bd.size ≤ 100000000) (hd : c.dg.size ≤ 100000000) (hl : 0 ≤ c.lf ∧ c.lf ≤ 4000) (hs : c.st = 2) (hx : x.toNat = 10) (h0 : ¬ c.lf = 0) :
    Calls Tryz.prog 150 #[ckV c, .int .u8 (x.toNat : Int)] w fun e w' => e = .returned (ckV (eat1 c x)) ∧ Below w.heap.size w w' := by
  have he : eat1 c x = ⟨3, c.lf, c.dg, c.bd⟩ := by rw [eat_2 hs hx, if_neg h0]
  rw [he]
  clear he
  unfold ckV
  have hx' : (x.toNat : Int) = 10 := by omega
  clear hx
  go_enter Tryz.func150, Tryz.ntmps150
  go_wp2
  refine bodyPost_ret (v := .agg #[.int .i64 (3), .int .i64 (c.lf), .string (c.dg), .string (c.bd)]) (by simp [results, Tryz.results150, go_sem]) rfl ⟨rfl, ?_⟩
  repeat (first | exact Below.refl _ _ | refine Below.alloc ?_ (by simp <;> omega) _ | refine Below.setCell ?_ (by simp <;> omega) _)
set_option maxRecDepth 100000 in
set_option maxHeartbeats 1000000 in
theorem sEat_3a (c : Ck) (x : UInt8) (w : World) (hb : c.bd.size ≤ 100000000) (hd : c.dg.size ≤ 100000000) (hl : 0 ≤ c.lf ∧ c.lf ≤ 4000) (hs : c.st = 3) (h0 : c.lf = 1) :
    Calls Tryz.prog 150 #[ckV c, .int .u8 (x.toNat : Int)] w fun e w' => e = .returned (ckV (eat1 c x)) ∧ Below w.heap.size w w' := by
  have he : eat1 c x = ⟨4, 0, c.dg, c.bd ++ ⟨#[x]⟩⟩ := by rw [eat_3 hs, if_pos h0, h0]; rfl
  rw [he]
  clear he
  unfold ckV
  have hcv : ∀ w : World, (convert 22 9 (.slice (some ⟨w.heap.size, 0, none⟩) 1 1)).run Tryz.prog (w.alloc (.cells #[.int .u8 (x.toNat : Int)] 5)) = .ok (.string ⟨#[x]⟩) (w.alloc (.cells #[.int .u8 (x.toNat : Int)] 5)) := fun w => byte_text5 w _ x rfl
  have hcv2 := hcv (((w.alloc (.cells #[.int .i64 3, .int .i64 1, .string c.dg, .string c.bd] 138)).alloc (.cells #[.int .i64 0, .int .i64 0, .string ⟨#[]⟩, .string ⟨#[]⟩] 138)).alloc (.cells #[.int .i64 9, .int .i64 0, .string ⟨#[]⟩, .string c.bd] 138))
  rw [show (((w.alloc (.cells #[.int .i64 3, .int .i64 1, .string c.dg, .string c.bd] 138)).alloc (.cells #[.int .i64 0, .int .i64 0, .string ⟨#[]⟩, .string ⟨#[]⟩] 138)).alloc (.cells #[.int .i64 9, .int .i64 0, .string ⟨#[]⟩, .string c.bd] 138)).heap.size = w.heap.size + 1 + 1 + 1 by simp] at hcv2
  clear hcv
  clear hl
  go_enter Tryz.func150, Tryz.ntmps150
  go_wp2
  refine bodyPost_ret (v := .agg #[.int .i64 (4), .int .i64 (0), .string (c.dg), .string (c.bd ++ ⟨#[x]⟩)]) (by simp [results, Tryz.results150, go_sem]) rfl ⟨rfl, ?_⟩
  repeat (first | exact Below.refl _ _ | refine Below.alloc ?_ (by simp <;> omega) _ | refine Below.setCell ?_ (by simp <;> omega) _)
set_option maxRecDepth 100000 in
set_option maxHeartbeats 1000000 in
theorem sEat_3b (c : Ck) (x : UInt8) (w : World) (hb : c.bd.size ≤ 100000000) (hd : c.dg.size ≤ 100000000) (hl : 0 ≤ c.lf ∧ c.lf ≤ 4000) (hs : c.st = 3) (h0 : ¬ c.lf = 1) :
    Calls Tryz.prog 150 #[ckV c, .int .u8 (x.toNat : Int)] w fun e w' => e = .returned (ckV (eat1 c x)) ∧ Below w.heap.size w w' := by
  have he : eat1 c x = ⟨3, c.lf - 1, c.dg, c.bd ++ ⟨#[x]⟩⟩ := by rw [eat_3 hs, if_neg h0]
  rw [he]
  clear he
  unfold ckV
  have hcv : ∀ w : World, (convert 22 9 (.slice (some ⟨w.heap.size, 0, none⟩) 1 1)).run Tryz.prog (w.alloc (.cells #[.int .u8 (x.toNat : Int)] 5)) = .ok (.string ⟨#[x]⟩) (w.alloc (.cells #[.int .u8 (x.toNat : Int)] 5)) := fun w => byte_text5 w _ x rfl
  have hcv2 := hcv (((w.alloc (.cells #[.int .i64 3, .int .i64 c.lf, .string c.dg, .string c.bd] 138)).alloc (.cells #[.int .i64 0, .int .i64 0, .string ⟨#[]⟩, .string ⟨#[]⟩] 138)).alloc (.cells #[.int .i64 9, .int .i64 0, .string ⟨#[]⟩, .string c.bd] 138))
  rw [show (((w.alloc (.cells #[.int .i64 3, .int .i64 c.lf, .string c.dg, .string c.bd] 138)).alloc (.cells #[.int .i64 0, .int .i64 0, .string ⟨#[]⟩, .string ⟨#[]⟩] 138)).alloc (.cells #[.int .i64 9, .int .i64 0, .string ⟨#[]⟩, .string c.bd] 138)).heap.size = w.heap.size + 1 + 1 + 1 by simp] at hcv2
  clear hcv
  have hwr : IntKind.i64.wrap (c.lf - 1) = c.lf - 1 := by rw [IntKind.wrap_i64]; omega
  have h0' : ¬ c.lf - 1 = 0 := by omega
  go_enter Tryz.func150, Tryz.ntmps150
  go_wp2
  refine bodyPost_ret (v := .agg #[.int .i64 (3), .int .i64 (c.lf - 1), .string (c.dg), .string (c.bd ++ ⟨#[x]⟩)]) (by simp [results, Tryz.results150, go_sem]) rfl ⟨rfl, ?_⟩
  repeat (first | exact Below.refl _ _ | refine Below.alloc ?_ (by simp <;> omega) _ | refine Below.setCell ?_ (by simp <;> omega) _)
set_option maxRecDepth 100000 in
set_option maxHeartbeats 1000000 in
theorem sEat_1a (c : Ck) (x : UInt8) (w : World) (hb : c.bd.size ≤ 100000000) (hd : c.dg.size ≤ 100000000) (hl : 0 ≤ c.lf ∧ c.lf ≤ 4000) (hs : c.st = 1) (h0 : 0 ≤ digV (x.toNat : Int)) (h1 : c.dg.size < 13) :
    Calls Tryz.prog 150 #[ckV c, .int .u8 (x.toNat : Int)] w fun e w' => e = .returned (ckV (eat1 c x)) ∧ Below w.heap.size w w' := by
  have he : eat1 c x = ⟨1, c.lf, c.dg ++ ⟨#[x]⟩, c.bd⟩ := eat_digit hs h0 h1
  rw [he]
  clear he
  unfold ckV
  have hcv : ∀ w : World, (convert 22 9 (.slice (some ⟨w.heap.size, 0, none⟩) 1 1)).run Tryz.prog (w.alloc (.cells #[.int .u8 (x.toNat : Int)] 5)) = .ok (.string ⟨#[x]⟩) (w.alloc (.cells #[.int .u8 (x.toNat : Int)] 5)) := fun w => byte_text5 w _ x rfl
  have hcv2 := hcv (((w.alloc (.cells #[.int .i64 1, .int .i64 c.lf, .string c.dg, .string c.bd] 138)).alloc (.cells #[.int .i64 0, .int .i64 0, .string ⟨#[]⟩, .string ⟨#[]⟩] 138)).alloc (.cells #[.int .i64 9, .int .i64 0, .string ⟨#[]⟩, .string c.bd] 138))
  rw [show (((w.alloc (.cells #[.int .i64 1, .int .i64 c.lf, .string c.dg, .string c.bd] 138)).alloc (.cells #[.int .i64 0, .int .i64 0, .string ⟨#[]⟩, .string ⟨#[]⟩] 138)).alloc (.cells #[.int .i64 9, .int .i64 0, .string ⟨#[]⟩, .string c.bd] 138)).heap.size = w.heap.size + 1 + 1 + 1 by simp] at hcv2
  clear hcv
  go_enter Tryz.func150, Tryz.ntmps150
  go_wp2_with (go_at_call 167; refine (specHexV _ _).mono ?_; rintro e w' ⟨rfl, hw'⟩; obtain rfl := hw'.symm; clear hw')
  refine bodyPost_ret (v := .agg #[.int .i64 (1), .int .i64 (c.lf), .string (c.dg ++ ⟨#[x]⟩), .string (c.bd)]) (by simp [results, Tryz.results150, go_sem]) rfl ⟨rfl, ?_⟩
  repeat (first | exact Below.refl _ _ | refine Below.alloc ?_ (by simp <;> omega) _ | refine Below.setCell ?_ (by simp <;> omega) _)
end Go.Proofs.YteibacmohplblaaGreatDoor
