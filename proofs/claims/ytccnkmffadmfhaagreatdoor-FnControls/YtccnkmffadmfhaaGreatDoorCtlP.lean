/-
  Control as plain data: what is right, what is read, what it is shown as, what is tighter.
-/
import Derived.Test.YtccnkmffadmfhaaGreatDoorSpnP
import Derived.Test.YtccnkmffadmfhaaGreatDoorIntZ
namespace Go.Proofs.YtccnkmffadmfhaaGreatDoor
open Go.RowKit
set_option linter.unusedVariables false

structure Ct where
  a : Int
  s : Int
  t : Int
  ns : Bool
  nc : Bool
  pr : Bool
  mu : Bool
def ctV (c : Ct) : Value := .agg #[.int .i64 c.a, .int .i64 c.s, .int .i64 c.t, .bool c.ns, .bool c.nc, .bool c.pr, .bool c.mu]
def ctZ : Ct := ⟨0, 0, 0, false, false, false, false⟩
def ctN : Ct := ⟨-1, -1, -1, false, false, false, false⟩
def secB (n : Int) : Bool := decide (-1 ≤ n) && decide (n ≤ 1000000000)
theorem secB_iff {n : Int} : secB n = true ↔ -1 ≤ n ∧ n ≤ 1000000000 := by
  unfold secB; rw [Bool.and_eq_true, decide_eq_true_iff, decide_eq_true_iff]
def ctB (c : Ct) : Bool := secB c.a && (secB c.s && secB c.t)
theorem ctB_iff {c : Ct} : ctB c = true ↔ secB c.a = true ∧ secB c.s = true ∧ secB c.t = true := by unfold ctB; rw [Bool.and_eq_true, Bool.and_eq_true]
/-! ### What is tighter -/
def lessI (a b : Int) : Int := if a < 0 then b else if b < 0 then a else minI a b
theorem lessI_comm {a b : Int} (ha : -1 ≤ a) (hb : -1 ≤ b) : lessI a b = lessI b a := by
  unfold lessI minI; repeat' split
  all_goals omega
theorem lessI_self (a : Int) : lessI a a = a := by unfold lessI minI; repeat' split; all_goals omega
theorem lessI_abs {a b : Int} (ha : -1 ≤ a) (hb : -1 ≤ b) : lessI (lessI a b) a = lessI a b := by
  unfold lessI minI; repeat' split
  all_goals omega
theorem lessI_sec {a b : Int} (ha : secB a = true) (hb : secB b = true) : secB (lessI a b) = true := by
  rw [secB_iff] at *
  unfold lessI minI; repeat' split
  all_goals omega
theorem lessI_le {a b : Int} : lessI a b ≤ a ∨ a < 0 := by unfold lessI minI; repeat' split; all_goals omega
def tgt (a b : Ct) : Ct := ⟨lessI a.a b.a, lessI a.s b.s, lessI a.t b.t, a.ns || b.ns, a.nc || b.nc, a.pr || b.pr, a.mu || b.mu⟩
def tgtC (a b : Ct) : Ct := if ctB a = true ∧ ctB b = true then tgt a b else ctZ
theorem tgtC_yes {a b : Ct} (ha : ctB a = true) (hb : ctB b = true) : tgtC a b = tgt a b := by unfold tgtC; rw [if_pos ⟨ha, hb⟩]
theorem tgtC_no {a b : Ct} (h : ¬ (ctB a = true ∧ ctB b = true)) : tgtC a b = ctZ := by unfold tgtC; rw [if_neg h]
theorem tgt_ok {a b : Ct} (ha : ctB a = true) (hb : ctB b = true) : ctB (tgt a b) = true := by
  rw [ctB_iff] at *
  exact ⟨lessI_sec ha.1 hb.1, lessI_sec ha.2.1 hb.2.1, lessI_sec ha.2.2 hb.2.2⟩
theorem ct_low {a : Ct} (h : ctB a = true) : -1 ≤ a.a ∧ -1 ≤ a.s ∧ -1 ≤ a.t := by
  rw [ctB_iff, secB_iff, secB_iff, secB_iff] at h; exact ⟨h.1.1, h.2.1.1, h.2.2.1⟩
theorem tgtC_comm {a b : Ct} (ha : ctB a = true) (hb : ctB b = true) : tgtC b a = tgtC a b := by
  rw [tgtC_yes ha hb, tgtC_yes hb ha]
  have h1 := ct_low ha
  have h2 := ct_low hb
  unfold tgt
  rw [lessI_comm h2.1 h1.1, lessI_comm h2.2.1 h1.2.1, lessI_comm h2.2.2 h1.2.2, Bool.or_comm b.ns, Bool.or_comm b.nc, Bool.or_comm b.pr, Bool.or_comm b.mu]
theorem tgtC_self {a : Ct} (ha : ctB a = true) : tgtC a a = a := by
  rw [tgtC_yes ha ha]; unfold tgt; rw [lessI_self, lessI_self, lessI_self, Bool.or_self, Bool.or_self, Bool.or_self, Bool.or_self]
theorem tgtC_abs {a b : Ct} (ha : ctB a = true) (hb : ctB b = true) : tgtC (tgtC a b) a = tgtC a b := by
  rw [tgtC_yes ha hb, tgtC_yes (tgt_ok ha hb) ha]
  have h1 := ct_low ha
  have h2 := ct_low hb
  have hor : ∀ x y : Bool, (x || y || x) = (x || y) := by intro x y; cases x <;> cases y <;> rfl
  unfold tgt
  simp only [lessI_abs h1.1 h2.1, lessI_abs h1.2.1 h2.2.1, lessI_abs h1.2.2 h2.2.2, hor]
def nmA : ByteArray := ⟨#[109, 97, 120, 45, 97, 103, 101, 61]⟩
def nmS : ByteArray := ⟨#[115, 45, 109, 97, 120, 97, 103, 101, 61]⟩
def nmT : ByteArray := ⟨#[109, 97, 120, 45, 115, 116, 97, 108, 101, 61]⟩
def wdT : ByteArray := ⟨#[109, 97, 120, 45, 115, 116, 97, 108, 101]⟩
def wdS : ByteArray := ⟨#[110, 111, 45, 115, 116, 111, 114, 101]⟩
def wdC : ByteArray := ⟨#[110, 111, 45, 99, 97, 99, 104, 101]⟩
def wdP : ByteArray := ⟨#[112, 114, 105, 118, 97, 116, 101]⟩
def wdM : ByteArray := ⟨#[109, 117, 115, 116, 45, 114, 101, 118, 97, 108, 105, 100, 97, 116, 101]⟩
/-! ### Showing -/
def numP (name : ByteArray) (n : Int) : List ByteArray := if 0 ≤ n then [name ++ itoS n.toNat] else []
def flgP (w : ByteArray) (b : Bool) : List ByteArray := if b = true then [w] else []
def prtC (c : Ct) : List ByteArray := numP nmA c.a ++ (numP nmS c.s ++ (numP nmT c.t ++ (flgP wdS c.ns ++ (flgP wdC c.nc ++ (flgP wdP c.pr ++ flgP wdM c.mu)))))
def sep8 : ByteArray := ⟨#[44, 32]⟩
def joinC : List ByteArray → ByteArray
  | [] => ⟨#[]⟩
  | x :: l => l.foldl (fun s t => s ++ sep8 ++ t) x
def shC (c : Ct) : ByteArray := if ctB c = true then joinC (prtC c) else ⟨#[]⟩
end Go.Proofs.YtccnkmffadmfhaaGreatDoor
