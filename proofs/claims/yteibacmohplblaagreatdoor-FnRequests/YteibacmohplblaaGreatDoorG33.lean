/-
  The laws' own likeness of messages; drawn messages, whatever the code.
  The specification's decimal digits, ShowRequest and ShowResponse by their contracts.
  The specification's ShowRequest and ShowResponse by their contracts.
-/
import Derived.Test.YteibacmohplblaaGreatDoorG22
import Derived.Test.YteibacmohplblaaGreatDoorG27
import Derived.Test.YteibacmohplblaaGreatDoorG32
import Derived.Test.YteibacmohplblaaGreatDoorG12
import Derived.Test.YteibacmohplblaaGreatDoorG14
import Derived.Laws.AppendOwnNone
import Derived.Lib.QuietBelow
namespace Go.Proofs.YteibacmohplblaaGreatDoor
open Go.RowKit Go.Sort
set_option linter.unusedVariables false

set_option maxHeartbeats 1000000 in
theorem likeQ (r : Rq) (va vb : Value) (w : World) (ha : Fls w va r.l) (hb : Fls w vb r.l) (hl : r.l.length ≤ 1048576) :
    Calls Tryz.prog 15 #[rqV r va, rqV r vb] w fun e w' => e = .returned (.bool true) ∧ Below w.heap.size w w' := by
  have hfa := ha
  have hfb := hb
  obtain ⟨a, ca, rfl, _⟩ := hfa
  obtain ⟨b, cb, rfl, _⟩ := hfb
  unfold rqV
  have B0 : Below w.heap.size w ((w.alloc (.cells #[.string r.m, .string r.t, .slice a r.l.length ca, .string r.b] 26)).alloc (.cells #[.string r.m, .string r.t, .slice b r.l.length cb, .string r.b] 26)) := ((Below.refl _ w).alloc (Nat.le_refl _) _).alloc (by simp) _
  have hq := likeF _ _ r.l _ (ha.kept B0) (hb.kept B0) hl
  have P0 : Hid (RqB ((w.alloc (.cells #[.string r.m, .string r.t, .slice a r.l.length ca, .string r.b] 26)).alloc (.cells #[.string r.m, .string r.t, .slice b r.l.length cb, .string r.b] 26)) w.heap.size r (.slice a r.l.length ca)) := (RqB.new w r _ _).alloc _
  have P1 : Hid (RqB ((w.alloc (.cells #[.string r.m, .string r.t, .slice a r.l.length ca, .string r.b] 26)).alloc (.cells #[.string r.m, .string r.t, .slice b r.l.length cb, .string r.b] 26)) (w.heap.size + 1) r (.slice b r.l.length cb)) := by
    have := RqB.new (w.alloc (.cells #[.string r.m, .string r.t, .slice a r.l.length ca, .string r.b] 26)) r (.slice b r.l.length cb) 26
    rw [show (w.alloc (.cells #[.string r.m, .string r.t, .slice a r.l.length ca, .string r.b] 26)).heap.size = w.heap.size + 1 by simp] at this
    exact this
  have HB : Hid _ := B0
  have e0 := P0.out.c0
  have e1 := P0.out.c1
  have e2 := P0.out.c2
  have g0 := P1.out.c0
  have g1 := P1.out.c1
  have g2 := P1.out.c2
  clear ha hb B0
  go_enter Tryz.func15, Tryz.ntmps15
  go_wp2_with fail
  refine hq.mono ?_
  rintro e w1 ⟨rfl, hg⟩
  have S0 : Hid (RqB w1 w.heap.size r (.slice a r.l.length ca)) := P0.out.next hg.low
  have S1 : Hid (RqB w1 (w.heap.size + 1) r (.slice b r.l.length cb)) := P1.out.next hg.low
  have B1 : Hid (Below w.heap.size w w1) := past6 HB.out hg.low
  have a3 := S0.out.c3
  have b3 := S1.out.c3
  clear P0 P1 HB hg hq S0 S1
  go_wp2
  go_ret
  exact ⟨rfl, B1.out⟩
set_option maxHeartbeats 1000000 in
theorem likeS (r : Rs) (va vb : Value) (w : World) (ha : Fls w va r.l) (hb : Fls w vb r.l) (hl : r.l.length ≤ 1048576) :
    Calls Tryz.prog 27 #[rsV r va, rsV r vb] w fun e w' => e = .returned (.bool true) ∧ Below w.heap.size w w' := by
  have hfa := ha
  have hfb := hb
  obtain ⟨a, ca, rfl, _⟩ := hfa
  obtain ⟨b, cb, rfl, _⟩ := hfb
  unfold rsV
  have B0 : Below w.heap.size w ((w.alloc (.cells #[.int .i64 r.s, .slice a r.l.length ca, .string r.b] 39)).alloc (.cells #[.int .i64 r.s, .slice b r.l.length cb, .string r.b] 39)) := ((Below.refl _ w).alloc (Nat.le_refl _) _).alloc (by simp) _
  have hq := likeF _ _ r.l _ (ha.kept B0) (hb.kept B0) hl
  have P0 : Hid (RsB ((w.alloc (.cells #[.int .i64 r.s, .slice a r.l.length ca, .string r.b] 39)).alloc (.cells #[.int .i64 r.s, .slice b r.l.length cb, .string r.b] 39)) w.heap.size r (.slice a r.l.length ca)) := (RsB.new w r _ _).alloc _
  have P1 : Hid (RsB ((w.alloc (.cells #[.int .i64 r.s, .slice a r.l.length ca, .string r.b] 39)).alloc (.cells #[.int .i64 r.s, .slice b r.l.length cb, .string r.b] 39)) (w.heap.size + 1) r (.slice b r.l.length cb)) := by
    have := RsB.new (w.alloc (.cells #[.int .i64 r.s, .slice a r.l.length ca, .string r.b] 39)) r (.slice b r.l.length cb) 39
    rw [show (w.alloc (.cells #[.int .i64 r.s, .slice a r.l.length ca, .string r.b] 39)).heap.size = w.heap.size + 1 by simp] at this
    exact this
  have HB : Hid _ := B0
  have e0 := P0.out.c0
  have e1 := P0.out.c1
  have e2 := P0.out.c2
  have g0 := P1.out.c0
  have g1 := P1.out.c1
  have g2 := P1.out.c2
  clear ha hb B0
  go_enter Tryz.func27, Tryz.ntmps27
  go_wp2_with fail
  refine hq.mono ?_
  rintro e w1 ⟨rfl, hg⟩
  have S0 : Hid (RsB w1 w.heap.size r (.slice a r.l.length ca)) := P0.out.next hg.low
  have S1 : Hid (RsB w1 (w.heap.size + 1) r (.slice b r.l.length cb)) := P1.out.next hg.low
  have B1 : Hid (Below w.heap.size w w1) := past6 HB.out hg.low
  have a2 := S0.out.c2
  have b2 := S1.out.c2
  clear P0 P1 HB hg hq S0 S1
  go_wp2
  go_ret
  exact ⟨rfl, B1.out⟩


theorem Code8.up6 {w : World} {b B : Nat} {sa : Option Addr} {sl : Nat} (h : Code8 w b sa sl) (hB : b ≤ B) : Code8 w B sa sl := by
  intro j hj
  obtain ⟨g, o, z, h1, h2, h3⟩ := h j hj
  exact ⟨g, o, z, h1, by omega, h3⟩
/-- What a drawing function with a result in memory begins with. -/
theorem born6 (o : Obj) (sa : Option Addr) (sl sc : Nat) (w : World) (hc : Code8 w w.heap.size sa sl) (hl : sl ≤ 4096) :
    Calls Tryz.prog 54 #[.slice sa sl sc] (w.alloc o) fun e w' => e = .returned (.pointer (some ⟨w.heap.size + 1, 0, none⟩)) ∧ Cur w' (w.heap.size + 1) sa sl sc ∧ w'.heap[w.heap.size]? = some o ∧ Below w.heap.size w w' ∧ w.heap.size + 1 < w'.heap.size := by
  have hz : (w.alloc o).heap.size = w.heap.size + 1 := by simp
  have hb0 : Below w.heap.size w (w.alloc o) := (Below.refl _ w).alloc (Nat.le_refl _) _
  have hN := l1New sa sl sc (w.alloc o) ((hc.kept hb0 (Nat.le_refl _)).up6 (by omega)) hl
  rw [hz] at hN
  refine hN.mono ?_
  rintro e w1 ⟨rfl, h1, h2⟩
  exact ⟨rfl, h1, by rw [h2.block w.heap.size (by omega)]; exact heap_alloc_new w o, hb0.trans (h2.mono (by omega)), h1.2.2.1⟩
def zQ : Obj := .cells #[.string ⟨#[]⟩, .string ⟨#[]⟩, .slice none 0 0, .string ⟨#[]⟩] 26
set_option maxHeartbeats 1000000 in
theorem drawOkQ (sa : Option Addr) (sl sc : Nat) (w : World) (hc : Code8 w w.heap.size sa sl) (hl : sl ≤ 4096) :
    Calls Tryz.prog 36 #[.slice sa sl sc] w fun e w' => (∃ r u, e = .returned (rqV r u) ∧ OwnsF w' w.heap.size u r.l ∧ SmallQ r) ∧ Below w.heap.size w w' := by
  have hN := born6 (.cells #[.string ⟨#[]⟩, .string ⟨#[]⟩, .slice none 0 0, .string ⟨#[]⟩] 26) sa sl sc w hc hl
  clear hc
  go_enter Tryz.func36, Tryz.ntmps36
  go_wp2_with fail
  refine hN.mono ?_
  rintro e w1 ⟨rfl, hc1, r1, B1, z1⟩
  clear hN
  go_wp2_with fail
  refine (l6DrawQ (w.heap.size + 1) sa sl sc w1 hc1).mono ?_
  rintro e w2 ⟨⟨r, u, rfl, ho2, hsm⟩, hc2, hb2⟩
  have r2 := hb2.at (by omega) r1
  obtain ⟨d0, d1, d2, d3, df⟩ := box4 r2
  have B2 : Hid (Below w.heap.size w w2) := B1.trans (hb2.low (by omega) B1.size)
  obtain ⟨A5, cap5, rfl, _⟩ := ho2.form
  have HO : Hid (OwnsF w2 (w.heap.size + 1) (.slice A5 r.l.length cap5) r.l) := ho2.low (by omega)
  unfold rqV
  clear r1 r2 hc1 hc2 hb2 ho2 B1
  go_wp2
  refine bodyPost_ret (v := .agg #[.string r.m, .string r.t, .slice A5 r.l.length cap5, .string r.b]) (by simp [results, Tryz.results36, go_sem, d0, d1, d2, d3]) rfl ⟨⟨r, .slice A5 r.l.length cap5, rfl, ?_, hsm⟩, ?_⟩
  · refine OwnsF.low (B := w.heap.size + 1) ?_ (by omega)
    repeat (with_reducible refine OwnsF.farG ?_ ?_ _; rotate_left; omega)
    exact HO.out
  · repeat (refine Below.setCell ?_ (by simp) _)
    exact B2.out
set_option maxHeartbeats 1000000 in
theorem drawShQ (sa : Option Addr) (sl sc : Nat) (w : World) (hc : Code8 w w.heap.size sa sl) (hl : sl ≤ 4096) :
    Calls Tryz.prog 8 #[.slice sa sl sc] w fun e w' => (∃ r u, e = .returned (rqV r u) ∧ OwnsF w' w.heap.size u r.l ∧ SmallQ r) ∧ Below w.heap.size w w' := by
  have hb0 : Below w.heap.size w (w.alloc (.cells #[.string ⟨#[]⟩, .string ⟨#[]⟩, .slice none 0 0, .string ⟨#[]⟩] 26)) := (Below.refl _ w).alloc (Nat.le_refl _) _
  have hN := drawOkQ sa sl sc (w.alloc (.cells #[.string ⟨#[]⟩, .string ⟨#[]⟩, .slice none 0 0, .string ⟨#[]⟩] 26)) ((hc.kept hb0 (Nat.le_refl _)).up6 hb0.size) hl
  rw [show (w.alloc (.cells #[.string ⟨#[]⟩, .string ⟨#[]⟩, .slice none 0 0, .string ⟨#[]⟩] 26)).heap.size = w.heap.size + 1 by simp] at hN
  clear hc
  go_enter Tryz.func8, Tryz.ntmps8
  go_wp2_with fail
  refine hN.mono ?_
  rintro e w2 ⟨⟨r, u, rfl, ho2, hsm⟩, hb2⟩
  have r2 : w2.heap[w.heap.size]? = some (.cells #[.string ⟨#[]⟩, .string ⟨#[]⟩, .slice none 0 0, .string ⟨#[]⟩] 26) := by rw [hb2.block w.heap.size (by omega)]; exact heap_alloc_new w _
  obtain ⟨d0, d1, d2, d3, df⟩ := box4 r2
  have B2 : Hid (Below w.heap.size w w2) := hb0.trans (hb2.mono (by omega))
  obtain ⟨A5, cap5, rfl, _⟩ := ho2.form
  have HO : Hid (OwnsF w2 (w.heap.size + 1) (.slice A5 r.l.length cap5) r.l) := ho2
  unfold rqV
  clear r2 hb2 ho2 hN hb0
  go_wp2
  refine bodyPost_ret (v := .agg #[.string r.m, .string r.t, .slice A5 r.l.length cap5, .string r.b]) (by simp [results, Tryz.results8, go_sem, d0, d1, d2, d3]) rfl ⟨⟨r, .slice A5 r.l.length cap5, rfl, ?_, hsm⟩, ?_⟩
  · refine OwnsF.low (B := w.heap.size + 1) ?_ (by omega)
    repeat (with_reducible refine OwnsF.farG ?_ ?_ _; rotate_left; omega)
    exact HO.out
  · repeat (refine Below.setCell ?_ (by simp) _)
    exact B2.out
set_option maxHeartbeats 1000000 in
theorem drawOkS (sa : Option Addr) (sl sc : Nat) (w : World) (hc : Code8 w w.heap.size sa sl) (hl : sl ≤ 4096) :
    Calls Tryz.prog 73 #[.slice sa sl sc] w fun e w' => (∃ r u, e = .returned (rsV r u) ∧ OwnsF w' w.heap.size u r.l ∧ SmallS r) ∧ Below w.heap.size w w' := by
  have hN := born6 (.cells #[.int .i64 0, .slice none 0 0, .string ⟨#[]⟩] 39) sa sl sc w hc hl
  clear hc
  go_enter Tryz.func73, Tryz.ntmps73
  go_wp2_with fail
  refine hN.mono ?_
  rintro e w1 ⟨rfl, hc1, r1, B1, z1⟩
  clear hN
  go_wp2_with fail
  refine (l6DrawS (w.heap.size + 1) sa sl sc w1 hc1).mono ?_
  rintro e w2 ⟨⟨r, u, rfl, ho2, hsm⟩, hc2, hb2⟩
  have r2 := hb2.at (by omega) r1
  obtain ⟨d0, d1, d2, df⟩ := box3 r2
  have B2 : Hid (Below w.heap.size w w2) := B1.trans (hb2.low (by omega) B1.size)
  obtain ⟨A5, cap5, rfl, _⟩ := ho2.form
  have HO : Hid (OwnsF w2 (w.heap.size + 1) (.slice A5 r.l.length cap5) r.l) := ho2.low (by omega)
  unfold rsV
  clear r1 r2 hc1 hc2 hb2 ho2 B1
  go_wp2
  refine bodyPost_ret (v := .agg #[.int .i64 r.s, .slice A5 r.l.length cap5, .string r.b]) (by simp [results, Tryz.results73, go_sem, d0, d1, d2]) rfl ⟨⟨r, .slice A5 r.l.length cap5, rfl, ?_, hsm⟩, ?_⟩
  · refine OwnsF.low (B := w.heap.size + 1) ?_ (by omega)
    repeat (with_reducible refine OwnsF.farG ?_ ?_ _; rotate_left; omega)
    exact HO.out
  · repeat (refine Below.setCell ?_ (by simp) _)
    exact B2.out
set_option maxHeartbeats 1000000 in
theorem drawShS (sa : Option Addr) (sl sc : Nat) (w : World) (hc : Code8 w w.heap.size sa sl) (hl : sl ≤ 4096) :
    Calls Tryz.prog 21 #[.slice sa sl sc] w fun e w' => (∃ r u, e = .returned (rsV r u) ∧ OwnsF w' w.heap.size u r.l ∧ SmallS r) ∧ Below w.heap.size w w' := by
  have hb0 : Below w.heap.size w (w.alloc (.cells #[.int .i64 0, .slice none 0 0, .string ⟨#[]⟩] 39)) := (Below.refl _ w).alloc (Nat.le_refl _) _
  have hN := drawOkS sa sl sc (w.alloc (.cells #[.int .i64 0, .slice none 0 0, .string ⟨#[]⟩] 39)) ((hc.kept hb0 (Nat.le_refl _)).up6 hb0.size) hl
  rw [show (w.alloc (.cells #[.int .i64 0, .slice none 0 0, .string ⟨#[]⟩] 39)).heap.size = w.heap.size + 1 by simp] at hN
  clear hc
  go_enter Tryz.func21, Tryz.ntmps21
  go_wp2_with fail
  refine hN.mono ?_
  rintro e w2 ⟨⟨r, u, rfl, ho2, hsm⟩, hb2⟩
  have r2 : w2.heap[w.heap.size]? = some (.cells #[.int .i64 0, .slice none 0 0, .string ⟨#[]⟩] 39) := by rw [hb2.block w.heap.size (by omega)]; exact heap_alloc_new w _
  obtain ⟨d0, d1, d2, df⟩ := box3 r2
  have B2 : Hid (Below w.heap.size w w2) := hb0.trans (hb2.mono (by omega))
  obtain ⟨A5, cap5, rfl, _⟩ := ho2.form
  have HO : Hid (OwnsF w2 (w.heap.size + 1) (.slice A5 r.l.length cap5) r.l) := ho2
  unfold rsV
  clear r2 hb2 ho2 hN hb0
  go_wp2
  refine bodyPost_ret (v := .agg #[.int .i64 r.s, .slice A5 r.l.length cap5, .string r.b]) (by simp [results, Tryz.results21, go_sem, d0, d1, d2]) rfl ⟨⟨r, .slice A5 r.l.length cap5, rfl, ?_, hsm⟩, ?_⟩
  · refine OwnsF.low (B := w.heap.size + 1) ?_ (by omega)
    repeat (with_reducible refine OwnsF.farG ?_ ?_ _; rotate_left; omega)
    exact HO.out
  · repeat (refine Below.setCell ?_ (by simp) _)
    exact B2.out
end Go.Proofs.YteibacmohplblaaGreatDoor
namespace Go.Proofs.YteibacmohplblaaGreatDoor
open Go.RowKit Go.Sort
set_option linter.unusedVariables false

theorem decS_is {n : Nat} {x : ByteArray} (h : numF 8 n = x.data.toList) : x = decS n := by
  unfold decS
  have : x.data = (numF 8 n).toArray := Array.ext' (by rw [h])
  cases x
  exact congrArg _ this
theorem byte_text6 (w : World) (n : Int) (c : UInt8) (h : n = (c.toNat : Int)) : (convert 22 9 (.slice (some ⟨w.heap.size, 0, none⟩) 1 1)).run Tryz.prog (w.alloc (.cells #[.int .u8 n] 5)) = .ok (.string ⟨#[c]⟩) (w.alloc (.cells #[.int .u8 n] 5)) := by
  subst h
  exact OwnsB.text (OwnsB.one w c)
theorem dec_cat (c : UInt8) (x : ByteArray) : ((⟨#[c]⟩ : ByteArray) ++ x).data.toList = c :: x.data.toList := by rw [add_list]; rfl
theorem num_byte {d : Nat} (h : d < 10) : ((numB d).toNat : Int) = 48 + (d : Int) := by
  have k : ∀ j : Fin 10, ((numB j.val).toNat : Int) = 48 + (j.val : Int) := by decide +kernel
  exact k ⟨d, h⟩
def decMu (a b : Value) : Nat := 2 * (intOf a).toNat + (match b with | .string s => if s.size = 0 then 1 else 0 | _ => 0)
/-- How digits are written one by one. -/
def DecAt (n m : Nat) (x : ByteArray) : Prop := (0 < x.size ∧ m = 0 ∧ numF 8 n = x.data.toList) ∨ ((x.size = 0 ∨ 0 < m) ∧ ∃ f, f + x.data.toList.length = 8 ∧ m < 10 ^ (f + 1) ∧ numF 8 n = numF f m ++ x.data.toList)
theorem DecAt.size {n m : Nat} {x : ByteArray} (h : DecAt n m x) : x.size ≤ 9 := by
  have h3 : x.data.toList.length = x.size := by simp
  rcases h with ⟨_, _, h⟩ | ⟨_, f, h, _⟩
  · have := numF_length 8 n
    rw [h] at this
    omega
  · omega
theorem DecAt.next {n m : Nat} {x : ByteArray} (h : DecAt n m x) (h2 : x.size = 0 ∨ 0 < m) : DecAt n (m / 10) ((⟨#[numB (m % 10)]⟩ : ByteArray) ++ x) := by
  have h3 : x.data.toList.length = x.size := by simp
  have hs : ((⟨#[numB (m % 10)]⟩ : ByteArray) ++ x).size = 1 + x.size := by rw [ByteArray.size_append]; rfl
  have key : ∀ f, f + x.data.toList.length = 8 → m < 10 ^ (f + 1) → numF 8 n = numF f m ++ x.data.toList → DecAt n (m / 10) ((⟨#[numB (m % 10)]⟩ : ByteArray) ++ x) := by
    intro f hf hm he
    by_cases h10 : m < 10
    · rw [numF_small f m h10] at he
      refine .inl ⟨by omega, by omega, ?_⟩
      rw [he, dec_cat, Nat.mod_eq_of_lt h10]
      rfl
    · cases f with
      | zero => simp at hm; omega
      | succ f =>
        refine .inr ⟨.inr (by omega), f, ?_, ?_, ?_⟩
        · rw [dec_cat, List.length_cons]; omega
        · rw [Nat.pow_succ] at hm
          exact Nat.div_lt_of_lt_mul (by rw [Nat.mul_comm]; exact hm)
        · rw [he, numF_step f m h10, dec_cat]; simp
  rcases h with ⟨h1, h0, he⟩ | ⟨_, f, hf, hm, he⟩
  · omega
  · exact key f hf hm he

set_option maxHeartbeats 1000000 in
theorem specInt (n : Nat) (w : World) (hn : n ≤ 100000000) :
    Calls Tryz.prog 76 #[.int .i64 (n : Int)] w fun e w' => e = .returned (.string (decS n)) ∧ Below w.heap.size w w' := by
  have H0 : Hid (DecAt n n ⟨#[]⟩) := .inr ⟨.inl rfl, 8, rfl, by omega, by show numF 8 n = numF 8 n ++ []; rw [List.append_nil]⟩
  have hneg : decide ((n : Int) < 0) = false := by simp
  go_enter Tryz.func76, Tryz.ntmps76
  go_wp2
  go_loopw [0, 3, 5] (fun a b _ wr => ∃ (m : Nat) (x : ByteArray), a = .int .i64 m ∧ b = .string x ∧ m ≤ 100000000 ∧ Hid (DecAt n m x) ∧ Hid (Below w.heap.size w wr)) (fun a b _ _ => decMu a b)
  case atStart => exact ⟨n, ⟨#[]⟩, rfl, rfl, hn, H0, Below.refl _ _⟩
  case round =>
    obtain ⟨m, x, rfl, rfl, hm, hx, hb⟩ := hrel
    have hxs := hx.out.size
    have hmod : m % 10 < 10 := Nat.mod_lt _ (by decide)
    by_cases hend : 0 < x.size ∧ m = 0
    · obtain ⟨h1, rfl⟩ := hend
      have hfe : x.toList.isEmpty = false := by rw [void_emp]; exact decide_eq_false (by omega)
      have HX : Hid (x = decS n) := by
        rcases hx.out with ⟨_, _, h⟩ | ⟨h | h, _⟩
        · exact decS_is h
        · omega
        · omega
      clear hx
      go_wp2
      go_ret
      exact ⟨ret_strT HX.out, hb.out⟩
    · have hc : x.size = 0 ∨ 0 < m := by omega
      have HN : Hid (DecAt n (m / 10) ((⟨#[numB (m % 10)]⟩ : ByteArray) ++ x)) := hx.out.next hc
      have hby := num_byte hmod
      obtain ⟨q, hq⟩ : ∃ q, m % 10 = q := ⟨_, rfl⟩
      obtain ⟨p, hp⟩ : ∃ p, m / 10 = p := ⟨_, rfl⟩
      rw [hq] at HN hby hmod
      rw [hp] at HN
      have hpq : m = 10 * p + q := by omega
      have e3 : (m : Int) % 10 = (q : Int) := by omega
      have e4 : (m : Int) / 10 = (p : Int) := by omega
      have e1 : (m : Int).tmod 10 = (q : Int) := by rw [Int.tmod_eq_emod_of_nonneg (by omega)]; exact e3
      have e2 : (m : Int).tdiv 10 = (p : Int) := by rw [Int.tdiv_eq_ediv_of_nonneg (by omega)]; exact e4
      have d1 : ¬ (q : Int) < 0 := by omega
      have hwr : IntKind.u8.wrap (48 + (q : Int)) = 48 + (q : Int) := by rw [show IntKind.u8.wrap (48 + (q : Int)) = (48 + (q : Int)) % 256 from rfl]; omega
      have htx := fun W => byte_text6 W (48 + (q : Int)) (numB q) hby.symm
      have hsz : ((⟨#[numB q]⟩ : ByteArray) ++ x).size = 1 + x.size := by rw [ByteArray.size_append]; rfl
      have hsz1 : (⟨#[numB q]⟩ : ByteArray).size = 1 := rfl
      have HM : Hid (decMu (.int .i64 (p : Int)) (.string ((⟨#[numB q]⟩ : ByteArray) ++ x)) < decMu (.int .i64 (m : Int)) (.string x)) := by
        show 2 * (p : Int).toNat + (if ((⟨#[numB q]⟩ : ByteArray) ++ x).size = 0 then 1 else 0) < 2 * (m : Int).toNat + (if x.size = 0 then 1 else 0)
        rw [hsz, if_neg (by omega), Int.toNat_natCast, Int.toNat_natCast]
        rcases hc with hc | hc
        · rw [if_pos hc]; omega
        · omega
      have HP : Hid (p ≤ 100000000) := by show p ≤ 100000000; omega
      clear hby hx hend hq hp hpq
      generalize numB q = c at HN htx hsz HM hsz1
      by_cases hv : x.size = 0
      · have hfe : x.toList.isEmpty = true := by rw [void_emp]; exact decide_eq_true hv
        go_wp2
        go_roundw
        case rel => exact ⟨p, _, rfl, rfl, HP.out, HN, hb.out.alloc hb.out.size _⟩
        case measure => exact HM.out
      · have hfe : x.toList.isEmpty = false := by rw [void_emp]; exact decide_eq_false hv
        have hne : ((m : Int) != 0) = true := by simp; omega
        have hne2 : ¬ (m : Int) = 0 := by omega
        go_wp2
        go_roundw
        case rel => exact ⟨p, _, rfl, rfl, HP.out, HN, hb.out.alloc hb.out.size _⟩
        case measure => exact HM.out

theorem cells_off (l : List Fl) {w : World} {g o : Nat} (hc : ∀ j (hj : j < l.length), w.cell? ⟨g, o + j * 2, none⟩ = some (.string l[j].1) ∧ w.cell? ⟨g, o + j * 2 + 1, none⟩ = some (.string l[j].2)) : ∀ j u, (cellsF l)[j]? = some u → w.cell? ((⟨g, o, none⟩ : Addr).add j) = some u := by
  intro j u hu
  have hj : j < (cellsF l).length := (List.getElem?_eq_some_iff.1 hu).1
  rw [cellsF_length] at hj
  rw [addr_add, ← hu]
  obtain ⟨c1, c2⟩ := cellsF_at l (j / 2) (by omega)
  obtain ⟨d1, d2⟩ := hc (j / 2) (by omega)
  have h2 : j = j / 2 * 2 ∨ j = j / 2 * 2 + 1 := by omega
  rcases h2 with h2 | h2
  · rw [h2, c1]; exact d1
  · rw [h2, c2]; exact d2
theorem grown_self6 (w : World) (r : Option Nat) : w.grownBy w r := ⟨rfl, rfl, rfl, Nat.le_refl _, fun _ _ _ => rfl⟩
/-- Fields that came in appended to fields of the call's own. -/
theorem wpList_joinF {ops : Array Oper} {rest : List Oper} {o : Oper} {a : Act} {Q : Exit → Act → World → Prop} (w : World) (hgd : o.guard = none) (s x : Operand)
    (ho : o.op = .call { callee := .builtin .append, args := #[s, x], argTypes := #[24, 24] }) (B : Nat) (v vx : Value) (l m : List Fl) (hs : a.eval s = v) (hown : OwnsF w B v l)
    (hx : a.eval x = vx) (hm : Fls w vx m) (hsol : Solid vx) (hlen : l.length + m.length ≤ 1000000) (hB : B ≤ w.heap.size)
    (h : ∀ v' w', OwnsF w' B v' (l ++ m) → w.grownBy w' v.ownBlock → wpList Tryz.prog ops Q rest (a.put o.dst v') w') :
    wpList Tryz.prog ops Q (o :: rest) a w := by
  obtain ⟨i0, hi, hz0, hz1, hz2⟩ := info_parts Tryz.infoF
  obtain ⟨ax, cap, rfl, h1, h2, h3⟩ := hm
  have key : ∀ A : Addr, ax = some A → (∀ j u, (cellsF m)[j]? = some u → w.cell? (A.add j) = some u) → wpList Tryz.prog ops Q (o :: rest) a w := by
    intro A hA hc
    subst hA
    refine wpList_append_own _ hgd s x 24 ho B 81 i0 (.agg #[.string ⟨#[]⟩, .string ⟨#[]⟩]) 2 32 Tryz.underlying24 hi hz0 hz1 hz2 rfl (by decide) v l.length (cellsF l) hs hown A m.length cap (cellsF m) hx (cellsF_length m) hc
      (cellsF_one m) (by unfold maxLen; omega) (by omega) hB ?_
    intro v' w' g1 g2 _
    refine h v' w' ?_ g2
    unfold OwnsF
    rw [cellsF_append, List.length_append]
    exact g1
  by_cases h0 : 0 < m.length
  · obtain ⟨g, o', rfl, hg, hc⟩ := h3 h0
    exact key _ rfl (cells_off m hc)
  · have hm0 : m = [] := List.eq_nil_of_length_eq_zero (by omega)
    subst hm0
    cases ax with
    | none =>
      obtain rfl : cap = 0 := hsol _ _ rfl
      refine wpList_append_own_none hgd s x 24 ho B 81 i0 2 Tryz.underlying24 hi v l.length (cellsF l) hs hown hx ?_
      exact h v w (by rw [List.append_nil]; exact hown) (grown_self6 _ _)
    | some A => exact key A rfl (fun j u hu => by simp [cellsF] at hu)
end Go.Proofs.YteibacmohplblaaGreatDoor
namespace Go.Proofs.YteibacmohplblaaGreatDoor
open Go.RowKit Go.Sort
set_option linter.unusedVariables false

theorem showL_small {l : List Fl} (h : fldsOk l = true) : (⟨(showL l).toArray⟩ : ByteArray).size ≤ 20000 := by
  obtain ⟨h1, h2⟩ := fldsOk_parts h
  have := showL_length l h2 l.length (Nat.le_refl _)
  rw [List.take_length] at this
  show (showL l).toArray.size ≤ 20000
  simp
  omega
theorem msgA_yes {first : ByteArray} {l : List Fl} {b : ByteArray} {tell : Bool} (h : (addL l b tell).length ≤ 30) : first ++ (⟨#[13, 10]⟩ : ByteArray) ++ ⟨(showL (addL l b tell)).toArray⟩ ++ (⟨#[13, 10]⟩ : ByteArray) ++ b = msgA first l b tell := by
  unfold msgA
  rw [if_pos h]
  refine ba_ext ?_
  rw [add_list, add_list, add_list, add_list]
  simp [msgL]
theorem msgA_no {first : ByteArray} {l : List Fl} {b : ByteArray} {tell : Bool} (h : ¬ (addL l b tell).length ≤ 30) : (⟨#[]⟩ : ByteArray) = msgA first l b tell := by unfold msgA; rw [if_neg h]
theorem addL_f (l : List Fl) (b : ByteArray) : addL l b false = l := rfl
theorem addL_t (l : List Fl) (b : ByteArray) : addL l b true = l ++ [(clS, decS b.size)] := rfl
theorem OwnsF.nil_app {w : World} {B : Nat} {v : Value} {l : List Fl} (h : OwnsF w B v ([] ++ l)) : OwnsF w B v l := h
set_option maxHeartbeats 2000000 in
theorem specMsg (first : ByteArray) (v : Value) (l : List Fl) (b : ByteArray) (bare always : Bool) (w : World) (h : Fits w v l) (hown : ownB l = true) (hf : first.size ≤ 100000) (hb : b.size ≤ 4000) :
    Calls Tryz.prog 38 #[.string first, v, .string b, .bool bare, .bool always] w fun e w' => e = .returned (.string (msgA first l b (!bare && (decide (b.size ≠ 0) || always)))) ∧ Below w.heap.size w w' := by
  have hsol := h.2.2.2
  have hll := h.2.2.1
  have hfl : Fls (w.alloc (.cells #[] 81)) v l := h.1.kept ((Below.refl _ w).alloc (Nat.le_refl _) _)
  have hl0 : l.length ≤ 30 := (fldsOk_parts (ownB_parts hown).1).1
  obtain ⟨a, cap, rfl, hcap⟩ := h.1
  clear hcap h
  have HL : Hid (Fls (w.alloc (.cells #[] 81)) (.slice a l.length cap) l) := hfl
  have HS : Hid (Solid (.slice a l.length cap)) := hsol
  have HW : Hid (ownB l = true) := hown
  clear hfl hsol hown
  have HB0 : Hid (Below w.heap.size w (w.alloc (.cells #[] 81))) := (Below.refl _ w).alloc (Nat.le_refl _) _
  cases bare with
  | true =>
    have ht : (!true && (decide (b.size ≠ 0) || always)) = false := rfl
    rw [ht]
    clear ht
    have hlen : l.length ≤ 30 := hl0
    have hok : Hid (fldsOk (l) = true) := (ownB_parts HW.out).1
    have hsh : Hid (∀ (W : World) (B : Nat) (u : Value), OwnsF W B u (l) → Calls Tryz.prog 89 #[u] W fun e w' => e = .returned (.string ⟨(showL (l)).toArray⟩) ∧ Below W.heap.size W w') := fun W B u ho => specShowL u (l) W ho.fls hok.out
    have HT : Hid (first ++ (⟨#[13, 10]⟩ : ByteArray) ++ ⟨(showL (l)).toArray⟩ ++ (⟨#[13, 10]⟩ : ByteArray) ++ b = msgA first l b false) := msgA_yes (tell := false) hlen
    have hz := showL_small hok.out
    generalize msgA first l b false = M at HT ⊢
    generalize (⟨(showL (l)).toArray⟩ : ByteArray) = p at hsh HT hz
    have q1 : (first ++ (⟨#[13, 10]⟩ : ByteArray)).size = first.size + 2 := by rw [ByteArray.size_append]; rfl
    have q2 : (first ++ (⟨#[13, 10]⟩ : ByteArray) ++ p).size = first.size + 2 + p.size := by rw [ByteArray.size_append, q1]
    have q3 : (first ++ (⟨#[13, 10]⟩ : ByteArray) ++ p ++ (⟨#[13, 10]⟩ : ByteArray)).size = first.size + 2 + p.size + 2 := by rw [ByteArray.size_append, q2]; rfl
    have x1 : ¬ 9223372036854775807 < first.size + 2 := by omega
    have x2 : ¬ 9223372036854775807 < first.size + 2 + p.size := by omega
    have x3 : ¬ 9223372036854775807 < first.size + 2 + p.size + 2 := by omega
    have x4 : ¬ 9223372036854775807 < first.size + 2 + p.size + 2 + b.size := by omega
    clear hz hok
    go_enter Tryz.func38, Tryz.ntmps38
    go_wp2_with (first
      | (go_at_call 89; refine (hsh.out _ _ _ O1.out).mono ?_; rintro e w9 ⟨rfl, hb9⟩)
      | (at_builtin; refine wpList_joinF _ rfl (.tmp 12) (.tmp 13) rfl w.heap.size _ _ [] l rfl (OwnsF.born w) rfl HL.out HS.out (by simp; omega) (by simp) ?_; intro v1 w1 ho1 hg1; have O1 : Hid (OwnsF w1 w.heap.size v1 l) := ho1.nil_app; have B1 : Hid (Below w.heap.size w w1) := HB0.out.grown hg1 (by simp) (OwnsF.from (OwnsF.born w)); clear ho1 hg1; obtain ⟨A1, cap1, rfl, hcl1, hcm1⟩ := O1.out.form; unfold maxLen at hcm1))
    go_ret
    exact ⟨ret_strT HT.out, past6 B1.out hb9⟩
  | false =>
    by_cases hbz : b.size = 0
    · have hbe : b.toList.isEmpty = true := by rw [void_emp]; exact decide_eq_true hbz
      have hbl : b.toList = [] := by simpa using hbe
      cases always with
      | false =>
        have ht : (!false && (decide (b.size ≠ 0) || false)) = false := by rw [hbz]; rfl
        rw [ht]
        clear ht
        have hlen : l.length ≤ 30 := hl0
        have hok : Hid (fldsOk (l) = true) := (ownB_parts HW.out).1
        have hsh : Hid (∀ (W : World) (B : Nat) (u : Value), OwnsF W B u (l) → Calls Tryz.prog 89 #[u] W fun e w' => e = .returned (.string ⟨(showL (l)).toArray⟩) ∧ Below W.heap.size W w') := fun W B u ho => specShowL u (l) W ho.fls hok.out
        have HT : Hid (first ++ (⟨#[13, 10]⟩ : ByteArray) ++ ⟨(showL (l)).toArray⟩ ++ (⟨#[13, 10]⟩ : ByteArray) ++ b = msgA first l b false) := msgA_yes (tell := false) hlen
        have hz := showL_small hok.out
        generalize msgA first l b false = M at HT ⊢
        generalize (⟨(showL (l)).toArray⟩ : ByteArray) = p at hsh HT hz
        have q1 : (first ++ (⟨#[13, 10]⟩ : ByteArray)).size = first.size + 2 := by rw [ByteArray.size_append]; rfl
        have q2 : (first ++ (⟨#[13, 10]⟩ : ByteArray) ++ p).size = first.size + 2 + p.size := by rw [ByteArray.size_append, q1]
        have q3 : (first ++ (⟨#[13, 10]⟩ : ByteArray) ++ p ++ (⟨#[13, 10]⟩ : ByteArray)).size = first.size + 2 + p.size + 2 := by rw [ByteArray.size_append, q2]; rfl
        have x1 : ¬ 9223372036854775807 < first.size + 2 := by omega
        have x2 : ¬ 9223372036854775807 < first.size + 2 + p.size := by omega
        have x3 : ¬ 9223372036854775807 < first.size + 2 + p.size + 2 := by omega
        have x4 : ¬ 9223372036854775807 < first.size + 2 + p.size + 2 + b.size := by omega
        clear hz hok
        go_enter Tryz.func38, Tryz.ntmps38
        go_wp2_with (first
          | (go_at_call 89; refine (hsh.out _ _ _ O1.out).mono ?_; rintro e w9 ⟨rfl, hb9⟩)
          | (at_builtin; refine wpList_joinF _ rfl (.tmp 12) (.tmp 13) rfl w.heap.size _ _ [] l rfl (OwnsF.born w) rfl HL.out HS.out (by simp; omega) (by simp) ?_; intro v1 w1 ho1 hg1; have O1 : Hid (OwnsF w1 w.heap.size v1 l) := ho1.nil_app; have B1 : Hid (Below w.heap.size w w1) := HB0.out.grown hg1 (by simp) (OwnsF.from (OwnsF.born w)); clear ho1 hg1; obtain ⟨A1, cap1, rfl, hcl1, hcm1⟩ := O1.out.form; unfold maxLen at hcm1))
        go_ret
        exact ⟨ret_strT HT.out, past6 B1.out hb9⟩
      | true =>
        have ht : (!false && (decide (b.size ≠ 0) || true)) = true := by rw [hbz]; rfl
        rw [ht]
        clear ht hbz
        have hin := fun w => specInt b.size w (by omega)
        have HD : Hid (fldOk (clS, decS b.size) = true) := dec_fld (by omega)
        have hM1 := fun x => msgA_yes (first := first) (l := l) (b := b) (tell := true) x
        have hM2 := fun x => msgA_no (first := first) (l := l) (b := b) (tell := true) x
        rw [addL_t] at hM1 hM2
        generalize msgA first l b true = M at hM1 hM2 ⊢
        generalize decS b.size = ds at hM1 hM2 hin HD
        have hll1 : (l ++ [(clS, ds)]).length = l.length + 1 := by simp
        by_cases hlen : (l ++ [(clS, ds)]).length ≤ 30
        · have hok : Hid (fldsOk (l ++ [(clS, ds)]) = true) := fldsOk_snoc (ownB_parts HW.out).1 HD.out hlen
          have hsh : Hid (∀ (W : World) (B : Nat) (u : Value), OwnsF W B u (l ++ [(clS, ds)]) → Calls Tryz.prog 89 #[u] W fun e w' => e = .returned (.string ⟨(showL (l ++ [(clS, ds)])).toArray⟩) ∧ Below W.heap.size W w') := fun W B u ho => specShowL u (l ++ [(clS, ds)]) W ho.fls hok.out
          have HT : Hid (first ++ (⟨#[13, 10]⟩ : ByteArray) ++ ⟨(showL (l ++ [(clS, ds)])).toArray⟩ ++ (⟨#[13, 10]⟩ : ByteArray) ++ b = M) := hM1 hlen
          have hz := showL_small hok.out
          generalize (⟨(showL (l ++ [(clS, ds)])).toArray⟩ : ByteArray) = p at hsh HT hz
          have q1 : (first ++ (⟨#[13, 10]⟩ : ByteArray)).size = first.size + 2 := by rw [ByteArray.size_append]; rfl
          have q2 : (first ++ (⟨#[13, 10]⟩ : ByteArray) ++ p).size = first.size + 2 + p.size := by rw [ByteArray.size_append, q1]
          have q3 : (first ++ (⟨#[13, 10]⟩ : ByteArray) ++ p ++ (⟨#[13, 10]⟩ : ByteArray)).size = first.size + 2 + p.size + 2 := by rw [ByteArray.size_append, q2]; rfl
          have x1 : ¬ 9223372036854775807 < first.size + 2 := by omega
          have x2 : ¬ 9223372036854775807 < first.size + 2 + p.size := by omega
          have x3 : ¬ 9223372036854775807 < first.size + 2 + p.size + 2 := by omega
          have x4 : ¬ 9223372036854775807 < first.size + 2 + p.size + 2 + b.size := by omega
          clear hz hok
          rw [hll1] at hlen
          have HLL : Hid ((l ++ [(clS, ds)]).length = l.length + 1) := hll1
          clear hll1
          clear hM1 hM2
          go_enter Tryz.func38, Tryz.ntmps38
          go_wp2_with (first
            | (go_at_call 76; refine (hin _).mono ?_; rintro e w2 ⟨rfl, hb2⟩; have O2 : Hid (OwnsF w2 w.heap.size (.slice A1 l.length cap1) l) := O1.out.kept hb2; have B2 : Hid (Below w.heap.size w w2) := past6 B1.out hb2; clear hb2)
            | (go_at_call 89; refine (hsh.out _ _ _ O4.out).mono ?_; rintro e w9 ⟨rfl, hb9⟩)
            | (at_builtin; refine wpList_pushF _ rfl (.tmp 24) (.tmp 29) rfl w.heap.size _ l (clS, ds) rfl O2.out rfl (by omega) B2.out.size ?_; intro v3 w3 ho3 hg3; have O3 : Hid (OwnsF w3 w.heap.size v3 (l ++ [(clS, ds)])) := ho3; have B3 : Hid (Below w.heap.size w w3) := B2.out.grown hg3 B2.out.size (OwnsF.from O2.out); clear ho3 hg3; obtain ⟨A3, cap3, rfl, hcl3, hcm3⟩ := O3.out.form; unfold maxLen at hcm3; rw [HLL.out] at hcl3 ⊢; have O4 : Hid (OwnsF w3 w.heap.size (.slice A3 (l.length + 1) cap3) (l ++ [(clS, ds)])) := (by have q := O3.out; rw [HLL.out] at q; exact q))
            | (at_builtin; refine wpList_joinF _ rfl (.tmp 12) (.tmp 13) rfl w.heap.size _ _ [] l rfl (OwnsF.born w) rfl HL.out HS.out (by simp; omega) (by simp) ?_; intro v1 w1 ho1 hg1; have O1 : Hid (OwnsF w1 w.heap.size v1 l) := ho1.nil_app; have B1 : Hid (Below w.heap.size w w1) := HB0.out.grown hg1 (by simp) (OwnsF.from (OwnsF.born w)); clear ho1 hg1; obtain ⟨A1, cap1, rfl, hcl1, hcm1⟩ := O1.out.form; unfold maxLen at hcm1))
          go_ret
          exact ⟨ret_strT HT.out, past6 B3.out hb9⟩
        · have HT : Hid ((⟨#[]⟩ : ByteArray) = M) := hM2 hlen
          rw [hll1] at hlen
          have HLL : Hid ((l ++ [(clS, ds)]).length = l.length + 1) := hll1
          clear hll1
          clear hM1 hM2
          go_enter Tryz.func38, Tryz.ntmps38
          go_wp2_with (first
            | (go_at_call 76; refine (hin _).mono ?_; rintro e w2 ⟨rfl, hb2⟩; have O2 : Hid (OwnsF w2 w.heap.size (.slice A1 l.length cap1) l) := O1.out.kept hb2; have B2 : Hid (Below w.heap.size w w2) := past6 B1.out hb2; clear hb2)
            | (at_builtin; refine wpList_pushF _ rfl (.tmp 24) (.tmp 29) rfl w.heap.size _ l (clS, ds) rfl O2.out rfl (by omega) B2.out.size ?_; intro v3 w3 ho3 hg3; have O3 : Hid (OwnsF w3 w.heap.size v3 (l ++ [(clS, ds)])) := ho3; have B3 : Hid (Below w.heap.size w w3) := B2.out.grown hg3 B2.out.size (OwnsF.from O2.out); clear ho3 hg3; obtain ⟨A3, cap3, rfl, hcl3, hcm3⟩ := O3.out.form; unfold maxLen at hcm3; rw [HLL.out] at hcl3 ⊢)
            | (at_builtin; refine wpList_joinF _ rfl (.tmp 12) (.tmp 13) rfl w.heap.size _ _ [] l rfl (OwnsF.born w) rfl HL.out HS.out (by simp; omega) (by simp) ?_; intro v1 w1 ho1 hg1; have O1 : Hid (OwnsF w1 w.heap.size v1 l) := ho1.nil_app; have B1 : Hid (Below w.heap.size w w1) := HB0.out.grown hg1 (by simp) (OwnsF.from (OwnsF.born w)); clear ho1 hg1; obtain ⟨A1, cap1, rfl, hcl1, hcm1⟩ := O1.out.form; unfold maxLen at hcm1))
          go_ret
          exact ⟨ret_strT HT.out, B3.out⟩
    · have hbe : b.toList.isEmpty = false := by rw [void_emp]; exact decide_eq_false hbz
      have hbl : ¬ b.toList = [] := by simpa using hbe
      have ht : (!false && (decide (b.size ≠ 0) || always)) = true := by rw [decide_eq_true hbz]; rfl
      rw [ht]
      clear ht
      have hin := fun w => specInt b.size w (by omega)
      have HD : Hid (fldOk (clS, decS b.size) = true) := dec_fld (by omega)
      have hM1 := fun x => msgA_yes (first := first) (l := l) (b := b) (tell := true) x
      have hM2 := fun x => msgA_no (first := first) (l := l) (b := b) (tell := true) x
      rw [addL_t] at hM1 hM2
      generalize msgA first l b true = M at hM1 hM2 ⊢
      generalize decS b.size = ds at hM1 hM2 hin HD
      have hll1 : (l ++ [(clS, ds)]).length = l.length + 1 := by simp
      by_cases hlen : (l ++ [(clS, ds)]).length ≤ 30
      · have hok : Hid (fldsOk (l ++ [(clS, ds)]) = true) := fldsOk_snoc (ownB_parts HW.out).1 HD.out hlen
        have hsh : Hid (∀ (W : World) (B : Nat) (u : Value), OwnsF W B u (l ++ [(clS, ds)]) → Calls Tryz.prog 89 #[u] W fun e w' => e = .returned (.string ⟨(showL (l ++ [(clS, ds)])).toArray⟩) ∧ Below W.heap.size W w') := fun W B u ho => specShowL u (l ++ [(clS, ds)]) W ho.fls hok.out
        have HT : Hid (first ++ (⟨#[13, 10]⟩ : ByteArray) ++ ⟨(showL (l ++ [(clS, ds)])).toArray⟩ ++ (⟨#[13, 10]⟩ : ByteArray) ++ b = M) := hM1 hlen
        have hz := showL_small hok.out
        generalize (⟨(showL (l ++ [(clS, ds)])).toArray⟩ : ByteArray) = p at hsh HT hz
        have q1 : (first ++ (⟨#[13, 10]⟩ : ByteArray)).size = first.size + 2 := by rw [ByteArray.size_append]; rfl
        have q2 : (first ++ (⟨#[13, 10]⟩ : ByteArray) ++ p).size = first.size + 2 + p.size := by rw [ByteArray.size_append, q1]
        have q3 : (first ++ (⟨#[13, 10]⟩ : ByteArray) ++ p ++ (⟨#[13, 10]⟩ : ByteArray)).size = first.size + 2 + p.size + 2 := by rw [ByteArray.size_append, q2]; rfl
        have x1 : ¬ 9223372036854775807 < first.size + 2 := by omega
        have x2 : ¬ 9223372036854775807 < first.size + 2 + p.size := by omega
        have x3 : ¬ 9223372036854775807 < first.size + 2 + p.size + 2 := by omega
        have x4 : ¬ 9223372036854775807 < first.size + 2 + p.size + 2 + b.size := by omega
        clear hz hok
        rw [hll1] at hlen
        have HLL : Hid ((l ++ [(clS, ds)]).length = l.length + 1) := hll1
        clear hll1
        clear hM1 hM2
        go_enter Tryz.func38, Tryz.ntmps38
        go_wp2_with (first
          | (go_at_call 76; refine (hin _).mono ?_; rintro e w2 ⟨rfl, hb2⟩; have O2 : Hid (OwnsF w2 w.heap.size (.slice A1 l.length cap1) l) := O1.out.kept hb2; have B2 : Hid (Below w.heap.size w w2) := past6 B1.out hb2; clear hb2)
          | (go_at_call 89; refine (hsh.out _ _ _ O4.out).mono ?_; rintro e w9 ⟨rfl, hb9⟩)
          | (at_builtin; refine wpList_pushF _ rfl (.tmp 24) (.tmp 29) rfl w.heap.size _ l (clS, ds) rfl O2.out rfl (by omega) B2.out.size ?_; intro v3 w3 ho3 hg3; have O3 : Hid (OwnsF w3 w.heap.size v3 (l ++ [(clS, ds)])) := ho3; have B3 : Hid (Below w.heap.size w w3) := B2.out.grown hg3 B2.out.size (OwnsF.from O2.out); clear ho3 hg3; obtain ⟨A3, cap3, rfl, hcl3, hcm3⟩ := O3.out.form; unfold maxLen at hcm3; rw [HLL.out] at hcl3 ⊢; have O4 : Hid (OwnsF w3 w.heap.size (.slice A3 (l.length + 1) cap3) (l ++ [(clS, ds)])) := (by have q := O3.out; rw [HLL.out] at q; exact q))
          | (at_builtin; refine wpList_joinF _ rfl (.tmp 12) (.tmp 13) rfl w.heap.size _ _ [] l rfl (OwnsF.born w) rfl HL.out HS.out (by simp; omega) (by simp) ?_; intro v1 w1 ho1 hg1; have O1 : Hid (OwnsF w1 w.heap.size v1 l) := ho1.nil_app; have B1 : Hid (Below w.heap.size w w1) := HB0.out.grown hg1 (by simp) (OwnsF.from (OwnsF.born w)); clear ho1 hg1; obtain ⟨A1, cap1, rfl, hcl1, hcm1⟩ := O1.out.form; unfold maxLen at hcm1))
        go_ret
        exact ⟨ret_strT HT.out, past6 B3.out hb9⟩
      · have HT : Hid ((⟨#[]⟩ : ByteArray) = M) := hM2 hlen
        rw [hll1] at hlen
        have HLL : Hid ((l ++ [(clS, ds)]).length = l.length + 1) := hll1
        clear hll1
        clear hM1 hM2
        go_enter Tryz.func38, Tryz.ntmps38
        go_wp2_with (first
          | (go_at_call 76; refine (hin _).mono ?_; rintro e w2 ⟨rfl, hb2⟩; have O2 : Hid (OwnsF w2 w.heap.size (.slice A1 l.length cap1) l) := O1.out.kept hb2; have B2 : Hid (Below w.heap.size w w2) := past6 B1.out hb2; clear hb2)
          | (at_builtin; refine wpList_pushF _ rfl (.tmp 24) (.tmp 29) rfl w.heap.size _ l (clS, ds) rfl O2.out rfl (by omega) B2.out.size ?_; intro v3 w3 ho3 hg3; have O3 : Hid (OwnsF w3 w.heap.size v3 (l ++ [(clS, ds)])) := ho3; have B3 : Hid (Below w.heap.size w w3) := B2.out.grown hg3 B2.out.size (OwnsF.from O2.out); clear ho3 hg3; obtain ⟨A3, cap3, rfl, hcl3, hcm3⟩ := O3.out.form; unfold maxLen at hcm3; rw [HLL.out] at hcl3 ⊢)
          | (at_builtin; refine wpList_joinF _ rfl (.tmp 12) (.tmp 13) rfl w.heap.size _ _ [] l rfl (OwnsF.born w) rfl HL.out HS.out (by simp; omega) (by simp) ?_; intro v1 w1 ho1 hg1; have O1 : Hid (OwnsF w1 w.heap.size v1 l) := ho1.nil_app; have B1 : Hid (Below w.heap.size w w1) := HB0.out.grown hg1 (by simp) (OwnsF.from (OwnsF.born w)); clear ho1 hg1; obtain ⟨A1, cap1, rfl, hcl1, hcm1⟩ := O1.out.form; unfold maxLen at hcm1))
        go_ret
        exact ⟨ret_strT HT.out, B3.out⟩
end Go.Proofs.YteibacmohplblaaGreatDoor
