/-
  Boxes of sketches, many of them: what lies there stays.
-/
import Derived.Test.YtdoolnaekmffbaaSkX
namespace Go.Proofs.Ytdoolnaekmffbaa
open Go.RowKit Go.Sort Ow Sk
set_option linter.unusedVariables false
set_option linter.unusedSimpArgs false

structure KB where
  m : Nat
  q : Int
  v : Value
  l : List Int
def Hb (W : World) (b : KB) : Prop := Bx W b.m 26 #[.int .i64 b.q, b.v] ∧ Sls intE W b.v b.l
def Hold (w W : World) (L : List KB) : Prop := Below w.heap.size w W ∧ ∀ b ∈ L, Hb W b
theorem Hb.kept {W W' : World} {b : KB} (h : Hb W b) (hb : Below W.heap.size W W') : Hb W' b := ⟨h.1.kept hb, h.2.kept hb⟩
theorem Hold.kept {w W W' : World} {L : List KB} (h : Hold w W L) (hb : Below W.heap.size W W') : Hold w W' L := ⟨pastK h.1 hb, fun b hm => (h.2 b hm).kept hb⟩
theorem Hold.drew {w W : World} {L : List KB} (h : Hold w W L) : Hold w W.drew L := h.kept ⟨rfl, rfl, rfl, Nat.le_refl _, fun _ _ => rfl⟩
theorem Hold.more {w W : World} {L : List KB} (h : Hold w W L) (o : Obj) : Hold w (W.alloc o) L := h.kept ((Below.refl _ W).alloc (Nat.le_refl _) _)
theorem Hold.box {w W : World} {L : List KB} (h : Hold w W L) (q : Int) (v : Value) (l : List Int) (hs : Sls intE W v l) : Hold w (W.alloc (.cells #[.int .i64 q, v] 26)) (⟨W.heap.size, q, v, l⟩ :: L) := by
  have hb : Below W.heap.size W (W.alloc (.cells #[.int .i64 q, v] 26)) := (Below.refl _ W).alloc (Nat.le_refl _) _
  refine ⟨(h.kept hb).1, fun b hm => ?_⟩
  rcases List.mem_cons.1 hm with rfl | hm
  · exact ⟨Bx.new _ _ _, hs.kept hb⟩
  · exact (h.kept hb).2 b hm
theorem Hold.at {w W : World} {L : List KB} (h : Hold w W L) {b : KB} (hm : b ∈ L) : Hb W b := h.2 b hm
theorem Hb.c0 {W : World} {m : Nat} {q : Int} {v : Value} {l : List Int} (h : Hb W ⟨m, q, v, l⟩) : W.cell? ⟨m, 0, none⟩ = some (.int .i64 q) := h.1.cell 0
theorem Hb.c1 {W : World} {m : Nat} {q : Int} {v : Value} {l : List Int} (h : Hb W ⟨m, q, v, l⟩) : W.cell? ⟨m, 1, none⟩ = some v := h.1.cell 1
theorem Hb.sls {W : World} {m : Nat} {q : Int} {v : Value} {l : List Int} (h : Hb W ⟨m, q, v, l⟩) : Sls intE W v l := h.2
theorem Hb.lt {W : World} {m : Nat} {q : Int} {v : Value} {l : List Int} (h : Hb W ⟨m, q, v, l⟩) : m < W.heap.size := h.1.lt
/-- What was perhaps there is so when more is marked. -/
theorem mrk_stays {q : Int} {l : List Int} {key s : ByteArray} (h : prhB q l s = true) : prhB (mrkQ q l) (mrkL q l key) s = true := by
  have hok := prh_ok h
  have e : mrkQ q l = q := by unfold mrkQ; rw [if_pos hok]
  rw [e]
  exact prh_more h (mrk_ok key hok) (mrk_more key hok)
theorem mrk_there {q : Int} {l : List Int} (key : ByteArray) (h : skOk q l = true) : skOk (mrkQ q l) (mrkL q l key) = true ∧ prhB (mrkQ q l) (mrkL q l key) key = true ∧ l.length ≤ (mrkL q l key).length := by
  have e : mrkQ q l = q := by unfold mrkQ; rw [if_pos h]
  rw [e]
  exact ⟨skOk_iff.2 (mrk_ok key h), mrk_perhaps key h, mrk_length key h⟩
theorem bth_stays {q : Int} {l : List Int} {q2 : Int} {l2 : List Int} {s : ByteArray} (h : bthB q l q2 l2 = true) (hp : prhB q l s = true ∨ prhB q2 l2 s = true) : prhB (bthQ q l q2 l2) (bthL q l q2 l2) s = true := by
  have e : bthQ q l q2 l2 = q := by unfold bthQ; rw [if_pos h]
  rw [e]
  exact bth_perhaps h hp
theorem bthL_few (n : Int) (l : List Int) (n2 : Int) (l2 : List Int) : (bthL n l n2 l2).length ≤ 512 := by
  cases h : bthB n l n2 l2 with
  | true => exact (bth_ok h).few
  | false => unfold bthL; rw [h]; exact Nat.zero_le _
theorem sk_new {e : Int} (h : szOk e = true) : skOk (if szOk e = true then e else 0) [] = true := by
  rw [if_pos h]
  unfold skOk risB
  rw [h]
  simp
end Go.Proofs.Ytdoolnaekmffbaa
