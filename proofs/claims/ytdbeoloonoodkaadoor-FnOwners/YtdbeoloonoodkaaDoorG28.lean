/-
  The program's weights of servers.
  The program's Ranked and Owner.
-/
import Derived.Test.YtdbeoloonoodkaaDoorG26
import Derived.Test.YtdbeoloonoodkaaDoorG21
import Derived.Test.YtdbeoloonoodkaaDoorG27
import Derived.Test.YtdbeoloonoodkaaDoorG24
import Derived.Test.YtdbeoloonoodkaaDoorG12
namespace Go.Proofs.YtdbeoloonoodkaaDoor.Ih
open Go.RowKit Go.Sort Ow
set_option linter.unusedVariables false
set_option linter.unusedSimpArgs false

set_option maxRecDepth 100000 in
set_option maxHeartbeats 1000000 in
theorem implWof (v : Value) (l : List Int) (key : ByteArray) (w : World) (h : Sls intE w v l) (hl : l.length ≤ 9) (hin : ∀ x ∈ l, 0 ≤ x ∧ x ≤ 99) (hk : key.size ≤ 1048576) :
    Calls Tryd.prog 36 #[v, .string key] w fun e w' => e = .returned (.map (some w.heap.size)) ∧ WtM w' w.heap.size (wgV key) l ∧ Below w.heap.size w w' := by
  obtain ⟨a, cap, rfl, h1, h2, h3⟩ := h.one
  have H2 : Hid (cap ≤ maxLen) := h2
  have hwt := fun s W => implWgt s key W hk
  have HC : Hid (∀ j (hj : j < l.length), ∃ g o, a = some ⟨g, o, none⟩ ∧ g < w.heap.size ∧ w.cell? ⟨g, o + j, none⟩ = some (.int .i64 l[j])) := (show ∀ _, _ from fun j hj => by
    obtain ⟨g, o, e, hg, hc⟩ := h3 (by omega)
    exact ⟨g, o, e, hg, hc j hj⟩)
  have HI : Hid (∀ x ∈ l, 0 ≤ x ∧ x ≤ 99) := hin
  have hmm := @run_makeMap Tryd.prog
  have HW : Hid (∀ s, -9223372036854775808 ≤ wgV key s ∧ wgV key s ≤ 9223372036854775807) := wgV_rng key
  generalize wgV key = W at hwt HW ⊢
  have M0 : Hid (WtM (w.alloc (.map #[] 0)) w.heap.size W []) := WtM.made w W
  have B0 : Hid (Below w.heap.size w (w.alloc (.map #[] 0))) := (show Hid _ from (Below.refl _ w).alloc (Nat.le_refl _) _)
  clear h h2 h3 hin
  go_enter Tryd.func36, Tryd.ntmps36
  go_wp2
  go_loopw [11] (fun i wr => ∃ k : Nat, k ≤ l.length ∧ i = .int .i64 k ∧ Hid (WtM wr w.heap.size W (l.take k)) ∧ Hid (Below w.heap.size w wr)) (fun i _ => l.length - (intOf i).toNat)
  case atStart => exact ⟨0, Nat.zero_le _, rfl, M0, B0⟩
  case round =>
    obtain ⟨k, hk9, rfl, hm, hb⟩ := hrel
    clear M0 B0
    by_cases hlt : k < l.length
    · obtain ⟨g, o, rfl, hg, c0⟩ := HC.out k hlt
      have c1 := (hb.out.cell (p := ⟨g, o + k, none⟩) hg).trans c0
      have HT : Hid (l.take (k + 1) = l.take k ++ [l[k]]) := List.take_succ_eq_append_getElem hlt
      have hrg := HI.out l[k] (List.getElem_mem hlt)
      have hki : (k : Int) < (l.length : Int) := by omega
      have htl : (l.take k).length ≤ 1000 := by rw [List.length_take]; omega
      generalize l[k] = x at c0 c1 HT hrg
      clear c0
      go_wp2_with fail
      refine (hwt x _).mono ?_
      rintro e w1 ⟨rfl, hb1⟩
      have m1 : Hid (WtM w1 w.heap.size W (l.take k)) := hm.out.kept hb1
      have hb2 : Hid (Below w.heap.size w w1) := (show Hid _ from hb.out.trans (hb1.mono hb.out.size))
      clear hb1 hm hb c1
      go_wp2_with (at_mapUpdate; refine wpList_putW _ rfl _ _ _ rfl w.heap.size W (l.take k) rfl m1.out htl x (by omega) (HW.out x) rfl rfl ?_; intro w2 hm2 hg2; have M2 : Hid (WtM w2 w.heap.size W (l.take (k + 1))) := (by rw [HT.out]; exact hm2); have B2 : Hid (Below w.heap.size w w2) := (show Hid _ from hb2.out.trans ⟨hg2.os, hg2.tape, hg2.output, hg2.size, fun i hi => hg2.block i (by have := hb2.out.size; omega) (fun e => by injection e with e; omega)⟩); clear hm2 hg2 m1 hb2)
      exact ⟨⟨k + 1, by omega, by go_num, M2, B2⟩, by simp [intOf]; omega⟩
    · have hki : ¬ (k : Int) < (l.length : Int) := by omega
      have MT : Hid (WtM wr w.heap.size W l) := (by have := hm.out; rw [List.take_of_length_le (by omega)] at this; exact this)
      clear hm
      go_wp2
      go_ret
      exact ⟨rfl, MT.out, hb.out⟩
end Go.Proofs.YtdbeoloonoodkaaDoor.Ih
namespace Go.Proofs.YtdbeoloonoodkaaDoor.Ih
open Go.RowKit Go.Sort Ow
set_option linter.unusedVariables false
set_option linter.unusedSimpArgs false

theorem ownsE_same {α : Type} {E : Enc α} {ty : TypeId} {w w' : World} {B : Nat} {v : Value} {l : List α} (h : OwnsE E ty w B v l) (he : ∀ k, v.ownBlock = some k → w'.heap[k]? = w.heap[k]?) : OwnsE E ty w' B v l := by
  refine ⟨h.1, ?_⟩
  rcases h.2 with h0 | ⟨g, cap, cur, hv, hbg, hh, rest⟩
  · exact .inl h0
  · exact .inr ⟨g, cap, cur, hv, hbg, by rw [he g (by rw [hv]; rfl)]; exact hh, rest⟩
section
variable {W : Int → Int} {l : List Int} {M b B : Nat} {w : World} {inn : ∀ x ∈ l, 0 ≤ x ∧ x ≤ 99}
/-- Another row beside the heap has grown. -/
theorem HpB.move {wr w' : World} {h : List Co} {v : Value} {ko g' : Nat} {O : Obj} (hp : HpB ⟨W, l, M, ko, O, inn⟩ wr B b h v) (hM : M ≠ ko) (hg : wr.grownBy w' (some ko)) (hk : g' = ko ∨ wr.heap.size < g') (hlt : g' < w'.heap.size) : (∃ O', HpB ⟨W, l, M, g', O', inn⟩ w' B b h v) ∧ M ≠ g' := by
  have hbk : some b ≠ some ko := fun e => hp.xb (by injection e with e; exact e.symm)
  have e := hg.block b hp.hi hbk
  have hMl := hp.m.lt
  have hbl := hp.hi
  have hMg : M ≠ g' := by
    rcases hk with q | q
    · rw [q]; exact hM
    · have : M < wr.heap.size := hMl
      omega
  refine ⟨⟨w'.heap[g'], ?_, ?_, ?_, hp.lo, Nat.lt_of_lt_of_le hp.hi hg.size, hp.o.grown hg (fun k hk2 => fun e2 => hp.xv k hk2 (by injection e2 with e2; exact e2.symm)), hp.ne, hp.m.grown hg (fun e2 => hM (by injection e2)), hp.mb, hp.mv, by simp [hlt], ?_, ?_⟩, hMg⟩
  · rw [← hp.c]; simp only [World.cell?]; rw [e]
  · rw [← hp.f]; simp only [World.frozen?]; rw [e]
  · rw [← hp.a]; simp only [World.cell?]; rw [e]
  · show g' ≠ b
    rcases hk with q | q
    · rw [q]; exact hp.xb
    · omega
  · intro k hk2
    show k ≠ g'
    have := hp.o.under k hk2
    rcases hk with q | q
    · rw [q]; exact hp.xv k hk2
    · omega
def co (W : Int → Int) (s : Int) : Co := (s, W s)
/-- The heap holds the first k servers; beside it lies the row X. -/
structure Rg1 (W : Int → Int) (l : List Int) (M b B : Nat) (inn : ∀ x ∈ l, 0 ≤ x ∧ x ≤ 99) (w : World) (X : Nat) (O : Obj) (k : Nat) (wr : World) : Prop where
  h : ∃ hl v, HpB ⟨W, l, M, X, O, inn⟩ wr B b hl v ∧ hl.Perm ((l.take k).map (co W)) ∧ isHp hl
  b : Below B w wr
theorem nm_of {hl : List Co} {k X : Nat} {O : Obj} (hp : hl.Perm ((l.take k).map (co W))) : Nm ⟨W, l, M, X, O, inn⟩ hl := by
  intro p hp2
  obtain ⟨s, hs, rfl⟩ := List.mem_map.1 (hp.mem_iff.1 hp2)
  exact ⟨List.mem_of_mem_take hs, rfl⟩
theorem Rg1.push {X k : Nat} {O : Obj} {wr : World} (r : Rg1 W l M b B inn w X O k wr) (hl9 : l.length ≤ 9) (hk : k < l.length) :
    Calls Tryd.prog 38 #[.iface 52 (.pointer (some ⟨b, 0, none⟩)), .iface 2 (.int .i64 l[k])] wr fun e w' => e = .returned (.tuple #[]) ∧ Rg1 W l M b B inn w X O (k + 1) w' := by
  obtain ⟨hl, v, h1, h2, h3⟩ := r.h
  have hlen : hl.length = k := by rw [h2.length_eq, List.length_map, List.length_take]; omega
  have e : (l.take (k + 1)).map (co W) = (l.take k).map (co W) ++ [co W l[k]] := by rw [List.take_succ_eq_append_getElem hk, List.map_append]; rfl
  have h4 : (hl ++ [co W l[k]]).Perm ((l.take (k + 1)).map (co W)) := by rw [e]; exact h2.append_right _
  refine (heapPush b B hl v (co W l[k]) wr h1 (by omega) (nm_of h4) h3).mono ?_
  rintro e w' ⟨rfl, l', v', k1, k2, k3, k4⟩
  exact ⟨rfl, ⟨l', v', k1, k2.trans h4, k3⟩, r.b.trans k4⟩
/-- The servers out have come off the heap (out2: one more may be under way); they lie in the row ko. -/
structure Rg2 (W : Int → Int) (l : List Int) (M b B : Nat) (inn : ∀ x ∈ l, 0 ≤ x ∧ x ≤ 99) (w : World) (out out2 : List Int) (ko cap n : Nat) (wr : World) : Prop where
  o : OwnsN wr B (.slice (some ⟨ko, 0, none⟩) out.length cap) out
  h : ∃ hl a c O, hl.length = n ∧ HpB ⟨W, l, M, ko, O, inn⟩ wr B b hl (.slice a n c) ∧ Nm ⟨W, l, M, ko, O, inn⟩ hl ∧ isHp hl ∧ Off ⟨W, l, M, ko, O, inn⟩ l out2 hl
  m : M ≠ ko
  b : Below B w wr
theorem Off.other {X X' : Nat} {O O' : Obj} {out : List Int} {h : List Co} (o : Off ⟨W, l, M, X, O, inn⟩ l out h) : Off ⟨W, l, M, X', O', inn⟩ l out h := ⟨o.p, o.s, o.b⟩
theorem Rg2.count {out out2 : List Int} {ko cap n : Nat} {wr : World} (r : Rg2 W l M b B inn w out out2 ko cap n wr) : out2.length + n = l.length := by
  obtain ⟨hl, a, c, O, h1, _, _, _, h5⟩ := r.h
  have := h5.p.length_eq
  rw [List.length_append, List.length_map] at this
  omega
theorem Rg2.len {out out2 : List Int} {ko cap n : Nat} {wr : World} (r : Rg2 W l M b B inn w out out2 ko cap n wr) :
    Calls Tryd.prog 39 #[.pointer (some ⟨b, 0, none⟩)] wr fun e w' => e = .returned (.int .i64 (n : Int)) ∧ wr = w' := by
  obtain ⟨hl, a, c, O, h1, h2, _⟩ := r.h
  exact implLen b a n c wr h2.c
theorem Rg2.done {out : List Int} {ko cap : Nat} {wr : World} (r : Rg2 W l M b B inn w out out ko cap 0 wr) (hl : l.Pairwise (· < ·)) : out = rnk W l := by
  obtain ⟨hl2, a, c, O, h1, _, _, _, h5⟩ := r.h
  exact h5.done hl h1
theorem Rg2.pop {out : List Int} {ko cap n : Nat} {wr : World} (r : Rg2 W l M b B inn w out out ko cap (n + 1) wr) (hl : l.Pairwise (· < ·)) (hl9 : l.length ≤ 9) :
    Calls Tryd.prog 40 #[.iface 52 (.pointer (some ⟨b, 0, none⟩))] wr fun e w' => ∃ x, e = .returned (.iface 2 (.int .i64 x)) ∧ Rg2 W l M b B inn w out (out ++ [x]) ko cap n w' := by
  have hc := r.count
  obtain ⟨h, a, c, O, h1, h2, h3, h4, h5⟩ := r.h
  have h0 : 0 < h.length := by omega
  refine (heapPop b B h _ wr h2 (by omega) h0 h3 h4).mono ?_
  rintro e w' ⟨rfl, h', v', k1, k2, k3, k4⟩
  have hn : h'.length = n := by
    have := k2.length_eq
    simp only [List.length_cons] at this
    omega
  obtain ⟨a', c', rfl, _⟩ := k1.o.form
  refine ⟨_, rfl, ownsE_same r.o (fun k hk => ?_), ⟨h', a', c', O, hn, by rw [← hn]; exact k1, fun p hp => h3 p (k2.mem_iff.1 (List.mem_cons_of_mem _ hp)), k3, h5.step h3 hl h0 k2 (fun k hk => h4.root k hk)⟩, r.m, r.b.trans k4⟩
  have e : ko = k := by simpa [Value.ownBlock] using hk
  subst e
  exact k1.x.trans h2.x.symm
theorem Rg2.put {out : List Int} {x : Int} {ko cap n g' cap' : Nat} {wr w' : World} (r : Rg2 W l M b B inn w out (out ++ [x]) ko cap n wr) (ho : OwnsN w' B (.slice (some ⟨g', 0, none⟩) (out.length + 1) cap') (out ++ [x])) (hk : g' = ko ∨ wr.heap.size < g') (hg : wr.grownBy w' (some ko)) :
    Rg2 W l M b B inn w (out ++ [x]) (out ++ [x]) g' cap' n w' := by
  obtain ⟨h, a, c, O, h1, h2, h3, h4, h5⟩ := r.h
  obtain ⟨⟨O', k1⟩, k2⟩ := h2.move r.m hg hk (ho.under g' rfl)
  refine ⟨by rw [List.length_append]; exact ho, ⟨h, a, c, O', h1, k1, fun p hp => h3 p hp, h4, h5.other⟩, k2, r.b.trans ⟨hg.os, hg.tape, hg.output, hg.size, fun i hi => hg.block i (by have := r.b.size; have := h2.lo; have := h2.hi; omega) (fun e => by
    injection e with e
    have := r.o.from ko rfl
    omega)⟩⟩
theorem Rg1.done {X cap : Nat} {O : Obj} {wr : World} (r : Rg1 W l M b B inn w X O l.length wr) (hm : M ≠ X) (ho : OwnsN wr B (.slice (some ⟨X, 0, none⟩) 0 cap) []) : Rg2 W l M b B inn w [] [] X cap l.length wr := by
  obtain ⟨hl, v, h1, h2, h3⟩ := r.h
  have hn := nm_of (M := M) (X := X) (O := O) (inn := inn) h2
  rw [List.take_of_length_le (Nat.le_refl _)] at h2
  have hlen : hl.length = l.length := by rw [h2.length_eq, List.length_map]
  obtain ⟨a, c, rfl, _⟩ := h1.o.form
  refine ⟨ho, ⟨hl, a, c, O, hlen, by rw [← hlen]; exact h1, hn, h3, Off.start ?_⟩, hm, r.b⟩
  have := h2.map (·.1)
  rw [List.map_map] at this
  have e : l.map ((fun x : Co => x.1) ∘ co W) = l := by
    have : ((fun x : Co => x.1) ∘ co W) = id := rfl
    rw [this, List.map_id]
  rw [e] at this
  exact this
end
def lenOf : Value → Nat
  | .slice _ n _ => n
  | _ => 0
end Go.Proofs.YtdbeoloonoodkaaDoor.Ih
