/-
  Drawn lists of fields.
-/
import Derived.Test.YtnkalamfekkmbaaDoorDrG
namespace Go.Proofs.YtnkalamfekkmbaaDoor
open Go.RowKit Go.Sort

/-- A list of few fields, each of them small. -/
def SmallF (l : List Fl) : Prop := l.length ≤ 31 ∧ ∀ f ∈ l, f.1.size ≤ 10 ∧ f.2.size ≤ 7
theorem SmallF.sz {l : List Fl} (h : SmallF l) : szL l ≤ 527 := by
  have : ∀ (l : List Fl), (∀ f ∈ l, f.1.size ≤ 10 ∧ f.2.size ≤ 7) → szL l ≤ 17 * l.length := by
    intro l
    induction l with
    | nil => intro _; exact Nat.zero_le _
    | cons f l ih =>
      intro h
      have h1 := h f (by simp)
      have h2 := ih fun g hg => h g (by simp [hg])
      have e : szL (f :: l) = szF f + szL l := by simp [szL]
      rw [e, List.length_cons]
      unfold szF
      omega
  have h2 := this l h.2
  have := h.1
  omega
theorem OwnsF.beside {w w' : World} {B b : Nat} {v : Value} {l : List Fl} (h : OwnsF w B v l) (hb : Beside b w w') (hB : b < B) : OwnsF w' B v l := by
  refine ⟨h.1, ?_⟩
  rcases h.2 with h0 | ⟨g, cap, cur, hv, hbg, hg, rest⟩
  · exact .inl h0
  · exact .inr ⟨g, cap, cur, hv, hbg, hb.at (by omega) hg, rest⟩
def lenV : Value → Nat
  | .slice _ n _ => n
  | _ => 0
theorem Beside.grown {b : Nat} {w x y : World} {r : Option Nat} (h : Beside b w x) (hg : x.grownBy y r) (hr : ∀ k, r = some k → w.heap.size ≤ k) : Beside b w y :=
  ⟨hg.os.trans h.1, hg.tape.trans h.2.1, hg.output.trans h.2.2.1, Nat.le_trans h.2.2.2.1 hg.size, fun k hk hne => (hg.block k (Nat.lt_of_lt_of_le hk h.2.2.2.1) (fun e => by have := hr k e.symm; omega)).trans (h.2.2.2.2 k hk hne)⟩
theorem grown_low {x y : World} {r : Option Nat} {B : Nat} (hg : x.grownBy y r) (hr : ∀ k, r = some k → B ≤ k) (hB : B ≤ x.heap.size) : Below B x y :=
  ⟨hg.os, hg.tape, hg.output, hg.size, fun k hk => hg.block k (by omega) (fun e => by have := hr k e.symm; omega)⟩

set_option maxHeartbeats 2000000 in
theorem l4Draw (b : Nat) (sa : Option Addr) (sl sc : Nat) (w : World) (hc : Cur w b sa sl sc) :
    Calls Tryd.prog 49 #[.pointer (some ⟨b, 0, none⟩)] w fun e w' => (∃ u l, e = .returned u ∧ OwnsF w' w.heap.size u l ∧ SmallF l) ∧ Cur w' b sa sl sc ∧ Beside b w w' := by
  have hbz : b < w.heap.size := hc.2.2.1
  have hb0 := (Below.refl w.heap.size w).alloc (Nat.le_refl _) (.cells #[] 53)
  go_enter Tryd.func49, Tryd.ntmps49
  go_wp2_with fail
  refine (l1Below b sa sl sc 6 (by decide) (by decide) (w.alloc (.cells #[] 53)) (hc.kept hb0 hbz)).mono ?_
  rintro e w1 ⟨z, rfl, hz0, hz1, hc1, hb1⟩
  obtain ⟨m, rfl⟩ : ∃ m : Nat, z = m := ⟨z.toNat, by omega⟩
  have ho1 := (OwnsF.born w).beside hb1 hbz
  have hbs1 := ((Beside.refl b w).below hb0).trans hb1
  go_wp2_with fail
  go_loopw [3, 4] (fun u i wr => ∃ (k : Nat) (l : List Fl), i = .int .i64 k ∧ l.length + k ≤ 5 ∧ (∀ f ∈ l, f.1.size ≤ 10 ∧ f.2.size ≤ 7) ∧ OwnsF wr w.heap.size u l ∧ Cur wr b sa sl sc ∧ Beside b w wr) (fun _ i _ => (intOf i).toNat)
  case atStart => exact ⟨m, [], rfl, by simp; omega, (by intro f hf; cases hf), ho1, hc1, hbs1⟩
  case round =>
    clear ho1 hc1 hbs1 hb1
    obtain ⟨k, l, rfl, hlk, hsm, hown, hcur, hbes⟩ := hrel
    by_cases hk : 0 < k
    · go_wp2_with (first
        | (go_at_call 55; refine (l4DrawField b sa sl sc _ hcur).mono ?_; rintro e w2 ⟨⟨f, rfl, hf1, hf2⟩, hc2, hb2⟩; have ho2 := hown.beside hb2 hbz; have hbs2 := hbes.trans hb2)
        | (at_builtin; refine wpList_pushF _ rfl (.tmp 12) (.tmp 15) rfl w.heap.size _ _ f rfl ho2 rfl (by omega) hbs2.2.2.2.1 ?_; intro v3 w3 ho3 hg3))
      have hbs3 := hbs2.grown hg3 (OwnsF.from ho2)
      have hc3 := hc2.kept (grown_low hg3 (OwnsF.from ho2) hbs2.2.2.2.1) hbz
      clear hown hcur hbes ho2 hc2 hbs2 hb2 hg3
      go_roundw
      case rel => exact ⟨k - 1, l ++ [f], by go_num, by simp; omega, (by
          intro g hg
          rcases List.mem_append.1 hg with hg | hg
          · exact hsm g hg
          · rw [List.mem_singleton.1 hg]; exact ⟨hf1, hf2⟩), ho3, hc3, hbs3⟩
      case measure => simp [intOf]; omega
    · obtain rfl : k = 0 := by omega
      obtain ⟨w4, rfl⟩ : ∃ y, y = wr := ⟨wr, rfl⟩
      go_wp2_with fail
      refine (l1Once b sa sl sc 40 (by decide) (by decide) w4 hcur).mono ?_
      rintro e w5 ⟨tt, rfl, hc5, hb5⟩
      have ho5 := hown.beside hb5 hbz
      have hbs5 := hbes.trans hb5
      clear hown hcur hbes hb5
      cases tt with
      | false =>
        go_wp2
        go_ret
        exact ⟨⟨_, l, rfl, ho5, by omega, hsm⟩, hc5, hbs5⟩
      | true =>
        have hba := (Below.refl w5.heap.size w5).alloc (Nat.le_refl _) (.cells #[] 53)
        have ho6 := (OwnsF.born w5).low hbs5.2.2.2.1
        have hc6 := hc5.kept hba hc5.2.2.1
        have hbs6 := hbs5.below hba
        clear ho5 hsm hlk
        go_wp2_with fail
        go_loopw [3] (fun u wr => ∃ l : List Fl, lenV u = l.length ∧ SmallF l ∧ OwnsF wr w.heap.size u l ∧ Cur wr b sa sl sc ∧ Beside b w wr) (fun u _ => 31 - lenV u)
        case atStart => exact ⟨[], rfl, ⟨by simp, by intro f hf; cases hf⟩, ho6, hc6, hbs6⟩
        case round =>
          clear ho6 hc6 hbs6 hba hc5 hbs5
          obtain ⟨l, hlv, hsm, hown, hcur, hbes⟩ := hrel
          obtain ⟨au, cu, rfl, huc, hum⟩ := hown.form
          have h31 := hsm.1
          go_wp2_with fail
          refine (l1Below b sa sl sc 2 (by decide) (by decide) wr hcur).mono ?_
          rintro e w7 ⟨z, rfl, hz0, hz1, hc7, hb7⟩
          have ho7 := hown.beside hb7 hbz
          have hbs7 := hbes.trans hb7
          by_cases hlt : (l.length : Int) < 30 + z
          · clear hown hcur hbes hb7
            go_wp2_with (at_builtin; refine wpList_pushF _ rfl (.tmp 26) (.tmp 28) rfl w.heap.size _ _ (⟨#[97]⟩, ⟨#[]⟩) rfl ho7 rfl (by omega) hbs7.2.2.2.1 ?_; intro v8 w8 ho8 hg8)
            have hbs8 := hbs7.grown hg8 (OwnsF.from ho7)
            have hc8 := hc7.kept (grown_low hg8 (OwnsF.from ho7) hbs7.2.2.2.1) hbz
            obtain ⟨a8, c8, rfl, _, _⟩ := ho8.form
            clear ho7 hc7 hbs7 hg8
            go_roundw
            case rel => exact ⟨l ++ [(⟨#[97]⟩, ⟨#[]⟩)], rfl, ⟨by simp; omega, (by
                intro g hg
                rcases List.mem_append.1 hg with hg | hg
                · exact hsm.2 g hg
                · rw [List.mem_singleton.1 hg]; decide)⟩, ho8, hc8, hbs8⟩
            case measure => simp [lenV]; omega
          · clear hown hcur hbes hb7
            go_wp2
            go_ret
            exact ⟨⟨_, l, rfl, ho7, hsm⟩, hc7, hbs7⟩
end Go.Proofs.YtnkalamfekkmbaaDoor
