/-
  The contracts of Hopless, the specification's and the program's.
-/
import Derived.Test.YtnkalamfekkmbaaDoorFldX
namespace Go.Proofs.YtnkalamfekkmbaaDoor
open Go.RowKit Go.Sort Go.Maps

set_option maxRecDepth 100000 in
set_option maxHeartbeats 2000000 in
theorem implHop (v : Value) (l : List Fl) (w : World) (h : Fls w v l) (hz : szL l ≤ 1048576) :
    Calls Tryd.prog 28 #[v] w fun e w' => GivesF w w' e (hopA l) := by
  have hh := h
  obtain ⟨a, cap, rfl, _⟩ := hh
  have hmm := @run_makeMap Tryd.prog
  cases hok : fldsOk l with
  | false =>
    rw [← hopA_no hok]
    go_enter Tryd.func28, Tryd.ntmps28
    go_wp2_with (go_at_call 16; refine (implOk _ l _ h hz).mono ?_; rw [hok]; rintro e w1 ⟨rfl, hb1⟩)
    go_ret
    exact gives_none hb1
  | true =>
    rw [← hopA_yes hok, ← rest_hop]
    have hgs := getA_size l conn
    have hgt : hopNs l = hopN ++ itemsA (getA l conn).1 := by rw [← getA_yes conn hok]; rfl
    have cg := fun w h => implGet (.slice a l.length cap) l conn w h hz (by decide)
    unfold getE at cg
    rw [hgt]
    generalize getA l conn = p at cg hgs
    obtain ⟨t, b⟩ := p
    have hit := items_size t
    have hil := itemsA_length t
    have htm : t.size ≤ maxLen := by unfold maxLen; simp only at hgs; omega
    go_enter Tryd.func28, Tryd.ntmps28
    go_wp2_with (go_at_call 16; refine (implOk _ l _ h hz).mono ?_; rw [hok]; rintro e w1 ⟨rfl, hb1⟩)
    have hst := strs_hop w1
    have hs0 := (SetIs.made w1).kept ((Below.refl _ (w1.alloc (.map #[] 0))).alloc (Nat.le_refl _) (.cells (hopN.map Value.string).toArray 9))
    have hbm := hb1.alloc hb1.size (.map #[] 0)
    have hbs := hbm.alloc hbm.size (.cells (hopN.map Value.string).toArray 9)
    have ha := implAdd w1.heap.size [] _ hopN _ hs0 hst (fun k hk => by simp [Value.ownBlock] at hk; omega) (fun n hn => by have := hopN_size n hn; omega) (by decide)
    have hws : (w1.alloc (.map #[] 0)).alloc (.cells (hopN.map Value.string).toArray 9) = (w1.alloc (.map #[] 0)).alloc (.cells #[.string ⟨#[99, 111, 110, 110, 101, 99, 116, 105, 111, 110]⟩, .string ⟨#[107, 101, 101, 112, 45, 97, 108, 105, 118, 101]⟩, .string ⟨#[116, 101]⟩, .string ⟨#[116, 114, 97, 105, 108, 101, 114]⟩, .string ⟨#[116, 114, 97, 110, 115, 102, 101, 114, 45, 101, 110, 99, 111, 100, 105, 110, 103]⟩, .string ⟨#[117, 112, 103, 114, 97, 100, 101]⟩, .string ⟨#[112, 114, 111, 120, 121, 45, 99, 111, 110, 110, 101, 99, 116, 105, 111, 110]⟩] 9) := rfl
    rw [hws] at ha hbs
    generalize (w1.alloc (.map #[] 0)).alloc (.cells #[.string ⟨#[99, 111, 110, 110, 101, 99, 116, 105, 111, 110]⟩, .string ⟨#[107, 101, 101, 112, 45, 97, 108, 105, 118, 101]⟩, .string ⟨#[116, 101]⟩, .string ⟨#[116, 114, 97, 105, 108, 101, 114]⟩, .string ⟨#[116, 114, 97, 110, 115, 102, 101, 114, 45, 101, 110, 99, 111, 100, 105, 110, 103]⟩, .string ⟨#[117, 112, 103, 114, 97, 100, 101]⟩, .string ⟨#[112, 114, 111, 120, 121, 45, 99, 111, 110, 110, 101, 99, 116, 105, 111, 110]⟩] 9) = ws at ha hbs ⊢
    refine ha.mono ?_
    rintro e w3 ⟨rfl, hs3, hg3⟩
    have hb03 := hbs.grown hg3 hbs.size (fun j hj => by cases hj; exact hb1.size)
    clear ha hst hs0 hws hbm
    go_wp2_with fail
    refine (cg _ (h.kept hb03)).mono ?_
    rintro e w4 ⟨rfl, hb4⟩
    have hb04 := hb03.trans (hb4.mono hb03.size)
    have hs4 := hs3.kept hb4
    go_wp2_with fail
    refine (implItems t _ htm).mono ?_
    rintro e w5 ⟨u5, rfl, ho5, hb5⟩
    have hb05 := hb04.trans (hb5.mono hb04.size)
    have hs5 := hs4.kept hb5
    have hs4l := hs4.lt
    go_wp2_with fail
    refine (implAdd w1.heap.size _ u5 (itemsA t) _ hs5 ho5.strs (fun k hk => by have := ho5.from k hk; omega) (fun n hn => by have := hit n hn; omega) (by simp [hopN]; omega)).mono ?_
    rintro e w6 ⟨rfl, hs6, hg6⟩
    have hb06 := hb05.grown hg6 hb05.size (fun j hj => by cases hj; exact hb1.size)
    rw [List.nil_append, ← List.map_append] at hs6
    go_wp2_with fail
    refine (implAllBut _ l w1.heap.size _ _ (h.kept hb06) hok hs6).mono ?_
    rintro e w7 ⟨⟨g, rfl, ho7⟩, hb7⟩
    clear hs3 hs4 hs5 hs6 ho5 hb4 hb5 hg3 hg6
    go_wp2
    go_ret
    exact ⟨⟨g, rfl, ho7.low hb06.size⟩, hb06.trans (hb7.mono hb06.size)⟩
end Go.Proofs.YtnkalamfekkmbaaDoor
