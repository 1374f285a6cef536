/-
  The contracts of Hopless, the specification's and the program's.
  The contract of the specification's Hopless.
-/
import Derived.Test.YtnkalamfekkmbaaDoorFldX
namespace Go.Proofs.YtnkalamfekkmbaaDoor
open Go.RowKit Go.Sort Go.Maps

set_option maxRecDepth 100000 in
set_option maxHeartbeats 2000000 in
theorem implHop (v : Value) (l : List Fl) (w : World) (h : Fls w v l) (hz : szL l ≤ 1048576) :
    Calls Tryd.prog 28 #[v] w fun e w' => GivesF w w' e (hopA l) := by
  have hh := h
  obtain ⟨a, cap, rfl, _⟩ := hh
  have hmm := @run_makeMap Tryd.prog
  cases hok : fldsOk l with
  | false =>
    rw [← hopA_no hok]
    go_enter Tryd.func28, Tryd.ntmps28
    go_wp2_with (go_at_call 16; refine (implOk _ l _ h hz).mono ?_; rw [hok]; rintro e w1 ⟨rfl, hb1⟩)
    go_ret
    exact gives_none hb1
  | true =>
    rw [← hopA_yes hok, ← rest_hop]
    have hgs := getA_size l conn
    have hgt : hopNs l = hopN ++ itemsA (getA l conn).1 := by rw [← getA_yes conn hok]; rfl
    have cg := fun w h => implGet (.slice a l.length cap) l conn w h hz (by decide)
    unfold getE at cg
    rw [hgt]
    generalize getA l conn = p at cg hgs
    obtain ⟨t, b⟩ := p
    have hit := items_size t
    have hil := itemsA_length t
    have htm : t.size ≤ maxLen := by unfold maxLen; simp only at hgs; omega
    go_enter Tryd.func28, Tryd.ntmps28
    go_wp2_with (go_at_call 16; refine (implOk _ l _ h hz).mono ?_; rw [hok]; rintro e w1 ⟨rfl, hb1⟩)
    have hst := strs_hop w1
    have hs0 := (SetIs.made w1).kept ((Below.refl _ (w1.alloc (.map #[] 0))).alloc (Nat.le_refl _) (.cells (hopN.map Value.string).toArray 9))
    have hbm := hb1.alloc hb1.size (.map #[] 0)
    have hbs := hbm.alloc hbm.size (.cells (hopN.map Value.string).toArray 9)
    have ha := implAdd w1.heap.size [] _ hopN _ hs0 hst (fun k hk => by simp [Value.ownBlock] at hk; omega) (fun n hn => by have := hopN_size n hn; omega) (by decide)
    have hws : (w1.alloc (.map #[] 0)).alloc (.cells (hopN.map Value.string).toArray 9) = (w1.alloc (.map #[] 0)).alloc (.cells #[.string ⟨#[99, 111, 110, 110, 101, 99, 116, 105, 111, 110]⟩, .string ⟨#[107, 101, 101, 112, 45, 97, 108, 105, 118, 101]⟩, .string ⟨#[116, 101]⟩, .string ⟨#[116, 114, 97, 105, 108, 101, 114]⟩, .string ⟨#[116, 114, 97, 110, 115, 102, 101, 114, 45, 101, 110, 99, 111, 100, 105, 110, 103]⟩, .string ⟨#[117, 112, 103, 114, 97, 100, 101]⟩, .string ⟨#[112, 114, 111, 120, 121, 45, 99, 111, 110, 110, 101, 99, 116, 105, 111, 110]⟩] 9) := rfl
    rw [hws] at ha hbs
    generalize (w1.alloc (.map #[] 0)).alloc (.cells #[.string ⟨#[99, 111, 110, 110, 101, 99, 116, 105, 111, 110]⟩, .string ⟨#[107, 101, 101, 112, 45, 97, 108, 105, 118, 101]⟩, .string ⟨#[116, 101]⟩, .string ⟨#[116, 114, 97, 105, 108, 101, 114]⟩, .string ⟨#[116, 114, 97, 110, 115, 102, 101, 114, 45, 101, 110, 99, 111, 100, 105, 110, 103]⟩, .string ⟨#[117, 112, 103, 114, 97, 100, 101]⟩, .string ⟨#[112, 114, 111, 120, 121, 45, 99, 111, 110, 110, 101, 99, 116, 105, 111, 110]⟩] 9) = ws at ha hbs ⊢
    refine ha.mono ?_
    rintro e w3 ⟨rfl, hs3, hg3⟩
    have hb03 := hbs.grown hg3 hbs.size (fun j hj => by cases hj; exact hb1.size)
    clear ha hst hs0 hws hbm
    go_wp2_with fail
    refine (cg _ (h.kept hb03)).mono ?_
    rintro e w4 ⟨rfl, hb4⟩
    have hb04 := hb03.trans (hb4.mono hb03.size)
    have hs4 := hs3.kept hb4
    go_wp2_with fail
    refine (implItems t _ htm).mono ?_
    rintro e w5 ⟨u5, rfl, ho5, hb5⟩
    have hb05 := hb04.trans (hb5.mono hb04.size)
    have hs5 := hs4.kept hb5
    have hs4l := hs4.lt
    go_wp2_with fail
    refine (implAdd w1.heap.size _ u5 (itemsA t) _ hs5 ho5.strs (fun k hk => by have := ho5.from k hk; omega) (fun n hn => by have := hit n hn; omega) (by simp [hopN]; omega)).mono ?_
    rintro e w6 ⟨rfl, hs6, hg6⟩
    have hb06 := hb05.grown hg6 hb05.size (fun j hj => by cases hj; exact hb1.size)
    rw [List.nil_append, ← List.map_append] at hs6
    go_wp2_with fail
    refine (implAllBut _ l w1.heap.size _ _ (h.kept hb06) hok hs6).mono ?_
    rintro e w7 ⟨⟨g, rfl, ho7⟩, hb7⟩
    clear hs3 hs4 hs5 hs6 ho5 hb4 hb5 hg3 hg6
    go_wp2
    go_ret
    exact ⟨⟨g, rfl, ho7.low hb06.size⟩, hb06.trans (hb7.mono hb06.size)⟩
end Go.Proofs.YtnkalamfekkmbaaDoor
namespace Go.Proofs.YtnkalamfekkmbaaDoor
open Go.RowKit Go.Sort Go.Maps

theorem OwnsS.grownS {w w' : World} {B : Nat} {v : Value} {l : List ByteArray} {r : Option Nat} (h : OwnsS w B v l) (hg : w.grownBy w' r) (hne : ∀ k, v.ownBlock = some k → some k ≠ r) : OwnsS w' B v l := by
  obtain ⟨⟨g, cap, hv, hb, hgl⟩, h2⟩ := h
  refine ⟨⟨g, cap, hv, hb, Nat.lt_of_lt_of_le hgl hg.size⟩, World.ownsRow.kept h2 hg (Or.inr fun e => hne g (by rw [hv]; rfl) (by rw [← e, hv]; rfl))⟩

set_option maxRecDepth 100000 in
set_option maxHeartbeats 2000000 in
theorem specHop (v : Value) (l : List Fl) (Bv : Nat) (w : World) (h : HasF w Bv v l) (hz : szL l ≤ 1048576) :
    Calls Tryd.prog 32 #[v] w fun e w' => ∃ u, e = .returned u ∧ OwnsF w' w.heap.size u (hopA l) ∧ Below w.heap.size w w' := by
  have hh := h
  obtain ⟨a, cap, rfl, _⟩ := hh.form
  have ho0 := OwnsF.born w
  have hb0 := (Below.refl w.heap.size w).alloc (Nat.le_refl _) (.cells #[] 53)
  have h0 := h.kept ((Below.refl w.heap.size w).alloc (Nat.le_refl _) (.cells #[] 53))
  cases hok : fldsOk l with
  | false =>
    rw [← hopA_no hok]
    go_enter Tryd.func32, Tryd.ntmps32
    go_wp2_with (go_at_call 17; refine (specOk _ l _ h0.fls hz).mono ?_; rw [hok]; rintro e w1 ⟨rfl, hb1⟩)
    go_ret
    exact ⟨_, rfl, ho0.kept hb1, hb0.trans (hb1.mono hb0.size)⟩
  | true =>
    rw [← hopA_yes hok]
    obtain ⟨hl30, _⟩ := fldsOk_parts hok
    have hgs := getA_size l conn
    rw [← getA_yes conn hok] at hgs
    have cg := fun w h => specGetF (.slice a l.length cap) l conn w h hok (by decide)
    unfold getE at cg
    have hgt : hopNs l = hopN ++ itemsA (getF l conn).1 := rfl
    rw [hgt]
    generalize getF l conn = p at cg hgs
    obtain ⟨t, b⟩ := p
    have hit := items_size t
    have hil := itemsA_length t
    have htm : t.size ≤ maxLen := by unfold maxLen; simp only at hgs; omega
    go_enter Tryd.func32, Tryd.ntmps32
    go_wp2_with (go_at_call 17; refine (specOk _ l _ h0.fls hz).mono ?_; rw [hok]; rintro e w1 ⟨rfl, hb1⟩)
    have hb01 := hb0.trans (hb1.mono hb0.size)
    have ho1 := ho0.kept hb1
    have hzw : w.heap.size < w1.heap.size := Nat.lt_of_lt_of_le (box_lt w (.cells #[] 53)) hb1.size
    have h1 := h0.kept hb1
    have hn2 := (owns_hop w1)
    have hb02 := hb01.alloc hb01.size (.cells (hopN.map Value.string).toArray 9)
    have ho2 := ho1.kept ((Below.refl w1.heap.size w1).alloc (Nat.le_refl _) (.cells (hopN.map Value.string).toArray 9))
    have h2 := h1.kept ((Below.refl w1.heap.size w1).alloc (Nat.le_refl _) (.cells (hopN.map Value.string).toArray 9))
    have hz12 : w1.heap.size < (w1.alloc (.cells (hopN.map Value.string).toArray 9)).heap.size := box_lt _ _
    have hws : w1.alloc (.cells (hopN.map Value.string).toArray 9) = w1.alloc (.cells #[.string ⟨#[99, 111, 110, 110, 101, 99, 116, 105, 111, 110]⟩, .string ⟨#[107, 101, 101, 112, 45, 97, 108, 105, 118, 101]⟩, .string ⟨#[116, 101]⟩, .string ⟨#[116, 114, 97, 105, 108, 101, 114]⟩, .string ⟨#[116, 114, 97, 110, 115, 102, 101, 114, 45, 101, 110, 99, 111, 100, 105, 110, 103]⟩, .string ⟨#[117, 112, 103, 114, 97, 100, 101]⟩, .string ⟨#[112, 114, 111, 120, 121, 45, 99, 111, 110, 110, 101, 99, 116, 105, 111, 110]⟩] 9) := rfl
    rw [hws] at hn2 hb02 ho2 h2 hz12
    generalize w1.alloc (.cells #[.string ⟨#[99, 111, 110, 110, 101, 99, 116, 105, 111, 110]⟩, .string ⟨#[107, 101, 101, 112, 45, 97, 108, 105, 118, 101]⟩, .string ⟨#[116, 101]⟩, .string ⟨#[116, 114, 97, 105, 108, 101, 114]⟩, .string ⟨#[116, 114, 97, 110, 115, 102, 101, 114, 45, 101, 110, 99, 111, 100, 105, 110, 103]⟩, .string ⟨#[117, 112, 103, 114, 97, 100, 101]⟩, .string ⟨#[112, 114, 111, 120, 121, 45, 99, 111, 110, 110, 101, 99, 116, 105, 111, 110]⟩] 9) = w2 at hn2 hb02 ho2 h2 hz12 ⊢
    clear hws h0 h1 ho1 hb1 hb0
    refine (cg _ h2.fls).mono ?_
    rintro e w3 ⟨rfl, hb3⟩
    have hb03 := hb02.trans (hb3.mono hb02.size)
    have hn3 := hn2.kept hb3
    have ho3 := ho2.kept hb3
    have h3 := h2.kept hb3
    go_wp2_with fail
    refine (specItems t _ htm).mono ?_
    rintro e w4 ⟨u4, rfl, hi4, hb4⟩
    have hb04 := hb03.trans (hb4.mono hb03.size)
    have hn4 := hn3.kept hb4
    have ho4 := ho3.kept hb4
    have h4 := h3.kept hb4
    have hz4 : w1.heap.size ≤ w4.heap.size := Nat.le_trans (Nat.le_of_lt hz12) (Nat.le_trans hb3.size hb4.size)
    clear hn2 hn3 ho2 ho3 h2 h3
    go_wp2_with (first
      | (at_builtin; refine wpList_catS _ rfl (.tmp 19) (.tmp 21) rfl w1.heap.size _ _ _ hopN (itemsA t) rfl hn4 rfl hi4 (by simp [hopN]; omega) hz4 ?_; intro v5 w5 hn5 hg5; have hb05 := hb04.grown hg5 hb04.size (fun j hj => Nat.le_trans hb01.size (hn4.from j hj)); have ho5 : OwnsF w5 w.heap.size _ [] := World.ownsRow.kept ho4 hg5 (Or.inr (fun e => by have := hn4.from w.heap.size e.symm; omega)); have h5 := h4.grown hg5 (fun k hk e => by have := hn4.from _ e.symm; have := h.under k hk; have := hb01.size; omega))
      | (at_builtin; refine wpList_catF _ rfl (.tmp 23) (.tmp 24) rfl w.heap.size _ _ _ [] l rfl ho5 rfl h5 (by simp; omega) hb05.size ?_; intro v6 w6 ho6 hg6; have hb06 := hb05.grown hg6 hb05.size (OwnsF.from ho5)))
    rw [List.nil_append, ← hop_zero l (hopN ++ itemsA t)] at ho6
    have hne6 : ∀ k, v5.ownBlock = some k → some k ≠ some w.heap.size := fun k hk e => by
      have h1 := hn5.from k hk
      injection e with e
      omega
    have hn6 : OwnsS w6 w1.heap.size v5 (hopN ++ itemsA t) := hn5.grownS hg6 hne6
    have hsz : ∀ n ∈ hopN ++ itemsA t, n.size ≤ 400 := fun n hn => by
      rcases List.mem_append.1 hn with hn | hn
      · exact hopN_size n hn
      · exact hit n hn
    have hnl : (hopN ++ itemsA t).length ≤ 1000 := by simp [hopN]; omega
    have hn6' := hn6
    obtain ⟨⟨gn, cn, rfl, _, hgn⟩, _⟩ := hn6'
    have hat := hn6.at rfl
    have HC : Hid (∀ j (hj : j < (hopN ++ itemsA t).length), w6.cell? ⟨gn, j, none⟩ = some (.string (hopN ++ itemsA t)[j])) := hat
    have HE : Hid (∀ k, ¬ k < (hopN ++ itemsA t).length → l.filter (hopP ((hopN ++ itemsA t).take k)) = l.filter (hopP (hopN ++ itemsA t))) := fun k hk => hop_end hk
    have HO : Hid (∀ k (hk : k < (hopN ++ itemsA t).length), wo (l.filter (hopP ((hopN ++ itemsA t).take k))) (hopN ++ itemsA t)[k] = l.filter (hopP ((hopN ++ itemsA t).take (k + 1)))) := fun k hk => hop_next hk
    clear hat hn4 hn5 hi4 ho4 ho5 h4 h5 hg5 hg6 hn6 hne6 hb3 hb4 hb05 hb04 hb03 hb02 cg hit hil
    generalize hns : hopN ++ itemsA t = ns at HC HE HO hsz hnl ho6 ⊢
    go_wp2
    go_loopw [3, 7] (fun u i wr => ∃ (k : Nat), k ≤ ns.length ∧ i = .int .i64 k ∧ OwnsF wr w.heap.size u (l.filter (hopP (ns.take k))) ∧ Below w6.heap.size w6 wr) (fun _ i _ => ns.length - (intOf i).toNat)
    case atStart => exact ⟨0, Nat.zero_le _, rfl, ho6, Below.refl _ _⟩
    case round =>
      clear ho6
      obtain ⟨k, hk, rfl, ho, hb⟩ := hrel
      by_cases hlt : k < ns.length
      · have c1 := (hb.cell (p := ⟨gn, k, none⟩) hgn).trans (HC.out k hlt)
        have hnx := HO.out k hlt
        have hnz := hsz ns[k] (List.getElem_mem hlt)
        have hokf := fldsOk_filter hok (hopP (ns.take k))
        generalize hl2 : l.filter (hopP (ns.take (k + 1))) = l2 at hnx
        generalize l.filter (hopP (ns.take k)) = l1 at ho hnx hokf
        generalize ns[k] = n at c1 hnx hnz
        go_wp2_with (go_at_call 63; refine (specWoF _ l1 n _ ho.fls hokf (by omega)).mono ?_; rintro e w7 ⟨u7, rfl, ho7, hb7⟩)
        have ho8 := ho7.low (Nat.le_trans hb06.size hb.size)
        rw [hnx] at ho8
        have hb8 := hb.trans (hb7.mono hb.size)
        clear ho ho7 hb hb7 c1
        go_roundw
        case rel => exact ⟨k + 1, by omega, by go_num, by rw [hl2]; exact ho8, hb8⟩
        case measure => simp [intOf]; omega
      · rw [HE.out k hlt] at ho
        go_wp2
        go_ret
        exact ⟨_, rfl, by rw [hns]; exact ho, hb06.trans (hb.mono hb06.size)⟩
end Go.Proofs.YtnkalamfekkmbaaDoor
