/-
  Two rows of fields that are alike: the law's own comparison says so.
  What the law of chapter 4 about reading needs: the law's own pick, what is shown is read, no part of it is.
  The law of chapter 4 about reading, walked: fields are read from what they are shown as, and of no part of it.
-/
import Derived.Test.YtnkalamfekkmbaaDoorFldS
import Derived.Laws.StructEq
import Derived.BigQuiet
import Derived.Test.YtnkalamfekkmbaaDoorFldVR
import Derived.Test.YtnkalamfekkmbaaDoorDrJ
namespace Go.Proofs.YtnkalamfekkmbaaDoor
open Go.RowKit Go.Sort

set_option maxHeartbeats 400000 in
theorem likeF (va vb : Value) (l : List Fl) (w : World) (ha : Fls w va l) (hb : Fls w vb l) (hl : l.length ≤ 1048576) :
    Calls Tryd.prog 20 #[va, vb] w fun e w' => e = .returned (.bool true) ∧ Grew w w' := by
  obtain ⟨a, ca, rfl, a1, a2, a3⟩ := ha
  obtain ⟨b, cb, rfl, b1, b2, b3⟩ := hb
  have hmx := mixed
  go_enter Tryd.func20, Tryd.ntmps20
  go_wp2
  go_loopw [5] (fun i wr => ∃ (k : Nat), k ≤ l.length ∧ i = .int .i64 k ∧ Grew w wr) (fun i _ => l.length - (intOf i).toNat)
  case atStart => exact ⟨0, Nat.zero_le _, rfl, Grew.refl _⟩
  case round =>
    obtain ⟨k, hk, rfl, hg⟩ := hrel
    by_cases hlt : k < l.length
    · obtain ⟨ga, oa, rfl, hga, hca⟩ := a3 (by omega)
      obtain ⟨gb, ob, rfl, hgb, hcb⟩ := b3 (by omega)
      have c1 := hg.cell (hca k hlt).1 hga
      have c2 := hg.cell (hca k hlt).2 hga
      have c3 := hg.cell (hcb k hlt).1 hgb
      have c4 := hg.cell (hcb k hlt).2 hgb
      generalize l[k] = f at c1 c2 c3 c4
      clear a3 b3 hca hcb
      go_wp2
      go_quiet (fail)
      have hg2 : Grew w (wr.drewN nq) := hg.drewN _
      generalize wr.drewN nq = w1 at hg2 ⊢
      go_wp2
      go_roundw
      case rel => exact ⟨k + 1, by omega, by go_num, hg2⟩
      case measure => simp [intOf]; omega
    · go_wp2
      go_ret
      exact ⟨rfl, hg⟩
end Go.Proofs.YtnkalamfekkmbaaDoor
namespace Go.Proofs.YtnkalamfekkmbaaDoor
open Go.RowKit Go.Sort

theorem ret_of {a b : Int} (h : a = b) : Ending.returned (.int .i64 a) = Ending.returned (.int .i64 b) := by rw [h]
theorem code8_on {w w' : World} {sa : Option Addr} {sl : Nat} (h : Code8 w w.heap.size sa sl) (hb : Below w.heap.size w w') : Code8 w' w'.heap.size sa sl := by
  intro j hj
  obtain ⟨g, o, z, h1, h2, h3⟩ := (h.kept hb (Nat.le_refl _)) j hj
  have := hb.size
  exact ⟨g, o, z, h1, by omega, h3⟩

set_option maxHeartbeats 400000 in
theorem pick2 (sa : Option Addr) (sl sc : Nat) (w : World) (hc : Code8 w w.heap.size sa sl) (hl : sl ≤ 4096) :
    Calls Tryd.prog 19 #[.slice sa sl sc, .int .i64 1, .int .i64 2] w fun e w' => (∃ r : Nat, e = .returned (.int .i64 r) ∧ r < 2) ∧ w = w' := by
  go_enter Tryd.func19, Tryd.ntmps19
  go_wp2
  go_loop [7, 8] (fun x i => ∃ (k : Nat) (p : Int), k ≤ sl ∧ i = .int .i64 k ∧ x = .int .i64 p ∧ 0 ≤ p ∧ p ≤ 1000002) (fun _ i => sl - (intOf i).toNat)
  case atStart => exact ⟨0, _, Nat.zero_le _, rfl, rfl, by omega, by omega⟩
  case round =>
    obtain ⟨k, p, hk, rfl, rfl, b0, b1⟩ := hrel
    by_cases hlt : k < sl
    · obtain ⟨g, o, z, rfl, hg, hcell, hz0, hz1⟩ := hc k hlt
      clear hc
      go_wp2
      go_round
      case rel => exact ⟨k + 1, _, by omega, by go_num, rfl, by omega, by omega⟩
      case measure => simp [intOf]; omega
    · obtain rfl : k = sl := by omega
      have hr : p % 2 = ((p % 2).toNat : Int) ∧ (p % 2).toNat < 2 := by omega
      generalize (p % 2).toNat = r at hr
      go_wp2
      go_ret
      exact ⟨⟨r, ret_of (by first | rfl | exact hr.1 | (rw [Int.tmod_eq_emod_of_nonneg b0]; exact hr.1)), hr.2⟩, rfl⟩

theorem app_list (a b : ByteArray) : (a ++ b).data.toList = a.data.toList ++ b.data.toList := by simp
theorem show_list {l : List Fl} (h : fldsOk l = true) : (showA l).data.toList = showL l := by rw [← showA_yes h]
theorem readWhole (l : List Fl) (hok : fldsOk l = true) (m : Int) (w : World) (hm : w.cell? ⟨0, 0, none⟩ = some (.int .i64 m)) (hs : (showA l).size ≤ 700) :
    Calls Tryd.prog 18 #[.string (showA l ++ (⟨#[13, 10, 97, 98, 99]⟩ : ByteArray))] w fun e w' => ∃ u, e = .returned (.tuple #[u, .int .i64 ((showA l).size + 2), .bool true]) ∧ HasF w' w.heap.size u l ∧ Below w.heap.size w w' := by
  have zz : (showA l ++ (⟨#[13, 10, 97, 98, 99]⟩ : ByteArray)).size = (showA l).size + 5 := by rw [ByteArray.size_append]; rfl
  have h := implRead (showA l ++ (⟨#[13, 10, 97, 98, 99]⟩ : ByteArray)) m w hm (by omega)
  have e : (showA l ++ (⟨#[13, 10, 97, 98, 99]⟩ : ByteArray)).data.toList = showL l ++ [13, 10] ++ [97, 98, 99] := by
    rw [app_list, show_list hok, List.append_assoc]; rfl
  rw [e, rdA_show hok] at h
  refine h.mono ?_
  rintro e w' ⟨u, rfl, hF, hb⟩
  refine ⟨u, ?_, hF, hb⟩
  have hi : rdI (showA l ++ (⟨#[13, 10, 97, 98, 99]⟩ : ByteArray)) (some (l, [97, 98, 99])) = ((showA l).size : Int) + 2 := by
    show (((showA l ++ (⟨#[13, 10, 97, 98, 99]⟩ : ByteArray)).size : Nat) : Int) - (([97, 98, 99] : List UInt8).length : Int) = _
    rw [zz]
    simp
    omega
  rw [hi]
  rfl
theorem readPart (l : List Fl) (hok : fldsOk l = true) (t : ByteArray) (ht : t.data.toList = [] ∨ t.data.toList = [13]) (m : Int) (w : World) (hm : w.cell? ⟨0, 0, none⟩ = some (.int .i64 m)) (hs : (showA l).size ≤ 700) :
    Calls Tryd.prog 18 #[.string (showA l ++ t)] w fun e w' => ∃ u, e = .returned (.tuple #[u, .int .i64 0, .bool false]) ∧ Below w.heap.size w w' := by
  have zt : t.size ≤ 1 := by
    have h : t.data.toList.length = t.size := by simp
    rcases ht with ht | ht <;> (rw [ht] at h; simp at h; omega)
  have zz : (showA l ++ t).size = (showA l).size + t.size := ByteArray.size_append
  have h := implRead (showA l ++ t) m w hm (by omega)
  rw [app_list, show_list hok, rdA_part hok ht] at h
  refine h.mono ?_
  rintro e w' ⟨u, rfl, hF, hb⟩
  exact ⟨u, rfl, hb⟩
theorem szL_ok {l : List Fl} (h : fldsOk l = true) : szL l ≤ 1048576 := by
  obtain ⟨h1, h2⟩ := fldsOk_parts h
  have : ∀ (l : List Fl), (∀ f ∈ l, fldOk f = true) → szL l ≤ 464 * l.length := by
    intro l
    induction l with
    | nil => intro _; exact Nat.zero_le _
    | cons f l ih =>
      intro h
      have h1 := fldOk_size (h f (by simp))
      have h2 := ih fun g hg => h g (by simp [hg])
      have e : szL (f :: l) = szF f + szL l := by simp [szL]
      have e2 : szF f = f.1.size + f.2.size := rfl
      rw [e, List.length_cons]
      omega
  have := this l h2
  omega
theorem parts_of (r : Nat) (h : r < 2) : ((⟨#[13, 10]⟩ : ByteArray).extract 0 r).data.toList = [] ∨ ((⟨#[13, 10]⟩ : ByteArray).extract 0 r).data.toList = [13] := by
  rcases (show r = 0 ∨ r = 1 by omega) with rfl | rfl
  · exact .inl rfl
  · exact .inr rfl
theorem parts_size (r : Nat) (h : r < 2) : ((⟨#[13, 10]⟩ : ByteArray).extract 0 r).size ≤ 2 := by
  rcases (show r = 0 ∨ r = 1 by omega) with rfl | rfl <;> decide
end Go.Proofs.YtnkalamfekkmbaaDoor
namespace Go.Proofs.YtnkalamfekkmbaaDoor
open Go.RowKit Go.Sort

set_option maxRecDepth 100000 in
set_option maxHeartbeats 2000000 in
theorem fieldsWalk (sa : Option Addr) (sl sc : Nat) (w : World) (hc : Code8 w w.heap.size sa sl) (hl : sl ≤ 4096) (m : Int) (hm : w.cell? ⟨0, 0, none⟩ = some (.int .i64 m)) :
    Calls Tryd.prog 3 #[.slice sa sl sc] w fun e w' => e = .returned (.bool true) ∧ Below w.heap.size w w' := by
  have h0 := cell_lt hm
  go_enter Tryd.func3, Tryd.ntmps3
  go_wp2_with fail
  refine (notBig sa sl sc _ hl).mono ?_
  rintro e x0 ⟨rfl, rfl⟩
  go_wp2_with fail
  refine (drawShow sa sl sc _ hc hl).mono ?_
  rintro e x1 ⟨u1, l1, rfl, o1, s1, hb01⟩
  have z1 := s1.sz
  have zs := s1.show
  have d1 := o1.has
  have hl1 := s1.1
  have ciS := fun w h => implShow u1 l1 w h (by omega)
  have csS := fun w h => specShow u1 l1 w h (by omega)
  have ciO := fun w h => implOk u1 l1 w h (by omega)
  have csO := fun w h => specOk u1 l1 w h (by omega)
  have hrW := fun hok w hm => readWhole l1 hok m w hm zs
  have hrP := fun hok t ht w hm => readPart l1 hok t ht m w hm zs
  generalize showA l1 = S at zs ciS csS hrW hrP
  clear o1 s1
  go_wp2_with fail
  refine (ciS _ d1.fls).mono ?_
  rintro e x2 ⟨rfl, hb2⟩
  have hb02 := hb01.trans (hb2.mono hb01.size)
  have d1 := d1.kept hb2
  go_wp2_with fail
  refine (csS _ d1.fls).mono ?_
  rintro e x3 ⟨rfl, hb3⟩
  have hb03 := hb02.trans (hb3.mono hb02.size)
  have d1 := d1.kept hb3
  go_wp2_with fail
  refine (ciO _ d1.fls).mono ?_
  cases hok : fldsOk l1
  · rw [hok] at ciO csO
    clear hrW hrP
    rintro e x4 ⟨rfl, hb4⟩
    have hb04 := hb03.trans (hb4.mono hb03.size)
    have d1 := d1.kept hb4
    go_wp2_with fail
    refine (csO _ d1.fls).mono ?_
    rintro e x5 ⟨rfl, hb5⟩
    have hb05 := hb04.trans (hb5.mono hb04.size)
    have d1 := d1.kept hb5
    go_wp2_with fail
    refine (ciO _ d1.fls).mono ?_
    rintro e x6 ⟨rfl, hb6⟩
    have hbK := hb05.trans (hb6.mono hb05.size)
    clear hb2 hb3 hb4 hb5 hb6 d1 hb01 hb02 hb03 hb04 hb05 ciS csS ciO csO
    have hcode := code8_on hc hbK
    have mK := (hbK.cell (p := ⟨0, 0, none⟩) h0).trans hm
    clear hc
    go_wp2_with fail
    refine (drawRead sa sl sc _ hcode hl).mono ?_
    rintro e y1 ⟨t, rfl, ht, hb1⟩
    have hb01 := hbK.trans (hb1.mono hbK.size)
    have m1 := (hb01.cell (p := ⟨0, 0, none⟩) h0).trans hm
    have cs := fun w => specRead t w (by omega)
    have ci := fun w hm => implRead t m w hm (by omega)
    have hR : ∀ o r, rdA t.data.toList = some (o, r) → fldsOk o = true := fun o r h => rdA_ok h
    unfold GivesR at cs ci
    have hcase : (rdA t.data.toList = none) ∨ ∃ o r, rdA t.data.toList = some (o, r) := by
      cases h : rdA t.data.toList with
      | none => exact .inl rfl
      | some p => exact .inr ⟨p.1, p.2, rfl⟩
    rcases hcase with hcase | ⟨o, r, hcase⟩
    · simp only [hcase, rdL, rdI, Option.isSome] at cs ci
      clear hR hcase
      go_wp2_with fail
      refine (ci y1 m1).mono ?_
      rintro e y2 ⟨u2, rfl, r2, hb2⟩
      have hb02 := hb01.trans (hb2.mono hb01.size)
      go_wp2_with fail
      refine (cs _).mono ?_
      rintro e y3 ⟨u3, rfl, r3, hb3⟩
      have hb03 := hb02.trans (hb3.mono hb02.size)
      go_wp2_with fail
      refine (likeF _ _ [] _ (r2.kept hb3).fls r3.fls (by simp)).mono ?_
      rintro e y4 ⟨rfl, hg4⟩
      have hb04 := hb03.trans (hg4.low.mono hb03.size)
      clear hb1 hb2 hb3 hg4 r2 r3 cs ci
      go_wp2
      go_ret
      exact ⟨rfl, hb04⟩
    · have hok := hR o r hcase
      simp only [hcase, rdL, rdI, Option.isSome] at cs ci
      clear hR hcase
      have hzo := szL_ok hok
      have hlo := (fldsOk_parts hok).1
      generalize (t.size : Int) - (r.length : Int) = N at cs ci
      go_wp2_with fail
      refine (ci y1 m1).mono ?_
      rintro e y2 ⟨u2, rfl, r2, hb2⟩
      have hb02 := hb01.trans (hb2.mono hb01.size)
      go_wp2_with fail
      refine (cs _).mono ?_
      rintro e y3 ⟨u3, rfl, r3, hb3⟩
      have hb03 := hb02.trans (hb3.mono hb02.size)
      have r2 := r2.kept hb3
      go_wp2_with fail
      refine (likeF _ _ o _ r2.fls r3.fls (by omega)).mono ?_
      rintro e y4 ⟨rfl, hg4⟩
      have hb04 := hb03.trans (hg4.low.mono hb03.size)
      have r2 := r2.kept hg4.low
      go_wp2_with fail
      refine (implOk _ o _ r2.fls hzo).mono ?_
      rw [hok]
      rintro e y5 ⟨rfl, hb5⟩
      have hb05 := hb04.trans (hb5.mono hb04.size)
      clear hb1 hb2 hb3 hg4 hb5 r2 r3 cs ci hb01 hb02 hb03 hb04
      go_wp2
      go_ret
      exact ⟨rfl, hb05⟩
  · rw [hok] at ciO csO
    have hrW := hrW hok
    have hrP := hrP hok
    rintro e x4 ⟨rfl, hb4⟩
    have hb04 := hb03.trans (hb4.mono hb03.size)
    have d1 := d1.kept hb4
    go_wp2_with fail
    refine (csO _ d1.fls).mono ?_
    rintro e x5 ⟨rfl, hb5⟩
    have hb05 := hb04.trans (hb5.mono hb04.size)
    have d1 := d1.kept hb5
    go_wp2_with fail
    refine (ciO _ d1.fls).mono ?_
    rintro e x6 ⟨rfl, hb6⟩
    have hb06 := hb05.trans (hb6.mono hb05.size)
    have d1 := d1.kept hb6
    have m6 := (hb06.cell (p := ⟨0, 0, none⟩) h0).trans hm
    have c6 := code8_on hc hb06
    have zt : (S ++ (⟨#[13, 10, 97, 98, 99]⟩ : ByteArray)).size = S.size + 5 := by rw [ByteArray.size_append]; rfl
    clear hb2 hb3 hb4 hb5 hb6 hb01 hb02 hb03 hb04 hb05 ciS csS ciO csO
    go_wp2_with fail
    refine (hrW x6 m6).mono ?_
    rintro e x7 ⟨u7, rfl, r7, hb7⟩
    have hb07 := hb06.trans (hb7.mono hb06.size)
    have d1 := d1.kept hb7
    have m7 := (hb07.cell (p := ⟨0, 0, none⟩) h0).trans hm
    go_wp2_with fail
    refine (pick2 sa sl sc _ (code8_on c6 hb7) hl).mono ?_
    rintro e x8 ⟨⟨r, rfl, hr⟩, rfl⟩
    have hp := parts_of r hr
    have hpz := parts_size r hr
    have zt2 : (S ++ (⟨#[13, 10]⟩ : ByteArray).extract 0 r).size = S.size + ((⟨#[13, 10]⟩ : ByteArray).extract 0 r).size := ByteArray.size_append
    have hrq := hrP _ hp
    go_wp2_with fail
    refine (hrq _ m7).mono ?_
    rintro e x9 ⟨u9, rfl, hb9⟩
    have hb09 := hb07.trans (hb9.mono hb07.size)
    have d1 := d1.kept hb9
    have r7 := r7.kept hb9
    go_wp2_with fail
    refine (likeF _ _ l1 _ r7.fls d1.fls (by omega)).mono ?_
    rintro e x10 ⟨rfl, hg10⟩
    have hbK := hb09.trans (hg10.low.mono hb09.size)
    clear hb7 hb9 hg10 r7 d1 hb06 hb07 hb09 hrW hrP hrq hp hpz zt zt2 c6 m6 m7
    have hcode := code8_on hc hbK
    have mK := (hbK.cell (p := ⟨0, 0, none⟩) h0).trans hm
    clear hc
    go_wp2_with fail
    refine (drawRead sa sl sc _ hcode hl).mono ?_
    rintro e y1 ⟨t, rfl, ht, hb1⟩
    have hb01 := hbK.trans (hb1.mono hbK.size)
    have m1 := (hb01.cell (p := ⟨0, 0, none⟩) h0).trans hm
    have cs := fun w => specRead t w (by omega)
    have ci := fun w hm => implRead t m w hm (by omega)
    have hR : ∀ o r, rdA t.data.toList = some (o, r) → fldsOk o = true := fun o r h => rdA_ok h
    unfold GivesR at cs ci
    have hcase : (rdA t.data.toList = none) ∨ ∃ o r, rdA t.data.toList = some (o, r) := by
      cases h : rdA t.data.toList with
      | none => exact .inl rfl
      | some p => exact .inr ⟨p.1, p.2, rfl⟩
    rcases hcase with hcase | ⟨o, r, hcase⟩
    · simp only [hcase, rdL, rdI, Option.isSome] at cs ci
      clear hR hcase
      go_wp2_with fail
      refine (ci y1 m1).mono ?_
      rintro e y2 ⟨u2, rfl, r2, hb2⟩
      have hb02 := hb01.trans (hb2.mono hb01.size)
      go_wp2_with fail
      refine (cs _).mono ?_
      rintro e y3 ⟨u3, rfl, r3, hb3⟩
      have hb03 := hb02.trans (hb3.mono hb02.size)
      go_wp2_with fail
      refine (likeF _ _ [] _ (r2.kept hb3).fls r3.fls (by simp)).mono ?_
      rintro e y4 ⟨rfl, hg4⟩
      have hb04 := hb03.trans (hg4.low.mono hb03.size)
      clear hb1 hb2 hb3 hg4 r2 r3 cs ci
      go_wp2
      go_ret
      exact ⟨rfl, hb04⟩
    · have hok := hR o r hcase
      simp only [hcase, rdL, rdI, Option.isSome] at cs ci
      clear hR hcase
      have hzo := szL_ok hok
      have hlo := (fldsOk_parts hok).1
      generalize (t.size : Int) - (r.length : Int) = N at cs ci
      go_wp2_with fail
      refine (ci y1 m1).mono ?_
      rintro e y2 ⟨u2, rfl, r2, hb2⟩
      have hb02 := hb01.trans (hb2.mono hb01.size)
      go_wp2_with fail
      refine (cs _).mono ?_
      rintro e y3 ⟨u3, rfl, r3, hb3⟩
      have hb03 := hb02.trans (hb3.mono hb02.size)
      have r2 := r2.kept hb3
      go_wp2_with fail
      refine (likeF _ _ o _ r2.fls r3.fls (by omega)).mono ?_
      rintro e y4 ⟨rfl, hg4⟩
      have hb04 := hb03.trans (hg4.low.mono hb03.size)
      have r2 := r2.kept hg4.low
      go_wp2_with fail
      refine (implOk _ o _ r2.fls hzo).mono ?_
      rw [hok]
      rintro e y5 ⟨rfl, hb5⟩
      have hb05 := hb04.trans (hb5.mono hb04.size)
      clear hb1 hb2 hb3 hg4 hb5 r2 r3 cs ci hb01 hb02 hb03 hb04
      go_wp2
      go_ret
      exact ⟨rfl, hb05⟩
end Go.Proofs.YtnkalamfekkmbaaDoor
