/-
  The program's Moved where something is not as told.
  The program's Moved.
-/
import Derived.Test.YtdbeoloonoodkaaDoorG30
namespace Go.Proofs.YtdbeoloonoodkaaDoor
open Go.RowKit Go.Sort Ow Rom
set_option linter.unusedVariables false
set_option linter.unusedSimpArgs false

set_option maxRecDepth 100000 in
set_option maxHeartbeats 4000000 in
theorem implMov_no (v : Value) (l : List Int) (z : Int) (vk : Value) (keys : List ByteArray) (w : World) (h : Sls intE w v l) (hl : l.length ≤ 1048576) (hkk : Sls txtE w vk keys) (hkl : keys.length ≤ 1048576)
    (hno : srvOk l = false ∨ (srvOk l = true ∧ l.length < 2) ∨ (srvOk l = true ∧ 2 ≤ l.length ∧ z ∉ l) ∨ (srvOk l = true ∧ 2 ≤ l.length ∧ z ∈ l ∧ 100 < keys.length)) :
    Calls Tryd.prog 13 #[v, .int .i64 z, vk] w fun e w' => ∃ u, e = .returned u ∧ HasN w' w.heap.size u (movV l z keys) ∧ Below w.heap.size w w' := by
  have hv : movV l z keys = [] := by
    unfold movV
    rw [movOk_out (by rcases hno with h | ⟨_, h⟩ | ⟨_, _, h⟩ | ⟨_, _, _, h⟩; exact .inl h; exact .inr (.inl h); exact .inr (.inr (.inl h)); exact .inr (.inr (.inr h)))]
    rfl
  rw [hv]
  have B1 : Hid (Below w.heap.size w (w.alloc (.cells #[] 2))) := (show Hid _ from (Below.refl _ w).alloc (Nat.le_refl _) _)
  have j0 := idxN v l z (w.alloc (.cells #[] 2)) (h.kept B1.out)
  have j1 := implSrvs v l (w.alloc (.cells #[] 2)) (h.kept B1.out)
  have HO : Hid (HasN (w.alloc (.cells #[] 2)) w.heap.size (.slice (some ⟨w.heap.size, 0, none⟩) 0 0) []) := (OwnsE.born w).has
  obtain ⟨a, cap, rfl, _⟩ := h.one
  obtain ⟨ak, ck, rfl, _⟩ := hkk.txO
  generalize hw1 : w.alloc (.cells #[] 2) = w1 at j0 j1 HO B1
  clear h hkk hv
  rcases hno with hs | ⟨hs, h2⟩ | ⟨hs, h2, hz⟩ | ⟨hs, h2, hz, h4⟩
  · rw [hs] at j1
    generalize idxA l z = I at j0
    go_enter Tryd.func13, Tryd.ntmps13
    go_wp2_with fail
    refine j0.mono ?_
    rintro e w2 ⟨rfl, rfl⟩
    go_wp2_with fail
    refine j1.mono ?_
    rintro e w2 ⟨rfl, rfl⟩
    go_wp2
    go_ret
    exact ⟨_, rfl, HO.out, B1.out⟩
  · rw [hs] at j1
    generalize idxA l z = I at j0
    have e1 : (l.length : Int) < 2 := by omega
    go_enter Tryd.func13, Tryd.ntmps13
    go_wp2_with fail
    refine j0.mono ?_
    rintro e w2 ⟨rfl, rfl⟩
    go_wp2_with fail
    refine j1.mono ?_
    rintro e w2 ⟨rfl, rfl⟩
    go_wp2
    go_ret
    exact ⟨_, rfl, HO.out, B1.out⟩
  · rw [hs] at j1
    rw [idxA_no hz] at j0
    have e1 : ¬ (l.length : Int) < 2 := by omega
    go_enter Tryd.func13, Tryd.ntmps13
    go_wp2_with fail
    refine j0.mono ?_
    rintro e w2 ⟨rfl, rfl⟩
    go_wp2_with fail
    refine j1.mono ?_
    rintro e w2 ⟨rfl, rfl⟩
    go_wp2
    go_ret
    exact ⟨_, rfl, HO.out, B1.out⟩
  · rw [hs] at j1
    rw [(idxA_in hz).1] at j0
    generalize l.idxOf z = I at j0
    have e1 : ¬ (l.length : Int) < 2 := by omega
    have e2 : ¬ (I : Int) < 0 := by omega
    have e3 : (100 : Int) < (keys.length : Int) := by omega
    clear hz
    go_enter Tryd.func13, Tryd.ntmps13
    go_wp2_with fail
    refine j0.mono ?_
    rintro e w2 ⟨rfl, rfl⟩
    go_wp2_with fail
    refine j1.mono ?_
    rintro e w2 ⟨rfl, rfl⟩
    go_wp2
    go_ret
    exact ⟨_, rfl, HO.out, B1.out⟩
end Go.Proofs.YtdbeoloonoodkaaDoor
namespace Go.Proofs.YtdbeoloonoodkaaDoor
open Go.RowKit Go.Sort Ow Rom
set_option linter.unusedVariables false
set_option linter.unusedSimpArgs false

set_option maxRecDepth 100000 in
set_option maxHeartbeats 8000000 in
theorem implMov_yes (v : Value) (l : List Int) (z : Int) (vk : Value) (keys : List ByteArray) (w : World) (h : Sls intE w v l) (hkk : Sls txtE w vk keys) (hks : ∀ x ∈ keys, x.size ≤ 1048576) (hs : srvOk l = true) (h2 : 2 ≤ l.length) (hz : z ∈ l) (h100 : keys.length ≤ 100) :
    Calls Tryd.prog 13 #[v, .int .i64 z, vk] w fun e w' => ∃ u, e = .returned u ∧ HasN w' w.heap.size u (movV l z keys) ∧ Below w.heap.size w w' := by
  have ok := srvOk_iff.1 hs
  obtain ⟨hmo, hgl⟩ := movOk_in ok h2 hz h100
  have HR : Hid (movV l z keys = movL l z keys keys.length) := by show _ = _; unfold movV; rw [hmo]; rfl
  have hv0 := h
  have B1 : Hid (Below w.heap.size w (w.alloc (.cells #[] 2))) := (show Hid _ from (Below.refl _ w).alloc (Nat.le_refl _) _)
  have s1 := h.kept B1.out
  have j0 := idxN v l z (w.alloc (.cells #[] 2)) s1
  have j1 := implSrvs v l (w.alloc (.cells #[] 2)) s1
  rw [hs] at j1
  have hix := idxA_in hz
  rw [hix.1] at j0
  have O1 : Hid (OwnsN (w.alloc (.cells #[] 2)) w.heap.size (.slice (some ⟨w.heap.size, 0, none⟩) 0 0) []) := OwnsE.born w
  obtain ⟨a, cap, rfl, h1, h2c, h3⟩ := h.one
  obtain ⟨g, o, rfl, hg, hc⟩ := h3 (by omega)
  obtain ⟨ak, ck, rfl, q1, q2, q3⟩ := hkk.txO
  have HQ : Hid (0 < keys.length → ∃ g o, ak = some ⟨g, o, Option.none⟩ ∧ g < w.heap.size ∧ ∀ j (hj : j < keys.length), w.cell? ⟨g, o + j, Option.none⟩ = some (.string keys[j])) := q3
  have HV : Hid (Sls intE w (.slice (some ⟨g, o, none⟩) l.length cap) l) := hv0
  have HS : Hid (∀ x ∈ keys, x.size ≤ 1048576) := hks
  have HGE := gon_at ok.ris hz
  have hl9 := ok.len
  clear h3 q3
  generalize l.idxOf z = k0 at j0 hix HGE
  obtain ⟨e0, he⟩ : ∃ e, k0 + 1 = e := ⟨_, rfl⟩
  have hwr : IntKind.i64.wrap ((k0 : Int) + 1) = (e0 : Int) := by rw [IntKind.wrap_i64]; omega
  obtain ⟨A, hA, hAs⟩ := s1.rest (k := e0) (by omega)
  rw [show o + e0 * (intE).k = o + e0 from by show o + e0 * 1 = o + e0; omega] at hA
  have hfr := fun W hW => cat2S _ _ _ _ (w.alloc (.cells #[] 2)) W (s1.front (m := k0) (by omega)) hAs (by rw [List.length_take, List.length_drop]; omega) (by rw [List.length_take, List.length_drop]; have := ok.len; omega) hW
  rw [he] at HGE
  rw [← HGE] at hfr
  have he1 : e0 ≤ l.length := by omega
  have he2 : (e0 : Int) ≤ (l.length : Int) := by omega
  unfold maxLen at h2c
  have hk0c : k0 ≤ cap := by omega
  have hk0n : k0 ≤ l.length := by omega
  have hki : (k0 : Int) < (l.length : Int) := by omega
  have e1 : ¬ (l.length : Int) < 2 := by omega
  have e2 : ¬ (k0 : Int) < 0 := by omega
  have e3 : ¬ (100 : Int) < (keys.length : Int) := by omega
  have hOw := fun W key hW (hk : key.size ≤ 1048576) => implOwn (.slice (some ⟨g, o, none⟩) l.length cap) l key W hW hk
  have hsz1 : (w.alloc (.cells #[] 2)).heap.size = w.heap.size + 1 := by simp
  generalize hw1 : w.alloc (.cells #[] 2) = w1 at j0 j1 O1 B1 hfr hsz1
  have HSZ : Hid (w1.heap.size = w.heap.size + 1) := hsz1
  clear hsz1
  clear h hkk hv0 hz hs ok hmo hix HGE hc hks s1 hAs he h1 hgl
  go_enter Tryd.func13, Tryd.ntmps13
  go_wp2_with fail
  refine j0.mono ?_
  rintro e w2 ⟨rfl, rfl⟩
  go_wp2_with fail
  refine j1.mono ?_
  rintro e w2 ⟨rfl, rfl⟩
  go_wp2_with fail
  go_region_with (go_at_call 44; refine (hfr _ (by exact ⟨rfl, rfl, rfl, Nat.le_refl _, fun _ _ => rfl⟩)).mono ?_; rintro e w2 ⟨u, rfl, ho, hb⟩; obtain ⟨au, cu, rfl, _⟩ := ho.form)
  all_goals
    have B2 : Hid (Below w.heap.size w w2) := (show Hid _ from B1.out.trans (hb.mono (by have := HSZ.out; omega)))
    have O2 : Hid (OwnsN w2 w.heap.size (.slice (some ⟨w.heap.size, 0, none⟩) 0 0) []) := O1.out.kept hb
    have U2 : Hid (OwnsN w2 (w.heap.size + 1) (.slice au (gon l z).length cu) (gon l z)) := (show Hid _ from ho.low (by have := HSZ.out; omega))
    have hUf := U2.out.from
    have hUu := U2.out.under
    have U2s : Hid (Sls intE w2 (.slice au (gon l z).length cu) (gon l z)) := U2.out.sls
    have HUB : Hid (∀ b, (Value.slice au (gon l z).length cu).ownBlock = some b → w.heap.size + 1 ≤ b ∧ b < w2.heap.size) := (show ∀ _, _ from fun b hb => ⟨hUf b hb, hUu b hb⟩)
    have hOu := fun W key hW (hk : key.size ≤ 1048576) => implOwn (.slice au (gon l z).length cu) (gon l z) key W hW hk
    have hw2s : w.heap.size + 1 ≤ w2.heap.size := by have := hb.size; have := HSZ.out; omega
    clear U2 hUf hUu ho hb hfr j0 j1 hw1 O1 B1
    go_wp2
    go_loopw [7, 45] (fun s i wr => ∃ (k sg sc : Nat), k ≤ keys.length ∧ i = .int .i64 k ∧ s = .slice (some ⟨sg, 0, none⟩) (movL l z keys k).length sc ∧ (sg = w.heap.size ∨ w2.heap.size ≤ sg) ∧ Hid (OwnsN wr w.heap.size (.slice (some ⟨sg, 0, none⟩) (movL l z keys k).length sc) (movL l z keys k)) ∧ Hid (Sls intE wr (.slice au (gon l z).length cu) (gon l z)) ∧ w2.heap.size ≤ wr.heap.size ∧ Hid (Below w.heap.size w wr)) (fun _ i _ => keys.length - (intOf i).toNat)
    case atStart => exact ⟨0, _, _, Nat.zero_le _, rfl, rfl, .inl rfl, O2, U2s, Nat.le_refl _, B2⟩
    case round =>
      clear O2 U2s B2
      obtain ⟨k, sg, sc, hk, rfl, rfl, hsg, ho, hu, hw2r, hb⟩ := hrel
      by_cases hlt : k < keys.length
      · obtain ⟨gk, okk, rfl, hgk, hck⟩ := HQ.out (by omega)
        have c0 := (hb.out.cell (p := ⟨gk, okk + k, none⟩) hgk).trans (hck k hlt)
        have hks := HS.out keys[k] (List.getElem_mem hlt)
        have eg : keys.getD k ⟨#[]⟩ = keys[k] := by simp [hlt]
        have HY : Hid (¬ ownV l keys[k] = ownV (gon l z) keys[k] → movL l z keys (k + 1) = movL l z keys k ++ [(k : Int)]) := (show Hid _ from fun h => movL_yes l z keys k (by rw [eg]; exact h))
        have HN : Hid (ownV l keys[k] = ownV (gon l z) keys[k] → movL l z keys (k + 1) = movL l z keys k) := (show Hid _ from fun h => movL_no l z keys k (by rw [eg]; exact h))
        have hml := movL_length l z keys k
        have jo := hOu wr keys[k] hu.out hks
        have jl := fun W hW => hOw W keys[k] hW hks
        generalize keys[k] = y at c0 jo jl HY HN hks
        generalize ownV l y = o1 at jl HY HN
        generalize ownV (gon l z) y = o2 at jo HY HN
        generalize movL l z keys k = S at ho HY HN hml
        have hki : (k : Int) < (keys.length : Int) := by omega
        clear eg hck
        go_wp2_with fail
        refine jo.mono ?_
        rintro e w5 ⟨rfl, hb5⟩
        have jl5 := jl w5 (HV.out.kept (hb.out.trans (hb5.mono hb.out.size)))
        have B5 : Hid (Below w.heap.size w w5) := (show Hid _ from pastO hb.out hb5)
        have O5 : Hid (OwnsN w5 w.heap.size (.slice (some ⟨sg, 0, none⟩) S.length sc) S) := ho.out.kept hb5
        have U5 : Hid (Sls intE w5 (.slice au (gon l z).length cu) (gon l z)) := hu.out.kept hb5
        have hw5 := Nat.le_trans hw2r hb5.size
        clear hb5 hb ho hu jo jl c0
        go_wp2_with fail
        refine jl5.mono ?_
        rintro e wn ⟨rfl, hbn⟩
        have BN : Hid (Below w.heap.size w wn) := (show Hid _ from pastO B5.out hbn)
        have ON : Hid (OwnsN wn w.heap.size (.slice (some ⟨sg, 0, none⟩) S.length sc) S) := O5.out.kept hbn
        have UN : Hid (Sls intE wn (.slice au (gon l z).length cu) (gon l z)) := U5.out.kept hbn
        have hwn := Nat.le_trans hw5 hbn.size
        clear hbn B5 O5 U5 jl5 hw5
        by_cases he : o1 = o2
        · have e1 : (o2 == o1) = true := by simp [he]
          have HP : Hid (movL l z keys (k + 1) = S) := HN.out he
          clear he HY HN
          go_wp2
          exact ⟨⟨k + 1, sg, sc, by omega, by go_num, by rw [HP.out], hsg, by rw [HP.out]; exact ON, UN, hwn, BN⟩, by simp [intOf]; omega⟩
        · have e1 : (o2 == o1) = false := by simpa using fun e => he e.symm
          have HP : Hid (movL l z keys (k + 1) = S ++ [(k : Int)]) := HY.out he
          clear he HY HN
          go_wp2_with (at_builtin; refine wpList_pushNa _ rfl (.tmp 57) (.tmp 59) rfl w.heap.size sg S.length sc S (k : Int) rfl ON.out rfl (by omega) BN.out.size ?_; intro g4 c4 w4 ho4 hg4 hr4; have B4 : Hid (Below w.heap.size w w4) := (show Hid _ from belowE BN.out hr4 BN.out.size (fun b hb => by injection hb with hb; have := ON.out.from sg rfl; omega)); have U4 : Hid (Sls intE w4 (.slice au (gon l z).length cu) (gon l z)) := (show Hid _ from UN.out.grown hr4 (fun b hb e => by have := HUB.out b hb; injection e with e; omega)); have hz4 := hr4.size; have HO4 : Hid (OwnsN w4 w.heap.size (.slice (some ⟨g4, 0, none⟩) (S ++ [(k : Int)]).length c4) (S ++ [(k : Int)])) := (show Hid _ from (by rw [List.length_append]; exact ho4)); have hg5 : g4 = w.heap.size ∨ w2.heap.size ≤ g4 := (by omega); clear ON UN BN ho4 hr4 hg4)
          exact ⟨⟨k + 1, g4, c4, by omega, by go_num, by rw [HP.out, List.length_append]; rfl, hg5, by rw [HP.out]; exact HO4, U4, by omega, B4⟩, by simp [intOf]; omega⟩
      · obtain rfl : k = keys.length := by omega
        have hki : ¬ (keys.length : Int) < (keys.length : Int) := by omega
        go_wp2
        go_ret
        exact ⟨_, rfl, by rw [HR.out]; exact ho.out.has, hb.out⟩
theorem implMov (v : Value) (l : List Int) (z : Int) (vk : Value) (keys : List ByteArray) (w : World) (h : Sls intE w v l) (hl : l.length ≤ 1048576) (hkk : Sls txtE w vk keys) (hkl : keys.length ≤ 1048576) (hks : ∀ x ∈ keys, x.size ≤ 1048576) :
    Calls Tryd.prog 13 #[v, .int .i64 z, vk] w fun e w' => ∃ u, e = .returned u ∧ HasN w' w.heap.size u (movV l z keys) ∧ Below w.heap.size w w' := by
  by_cases hs : srvOk l = true
  · by_cases h2 : 2 ≤ l.length
    · by_cases hz : z ∈ l
      · by_cases h100 : keys.length ≤ 100
        · exact implMov_yes v l z vk keys w h hkk hks hs h2 hz h100
        · exact implMov_no v l z vk keys w h hl hkk hkl (.inr (.inr (.inr ⟨hs, h2, hz, by omega⟩)))
      · exact implMov_no v l z vk keys w h hl hkk hkl (.inr (.inr (.inl ⟨hs, h2, hz⟩)))
    · exact implMov_no v l z vk keys w h hl hkk hkl (.inr (.inl ⟨hs, by omega⟩))
  · exact implMov_no v l z vk keys w h hl hkk hkl (.inl (by simpa using hs))
end Go.Proofs.YtdbeoloonoodkaaDoor
