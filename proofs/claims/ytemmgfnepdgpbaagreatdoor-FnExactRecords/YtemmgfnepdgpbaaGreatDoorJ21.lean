/-
  The specification's numbers of a line and its records, by their contracts.
  The specification's records by their contracts.
  The specification's first record of a disk, and all of them, by their contracts.
-/
import Derived.Test.YtemmgfnepdgpbaaGreatDoorJ20
import Derived.Test.YtemmgfnepdgpbaaGreatDoorJ18
namespace Go.Proofs.YtemmgfnepdgpbaaGreatDoor
open Go.RowKit St Ow
set_option linter.unusedVariables false
set_option linter.unusedSimpArgs false

theorem wrd_in : ∀ (l : List UInt8), (∀ y ∈ wrdL l, y.length ≤ l.length) ∧ (wrdL l).length ≤ l.length + 1
  | [] => ⟨fun y hy => by simp [wrdL] at hy; simp [hy], by simp [wrdL]⟩
  | c :: r => by
    obtain ⟨h1, h2⟩ := wrd_in r
    unfold wrdL
    split
    · refine ⟨fun y hy => ?_, by simp; omega⟩
      rcases List.mem_cons.1 hy with rfl | hy
      · simp
      · have := h1 y hy
        simp
        omega
    · cases e : wrdL r with
      | nil => exact ⟨fun y hy => by simp at hy; simp [hy], by simp⟩
      | cons x xs =>
        rw [e] at h1 h2
        refine ⟨fun y hy => ?_, by simpa using Nat.le_succ_of_le h2⟩
        rcases List.mem_cons.1 hy with rfl | hy
        · have := h1 x (List.mem_cons_self ..)
          simp
          omega
        · have := h1 y (List.mem_cons_of_mem _ hy)
          simp
          omega
theorem OwnsS.open {w : World} {B : Nat} {v : Value} {l : List ByteArray} (h : OwnsS w B v l) : ∃ g cap, v = .slice (some ⟨g, 0, none⟩) l.length cap ∧ l.length ≤ cap ∧ cap ≤ maxLen ∧ g < w.heap.size ∧ ∀ j (hj : j < l.length), w.cell? ⟨g, j, none⟩ = some (.string l[j]) := by
  obtain ⟨⟨g, c, rfl, hB, hl⟩, hrow⟩ := h
  refine ⟨g, c, rfl, ?_, ?_, hl, fun j hj => ?_⟩
  · rcases hrow.2 with ⟨e, _⟩ | ⟨g', c', cur, e, _, _, h3, h4, _⟩
    · cases e
    · injection e with _ _ e3; omega
  · rcases hrow.2 with ⟨e, _⟩ | ⟨g', c', cur, e, _, _, h3, h4, _⟩
    · cases e
    · injection e with _ _ e3; omega
  · have := World.ownsRow.cells hrow (g := g) rfl j (.string l[j]) (by simp [hj])
    rw [addr_add, Nat.zero_add] at this
    exact this
theorem num_take {W : List ByteArray} {j : Nat} (hj : j < W.length) : (W.take (j + 1)).map (numV 10 15) = (W.take j).map (numV 10 15) ++ [numV 10 15 W[j]] := by
  rw [List.take_succ_eq_append_getElem hj, List.map_append]
  rfl
theorem num_step {W : List ByteArray} {j : Nat} (hj : j < W.length) (h : (W.take j).all (numOk 10 15) = true) (h2 : numOk 10 15 W[j] = true) : (W.take (j + 1)).all (numOk 10 15) = true := by
  rw [List.take_succ_eq_append_getElem hj, List.all_append, h]
  simp [h2]
theorem wrdS_len (l : List UInt8) : (wrdS l).length = (wrdL l).length := by unfold wrdS; simp
set_option maxRecDepth 100000 in
set_option maxHeartbeats 2000000 in
theorem specNms (s : ByteArray) (c : Nat) (w : World) (hs : s.size ≤ 1048576) (hc : c ≤ 1000) :
    Calls Tryz.prog 45 #[.string s, .int .i64 c] w fun e w' => ∃ u b, e = .returned (.tuple #[u, .bool b]) ∧ NmQ w w' s.data.toList c u b := by
  have hW := fun W => specWords s W hs
  have hsl : s.data.toList.length = s.size := by simp
  have HWS : Hid (∀ x ∈ wrdS s.data.toList, x.size ≤ 1048576) := (show ∀ _, _ from fun x hx => by
    unfold wrdS at hx
    obtain ⟨y, hy, rfl⟩ := List.mem_map.1 hx
    have := (wrd_in s.data.toList).1 y hy
    show y.toArray.size ≤ _
    simp
    omega)
  have hWn : (wrdS s.data.toList).length ≤ 1048577 := by rw [wrdS_len]; have := (wrd_in s.data.toList).2; omega
  have HBAD : Hid (∀ j (hj : j < (wrdS s.data.toList).length), numOk 10 15 (wrdS s.data.toList)[j] = false → numsL c s.data.toList = none) := (show ∀ _, _ from fun j hj h => by
    have hj2 : j < (wrdL s.data.toList).length := by rw [← wrdS_len]; exact hj
    refine nums_bad (y := (wrdL s.data.toList)[j]'hj2) (List.getElem_mem hj2) ?_
    have e : (wrdS s.data.toList)[j] = txtL ((wrdL s.data.toList)[j]'hj2) := by simp [wrdS]
    rw [e] at h
    exact h)
  have HALL : Hid ((wrdS s.data.toList).all (numOk 10 15) = true → numsL c s.data.toList = if (wrdS s.data.toList).length = c then some ((wrdS s.data.toList).map (numV 10 15)) else none) := (show _ → _ from fun h => by
    unfold wrdS at h ⊢
    rw [List.all_map] at h
    rw [nums_all h, List.length_map, List.map_map]
    rfl)
  generalize wrdS s.data.toList = WS at hW HWS hWn HBAD HALL
  obtain ⟨N, hN⟩ : ∃ N, numsL c s.data.toList = N := ⟨_, rfl⟩
  have HN : Hid (numsL c s.data.toList = N) := hN
  rw [hN] at HBAD HALL
  clear hN hsl
  have hdg := fun x W hx => specDig x W hx
  unfold numE at hdg
  go_enter Tryz.func45, Tryz.ntmps45
  go_wp2_with fail
  refine (hW _).mono ?_
  rintro e w1 ⟨u1, rfl, ho1, hb1⟩
  obtain ⟨g, cap, hu1, hcap, hcm, hgl, hcell⟩ := ho1.open
  subst hu1
  have HC : Hid (∀ j (hj : j < WS.length), w1.cell? ⟨g, j, none⟩ = some (.string WS[j])) := hcell
  have HB1 : Hid (Below w.heap.size w w1) := hb1
  have hwz : w.heap.size ≤ w1.heap.size := hb1.size
  unfold maxLen at hcm
  clear hW ho1 hcell hb1
  go_wp2_with fail
  go_loopw [7, 8] (fun a i wr => ∃ j : Nat, j ≤ WS.length ∧ i = .int .i64 j ∧ Hid ((WS.take j).all (numOk 10 15) = true) ∧ Hid (OwnsNu wr w1.heap.size a ((WS.take j).map (numV 10 15))) ∧ Hid (Below w1.heap.size w1 wr)) (fun _ i _ => WS.length - (intOf i).toNat)
  case atStart => exact ⟨0, Nat.zero_le _, rfl, (show Hid _ from rfl), (show OwnsE nuE 2 _ _ _ _ from OwnsE.born w1), (show Hid _ from (Below.refl _ w1).alloc (Nat.le_refl _) _)⟩
  case round =>
    obtain ⟨j, hj, rfl, hall, ho, hb⟩ := hrel
    obtain ⟨oa, oc, hov, hol, hom, _⟩ := ho.out.form
    rw [List.length_map, List.length_take, Nat.min_eq_left hj] at hov hol
    subst hov
    unfold maxLen at hom
    by_cases hlt : j < WS.length
    · have hji : (j : Int) < (WS.length : Int) := by omega
      have c1 := (hb.out.cell (p := ⟨g, j, none⟩) hgl).trans (HC.out j hlt)
      have hd := fun W => hdg WS[j] W (by have := HWS.out _ (List.getElem_mem hlt); unfold maxLen; omega)
      have HB2 := HBAD.out j hlt
      have HST := fun h => num_step hlt hall.out h
      have HTK : Hid (_ = _) := num_take hlt
      generalize WS[j] = x at c1 hd HB2 HST HTK
      cases hok : numOk 10 15 x with
      | false =>
        have hNn : N = none := HB2 hok
        rw [hok] at hd
        clear HST HTK hok HB2
        go_wp2_with fail
        refine (hd _).mono ?_
        rintro e w2 ⟨rfl, hb2⟩
        have B2 : Hid (Below w.heap.size w w2) := (show Below _ _ _ from HB1.out.trans ((hb.out.trans (hb2.mono hb.out.size)).mono hwz))
        have hnn : Hid (N = none) := hNn
        clear hb2 hNn
        go_wp2
        go_ret2
        exact ⟨.slice oa j oc, false, rfl, ⟨⟨_, _, _, rfl⟩, (fun ns h => by rw [HN.out, hnn.out] at h; cases h), fun _ => rfl, B2.out⟩⟩
      | true =>
        have HA2 : Hid _ := HST hok
        rw [hok] at hd
        clear HST hok HB2
        generalize numV 10 15 x = nv at hd HTK
        go_wp2_with fail
        refine (hd _).mono ?_
        rintro e w2 ⟨rfl, hb2⟩
        have B2 : Hid (Below w1.heap.size w1 w2) := (show Below _ _ _ from hb.out.trans (hb2.mono hb.out.size))
        have O2 : Hid (OwnsNu w2 w1.heap.size (.slice oa j oc) ((WS.take j).map (numV 10 15))) := (show OwnsE nuE 2 _ _ _ _ from ho.out.kept hb2)
        clear hb2 hd ho hb
        go_wp2_with (at_builtin; refine wpList_pushNu _ rfl (.tmp 31) (.tmp 33) rfl w1.heap.size _ ((WS.take j).map (numV 10 15)) nv rfl O2.out rfl (by rw [List.length_map, List.length_take]; omega) B2.out.size ?_; intro v3 w3 ho3 hg3; have B3 : Hid (Below w1.heap.size w1 w3) := (show Hid _ from B2.out.grown hg3 B2.out.size O2.out.from); have O3 : Hid (OwnsNu w3 w1.heap.size v3 ((WS.take (j + 1)).map (numV 10 15))) := (show OwnsE nuE 2 _ _ _ _ from by rw [HTK.out]; exact ho3); clear ho3 hg3)
        go_roundw
        case rel => exact ⟨j + 1, by omega, by go_num, HA2, O3, B3⟩
        case measure => simp [intOf]; omega
    · obtain rfl : j = WS.length := by omega
      rw [List.take_length] at ho hall
      have HA3 := HALL.out hall.out
      have B2 : Hid (Below w.heap.size w wr) := (show Below _ _ _ from HB1.out.trans (hb.out.mono hwz))
      have O2 : Hid (OwnsNu wr w.heap.size (.slice oa WS.length oc) (WS.map (numV 10 15))) := (show OwnsE nuE 2 _ _ _ _ from ho.out.low hwz)
      by_cases hlc : WS.length = c
      · rw [if_pos hlc] at HA3
        have hqi : ((WS.length : Int) == (c : Int)) = true := by simp; omega
        have HA4 : Hid (N = some (WS.map (numV 10 15))) := HA3
        clear HA3 hlc ho hall
        go_wp2
        go_ret2
        exact ⟨.slice oa WS.length oc, true, by simp [hqi], ⟨⟨_, _, _, rfl⟩, (fun ns h => by rw [HN.out, HA4.out] at h; injection h with h; subst h; exact ⟨rfl, O2.out⟩), (fun h => by rw [HN.out, HA4.out] at h; cases h), B2.out⟩⟩
      · rw [if_neg hlc] at HA3
        have hqi : ((WS.length : Int) == (c : Int)) = false := by simp; omega
        have HA4 : Hid (N = none) := HA3
        clear HA3 hlc ho hall
        go_wp2
        go_ret2
        exact ⟨.slice oa WS.length oc, false, by simp [hqi], ⟨⟨_, _, _, rfl⟩, (fun ns h => by rw [HN.out, HA4.out] at h; cases h), fun _ => rfl, B2.out⟩⟩
end Go.Proofs.YtemmgfnepdgpbaaGreatDoor
namespace Go.Proofs.YtemmgfnepdgpbaaGreatDoor
open Go.RowKit St Ow
set_option linter.unusedVariables false
set_option linter.unusedSimpArgs false

theorem txt_lst (l : List UInt8) : (txtL l).data.toList = l := by unfold txtL; simp
theorem txt_siz (l : List UInt8) : (txtL l).size = l.length := by show l.toArray.size = _; simp
theorem bytes_ext {a b : ByteArray} (h : a.data.toList = b.data.toList) : a = b := ByteArray.ext (Array.toList_inj.1 h)
theorem bytes_same {a b : ByteArray} : (a.toList == b.toList) = decide (a = b) := by
  by_cases h : a = b
  · subst h; simp
  · rw [decide_eq_false h]
    have : ¬ a.toList = b.toList := fun e => h (bytes_ext (by rw [ByteArray.toList_eq, ByteArray.toList_eq] at e; exact e))
    simp [this]
theorem pre_iff {r d : ByteArray} : r.data.toList <+: d.data.toList ↔ r.size ≤ d.size ∧ d.extract 0 r.size = r := by
  have hr : r.data.toList.length = r.size := by simp
  have hd : d.data.toList.length = d.size := by simp
  have e : (d.extract 0 r.size).data.toList = d.data.toList.take r.size := by simp [ByteArray.data_extract, List.extract_eq_take_drop]
  rw [List.prefix_iff_eq_take]
  constructor
  · intro h
    refine ⟨?_, bytes_ext (by rw [e, ← hr]; exact h.symm)⟩
    have := congrArg List.length h
    rw [List.length_take] at this
    omega
  · rintro ⟨_, h⟩
    rw [hr, ← e, h]
set_option maxHeartbeats 2000000 in
theorem specRec (s : ByteArray) (w : World) (hs : s.size ≤ 1048576) :
    Calls Tryz.prog 82 #[.string s] w fun e w' => e = .returned (.string (rcdA s)) ∧ Below w.heap.size w w' := by
  have i1 := fun W => specIntZ s.size W (by omega)
  have i2 := fun W => specHsh s W (by unfold maxLen; omega)
  have i3 := fun W => specIntZ (hshL s.data.toList) W (by have := hshL_lt s.data.toList; omega)
  by_cases h9 : 9000 < s.size
  · have HE : Hid (rcdA s = ⟨#[]⟩) := by show _ = _; unfold rcdA; rw [if_neg (by omega)]
    have h9i : 9000 < (s.size : Int) := by omega
    go_enter Tryz.func82, Tryz.ntmps82
    go_wp2
    go_ret
    exact ⟨by rw [HE.out]; rfl, Below.refl _ _⟩
  · have h9i : ¬ 9000 < (s.size : Int) := by omega
    have HE : Hid (rcdA s = ((((itoS s.size ++ ⟨#[32]⟩) ++ itoS (hshL s.data.toList)) ++ ⟨#[10]⟩) ++ s) ++ ⟨#[10]⟩) := by
      show _ = _
      unfold rcdA
      rw [if_pos (by omega)]
      apply bytes_ext
      rw [txt_lst]
      unfold recL dd St.hs itoS
      simp
    have z1 := itoS_size (n := s.size) (by omega)
    have z2 := itoS_size (n := hshL s.data.toList) (by have := hshL_lt s.data.toList; omega)
    generalize itoS s.size = a at i1 HE z1
    generalize itoS (hshL s.data.toList) = b at i3 HE z2
    generalize ((hshL s.data.toList : Nat) : Int) = hv at i2 i3
    go_enter Tryz.func82, Tryz.ntmps82
    go_wp2_with fail
    refine (i1 _).mono ?_
    rintro e w1 ⟨rfl, hb1⟩
    go_wp2_with fail
    refine (i2 _).mono ?_
    rintro e w2 ⟨rfl, rfl⟩
    go_wp2_with fail
    refine (i3 _).mono ?_
    rintro e w3 ⟨rfl, hb3⟩
    have B3 : Hid (Below w.heap.size w w3) := (show Below _ _ _ from hb1.trans (hb3.mono hb1.size))
    clear hb1 hb3
    go_wp2
    go_ret
    exact ⟨by rw [HE.out]; rfl, B3.out⟩
end Go.Proofs.YtemmgfnepdgpbaaGreatDoor
namespace Go.Proofs.YtemmgfnepdgpbaaGreatDoor
open Go.RowKit St Ow
set_option linter.unusedVariables false
set_option linter.unusedSimpArgs false

def rc1E (r : Option (List UInt8)) : Value := match r with
  | none => .tuple #[.string ⟨#[]⟩, .int .i64 0]
  | some t => .tuple #[.string (txtL t), .int .i64 ((recL t).length : Nat)]
theorem rc1_none {r : Option (List UInt8)} (h : r = none) : Ending.returned (.tuple #[.string ⟨#[]⟩, .int .i64 0]) = .returned (rc1E r) := by rw [h]; rfl
theorem ns_two {ns : List Int} (h : ns.length = 2) : ∃ a b, ns = [a, b] := by
  match ns, h with
  | [a, b], _ => exact ⟨a, b, rfl⟩
theorem ext_take (d : ByteArray) (k n : Nat) : d.extract k (k + n) = txtL ((d.data.toList.drop k).take n) := by
  apply bytes_ext
  rw [txt_lst]
  simp [ByteArray.data_extract, List.extract_eq_take_drop]
theorem rdR_nl {d : List UInt8} (h : ln10 d = none) : rdR d = none := by unfold rdR; rw [h]; rfl
theorem rdR_nn {d x q : List UInt8} (h : ln10 d = some (x, q)) (h2 : numsL 2 x = none) : rdR d = none := by unfold rdR; rw [h]; simp [h2]
theorem rdR_big {d x q : List UInt8} {a b : Int} (h : ln10 d = some (x, q)) (h2 : numsL 2 x = some [a, b]) (h3 : ¬ (a ≤ 9000 ∧ a ≤ (q.length : Int))) : rdR d = none := by
  unfold rdR; rw [h]; simp only [Option.bind_some, h2, List.getD_cons_zero]; rw [if_neg h3]
theorem rdR_last {d x q : List UInt8} {a b : Int} (h : ln10 d = some (x, q)) (h2 : numsL 2 x = some [a, b]) (h3 : a ≤ 9000 ∧ a ≤ (q.length : Int)) : rdR d = lastR d (q.take a.toNat) := by
  unfold rdR; rw [h]; simp only [Option.bind_some, h2, List.getD_cons_zero]; rw [if_pos h3]
set_option maxRecDepth 100000 in
set_option maxHeartbeats 4000000 in
theorem specRc1 (d : ByteArray) (w : World) (hd : d.size ≤ 1048576) :
    Calls Tryz.prog 53 #[.string d] w fun e w' => e = .returned (rc1E (rdR d.data.toList)) ∧ Below w.heap.size w w' := by
  have hdl : d.data.toList.length = d.size := by simp
  have j1 := fun W => specLn d 0 W (Nat.zero_le _) (by omega)
  rw [List.drop_zero] at j1
  obtain ⟨R, hR⟩ : ∃ R, rdR d.data.toList = R := ⟨_, rfl⟩
  have HR : Hid (rdR d.data.toList = R) := hR
  rw [hR]
  clear hR
  cases e1 : ln10 d.data.toList with
  | none =>
    rw [e1] at j1
    have hRn : Hid (R = none) := by show _ = _; rw [← HR.out]; exact rdR_nl e1
    have j2 := fun W => specNms ⟨#[]⟩ 2 W (by decide) (by decide)
    unfold ln10E at j1
    clear e1 hdl
    go_enter Tryz.func53, Tryz.ntmps53
    go_wp2_with fail
    refine (j1 _).mono ?_
    rintro e w1 ⟨rfl, rfl⟩
    go_wp2_with fail
    refine (j2 _).mono ?_
    rintro e w2 ⟨u, b, rfl, ⟨ua, un, uc, rfl⟩, _, _, hb⟩
    have B2 : Hid (Below w.heap.size w w2) := hb
    clear hb j1 j2
    go_wp2
    go_ret2
    exact ⟨rc1_none hRn.out, B2.out⟩
  | some p =>
    obtain ⟨x, q⟩ := p
    rw [e1] at j1
    have hx := (ln10_is e1).1
    have hlen : x.length + 1 + q.length = d.size := by rw [← hdl, hx]; simp; omega
    have hq : d.data.toList.drop (x.length + 1) = q := by rw [hx, ← List.drop_drop]; simp
    have hat : (d.size : Int) - (q.length : Int) = ((x.length + 1 : Nat) : Int) := by omega
    have j2 := fun W => specNms (txtL x) 2 W (by rw [txt_siz]; omega) (by decide)
    rw [txt_lst] at j2
    have j1 : ∀ W, Calls Tryz.prog 44 #[.string d, .int .i64 0] W fun e w' => e = .returned (.tuple #[.string (txtL x), .int .i64 ((x.length + 1 : Nat) : Int), .bool true]) ∧ W = w' := fun W => (j1 W).mono fun e w' ⟨h1, h2⟩ => ⟨by rw [h1, ← hat]; rfl, h2⟩
    generalize txtL x = X at j1 j2
    generalize hk : x.length + 1 = k at hat hq j1 hlen
    have hkd : k ≤ d.size := by omega
    have hE1 : Hid (ln10 d.data.toList = some (x, q)) := e1
    clear e1 hx hat
    go_enter Tryz.func53, Tryz.ntmps53
    go_wp2_with fail
    refine (j1 _).mono ?_
    rintro e w1 ⟨rfl, rfl⟩
    go_wp2_with fail
    refine (j2 _).mono ?_
    rintro e w2 ⟨u, b, rfl, hN⟩
    have B2 : Hid (Below w.heap.size w w2) := hN.low
    clear j1 j2
    cases en : numsL 2 x with
    | none =>
      obtain rfl : b = false := hN.no en
      obtain ⟨ua, un, uc, rfl⟩ := hN.form
      have hRn : Hid (R = none) := by show _ = _; rw [← HR.out]; exact rdR_nn hE1.out en
      clear hN en
      go_wp2
      go_ret2
      exact ⟨rc1_none hRn.out, B2.out⟩
    | some ns =>
      obtain ⟨rfl, ho⟩ := hN.yes ns en
      have hfw := nums_few en
      obtain ⟨n, n2, rfl⟩ := ns_two (nums_len en)
      have hn0 : few n := hfw n (by simp)
      obtain ⟨ua, uc, hu, hul, hum, hua⟩ := ho.form
      subst hu
      obtain ⟨g, rfl⟩ : ∃ g, ua = some ⟨g, 0, none⟩ := by
        rcases hua with ⟨_, h0⟩ | h
        · simp at hul; omega
        · exact h
      have c0 := ownsNu_at ho 0 (by simp)
      simp only [List.getElem_cons_zero] at c0
      unfold maxLen at hum
      have hn1 : 0 ≤ n := hn0.1
      have hEN : Hid (numsL 2 x = some [n, n2]) := en
      have hlen2 : ([n, n2] : List Int).length = 2 := rfl
      rw [hlen2] at hul ⊢
      clear hN en hfw ho hlen2 hua hn0
      by_cases hbig : 9000 < n
      · have hRn : Hid (R = none) := by show _ = _; rw [← HR.out]; exact rdR_big hE1.out hEN.out (by omega)
        go_wp2
        go_ret2
        exact ⟨rc1_none hRn.out, B2.out⟩
      · by_cases hlong : (d.size : Int) - (k : Int) < n
        · have hRn : Hid (R = none) := by show _ = _; rw [← HR.out]; exact rdR_big hE1.out hEN.out (by omega)
          go_wp2
          go_ret2
          exact ⟨rc1_none hRn.out, B2.out⟩
        · obtain ⟨m, rfl⟩ : ∃ m : Nat, n = (m : Int) := ⟨n.toNat, by omega⟩
          have HL : Hid (R = lastR d.data.toList (q.take m)) := by show _ = _; rw [← HR.out, rdR_last hE1.out hEN.out ⟨by omega, by omega⟩]; simp
          have hE : Hid (d.extract k (k + m) = txtL (q.take m)) := by show _ = _; rw [ext_take, hq]
          have hTs : Hid ((q.take m).length = m) := by show _ = _; rw [List.length_take]; omega
          have j3 := fun W => specRec (txtL (q.take m)) W (by rw [txt_siz, List.length_take]; omega)
          have hrc : rcdA (txtL (q.take m)) = txtL (recL (q.take m)) := by unfold rcdA; rw [if_pos (by rw [txt_siz, List.length_take]; omega), txt_lst]
          rw [hrc] at j3
          have hPI := pre_iff (r := txtL (recL (q.take m))) (d := d)
          have hrl : (txtL (recL (q.take m))).size = (recL (q.take m)).length := txt_siz _
          have hrm := rec_most (t := q.take m) (by rw [List.length_take]; omega)
          rw [txt_lst] at hPI
          have HP : Hid (recL (q.take m) <+: d.data.toList ↔ _) := hPI
          have hY : Hid (recL (q.take m) <+: d.data.toList → R = some (q.take m)) := (show _ → _ from fun h => by rw [HL.out]; unfold lastR; rw [if_pos h])
          have hNo : Hid (¬ recL (q.take m) <+: d.data.toList → R = none) := (show _ → _ from fun h => by rw [HL.out]; unfold lastR; rw [if_neg h])
          rw [← hrl] at hrm
          have HRL : Hid ((txtL (recL (q.take m))).size = (recL (q.take m)).length) := hrl
          have c5 : (k : Int) + (m : Int) ≤ (d.size : Int) := by omega
          have c6 : ((k : Int) + (m : Int)).toNat = k + m := by omega
          have c7 : IntKind.i64.wrap ((k : Int) + (m : Int)) = (k : Int) + (m : Int) := by rw [IntKind.wrap_i64]; omega
          clear hPI hrl hrc HL
          generalize txtL (recL (q.take m)) = RT at j3 HP HRL hrm
          rw [← hE.out] at j3
          go_wp2_with fail
          refine (j3 _).mono ?_
          rintro e w3 ⟨rfl, hb3⟩
          have B3 : Hid (Below w.heap.size w w3) := (show Below _ _ _ from B2.out.trans (hb3.mono B2.out.size))
          clear hb3 j3
          by_cases hlr : (d.size : Int) < (RT.size : Int)
          · have hRn : Hid (R = none) := hNo.out (fun h => by have := (HP.out.1 h).1; omega)
            clear hY hNo HP
            go_wp2
            go_ret2
            exact ⟨rc1_none hRn.out, B3.out⟩
          · by_cases hpe : d.extract 0 RT.size = RT
            · have hRs : Hid (R = some (q.take m)) := hY.out (HP.out.2 ⟨by omega, hpe⟩)
              have hcm : ((d.extract 0 RT.size).toList == RT.toList) = true := by simp [bytes_same, hpe]
              have hlrn : ¬ d.size < RT.size := by omega
              clear hY hNo HP hpe
              go_wp2
              go_ret2
              exact ⟨by rw [hRs.out]; show _ = Ending.returned (.tuple #[.string (txtL (q.take m)), .int .i64 ((recL (q.take m)).length : Nat)]); rw [← HRL.out, ← hE.out]; rfl, B3.out⟩
            · have hRn : Hid (R = none) := hNo.out (fun h => hpe (HP.out.1 h).2)
              have hcm : ((d.extract 0 RT.size).toList == RT.toList) = false := by simp [bytes_same, hpe]
              have hlrn : ¬ d.size < RT.size := by omega
              clear hY hNo HP hpe
              go_wp2
              go_ret2
              exact ⟨rc1_none hRn.out, B3.out⟩
end Go.Proofs.YtemmgfnepdgpbaaGreatDoor
