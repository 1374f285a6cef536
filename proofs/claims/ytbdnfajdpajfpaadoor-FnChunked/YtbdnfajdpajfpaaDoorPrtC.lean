/-
  What parts are written as: the program's Chunked, by its contract.
-/
import Derived.Test.YtbdnfajdpajfpaaDoorPrtB
import Derived.Test.YtbdnfajdpajfpaaDoorHexI
namespace Go.Proofs.YtbdnfajdpajfpaaDoor
open Go.RowKit

set_option maxHeartbeats 1000000 in
theorem implParts (v : Value) (l : List ByteArray) (w : World) (h : Strs w v l) (hs : sumP l ≤ 100000000) (r : Bool) (hr : r = true ↔ fewP l) :
    Calls Tryd.prog 18 #[v] w fun e w' => e = .returned (.bool r) ∧ w = w' := by
  obtain ⟨a, cap, rfl, h1, h2, h3⟩ := h
  unfold maxLen at h2
  by_cases hbig : 100 < l.length
  · have hbig' : (100 : Int) < (l.length : Int) := by omega
    obtain rfl : r = false := by cases r; rfl; exact absurd (hr.1 rfl).1 (by omega)
    clear h3 hr
    go_enter Tryd.func18, Tryd.ntmps18
    go_wp2
    go_ret
    exact ⟨rfl, rfl⟩
  · have hbig' : ¬ (100 : Int) < (l.length : Int) := by omega
    have H3 : Hid _ := h3
    have HR : Hid (r = true ↔ fewP l) := hr
    clear h3 hr
    go_enter Tryd.func18, Tryd.ntmps18
    go_wp2
    go_loop [3, 11] (fun m i => ∃ (k n : Nat), m = .int .i64 n ∧ i = .int .i64 k ∧ k ≤ l.length ∧ n ≤ 100000000 ∧ Hid (n = sumP (l.take k))) (fun _ i => l.length - (intOf i).toNat)
    case atStart => exact ⟨0, 0, rfl, rfl, Nat.zero_le _, by omega, by simp [Hid, sumP]⟩
    case round =>
      obtain ⟨k, n, rfl, rfl, hk, hn, hnn⟩ := hrel
      by_cases hlt : k < l.length
      · obtain ⟨g, o, rfl, hg, hc⟩ := H3.out (by omega)
        have hcj := hc k hlt
        have hnx := sumP_next hlt
        have htk := sumP_take l (k + 1)
        have hne : n = sumP (l.take k) := hnn.out
        have hn1 : Hid (n + l[k].size = sumP (l.take (k + 1))) := by show _ = _; omega
        have hn2 : n + l[k].size ≤ 100000000 := by omega
        clear hc hne hnx htk hnn
        go_wp2
        go_round
        case rel => exact ⟨k + 1, n + l[k].size, by go_num, by go_num, by omega, hn2, hn1⟩
        case measure => simp [intOf]; omega
      · obtain rfl : k = l.length := by omega
        have hne : n = sumP (l.take l.length) := hnn.out
        rw [List.take_length] at hne
        have hq : (r = true) ↔ n ≤ 4000 := by
          rw [hne]
          exact ⟨fun x => (HR.out.1 x).2, fun x => HR.out.2 ⟨by omega, x⟩⟩
        clear hne hnn
        by_cases h4 : n ≤ 4000
        · obtain rfl : r = true := hq.2 h4
          have h4' : (n : Int) ≤ 4000 := by omega
          clear hq
          go_wp2
          go_ret
          exact ⟨rfl, rfl⟩
        · obtain rfl : r = false := by cases r; rfl; exact absurd (hq.1 rfl) h4
          have h4' : ¬ (n : Int) ≤ 4000 := by omega
          clear hq
          go_wp2
          go_ret
          exact ⟨by first | rfl | (simp; omega), rfl⟩

/-- What the table of the library's bits gives in every later world. -/
theorem cellG {w w' : World} (ht : w.cell? ⟨2, 15, none⟩ = some (.int .u8 4) ∧ 2 < w.heap.size) (hb : Below w.heap.size w w') : w'.cell? ⟨2, 15, none⟩ = some (.int .u8 4) ∧ 2 < w'.heap.size :=
  ⟨(hb.cell (p := ⟨2, 15, none⟩) ht.2).trans ht.1, Nat.lt_of_lt_of_le ht.2 hb.size⟩

set_option maxHeartbeats 4000000 in
theorem implCh (v : Value) (l : List ByteArray) (w : World) (h : Strs w v l) (hs : sumP l ≤ 100000000) (ht : w.cell? ⟨2, 15, none⟩ = some (.int .u8 4) ∧ 2 < w.heap.size) :
    Calls Tryd.prog 7 #[v] w fun e w' => e = .returned (.string (chA l)) ∧ Below w.heap.size w w' := by
  by_cases hfew : fewP l
  · have hp := implParts v l w h hs true ⟨fun _ => hfew, fun _ => rfl⟩
    obtain ⟨a, cap, rfl, h1, h2, h3⟩ := h
    unfold maxLen at h2
    have hl100 := hfew.1
    have h4000 := hfew.2
    have HT : Hid _ := ht
    have H3 : Hid _ := h3
    have HW : Hid (fewP l) := hfew
    clear h3 ht hfew
    go_enter Tryd.func7, Tryd.ntmps7
    go_wp2_with (go_at_call 18; refine hp.mono ?_; rintro e w1 ⟨rfl, rfl⟩)
    clear hp
    go_loopw [3, 11] (fun x i wr => ∃ (k : Nat), i = .int .i64 k ∧ k ≤ l.length ∧ OwnsB wr w.heap.size x ((l.take k).flatMap oneL) ∧ Below w.heap.size w wr) (fun _ i _ => l.length - (intOf i).toNat)
    case atStart => exact ⟨0, rfl, Nat.zero_le _, OwnsB.nil _ _, Below.refl _ _⟩
    case round =>
      obtain ⟨k, rfl, hk, hown, hb⟩ := hrel
      have hsl := few_take HW.out k
      by_cases hlt : k < l.length
      · obtain ⟨g, o, rfl, hg, hc⟩ := H3.out (by omega)
        have c1 := (hb.cell (p := ⟨g, o + k, none⟩) hg).trans (hc k hlt)
        have hsz := sumP_at hlt
        have HN : Hid _ := flat_next hlt
        have hx := implHex (l[k].size : Int) wr (cellG HT.out hb).1 (cellG HT.out hb).2
        have hlx := hexL_list (n := l[k].size) (by omega)
        have hfx := hexA_fits (n := l[k].size) (by omega)
        have hpe := few_take HW.out (k + 1)
        generalize hpd : l[k] = p at c1 hsz HN hx hlx hfx
        generalize hS1 : (l.take (k + 1)).flatMap oneL = s1 at HN hpe
        generalize (l.take k).flatMap oneL = s0 at hown hsl HN
        clear hc
        by_cases h0 : p.size = 0
        · have e1 := void5 h0
          have e2 : p.toList.isEmpty = true := by rw [e1]; rfl
          have hS : s1 = s0 := by rw [show s1 = s0 ++ oneL p from HN.out, oneL_none h0, List.append_nil]
          clear hx hlx hfx HN
          go_wp2
          go_roundw
          case rel => exact ⟨k + 1, by go_num, by omega, by rw [hS1, hS]; exact hown, hb⟩
          case measure => simp [intOf]; omega
        · have e1 := full5 h0
          have e2 : p.toList.isEmpty = false := by simpa using e1
          have hS : Hid (s1 = s0 ++ (hexA (p.size : Int)).data.toList ++ [13, 10] ++ p.data.toList ++ [13, 10]) := by
            show s1 = _
            rw [show s1 = s0 ++ oneL p from HN.out, oneL_some h0, hlx]
            simp
          clear HN hlx
          generalize hexA (p.size : Int) = hx0 at hx hfx hS
          have hxl : hx0.data.toList.length = hx0.size := by simp
          have hpl : p.data.toList.length = p.size := by simp
          have L2 : Hid ((s0 ++ hx0.data.toList).length = s0.length + hx0.size) := by show _ = _; rw [List.length_append, hxl]
          have L3 : Hid ((s0 ++ hx0.data.toList ++ [13, 10]).length = s0.length + hx0.size + 2) := by show _ = _; rw [List.length_append, show _ = _ from L2.out]; rfl
          have L4 : Hid ((s0 ++ hx0.data.toList ++ [13, 10] ++ p.data.toList).length = s0.length + hx0.size + 2 + p.size) := by show _ = _; rw [List.length_append, show _ = _ from L3.out, hpl]
          go_wp2_with (first
            | (go_at_call 19; refine hx.mono ?_; rintro e w1 ⟨rfl, hb1⟩; have ho1 := hown.kept hb1; have hB1 := hb.trans (hb1.mono hb.size))
            | (at_builtin; refine wpList_pushStr _ rfl (.tmp 17) (.tmp 20) rfl w.heap.size _ s0 hx0 rfl ho1 rfl (by omega) hB1.size ?_; intro v2 w2 ho2 hg2; have hB2 := hB1.grown hg2 hB1.size (OwnsB.from ho1); clear hg2)
            | (at_builtin; refine wpList_pushStr _ rfl (.tmp 22) (.const (.string ⟨#[13, 10]⟩)) rfl w.heap.size v2 (s0 ++ hx0.data.toList) ⟨#[13, 10]⟩ rfl ho2 rfl (by rw [crlf_size]; have := L2.out; omega) hB2.size ?_; intro v3 w3 ho3 hg3; have hB3 := hB2.grown hg3 hB2.size (OwnsB.from ho2); clear hg3; rw [crlf_list] at ho3)
            | (at_builtin; refine wpList_pushStr _ rfl (.tmp 24) (.tmp 25) rfl w.heap.size v3 (s0 ++ hx0.data.toList ++ [13, 10]) p rfl ho3 rfl (by have := L3.out; omega) hB3.size ?_; intro v4 w4 ho4 hg4; have hB4 := hB3.grown hg4 hB3.size (OwnsB.from ho3); clear hg4)
            | (at_builtin; refine wpList_pushStr _ rfl (.tmp 27) (.const (.string ⟨#[13, 10]⟩)) rfl w.heap.size v4 (s0 ++ hx0.data.toList ++ [13, 10] ++ p.data.toList) ⟨#[13, 10]⟩ rfl ho4 rfl (by rw [crlf_size]; have := L4.out; omega) hB4.size ?_; intro v5 w5 ho5 hg5; have hB5 := hB4.grown hg5 hB4.size (OwnsB.from ho4); clear hg5; rw [crlf_list] at ho5))
          rw [← show s1 = _ from hS.out] at ho5
          go_roundw
          case rel => exact ⟨k + 1, by go_num, by omega, by rw [hS1]; exact ho5, hB5⟩
          case measure => simp [intOf]; omega
      · obtain rfl : k = l.length := by omega
        rw [List.take_length] at hown hsl
        have HF : Hid ((⟨(l.flatMap oneL ++ [48, 13, 10, 13, 10]).toArray⟩ : ByteArray) = chA l) := by
          show _ = chA l
          rw [← chA_yes HW.out]
          rfl
        generalize l.flatMap oneL = s0 at hown hsl HF
        go_wp2_with (first
          | (at_builtin; refine wpList_pushStr _ rfl (.tmp 30) (.const (.string ⟨#[48]⟩)) rfl w.heap.size _ s0 ⟨#[48]⟩ rfl hown rfl (by show s0.length + 1 ≤ 1000000; omega) hb.size ?_; intro v2 w2 ho2 hg2; have hB2 := hb.grown hg2 hb.size (OwnsB.from hown); clear hg2; rw [zero_list] at ho2)
          | (at_builtin; refine wpList_pushStr _ rfl (.tmp 32) (.const (.string ⟨#[13, 10]⟩)) rfl w.heap.size v2 (s0 ++ [48]) ⟨#[13, 10]⟩ rfl ho2 rfl (by show (s0 ++ [48]).length + 2 ≤ 1000000; simp; omega) hB2.size ?_; intro v3 w3 ho3 hg3; have hB3 := hB2.grown hg3 hB2.size (OwnsB.from ho2); clear hg3; rw [crlf_list] at ho3)
          | (at_builtin; refine wpList_pushStr _ rfl (.tmp 34) (.const (.string ⟨#[13, 10]⟩)) rfl w.heap.size v3 (s0 ++ [48] ++ [13, 10]) ⟨#[13, 10]⟩ rfl ho3 rfl (by show (s0 ++ [48] ++ [13, 10]).length + 2 ≤ 1000000; simp; omega) hB3.size ?_; intro v4 w4 ho4 hg4; have hB4 := hB3.grown hg4 hB3.size (OwnsB.from ho3); clear hg4; rw [crlf_list] at ho4; have htx := ho4.text))
        go_ret
        exact ⟨ret_str HF.out, hB4⟩
  · have hp := implParts v l w h hs false ⟨fun x => (by cases x), fun x => absurd x hfew⟩
    have HR : Hid ((⟨#[]⟩ : ByteArray) = chA l) := chA_no hfew
    clear h hfew ht
    go_enter Tryd.func7, Tryd.ntmps7
    go_wp2_with (go_at_call 18; refine hp.mono ?_; rintro e w1 ⟨rfl, rfl⟩)
    go_ret
    exact ⟨ret_str HR.out, Below.refl _ _⟩
end Go.Proofs.YtbdnfajdpajfpaaDoor
