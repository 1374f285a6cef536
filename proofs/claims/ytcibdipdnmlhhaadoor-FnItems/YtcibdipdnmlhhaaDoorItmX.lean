/-
  The walk of the law on items.
-/
import Derived.Test.YtcibdipdnmlhhaaDoorItmW
namespace Go.Proofs.YtcibdipdnmlhhaaDoor
open Go.RowKit

theorem trimSame (x : ByteArray) (h : trimB x = x) (hx : x.size ≤ 400) (w : World) : Calls Tryd.prog 13 #[.string x] w fun e w' => e = .returned (.string x) ∧ Below w.heap.size w w' := by
  have := implTrim x w (by omega)
  rw [h] at this
  exact this
theorem itemsLen (s : ByteArray) (w : World) (hs : s.size ≤ maxLen) : Calls Tryd.prog 10 #[.string s] w fun e w' => ∃ g n cap, e = .returned (.slice (some ⟨g, 0, none⟩) n cap) ∧ n ≤ 401 ∧ Below w.heap.size w w' := by
  refine (implItems s w hs).mono ?_
  rintro e w' ⟨v, rfl, ho, hb⟩
  obtain ⟨⟨g, cap, rfl, _, _⟩, _⟩ := ho
  exact ⟨g, _, cap, rfl, itemsA_length s, hb⟩

set_option maxHeartbeats 4000000 in
set_option maxRecDepth 100000 in
theorem walkItm (sa : Option Addr) (sl sc : Nat) (zs : List Int) (w : World) (hrow : IsRow w sa sl sc zs) :
    Calls Tryd.prog 3 #[.slice sa sl sc] w fun e w' => e = .returned (.bool true) ∧ Below w.heap.size w w' := by
  have hlen := hrow.len
  by_cases hbig : 4096 < sl
  · go_enter Tryd.func3, Tryd.ntmps3
    go_wp2_with fail
    refine (isBig _ _ _ _ hbig hlen).mono ?_
    rintro e x ⟨rfl, rfl⟩
    go_wp2
    go_ret
    exact ⟨rfl, Below.refl _ _⟩
  · have hl : sl ≤ 4096 := by omega
    have hz := hrow.code
    clear hrow hlen hbig
    go_enter Tryd.func3, Tryd.ntmps3
    go_wp2_with fail
    refine (notBig _ _ _ _ hl).mono ?_
    rintro e x ⟨rfl, rfl⟩
    go_wp2_with fail
    refine (drawItems _ _ _ _ hz.code hl).mono ?_
    rintro e w1 ⟨s, rfl, hs, hb1⟩
    have hsm : s.size ≤ maxLen := by unfold maxLen; omega
    clear hz
    go_wp2_with fail
    refine (implItems s _ hsm).mono ?_
    rintro e w2 ⟨v, rfl, ho2, hb2'⟩
    have hb2 := hb1.trans (hb2'.mono hb1.size)
    clear hb2' hb1
    go_wp2_with fail
    refine (specItems s _ hsm).mono ?_
    rintro e w3 ⟨v3, rfl, ho3, hb3'⟩
    have hb3 := hb2.trans (hb3'.mono hb2.size)
    have ho2b := ho2.kept hb3'
    have hL := itemsA_length s
    clear hb3' hb2 ho2
    go_wp2_with fail
    refine (likeS _ _ _ _ _ _ _ ho2b ho3 (by omega) rfl).mono ?_
    rintro e w4 ⟨rfl, q, rfl⟩
    have ho : OwnsS (w3.drewN q) w1.heap.size v (itemsA s) := ho2b
    have hb : Below w.heap.size w (w3.drewN q) := ⟨hb3.os, hb3.tape, hb3.output, hb3.size, hb3.block⟩
    clear ho2b ho3 hb3
    generalize w3.drewN q = w4 at ho hb
    have HF : Hid (∀ x ∈ itemsA s, 0 < x.size ∧ trimB x = x) := itemsA_fact s
    have HZ : Hid (∀ x ∈ itemsA s, x.size ≤ 400) := itemsA_size s
    have HJ : Hid (∀ j : ByteArray, j.data.toList = joinL (bytesOf (itemsA s)) → j.size ≤ 400 → itemsA j = itemsA s) := fun j h1 h2 => itemsA_join s j h1 h2
    generalize itemsA s = L at ho hL HF HZ HJ
    have ho' := ho
    obtain ⟨⟨g, cap, rfl, hg1, hg2⟩, _⟩ := ho'
    go_wp2_with fail
    go_loopg [5, 6, 7] L.length (fun n j o i wr => ∃ (k : Nat) (jt : ByteArray) (op : Bool), n + k = L.length ∧ j = .string jt ∧ o = .bool op ∧ i = .int .i64 k ∧ Hid (JoinTo L k jt) ∧ Below w4.heap.size w4 wr)
    case atStart => exact ⟨0, _, false, rfl, rfl, rfl, rfl, JoinTo.none L, Below.refl _ _⟩
    case round =>
      obtain ⟨k, jt, op, hk, rfl, rfl, rfl, hj, hbr⟩ := hrel
      have hgr : g < wr.heap.size := Nat.lt_of_lt_of_le hg2 hbr.size
      by_cases hlt : k < L.length
      · have c0 : wr.cell? ⟨g, k, none⟩ = some (.string L[k]) := (hbr.cell (p := ⟨g, k, none⟩) hg2).trans (ho.at rfl k hlt)
        have hm : L[k] ∈ L := List.getElem_mem hlt
        have hxf := (HF.out _ hm).1
        have hT := trimSame L[k] (HF.out _ hm).2 (HZ.out _ hm)
        have hxz := HZ.out _ hm
        have hfull := full' hxf
        have hfe : (L[k]).toList.isEmpty = false := by simpa using hfull
        have HX : Hid ((k = 0 → JoinTo L (k + 1) (jt ++ L[k])) ∧ (0 < k → JoinTo L (k + 1) (jt ++ ⟨#[44]⟩ ++ L[k]))) := by
          refine ⟨fun e => ?_, fun h0 => hj.out.next hlt h0 hxz⟩
          subst e
          exact hj.out.first hlt hxz
        generalize L[k] = x at *
        go_wp2_with fail
        go_cut [41] from 19 to 69 (fun b wx => b = .bool false ∧ Below wr.heap.size wr wx)
        case first =>
          go_region_with (go_at_call 13; refine (hT _).mono ?_; rintro e w5 ⟨rfl, hb5⟩; have k0 := (hb5.cell (p := ⟨g, k, none⟩) hgr).trans c0)
          all_goals (try go_wp2_with fail)
          all_goals go_meet
          all_goals exact ⟨rfl, ⟨hb5.os, hb5.tape, hb5.output, hb5.size, hb5.block⟩⟩
        case rest =>
          obtain ⟨rfl, hb5⟩ := hcut
          have hb6 : Below w4.heap.size w4 wc := hbr.trans (hb5.mono hbr.size)
          have c1 : wc.cell? ⟨g, k, none⟩ = some (.string x) := (hb5.cell (p := ⟨g, k, none⟩) hgr).trans c0
          have hxm : (x ++ ⟨#[44, 120]⟩).size ≤ maxLen := by
            have e : (⟨#[44, 120]⟩ : ByteArray).size = 2 := rfl
            rw [ByteArray.size_append]
            unfold maxLen
            omega
          have hjz : jt.size ≤ 160801 := by have := hj.out.2; omega
          clear hT hfull hfe hxf c0 hb5 hbr hgr
          by_cases h0 : 0 < k
          · have HX1 : Hid (JoinTo L (k + 1) (jt ++ ⟨#[44]⟩ ++ x)) := HX.out.2 h0
            cases op with
            | true =>
              go_wp2
              go_roundg (L.length - (k + 1))
              case measure => omega
              case rel => exact ⟨k + 1, _, _, by omega, rfl, rfl, by go_num, HX1, hb6⟩
            | false =>
              by_cases hlast : k + 1 = L.length
              · have hd : ((k : Int) == (L.length : Int) - 1) = true := by simp; omega
                go_wp2_with (go_at_call 10; refine (itemsLen _ _ hxm).mono ?_; rintro e w6 ⟨g6, n6, cap6, rfl, hn6, hb7⟩)
                all_goals (
                  go_roundg (L.length - (k + 1))
                  case measure => omega
                  case rel => exact ⟨k + 1, _, _, by omega, rfl, rfl, by go_num, HX1, hb6.trans (hb7.mono hb6.size)⟩)
              · have hd : ((k : Int) == (L.length : Int) - 1) = false := by simp; omega
                go_wp2
                go_roundg (L.length - (k + 1))
                case measure => omega
                case rel => exact ⟨k + 1, _, _, by omega, rfl, rfl, by go_num, HX1, hb6⟩
          · have HX1 : Hid (JoinTo L (k + 1) (jt ++ x)) := HX.out.1 (by omega)
            obtain rfl : k = 0 := by omega
            cases op with
            | true =>
              go_wp2
              go_roundg (L.length - (0 + 1))
              case measure => omega
              case rel => exact ⟨0 + 1, _, _, by omega, rfl, rfl, by go_num, HX1, hb6⟩
            | false =>
              by_cases hlast : 0 + 1 = L.length
              · have hd : ((0 : Int) == (L.length : Int) - 1) = true := by simp; omega
                go_wp2_with (go_at_call 10; refine (itemsLen _ _ hxm).mono ?_; rintro e w6 ⟨g6, n6, cap6, rfl, hn6, hb7⟩)
                all_goals (
                  go_roundg (L.length - (0 + 1))
                  case measure => omega
                  case rel => exact ⟨0 + 1, _, _, by omega, rfl, rfl, by go_num, HX1, hb6.trans (hb7.mono hb6.size)⟩)
              · have hd : ((0 : Int) == (L.length : Int) - 1) = false := by simp; omega
                go_wp2
                go_roundg (L.length - (0 + 1))
                case measure => omega
                case rel => exact ⟨0 + 1, _, _, by omega, rfl, rfl, by go_num, HX1, hb6⟩
      · have hall : Below w.heap.size w wr := hb.trans (hbr.mono hb.size)
        cases op with
        | true =>
          go_wp2
          go_ret
          exact ⟨rfl, hall⟩
        | false =>
          have hjz := hj.out.2
          have hjz2 : jt.size ≤ 160801 := by omega
          by_cases hbigj : 400 < jt.size
          · have hd : decide ((400 : Int) < (jt.size : Int)) = true := by simp; omega
            go_wp2
            go_ret
            exact ⟨rfl, hall⟩
          · have hd : decide ((400 : Int) < (jt.size : Int)) = false := by simp; omega
            have hI := implItems jt wr (by unfold maxLen; omega)
            have he := HJ.out jt (hj.out.all hlt) (by omega)
            rw [he] at hI
            have hor := ho.kept hbr
            clear he
            go_wp2_with fail
            refine hI.mono ?_
            rintro e w6 ⟨v6, rfl, ho6, hb6⟩
            have hor6 := hor.kept hb6
            have hall6 := hall.trans (hb6.mono hall.size)
            go_wp2_with fail
            refine (likeS _ _ _ _ _ _ _ ho6 hor6 (by omega) rfl).mono ?_
            rintro e w7 ⟨rfl, q7, rfl⟩
            have hall7 : Below w.heap.size w (w6.drewN q7) := ⟨hall6.os, hall6.tape, hall6.output, hall6.size, hall6.block⟩
            clear ho6 hor6 hor hI hb6
            go_wp2
            go_ret
            exact ⟨rfl, hall7⟩
end Go.Proofs.YtcibdipdnmlhhaaDoor
