/-
  The law FnTexts walked: whatever the code.
-/
import Derived.Test.YthadmhleibhlgaaDoorTxtP
import Derived.Test.YthadmhleibhlgaaDoorDrX
import Derived.Test.YthadmhleibhlgaaDoorQuo2
import Derived.Test.YthadmhleibhlgaaDoorTok2
namespace Go.Proofs.YthadmhleibhlgaaDoor
open Go.RowKit

theorem step_on3 {w w1 w2 : World} (h : Below w.heap.size w w1) (h2 : Below w1.heap.size w1 w2) : Below w.heap.size w w2 := h.trans (h2.mono h.size)

set_option maxRecDepth 100000 in
set_option maxHeartbeats 4000000 in
theorem textsWalk (sa : Option Addr) (sl sc : Nat) (w : World) (hc : Code8 w w.heap.size sa sl) (hl : sl ≤ 4096) :
    Calls Tryd.prog 3 #[.slice sa sl sc] w fun e w' => e = .returned (.bool true) ∧ Below w.heap.size w w' := by
  go_enter Tryd.func3, Tryd.ntmps3
  go_wp2_with fail
  refine (notBig sa sl sc _ hl).mono ?_
  rintro e w0 ⟨rfl, rfl⟩
  go_wp2_with fail
  refine (drawQuoted sa sl sc _ hc hl).mono ?_
  rintro e x1 ⟨s, rfl, hz_s, hb1⟩
  have B1 := hb1
  clear hb1
  have kq := implQuoted s
  have kqs := specQuoted s
  have kv := implVis s
  have kvs := specVis s
  cases hv : visB s with
  | true =>
    rw [hv] at kv kvs
    have hqf := full9 (quoS_full s)
    have ku0 := implUnq (quoS s)
    rw [unq_quo hv] at ku0
    have hqz := quoA_size s
    rw [← quoA_yes hv] at kq kqs hqz
    clear hv
    generalize quoS s = q at kq kqs hqf ku0 hqz
    go_wp2_with fail
    refine (kq _ (by unfold maxLen; omega)).mono ?_
    rintro e x2 ⟨rfl, hb2⟩
    have B2 := step_on3 B1 hb2
    clear hb2 B1
    go_wp2_with fail
    refine (drawToken sa sl sc _ (hc.on B2) hl).mono ?_
    rintro e x3 ⟨t, rfl, hz_t, hb3⟩
    have B3 := step_on3 B2 hb3
    clear hb3 B2
    have kt1 := implTok t
    have kt1s := specTok t
    generalize tokB t = bt at kt1 kt1s
    cases bt
    all_goals
      go_wp2_with fail
      refine (kqs _ (by unfold maxLen; omega)).mono ?_
      rintro e x4 ⟨rfl, hb4⟩
      have B4 := step_on3 B3 hb4
      clear hb4 B3
      go_wp2_with fail
      refine (kv _ (by unfold maxLen; omega)).mono ?_
      rintro e x5 ⟨rfl, hb5⟩
      have B5 := step_on3 B4 hb5
      clear hb5 B4
      go_wp2_with fail
      refine (kvs _ (by unfold maxLen; omega)).mono ?_
      rintro e x6 ⟨rfl, rfl⟩
      go_wp2_with fail
      refine (kt1 _ (by unfold maxLen; omega)).mono ?_
      rintro e x7 ⟨rfl, hb7⟩
      have B7 := step_on3 B5 hb7
      clear hb7 B5
      go_wp2_with fail
      refine (kt1s _ (by unfold maxLen; omega)).mono ?_
      rintro e x8 ⟨rfl, hb8⟩
      have B8 := step_on3 B7 hb8
      clear hb8 B7
      go_wp2_with fail
      refine (kv _ (by unfold maxLen; omega)).mono ?_
      rintro e x9 ⟨rfl, hb9⟩
      have B9 := step_on3 B8 hb9
      clear hb9 B8
      clear kq kqs kv kvs kt1 kt1s
      by_cases h4 : s.size < 400
      · go_wp2_with fail
        refine (ku0 _ (by omega)).mono ?_
        rintro e x10 ⟨rfl, hb10⟩
        have B10 := step_on3 B9 hb10
        clear hb10 B9
        clear ku0
        go_wp2_with fail
        refine (drawUnquoted sa sl sc _ (hc.on B10) hl).mono ?_
        rintro e x11 ⟨x, rfl, hz_x, hb11⟩
        have B11 := step_on3 B10 hb11
        clear hb11 B10
        have ku := implUnq x
        have kus := specUnq x
        unfold unqE at ku kus
        cases hok : unqOk x with
        | true =>
          rw [hok] at ku kus
          have kqu := implQuoted (unqV x)
          rw [quo_unq hok] at kqu
          have huz := unqV_size hok
          clear hok
          generalize unqV x = u at ku kus kqu huz
          go_wp2_with fail
          refine (ku _ (by omega)).mono ?_
          rintro e x12 ⟨rfl, hb12⟩
          have B12 := step_on3 B11 hb12
          clear hb12 B11
          go_wp2_with fail
          refine (kus _ (by omega)).mono ?_
          rintro e x13 ⟨rfl, hb13⟩
          have B13 := step_on3 B12 hb13
          clear hb13 B12
          go_wp2_with fail
          refine (kqu _ (by unfold maxLen; omega)).mono ?_
          rintro e x14 ⟨rfl, hb14⟩
          have B14 := step_on3 B13 hb14
          clear hb14 B13
          go_wp2_with fail
          refine (drawTrimmed sa sl sc _ (hc.on B14) hl).mono ?_
          rintro e x15 ⟨v, rfl, hz_v, hb15⟩
          have B15 := step_on3 B14 hb15
          clear hb15 B14
          have kt := implTrim v
          have kts := specTrim v
          have kt2 := implTrim (trimB v)
          rw [trimB_again] at kt2
          have htz := trimB_size v
          generalize trimB v = y at kt kts kt2 htz
          go_wp2_with fail
          refine (kt _ (by omega)).mono ?_
          rintro e x16 ⟨rfl, hb16⟩
          have B16 := step_on3 B15 hb16
          clear hb16 B15
          go_wp2_with fail
          refine (drawLower sa sl sc _ (hc.on B16) hl).mono ?_
          rintro e x17 ⟨l, rfl, hz_l, hb17⟩
          have B17 := step_on3 B16 hb17
          clear hb17 B16
          have kl := implLow l
          have kls := specLow l
          have kl2 := implLow (lowS l)
          rw [lowS_again] at kl2
          have hlz := lowS_size2 l
          generalize lowS l = ll at kl kls kl2 hlz
          clear hc
          go_wp2_with fail
          refine (kts _ (by omega)).mono ?_
          rintro e x18 ⟨rfl, rfl⟩
          go_wp2_with fail
          refine (kt2 _ (by omega)).mono ?_
          rintro e x19 ⟨rfl, hb19⟩
          have B19 := step_on3 B17 hb19
          clear hb19 B17
          go_wp2_with fail
          refine (kl _ (by unfold maxLen; omega)).mono ?_
          rintro e x20 ⟨rfl, hb20⟩
          have B20 := step_on3 B19 hb20
          clear hb20 B19
          go_wp2_with fail
          refine (kls _ (by unfold maxLen; omega)).mono ?_
          rintro e x21 ⟨rfl, hb21⟩
          have B21 := step_on3 B20 hb21
          clear hb21 B20
          go_wp2_with fail
          refine (kl _ (by unfold maxLen; omega)).mono ?_
          rintro e x22 ⟨rfl, hb22⟩
          have B22 := step_on3 B21 hb22
          clear hb22 B21
          go_wp2_with fail
          refine (kl2 _ (by unfold maxLen; omega)).mono ?_
          rintro e x23 ⟨rfl, hb23⟩
          have B23 := step_on3 B22 hb23
          clear hb23 B22
          go_wp2_with fail
          refine (kl _ (by unfold maxLen; omega)).mono ?_
          rintro e x24 ⟨rfl, hb24⟩
          have B24 := step_on3 B23 hb24
          clear hb24 B23
          go_wp2
          go_ret
          exact ⟨rfl, B24⟩
        | false =>
          rw [hok] at ku kus
          rw [unqV_no hok] at ku kus
          clear hok
          go_wp2_with fail
          refine (ku _ (by omega)).mono ?_
          rintro e x12 ⟨rfl, hb12⟩
          have B12 := step_on3 B11 hb12
          clear hb12 B11
          go_wp2_with fail
          refine (kus _ (by omega)).mono ?_
          rintro e x13 ⟨rfl, hb13⟩
          have B13 := step_on3 B12 hb13
          clear hb13 B12
          go_wp2_with fail
          refine (drawTrimmed sa sl sc _ (hc.on B13) hl).mono ?_
          rintro e x14 ⟨v, rfl, hz_v, hb14⟩
          have B14 := step_on3 B13 hb14
          clear hb14 B13
          have kt := implTrim v
          have kts := specTrim v
          have kt2 := implTrim (trimB v)
          rw [trimB_again] at kt2
          have htz := trimB_size v
          generalize trimB v = y at kt kts kt2 htz
          go_wp2_with fail
          refine (kt _ (by omega)).mono ?_
          rintro e x15 ⟨rfl, hb15⟩
          have B15 := step_on3 B14 hb15
          clear hb15 B14
          go_wp2_with fail
          refine (drawLower sa sl sc _ (hc.on B15) hl).mono ?_
          rintro e x16 ⟨l, rfl, hz_l, hb16⟩
          have B16 := step_on3 B15 hb16
          clear hb16 B15
          have kl := implLow l
          have kls := specLow l
          have kl2 := implLow (lowS l)
          rw [lowS_again] at kl2
          have hlz := lowS_size2 l
          generalize lowS l = ll at kl kls kl2 hlz
          clear hc
          go_wp2_with fail
          refine (kts _ (by omega)).mono ?_
          rintro e x17 ⟨rfl, rfl⟩
          go_wp2_with fail
          refine (kt2 _ (by omega)).mono ?_
          rintro e x18 ⟨rfl, hb18⟩
          have B18 := step_on3 B16 hb18
          clear hb18 B16
          go_wp2_with fail
          refine (kl _ (by unfold maxLen; omega)).mono ?_
          rintro e x19 ⟨rfl, hb19⟩
          have B19 := step_on3 B18 hb19
          clear hb19 B18
          go_wp2_with fail
          refine (kls _ (by unfold maxLen; omega)).mono ?_
          rintro e x20 ⟨rfl, hb20⟩
          have B20 := step_on3 B19 hb20
          clear hb20 B19
          go_wp2_with fail
          refine (kl _ (by unfold maxLen; omega)).mono ?_
          rintro e x21 ⟨rfl, hb21⟩
          have B21 := step_on3 B20 hb21
          clear hb21 B20
          go_wp2_with fail
          refine (kl2 _ (by unfold maxLen; omega)).mono ?_
          rintro e x22 ⟨rfl, hb22⟩
          have B22 := step_on3 B21 hb22
          clear hb22 B21
          go_wp2_with fail
          refine (kl _ (by unfold maxLen; omega)).mono ?_
          rintro e x23 ⟨rfl, hb23⟩
          have B23 := step_on3 B22 hb23
          clear hb23 B22
          go_wp2
          go_ret
          exact ⟨rfl, B23⟩
      · clear ku0
        go_wp2_with fail
        refine (drawUnquoted sa sl sc _ (hc.on B9) hl).mono ?_
        rintro e x10 ⟨x, rfl, hz_x, hb10⟩
        have B10 := step_on3 B9 hb10
        clear hb10 B9
        have ku := implUnq x
        have kus := specUnq x
        unfold unqE at ku kus
        cases hok : unqOk x with
        | true =>
          rw [hok] at ku kus
          have kqu := implQuoted (unqV x)
          rw [quo_unq hok] at kqu
          have huz := unqV_size hok
          clear hok
          generalize unqV x = u at ku kus kqu huz
          go_wp2_with fail
          refine (ku _ (by omega)).mono ?_
          rintro e x11 ⟨rfl, hb11⟩
          have B11 := step_on3 B10 hb11
          clear hb11 B10
          go_wp2_with fail
          refine (kus _ (by omega)).mono ?_
          rintro e x12 ⟨rfl, hb12⟩
          have B12 := step_on3 B11 hb12
          clear hb12 B11
          go_wp2_with fail
          refine (kqu _ (by unfold maxLen; omega)).mono ?_
          rintro e x13 ⟨rfl, hb13⟩
          have B13 := step_on3 B12 hb13
          clear hb13 B12
          go_wp2_with fail
          refine (drawTrimmed sa sl sc _ (hc.on B13) hl).mono ?_
          rintro e x14 ⟨v, rfl, hz_v, hb14⟩
          have B14 := step_on3 B13 hb14
          clear hb14 B13
          have kt := implTrim v
          have kts := specTrim v
          have kt2 := implTrim (trimB v)
          rw [trimB_again] at kt2
          have htz := trimB_size v
          generalize trimB v = y at kt kts kt2 htz
          go_wp2_with fail
          refine (kt _ (by omega)).mono ?_
          rintro e x15 ⟨rfl, hb15⟩
          have B15 := step_on3 B14 hb15
          clear hb15 B14
          go_wp2_with fail
          refine (drawLower sa sl sc _ (hc.on B15) hl).mono ?_
          rintro e x16 ⟨l, rfl, hz_l, hb16⟩
          have B16 := step_on3 B15 hb16
          clear hb16 B15
          have kl := implLow l
          have kls := specLow l
          have kl2 := implLow (lowS l)
          rw [lowS_again] at kl2
          have hlz := lowS_size2 l
          generalize lowS l = ll at kl kls kl2 hlz
          clear hc
          go_wp2_with fail
          refine (kts _ (by omega)).mono ?_
          rintro e x17 ⟨rfl, rfl⟩
          go_wp2_with fail
          refine (kt2 _ (by omega)).mono ?_
          rintro e x18 ⟨rfl, hb18⟩
          have B18 := step_on3 B16 hb18
          clear hb18 B16
          go_wp2_with fail
          refine (kl _ (by unfold maxLen; omega)).mono ?_
          rintro e x19 ⟨rfl, hb19⟩
          have B19 := step_on3 B18 hb19
          clear hb19 B18
          go_wp2_with fail
          refine (kls _ (by unfold maxLen; omega)).mono ?_
          rintro e x20 ⟨rfl, hb20⟩
          have B20 := step_on3 B19 hb20
          clear hb20 B19
          go_wp2_with fail
          refine (kl _ (by unfold maxLen; omega)).mono ?_
          rintro e x21 ⟨rfl, hb21⟩
          have B21 := step_on3 B20 hb21
          clear hb21 B20
          go_wp2_with fail
          refine (kl2 _ (by unfold maxLen; omega)).mono ?_
          rintro e x22 ⟨rfl, hb22⟩
          have B22 := step_on3 B21 hb22
          clear hb22 B21
          go_wp2_with fail
          refine (kl _ (by unfold maxLen; omega)).mono ?_
          rintro e x23 ⟨rfl, hb23⟩
          have B23 := step_on3 B22 hb23
          clear hb23 B22
          go_wp2
          go_ret
          exact ⟨rfl, B23⟩
        | false =>
          rw [hok] at ku kus
          rw [unqV_no hok] at ku kus
          clear hok
          go_wp2_with fail
          refine (ku _ (by omega)).mono ?_
          rintro e x11 ⟨rfl, hb11⟩
          have B11 := step_on3 B10 hb11
          clear hb11 B10
          go_wp2_with fail
          refine (kus _ (by omega)).mono ?_
          rintro e x12 ⟨rfl, hb12⟩
          have B12 := step_on3 B11 hb12
          clear hb12 B11
          go_wp2_with fail
          refine (drawTrimmed sa sl sc _ (hc.on B12) hl).mono ?_
          rintro e x13 ⟨v, rfl, hz_v, hb13⟩
          have B13 := step_on3 B12 hb13
          clear hb13 B12
          have kt := implTrim v
          have kts := specTrim v
          have kt2 := implTrim (trimB v)
          rw [trimB_again] at kt2
          have htz := trimB_size v
          generalize trimB v = y at kt kts kt2 htz
          go_wp2_with fail
          refine (kt _ (by omega)).mono ?_
          rintro e x14 ⟨rfl, hb14⟩
          have B14 := step_on3 B13 hb14
          clear hb14 B13
          go_wp2_with fail
          refine (drawLower sa sl sc _ (hc.on B14) hl).mono ?_
          rintro e x15 ⟨l, rfl, hz_l, hb15⟩
          have B15 := step_on3 B14 hb15
          clear hb15 B14
          have kl := implLow l
          have kls := specLow l
          have kl2 := implLow (lowS l)
          rw [lowS_again] at kl2
          have hlz := lowS_size2 l
          generalize lowS l = ll at kl kls kl2 hlz
          clear hc
          go_wp2_with fail
          refine (kts _ (by omega)).mono ?_
          rintro e x16 ⟨rfl, rfl⟩
          go_wp2_with fail
          refine (kt2 _ (by omega)).mono ?_
          rintro e x17 ⟨rfl, hb17⟩
          have B17 := step_on3 B15 hb17
          clear hb17 B15
          go_wp2_with fail
          refine (kl _ (by unfold maxLen; omega)).mono ?_
          rintro e x18 ⟨rfl, hb18⟩
          have B18 := step_on3 B17 hb18
          clear hb18 B17
          go_wp2_with fail
          refine (kls _ (by unfold maxLen; omega)).mono ?_
          rintro e x19 ⟨rfl, hb19⟩
          have B19 := step_on3 B18 hb19
          clear hb19 B18
          go_wp2_with fail
          refine (kl _ (by unfold maxLen; omega)).mono ?_
          rintro e x20 ⟨rfl, hb20⟩
          have B20 := step_on3 B19 hb20
          clear hb20 B19
          go_wp2_with fail
          refine (kl2 _ (by unfold maxLen; omega)).mono ?_
          rintro e x21 ⟨rfl, hb21⟩
          have B21 := step_on3 B20 hb21
          clear hb21 B20
          go_wp2_with fail
          refine (kl _ (by unfold maxLen; omega)).mono ?_
          rintro e x22 ⟨rfl, hb22⟩
          have B22 := step_on3 B21 hb22
          clear hb22 B21
          go_wp2
          go_ret
          exact ⟨rfl, B22⟩
  | false =>
    rw [hv] at kv kvs
    rw [← quoA_no hv] at kq kqs
    clear hv
    go_wp2_with fail
    refine (kq _ (by unfold maxLen; omega)).mono ?_
    rintro e x2 ⟨rfl, hb2⟩
    have B2 := step_on3 B1 hb2
    clear hb2 B1
    go_wp2_with fail
    refine (drawToken sa sl sc _ (hc.on B2) hl).mono ?_
    rintro e x3 ⟨t, rfl, hz_t, hb3⟩
    have B3 := step_on3 B2 hb3
    clear hb3 B2
    have kt1 := implTok t
    have kt1s := specTok t
    generalize tokB t = bt at kt1 kt1s
    cases bt
    all_goals
      go_wp2_with fail
      refine (kqs _ (by unfold maxLen; omega)).mono ?_
      rintro e x4 ⟨rfl, hb4⟩
      have B4 := step_on3 B3 hb4
      clear hb4 B3
      go_wp2_with fail
      refine (kv _ (by unfold maxLen; omega)).mono ?_
      rintro e x5 ⟨rfl, hb5⟩
      have B5 := step_on3 B4 hb5
      clear hb5 B4
      go_wp2_with fail
      refine (kvs _ (by unfold maxLen; omega)).mono ?_
      rintro e x6 ⟨rfl, rfl⟩
      go_wp2_with fail
      refine (kt1 _ (by unfold maxLen; omega)).mono ?_
      rintro e x7 ⟨rfl, hb7⟩
      have B7 := step_on3 B5 hb7
      clear hb7 B5
      go_wp2_with fail
      refine (kt1s _ (by unfold maxLen; omega)).mono ?_
      rintro e x8 ⟨rfl, hb8⟩
      have B8 := step_on3 B7 hb8
      clear hb8 B7
      go_wp2_with fail
      refine (kv _ (by unfold maxLen; omega)).mono ?_
      rintro e x9 ⟨rfl, hb9⟩
      have B9 := step_on3 B8 hb9
      clear hb9 B8
      clear kq kqs kv kvs kt1 kt1s
      go_wp2_with fail
      refine (drawUnquoted sa sl sc _ (hc.on B9) hl).mono ?_
      rintro e x10 ⟨x, rfl, hz_x, hb10⟩
      have B10 := step_on3 B9 hb10
      clear hb10 B9
      have ku := implUnq x
      have kus := specUnq x
      unfold unqE at ku kus
      cases hok : unqOk x with
      | true =>
        rw [hok] at ku kus
        have kqu := implQuoted (unqV x)
        rw [quo_unq hok] at kqu
        have huz := unqV_size hok
        clear hok
        generalize unqV x = u at ku kus kqu huz
        go_wp2_with fail
        refine (ku _ (by omega)).mono ?_
        rintro e x11 ⟨rfl, hb11⟩
        have B11 := step_on3 B10 hb11
        clear hb11 B10
        go_wp2_with fail
        refine (kus _ (by omega)).mono ?_
        rintro e x12 ⟨rfl, hb12⟩
        have B12 := step_on3 B11 hb12
        clear hb12 B11
        go_wp2_with fail
        refine (kqu _ (by unfold maxLen; omega)).mono ?_
        rintro e x13 ⟨rfl, hb13⟩
        have B13 := step_on3 B12 hb13
        clear hb13 B12
        go_wp2_with fail
        refine (drawTrimmed sa sl sc _ (hc.on B13) hl).mono ?_
        rintro e x14 ⟨v, rfl, hz_v, hb14⟩
        have B14 := step_on3 B13 hb14
        clear hb14 B13
        have kt := implTrim v
        have kts := specTrim v
        have kt2 := implTrim (trimB v)
        rw [trimB_again] at kt2
        have htz := trimB_size v
        generalize trimB v = y at kt kts kt2 htz
        go_wp2_with fail
        refine (kt _ (by omega)).mono ?_
        rintro e x15 ⟨rfl, hb15⟩
        have B15 := step_on3 B14 hb15
        clear hb15 B14
        go_wp2_with fail
        refine (drawLower sa sl sc _ (hc.on B15) hl).mono ?_
        rintro e x16 ⟨l, rfl, hz_l, hb16⟩
        have B16 := step_on3 B15 hb16
        clear hb16 B15
        have kl := implLow l
        have kls := specLow l
        have kl2 := implLow (lowS l)
        rw [lowS_again] at kl2
        have hlz := lowS_size2 l
        generalize lowS l = ll at kl kls kl2 hlz
        clear hc
        go_wp2_with fail
        refine (kts _ (by omega)).mono ?_
        rintro e x17 ⟨rfl, rfl⟩
        go_wp2_with fail
        refine (kt2 _ (by omega)).mono ?_
        rintro e x18 ⟨rfl, hb18⟩
        have B18 := step_on3 B16 hb18
        clear hb18 B16
        go_wp2_with fail
        refine (kl _ (by unfold maxLen; omega)).mono ?_
        rintro e x19 ⟨rfl, hb19⟩
        have B19 := step_on3 B18 hb19
        clear hb19 B18
        go_wp2_with fail
        refine (kls _ (by unfold maxLen; omega)).mono ?_
        rintro e x20 ⟨rfl, hb20⟩
        have B20 := step_on3 B19 hb20
        clear hb20 B19
        go_wp2_with fail
        refine (kl _ (by unfold maxLen; omega)).mono ?_
        rintro e x21 ⟨rfl, hb21⟩
        have B21 := step_on3 B20 hb21
        clear hb21 B20
        go_wp2_with fail
        refine (kl2 _ (by unfold maxLen; omega)).mono ?_
        rintro e x22 ⟨rfl, hb22⟩
        have B22 := step_on3 B21 hb22
        clear hb22 B21
        go_wp2_with fail
        refine (kl _ (by unfold maxLen; omega)).mono ?_
        rintro e x23 ⟨rfl, hb23⟩
        have B23 := step_on3 B22 hb23
        clear hb23 B22
        go_wp2
        go_ret
        exact ⟨rfl, B23⟩
      | false =>
        rw [hok] at ku kus
        rw [unqV_no hok] at ku kus
        clear hok
        go_wp2_with fail
        refine (ku _ (by omega)).mono ?_
        rintro e x11 ⟨rfl, hb11⟩
        have B11 := step_on3 B10 hb11
        clear hb11 B10
        go_wp2_with fail
        refine (kus _ (by omega)).mono ?_
        rintro e x12 ⟨rfl, hb12⟩
        have B12 := step_on3 B11 hb12
        clear hb12 B11
        go_wp2_with fail
        refine (drawTrimmed sa sl sc _ (hc.on B12) hl).mono ?_
        rintro e x13 ⟨v, rfl, hz_v, hb13⟩
        have B13 := step_on3 B12 hb13
        clear hb13 B12
        have kt := implTrim v
        have kts := specTrim v
        have kt2 := implTrim (trimB v)
        rw [trimB_again] at kt2
        have htz := trimB_size v
        generalize trimB v = y at kt kts kt2 htz
        go_wp2_with fail
        refine (kt _ (by omega)).mono ?_
        rintro e x14 ⟨rfl, hb14⟩
        have B14 := step_on3 B13 hb14
        clear hb14 B13
        go_wp2_with fail
        refine (drawLower sa sl sc _ (hc.on B14) hl).mono ?_
        rintro e x15 ⟨l, rfl, hz_l, hb15⟩
        have B15 := step_on3 B14 hb15
        clear hb15 B14
        have kl := implLow l
        have kls := specLow l
        have kl2 := implLow (lowS l)
        rw [lowS_again] at kl2
        have hlz := lowS_size2 l
        generalize lowS l = ll at kl kls kl2 hlz
        clear hc
        go_wp2_with fail
        refine (kts _ (by omega)).mono ?_
        rintro e x16 ⟨rfl, rfl⟩
        go_wp2_with fail
        refine (kt2 _ (by omega)).mono ?_
        rintro e x17 ⟨rfl, hb17⟩
        have B17 := step_on3 B15 hb17
        clear hb17 B15
        go_wp2_with fail
        refine (kl _ (by unfold maxLen; omega)).mono ?_
        rintro e x18 ⟨rfl, hb18⟩
        have B18 := step_on3 B17 hb18
        clear hb18 B17
        go_wp2_with fail
        refine (kls _ (by unfold maxLen; omega)).mono ?_
        rintro e x19 ⟨rfl, hb19⟩
        have B19 := step_on3 B18 hb19
        clear hb19 B18
        go_wp2_with fail
        refine (kl _ (by unfold maxLen; omega)).mono ?_
        rintro e x20 ⟨rfl, hb20⟩
        have B20 := step_on3 B19 hb20
        clear hb20 B19
        go_wp2_with fail
        refine (kl2 _ (by unfold maxLen; omega)).mono ?_
        rintro e x21 ⟨rfl, hb21⟩
        have B21 := step_on3 B20 hb21
        clear hb21 B20
        go_wp2_with fail
        refine (kl _ (by unfold maxLen; omega)).mono ?_
        rintro e x22 ⟨rfl, hb22⟩
        have B22 := step_on3 B21 hb22
        clear hb22 B21
        go_wp2
        go_ret
        exact ⟨rfl, B22⟩
end Go.Proofs.YthadmhleibhlgaaDoor
