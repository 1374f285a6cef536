/-
  Two rows of fields that are alike: the law's own comparison says so.
  The law of chapter 4 about names, walked: a field that is set is got, what has hops is taken out for good.
-/
import Derived.Test.YtnkalamfekkmbaaDoorFldS
import Derived.Laws.StructEq
import Derived.BigQuiet
import Derived.Test.YtnkalamfekkmbaaDoorDrJ
import Derived.Test.YtnkalamfekkmbaaDoorFldYZ
import Derived.Test.YtnkalamfekkmbaaDoorFldD
import Derived.Test.YtnkalamfekkmbaaDoorFldG2
namespace Go.Proofs.YtnkalamfekkmbaaDoor
open Go.RowKit Go.Sort

set_option maxHeartbeats 400000 in
theorem likeF (va vb : Value) (l : List Fl) (w : World) (ha : Fls w va l) (hb : Fls w vb l) (hl : l.length ≤ 1048576) :
    Calls Tryd.prog 20 #[va, vb] w fun e w' => e = .returned (.bool true) ∧ Grew w w' := by
  obtain ⟨a, ca, rfl, a1, a2, a3⟩ := ha
  obtain ⟨b, cb, rfl, b1, b2, b3⟩ := hb
  have hmx := mixed
  go_enter Tryd.func20, Tryd.ntmps20
  go_wp2
  go_loopw [5] (fun i wr => ∃ (k : Nat), k ≤ l.length ∧ i = .int .i64 k ∧ Grew w wr) (fun i _ => l.length - (intOf i).toNat)
  case atStart => exact ⟨0, Nat.zero_le _, rfl, Grew.refl _⟩
  case round =>
    obtain ⟨k, hk, rfl, hg⟩ := hrel
    by_cases hlt : k < l.length
    · obtain ⟨ga, oa, rfl, hga, hca⟩ := a3 (by omega)
      obtain ⟨gb, ob, rfl, hgb, hcb⟩ := b3 (by omega)
      have c1 := hg.cell (hca k hlt).1 hga
      have c2 := hg.cell (hca k hlt).2 hga
      have c3 := hg.cell (hcb k hlt).1 hgb
      have c4 := hg.cell (hcb k hlt).2 hgb
      generalize l[k] = f at c1 c2 c3 c4
      clear a3 b3 hca hcb
      go_wp2
      go_quiet (fail)
      have hg2 : Grew w (wr.drewN nq) := hg.drewN _
      generalize wr.drewN nq = w1 at hg2 ⊢
      go_wp2
      go_roundw
      case rel => exact ⟨k + 1, by omega, by go_num, hg2⟩
      case measure => simp [intOf]; omega
    · go_wp2
      go_ret
      exact ⟨rfl, hg⟩
end Go.Proofs.YtnkalamfekkmbaaDoor
namespace Go.Proofs.YtnkalamfekkmbaaDoor
open Go.RowKit Go.Sort

theorem Code8.up {w : World} {b b' : Nat} {sa : Option Addr} {sl : Nat} (h : Code8 w b sa sl) (hb : b ≤ b') : Code8 w b' sa sl := by
  intro j hj
  obtain ⟨g, o, z, h1, h2, h3⟩ := h j hj
  exact ⟨g, o, z, h1, by omega, h3⟩
theorem Code8.on {w w' : World} {sa : Option Addr} {sl : Nat} (h : Code8 w w.heap.size sa sl) (hb : Below w.heap.size w w') : Code8 w' w'.heap.size sa sl := (h.kept hb (Nat.le_refl _)).up hb.size
theorem szL_filter (p : Fl → Bool) : ∀ l : List Fl, szL (l.filter p) ≤ szL l
  | [] => Nat.le_refl _
  | f :: l => by
    have e : szL (f :: l) = szF f + szL l := by simp [szL]
    have ih := szL_filter p l
    rw [List.filter_cons]
    split
    · have e2 : szL (f :: l.filter p) = szF f + szL (l.filter p) := by simp [szL]
      omega
    · omega
theorem szL_hop (l : List Fl) : szL (hopA l) ≤ szL l := by
  unfold hopA
  split
  · exact szL_filter _ _
  · exact Nat.zero_le _
theorem szL_with (l : List Fl) (n x : ByteArray) : szL (withA l n x) ≤ szL l + (n.size + x.size) := by
  unfold withA
  split
  · rw [szL_append]
    have h1 : szL (wo l n) ≤ szL l := szL_filter _ _
    have h2 : szL [(n, x)] = n.size + x.size := by simp [szL, szF]
    omega
  · exact Nat.zero_le _

def tabN : Array Value := #[.string ⟨#[99, 111, 110, 110, 101, 99, 116, 105, 111, 110]⟩, .string ⟨#[84, 69]⟩, .string ⟨#[85, 112, 103, 114, 97, 100, 101]⟩, .string ⟨#[107, 101, 101, 112, 45, 97, 108, 105, 118, 101]⟩]
theorem tabN_at (k : Nat) (h : k < 4) : ∃ s : ByteArray, tabN[k]? = some (.string s) ∧ s.size ≤ 1048576 ∧ ∃ m ∈ hopN, lowS m = lowS s := by
  rcases (show k = 0 ∨ k = 1 ∨ k = 2 ∨ k = 3 by omega) with rfl | rfl | rfl | rfl
  · exact ⟨_, rfl, by decide, ⟨#[99, 111, 110, 110, 101, 99, 116, 105, 111, 110]⟩, by simp [hopN, conn], rfl⟩
  · exact ⟨_, rfl, by decide, ⟨#[116, 101]⟩, by simp [hopN], by decide⟩
  · exact ⟨_, rfl, by decide, ⟨#[117, 112, 103, 114, 97, 100, 101]⟩, by simp [hopN], by decide⟩
  · exact ⟨_, rfl, by decide, ⟨#[107, 101, 101, 112, 45, 97, 108, 105, 118, 101]⟩, by simp [hopN], by decide⟩

set_option maxRecDepth 100000 in
set_option maxHeartbeats 2000000 in
theorem namedWalk (sa : Option Addr) (sl sc : Nat) (w : World) (hc : Code8 w w.heap.size sa sl) (hl : sl ≤ 4096) :
    Calls Tryd.prog 4 #[.slice sa sl sc] w fun e w' => e = .returned (.bool true) ∧ Below w.heap.size w w' := by
  go_enter Tryd.func4, Tryd.ntmps4
  go_wp2_with fail
  refine (notBig sa sl sc _ hl).mono ?_
  rintro e x0 ⟨rfl, rfl⟩
  go_wp2_with fail
  refine (drawWith sa sl sc _ hc hl).mono ?_
  rintro e x1 ⟨u1, l1, n, x, rfl, ⟨o1, s1, hb01⟩, hn, hx⟩
  have z1 := s1.sz
  have hn' : n.size ≤ 1048576 := by omega
  have hx' : x.size ≤ 1048576 := by omega
  go_wp2_with fail
  refine (implWith _ l1 n x _ o1.fls (by omega) hn' hx').mono ?_
  rintro e x2 ⟨⟨g2, rfl, p2⟩, hb2⟩
  have hb02 := hb01.trans (hb2.mono hb01.size)
  have d1 := o1.has.kept hb2
  have zw := szL_with l1 n x
  have hgw := get_with (l := l1) (n := n) (v := x)
  have hww := with_with (l := l1) (n := n) (v := x)
  have hwo := without_with (l := l1) (n := n) (v := x)
  have hLw : (withA l1 n x).length ≤ 30 := withA_length l1 n x
  have csw := fun v w h => specWith v l1 n x w h (by omega) hn' hx'
  generalize withA l1 n x = Lw at p2 zw hgw hww hwo hLw csw
  go_wp2_with fail
  refine (drawGet sa sl sc _ (hc.on hb02) hl).mono ?_
  rintro e x3 ⟨u3, l3, m, rfl, ⟨o3, s3, hb3⟩, hm⟩
  have hb03 := hb02.trans (hb3.mono hb02.size)
  have z3 := s3.sz
  have d1 := d1.kept hb3
  have p2 := p2.kept hb3
  have cig := fun w h => implGet u3 l3 m w h (by omega) (by omega)
  have csg := fun w h => specGet u3 l3 m w h (by omega) (by omega)
  generalize getA l3 m = gp at cig csg
  obtain ⟨gs, gb⟩ := gp
  simp only [getE] at cig csg
  go_wp2_with fail
  refine (cig _ o3.fls).mono ?_
  rintro e x4 ⟨rfl, hb4⟩
  have hb04 := hb03.trans (hb4.mono hb03.size)
  have d1 := d1.kept hb4
  have p2 := p2.kept hb4
  have d3 := o3.has.kept hb4
  go_wp2_with fail
  refine (drawHop sa sl sc _ (hc.on hb04) hl).mono ?_
  rintro e x5 ⟨u5, l5, rfl, o5, s5, hb5⟩
  have hb05 := hb04.trans (hb5.mono hb04.size)
  have d1 := d1.kept hb5
  have p2 := p2.kept hb5
  have d3 := d3.kept hb5
  have z5 := s5.sz
  have cih := fun w h => implHop u5 l5 w h (by omega)
  have csh := fun B w h => specHop u5 l5 B w h (by omega)
  have zh := szL_hop l5
  have hhg := fun {n} => hop_get l5 (n := n)
  have hhh := hop_hop l5
  have hLh : (hopA l5).length ≤ 30 := hopA_length l5
  generalize hopA l5 = Lh at cih csh zh hhg hhh hLh
  go_wp2_with fail
  refine (cih _ o5.fls).mono ?_
  rintro e x6 ⟨⟨g6, rfl, p6⟩, hb6⟩
  have hb06 := hb05.trans (hb6.mono hb05.size)
  have d1 := d1.kept hb6
  have p2 := p2.kept hb6
  have d3 := d3.kept hb6
  have d5 := o5.has.kept hb6
  go_wp2_with fail
  refine (drawWo sa sl sc _ (hc.on hb06) hl).mono ?_
  rintro e x7 ⟨u7, l7, b, rfl, ⟨o7, s7, hb7⟩, hbz⟩
  have hb07 := hb06.trans (hb7.mono hb06.size)
  have d1 := d1.kept hb7
  have p2 := p2.kept hb7
  have d3 := d3.kept hb7
  have d5 := d5.kept hb7
  have p6 := p6.kept hb7
  have z7 := s7.sz
  go_wp2_with fail
  refine (csg _ d3.fls).mono ?_
  rintro e x8 ⟨rfl, hb8⟩
  have hb08 := hb07.trans (hb8.mono hb07.size)
  have d1 := d1.kept hb8
  have p2 := p2.kept hb8
  have d5 := d5.kept hb8
  have p6 := p6.kept hb8
  have d7 := o7.has.kept hb8
  go_wp2_with fail
  refine (csw _ _ d1.fls).mono ?_
  rintro e x9 ⟨u9, rfl, o9, hb9⟩
  have hb09 := hb08.trans (hb9.mono hb08.size)
  have p2 := p2.kept hb9
  have d5 := d5.kept hb9
  have p6 := p6.kept hb9
  have d7 := d7.kept hb9
  go_wp2_with fail
  refine (likeF _ _ Lw _ p2.fls o9.fls (by omega)).mono ?_
  rintro e x10 ⟨rfl, hg10⟩
  have hb10 := hb09.trans (hg10.low.mono hb09.size)
  have p2 := p2.kept hg10.low
  have d5 := d5.kept hg10.low
  have p6 := p6.kept hg10.low
  have d7 := d7.kept hg10.low
  go_wp2_with fail
  refine (csh _ _ d5).mono ?_
  rintro e x11 ⟨u11, rfl, o11, hb11⟩
  have hb011 := hb10.trans (hb11.mono hb10.size)
  have p2 := p2.kept hb11
  have p6 := p6.kept hb11
  have d7 := d7.kept hb11
  go_wp2_with fail
  refine (likeF _ _ Lh _ p6.fls o11.fls (by omega)).mono ?_
  rintro e x12 ⟨rfl, hg12⟩
  have hb012 := hb011.trans (hg12.low.mono hb011.size)
  have p2 := p2.kept hg12.low
  have p6 := p6.kept hg12.low
  have d7 := d7.kept hg12.low
  have hLo := woA_length l7 b
  have ciw := fun w h => Calls.mono (implWo u7 l7 b w h (by omega) (by omega)) fun e w' h => GivesF.any h
  have csw7 := fun w h => specWo u7 l7 b w h (by omega) (by omega)
  generalize woA l7 b = Lo at hLo ciw csw7
  go_wp2_with fail
  refine (ciw _ d7.fls).mono ?_
  rintro e x13 ⟨u13, rfl, p13, hb13⟩
  have hb013 := hb012.trans (hb13.mono hb012.size)
  have p2 := p2.kept hb13
  have p6 := p6.kept hb13
  have d7 := d7.kept hb13
  go_wp2_with fail
  refine (csw7 _ d7.fls).mono ?_
  rintro e x14 ⟨u14, rfl, o14, hb14⟩
  have hb014 := hb013.trans (hb14.mono hb013.size)
  have p2 := p2.kept hb14
  have p6 := p6.kept hb14
  have p13 := p13.kept hb14
  go_wp2_with fail
  refine (likeF _ _ Lo _ p13.fls o14.fls (by omega)).mono ?_
  rintro e x15 ⟨rfl, hg15⟩
  have hb015 := hb014.trans (hg15.low.mono hb014.size)
  have p2 := p2.kept hg15.low
  have p6 := p6.kept hg15.low
  clear hb2 hb3 hb4 hb5 hb6 hb7 hb8 hb9 hg10 hb11 hg12 hb13 hb14 hg15 o1 o3 o5 o7 o9 o11 o14 d1 d3 d5 d7 p13 cig csg csh ciw csw7 csw hb01 hb02 hb03 hb04 hb05 hb06 hb07 hb08 hb09 hb10 hb011 hb012 hb013 hb014 hc
  have tb : (x15.alloc (.cells tabN 9)).heap[x15.heap.size]? = some (.cells tabN 9) := heap_alloc_new x15 _
  have hba : Below x15.heap.size x15 (x15.alloc (.cells tabN 9)) := (Below.refl _ x15).alloc (Nat.le_refl _) _
  have hb016 := hb015.trans (hba.mono hb015.size)
  have p2 := p2.kept hba
  have p6 := p6.kept hba
  have hsa : (x15.alloc (.cells tabN 9)).heap.size = x15.heap.size + 1 := by simp
  clear hba hb015
  have hgo : ∀ w (h : Fls w (.slice (some ⟨g6, 0, none⟩) Lh.length Lh.length) Lh) (s : ByteArray), s.size ≤ 1048576 → (∃ m ∈ hopN, lowS m = lowS s) → Calls Tryd.prog 26 #[.slice (some ⟨g6, 0, none⟩) Lh.length Lh.length, .string s] w fun e w' => e = .returned (.tuple #[.string ⟨#[]⟩, .bool false]) ∧ Below w.heap.size w w' := by
    intro w h s hs hm
    refine (implGet _ Lh s w h (by omega) hs).mono ?_
    rw [hhg hm]
    rintro e w' ⟨rfl, hb⟩
    exact ⟨rfl, hb⟩
  clear hhg
  go_wp2_with fail
  go_loopw [97] (fun i wr => ∃ k : Nat, k ≤ 4 ∧ i = .int .i64 k ∧ Below (x15.alloc (.cells tabN 9)).heap.size (x15.alloc (.cells tabN 9)) wr) (fun i _ => 4 - (intOf i).toNat)
  case atStart => exact ⟨0, by omega, rfl, Below.refl _ _⟩
  case round =>
    obtain ⟨k, hk, rfl, hbk⟩ := hrel
    have q2 := p2.kept hbk
    have q6 := p6.kept hbk
    have hb0k := hb016.trans (hbk.mono hb016.size)
    have tbk := (hbk.block x15.heap.size (by omega)).trans tb
    clear p2 p6 tb
    by_cases hlt : k < 4
    · obtain ⟨s, hs, hsz, hsm⟩ := tabN_at k hlt
      have hcell := tab_cell tbk hs
      clear tbk hs
      go_wp2_with (go_at_call 26; refine (hgo _ q6.fls s hsz hsm).mono ?_; rintro e y ⟨rfl, hb⟩)
      go_roundw
      case rel => exact ⟨k + 1, by omega, by go_num, hbk.trans (hb.mono hbk.size)⟩
      case measure => simp [intOf]; omega
    · obtain rfl : k = 4 := by omega
      clear tbk hgo hbk hb016
      have chh : ∀ w (h : Fls w (.slice (some ⟨g6, 0, none⟩) Lh.length Lh.length) Lh), Calls Tryd.prog 28 #[.slice (some ⟨g6, 0, none⟩) Lh.length Lh.length] w fun e w' => GivesF w w' e Lh := by
        intro w h
        have := implHop _ Lh w h (by omega)
        rw [hhh] at this
        exact this
      clear hhh cih
      by_cases hL0 : Lw.length = 0
      · clear hgw hww hwo q2
        go_wp2_with fail
        refine (chh _ q6.fls).mono ?_
        rintro e y1 ⟨⟨g, rfl, r⟩, hb1⟩
        go_wp2_with fail
        refine (likeF _ _ Lh _ r.fls (q6.kept hb1).fls (by omega)).mono ?_
        rintro e y2 ⟨rfl, hg2⟩
        go_wp2
        go_ret
        exact ⟨rfl, (hb0k.trans (hb1.mono hb0k.size)).trans (hg2.low.mono (Nat.le_trans hb0k.size hb1.size))⟩
      · have hne : Lw ≠ [] := fun h => hL0 (by rw [h]; rfl)
        have hgw := hgw hne
        have hww := hww hne
        have hwo := hwo hne
        clear hne
        have cgw : ∀ w (h : Fls w (.slice (some ⟨g2, 0, none⟩) Lw.length Lw.length) Lw), Calls Tryd.prog 26 #[.slice (some ⟨g2, 0, none⟩) Lw.length Lw.length, .string (lowS n)] w fun e w' => e = .returned (.tuple #[.string x, .bool true]) ∧ Below w.heap.size w w' := by
          intro w h
          refine (implGet _ Lw (lowS n) w h (by omega) (by rw [lowS_size]; exact hn')).mono ?_
          rw [hgw]
          rintro e w' ⟨rfl, hb⟩
          exact ⟨rfl, hb⟩
        have cww : ∀ w (h : Fls w (.slice (some ⟨g2, 0, none⟩) Lw.length Lw.length) Lw), Calls Tryd.prog 24 #[.slice (some ⟨g2, 0, none⟩) Lw.length Lw.length, .string n, .string x] w fun e w' => GivesF w w' e Lw := by
          intro w h
          have := implWith _ Lw n x w h (by omega) hn' hx'
          rw [hww] at this
          exact this
        have cwo := fun w h => implWo (.slice (some ⟨g2, 0, none⟩) Lw.length Lw.length) Lw n w h (by omega) hn'
        generalize woA Lw n = Lq at hwo cwo
        clear hgw hww
        have q2f := q2.fls
        have q6f := q6.fls
        go_wp2_with fail
        refine (specLow n _ (by unfold maxLen; omega)).mono ?_
        rintro e y1 ⟨rfl, hb1⟩
        have hb1k := hb0k.trans (hb1.mono hb0k.size)
        have q2 := q2.kept hb1
        have q6 := q6.kept hb1
        go_wp2_with fail
        refine (cgw _ q2.fls).mono ?_
        rintro e y2 ⟨rfl, hb2⟩
        have hb2k := hb1k.trans (hb2.mono hb1k.size)
        have q2 := q2.kept hb2
        have q6 := q6.kept hb2
        go_wp2_with fail
        refine (cww _ q2.fls).mono ?_
        rintro e y3 ⟨⟨g3, rfl, r3⟩, hb3⟩
        have hb3k := hb2k.trans (hb3.mono hb2k.size)
        have q2 := q2.kept hb3
        have q6 := q6.kept hb3
        go_wp2_with fail
        refine (likeF _ _ Lw _ r3.fls q2.fls (by omega)).mono ?_
        rintro e y4 ⟨rfl, hg4⟩
        have hb4k := hb3k.trans (hg4.low.mono hb3k.size)
        have q2 := q2.kept hg4.low
        have q6 := q6.kept hg4.low
        go_wp2_with fail
        refine (chh _ q6.fls).mono ?_
        rintro e y5 ⟨⟨g5, rfl, r5⟩, hb5⟩
        have hb5k := hb4k.trans (hb5.mono hb4k.size)
        have q2 := q2.kept hb5
        have q6 := q6.kept hb5
        go_wp2_with fail
        refine (likeF _ _ Lh _ r5.fls q6.fls (by omega)).mono ?_
        rintro e y6 ⟨rfl, hg6⟩
        have hb6k := hb5k.trans (hg6.low.mono hb5k.size)
        have q2 := q2.kept hg6.low
        go_wp2_with fail
        refine (cwo _ q2.fls).mono ?_
        rintro e y7 ⟨⟨g7, rfl, r7⟩, hb7⟩
        have hb7k := hb6k.trans (hb7.mono hb6k.size)
        clear hb1 hb2 hb3 hg4 hb5 hg6 hb7 q2 q6 r3 r5 r7 q2f q6f cgw cww cwo chh hb0k hb1k hb2k hb3k hb4k hb5k hb6k
        have heq : ((Lq.length : Int) == (Lw.length : Int) - 1) = true := by rw [beq_iff_eq]; omega
        go_wp2
        go_ret
        exact ⟨by first | rfl | exact congrArg (fun b => Ending.returned (.bool b)) heq, hb7k⟩
end Go.Proofs.YtnkalamfekkmbaaDoor
