/-
  The walk of FnExactNewEdge.
-/
import Derived.Test.YtdkhdjickkcaiaaEgA
namespace Go.Proofs.Ytdkhdjickkcaiaa
open Go.RowKit
set_option linter.unusedVariables false
set_option linter.unusedSimpArgs false
namespace Eg

set_option maxRecDepth 100000 in
set_option maxHeartbeats 16000000 in
theorem walkNewEg (n : Int) (w : World) :
    Calls Try.prog 5 #[.int .i64 n] w fun e w' => e = .returned (.bool true) ∧ Below w.heap.size w w' := by
  have hsp := fun W => specNewEg n W
  have him := fun W => implNewEg n W
  have hem := fun N Z a b c a' b' c' ca cb cc ca' cb' cc' W => eqEg0 N 0 Z a b c a' b' c' ca cb cc ca' cb' cc' W
  have hkm := fun N Z a b c ca cb cc W => mkEg0 N 0 Z a b c ca cb cc W
  have hhm := fun N Z a b c ca cb cc W => heEg0 N 0 Z a b c ca cb cc W
  generalize (if momE n = true then n else 0) = N at hsp him
  generalize ((if momE n = true then 256 else 0) : Int) = Z at hsp him
  generalize momE n = bb at hsp him
  have db : (bb != bb) = false := by simp
  unfold edV at *
  go_enter Try.func5, Try.ntmps5
  go_wp2_with fail
  refine (hsp _).mono ?_
  rintro e w1 ⟨⟨aS, bS, cS, dS, eS, fS, rfl⟩, hb⟩
  have BB : Hid (Below w.heap.size w w1) := hb
  clear hb
  have XS : Hid (Bx (w1.alloc (.cells #[.slice aS 0 dS, .slice bS 0 eS, .int .i64 N, .int .i64 0, .int .i64 Z, .slice cS 0 fS] 45)) w1.heap.size 45 #[.slice aS 0 dS, .slice bS 0 eS, .int .i64 N, .int .i64 0, .int .i64 Z, .slice cS 0 fS]) := Bx.new _ _ _
  replace BB : Hid (Below w.heap.size w (w1.alloc (.cells #[.slice aS 0 dS, .slice bS 0 eS, .int .i64 N, .int .i64 0, .int .i64 Z, .slice cS 0 fS] 45))) := (show Hid _ from BB.out.alloc BB.out.size _)
  generalize hgS : w1.heap.size = gS at XS
  go_wp2_with fail
  generalize (w1.alloc (.cells #[.slice aS 0 dS, .slice bS 0 eS, .int .i64 N, .int .i64 0, .int .i64 Z, .slice cS 0 fS] 45)) = w2 at BB XS ⊢
  have cS0 := XS.out.cell 0
  have cS1 := XS.out.cell 1
  have cS2 := XS.out.cell 2
  have cS3 := XS.out.cell 3
  have cS4 := XS.out.cell 4
  have cS5 := XS.out.cell 5
  clear cS0 cS1 cS2 cS3 cS4 cS5
  refine (him _).mono ?_
  rintro e w3 ⟨⟨aG, bG, cG, dG, eG, fG, rfl⟩, hb⟩
  replace XS : Hid (Bx w3 gS 45 #[.slice aS 0 dS, .slice bS 0 eS, .int .i64 N, .int .i64 0, .int .i64 Z, .slice cS 0 fS]) := XS.out.kept hb
  replace BB : Hid (Below w.heap.size w w3) := (show Hid _ from BB.out.trans (hb.mono BB.out.size))
  clear hb
  replace XS : Hid (Bx (w3.alloc (.cells #[.slice aG 0 dG, .slice bG 0 eG, .int .i64 N, .int .i64 0, .int .i64 Z, .slice cG 0 fG] 45)) gS 45 #[.slice aS 0 dS, .slice bS 0 eS, .int .i64 N, .int .i64 0, .int .i64 Z, .slice cS 0 fS]) := XS.out.alloc _
  have XG : Hid (Bx (w3.alloc (.cells #[.slice aG 0 dG, .slice bG 0 eG, .int .i64 N, .int .i64 0, .int .i64 Z, .slice cG 0 fG] 45)) w3.heap.size 45 #[.slice aG 0 dG, .slice bG 0 eG, .int .i64 N, .int .i64 0, .int .i64 Z, .slice cG 0 fG]) := Bx.new _ _ _
  replace BB : Hid (Below w.heap.size w (w3.alloc (.cells #[.slice aG 0 dG, .slice bG 0 eG, .int .i64 N, .int .i64 0, .int .i64 Z, .slice cG 0 fG] 45))) := (show Hid _ from BB.out.alloc BB.out.size _)
  generalize hgG : w3.heap.size = gG at XG
  generalize hww4 : (w3.alloc (.cells #[.slice aG 0 dG, .slice bG 0 eG, .int .i64 N, .int .i64 0, .int .i64 Z, .slice cG 0 fG] 45)) = w4 at BB XS XG
  have cS0 := XS.out.cell 0
  have cS1 := XS.out.cell 1
  have cS2 := XS.out.cell 2
  have cS3 := XS.out.cell 3
  have cS4 := XS.out.cell 4
  have cS5 := XS.out.cell 5
  have cG0 := XG.out.cell 0
  have cG1 := XG.out.cell 1
  have cG2 := XG.out.cell 2
  have cG3 := XG.out.cell 3
  have cG4 := XG.out.cell 4
  have cG5 := XG.out.cell 5
  go_wp2_with fail
  clear cS0 cS1 cS2 cS3 cS4 cS5 cG0 cG1 cG2 cG3 cG4 cG5
  refine (hem N Z _ _ _ _ _ _ _ _ _ _ _ _ _).mono ?_
  rintro e w5 ⟨rfl, hb⟩
  replace XS : Hid (Bx w5 gS 45 #[.slice aS 0 dS, .slice bS 0 eS, .int .i64 N, .int .i64 0, .int .i64 Z, .slice cS 0 fS]) := XS.out.kept hb
  replace XG : Hid (Bx w5 gG 45 #[.slice aG 0 dG, .slice bG 0 eG, .int .i64 N, .int .i64 0, .int .i64 Z, .slice cG 0 fG]) := XG.out.kept hb
  replace BB : Hid (Below w.heap.size w w5) := (show Hid _ from BB.out.trans (hb.mono BB.out.size))
  clear hb
  have cS0 := XS.out.cell 0
  have cS1 := XS.out.cell 1
  have cS2 := XS.out.cell 2
  have cS3 := XS.out.cell 3
  have cS4 := XS.out.cell 4
  have cS5 := XS.out.cell 5
  have cG0 := XG.out.cell 0
  have cG1 := XG.out.cell 1
  have cG2 := XG.out.cell 2
  have cG3 := XG.out.cell 3
  have cG4 := XG.out.cell 4
  have cG5 := XG.out.cell 5
  go_wp2_with fail
  clear cS0 cS1 cS2 cS3 cS4 cS5 cG0 cG1 cG2 cG3 cG4 cG5
  refine (hkm N Z _ _ _ _ _ _ _).mono ?_
  rintro e w6 ⟨rfl, hb⟩
  replace XS : Hid (Bx w6 gS 45 #[.slice aS 0 dS, .slice bS 0 eS, .int .i64 N, .int .i64 0, .int .i64 Z, .slice cS 0 fS]) := XS.out.kept hb
  replace XG : Hid (Bx w6 gG 45 #[.slice aG 0 dG, .slice bG 0 eG, .int .i64 N, .int .i64 0, .int .i64 Z, .slice cG 0 fG]) := XG.out.kept hb
  replace BB : Hid (Below w.heap.size w w6) := (show Hid _ from BB.out.trans (hb.mono BB.out.size))
  clear hb
  have cS0 := XS.out.cell 0
  have cS1 := XS.out.cell 1
  have cS2 := XS.out.cell 2
  have cS3 := XS.out.cell 3
  have cS4 := XS.out.cell 4
  have cS5 := XS.out.cell 5
  have cG0 := XG.out.cell 0
  have cG1 := XG.out.cell 1
  have cG2 := XG.out.cell 2
  have cG3 := XG.out.cell 3
  have cG4 := XG.out.cell 4
  have cG5 := XG.out.cell 5
  go_wp2_with fail
  clear cS0 cS1 cS2 cS3 cS4 cS5 cG0 cG1 cG2 cG3 cG4 cG5
  refine (hhm N Z _ _ _ _ _ _ _).mono ?_
  rintro e w7 ⟨rfl, hb⟩
  replace XS : Hid (Bx w7 gS 45 #[.slice aS 0 dS, .slice bS 0 eS, .int .i64 N, .int .i64 0, .int .i64 Z, .slice cS 0 fS]) := XS.out.kept hb
  replace XG : Hid (Bx w7 gG 45 #[.slice aG 0 dG, .slice bG 0 eG, .int .i64 N, .int .i64 0, .int .i64 Z, .slice cG 0 fG]) := XG.out.kept hb
  replace BB : Hid (Below w.heap.size w w7) := (show Hid _ from BB.out.trans (hb.mono BB.out.size))
  clear hb
  have cS0 := XS.out.cell 0
  have cS1 := XS.out.cell 1
  have cS2 := XS.out.cell 2
  have cS3 := XS.out.cell 3
  have cS4 := XS.out.cell 4
  have cS5 := XS.out.cell 5
  have cG0 := XG.out.cell 0
  have cG1 := XG.out.cell 1
  have cG2 := XG.out.cell 2
  have cG3 := XG.out.cell 3
  have cG4 := XG.out.cell 4
  have cG5 := XG.out.cell 5
  go_wp2_with fail
  clear cS0 cS1 cS2 cS3 cS4 cS5 cG0 cG1 cG2 cG3 cG4 cG5
  refine (him _).mono ?_
  rintro e w8 ⟨⟨aH, bH, cH, dH, eH, fH, rfl⟩, hb⟩
  replace XS : Hid (Bx w8 gS 45 #[.slice aS 0 dS, .slice bS 0 eS, .int .i64 N, .int .i64 0, .int .i64 Z, .slice cS 0 fS]) := XS.out.kept hb
  replace XG : Hid (Bx w8 gG 45 #[.slice aG 0 dG, .slice bG 0 eG, .int .i64 N, .int .i64 0, .int .i64 Z, .slice cG 0 fG]) := XG.out.kept hb
  replace BB : Hid (Below w.heap.size w w8) := (show Hid _ from BB.out.trans (hb.mono BB.out.size))
  clear hb
  replace XS : Hid (Bx (w8.alloc (.cells #[.slice aH 0 dH, .slice bH 0 eH, .int .i64 N, .int .i64 0, .int .i64 Z, .slice cH 0 fH] 45)) gS 45 #[.slice aS 0 dS, .slice bS 0 eS, .int .i64 N, .int .i64 0, .int .i64 Z, .slice cS 0 fS]) := XS.out.alloc _
  replace XG : Hid (Bx (w8.alloc (.cells #[.slice aH 0 dH, .slice bH 0 eH, .int .i64 N, .int .i64 0, .int .i64 Z, .slice cH 0 fH] 45)) gG 45 #[.slice aG 0 dG, .slice bG 0 eG, .int .i64 N, .int .i64 0, .int .i64 Z, .slice cG 0 fG]) := XG.out.alloc _
  have XH : Hid (Bx (w8.alloc (.cells #[.slice aH 0 dH, .slice bH 0 eH, .int .i64 N, .int .i64 0, .int .i64 Z, .slice cH 0 fH] 45)) w8.heap.size 45 #[.slice aH 0 dH, .slice bH 0 eH, .int .i64 N, .int .i64 0, .int .i64 Z, .slice cH 0 fH]) := Bx.new _ _ _
  replace BB : Hid (Below w.heap.size w (w8.alloc (.cells #[.slice aH 0 dH, .slice bH 0 eH, .int .i64 N, .int .i64 0, .int .i64 Z, .slice cH 0 fH] 45))) := (show Hid _ from BB.out.alloc BB.out.size _)
  generalize hgH : w8.heap.size = gH at XH
  generalize hww9 : (w8.alloc (.cells #[.slice aH 0 dH, .slice bH 0 eH, .int .i64 N, .int .i64 0, .int .i64 Z, .slice cH 0 fH] 45)) = w9 at BB XS XG XH
  have cS0 := XS.out.cell 0
  have cS1 := XS.out.cell 1
  have cS2 := XS.out.cell 2
  have cS3 := XS.out.cell 3
  have cS4 := XS.out.cell 4
  have cS5 := XS.out.cell 5
  have cG0 := XG.out.cell 0
  have cG1 := XG.out.cell 1
  have cG2 := XG.out.cell 2
  have cG3 := XG.out.cell 3
  have cG4 := XG.out.cell 4
  have cG5 := XG.out.cell 5
  have cH0 := XH.out.cell 0
  have cH1 := XH.out.cell 1
  have cH2 := XH.out.cell 2
  have cH3 := XH.out.cell 3
  have cH4 := XH.out.cell 4
  have cH5 := XH.out.cell 5
  go_wp2_with fail
  clear cS0 cS1 cS2 cS3 cS4 cS5 cG0 cG1 cG2 cG3 cG4 cG5 cH0 cH1 cH2 cH3 cH4 cH5
  refine (hem N Z _ _ _ _ _ _ _ _ _ _ _ _ _).mono ?_
  rintro e w10 ⟨rfl, hb⟩
  replace XS : Hid (Bx w10 gS 45 #[.slice aS 0 dS, .slice bS 0 eS, .int .i64 N, .int .i64 0, .int .i64 Z, .slice cS 0 fS]) := XS.out.kept hb
  replace XG : Hid (Bx w10 gG 45 #[.slice aG 0 dG, .slice bG 0 eG, .int .i64 N, .int .i64 0, .int .i64 Z, .slice cG 0 fG]) := XG.out.kept hb
  replace XH : Hid (Bx w10 gH 45 #[.slice aH 0 dH, .slice bH 0 eH, .int .i64 N, .int .i64 0, .int .i64 Z, .slice cH 0 fH]) := XH.out.kept hb
  replace BB : Hid (Below w.heap.size w w10) := (show Hid _ from BB.out.trans (hb.mono BB.out.size))
  clear hb
  have cS0 := XS.out.cell 0
  have cS1 := XS.out.cell 1
  have cS2 := XS.out.cell 2
  have cS3 := XS.out.cell 3
  have cS4 := XS.out.cell 4
  have cS5 := XS.out.cell 5
  have cG0 := XG.out.cell 0
  have cG1 := XG.out.cell 1
  have cG2 := XG.out.cell 2
  have cG3 := XG.out.cell 3
  have cG4 := XG.out.cell 4
  have cG5 := XG.out.cell 5
  have cH0 := XH.out.cell 0
  have cH1 := XH.out.cell 1
  have cH2 := XH.out.cell 2
  have cH3 := XH.out.cell 3
  have cH4 := XH.out.cell 4
  have cH5 := XH.out.cell 5
  go_wp2_with fail
  clear cS0 cS1 cS2 cS3 cS4 cS5 cG0 cG1 cG2 cG3 cG4 cG5 cH0 cH1 cH2 cH3 cH4 cH5
  refine (hhm N Z _ _ _ _ _ _ _).mono ?_
  rintro e w11 ⟨rfl, hb⟩
  replace XS : Hid (Bx w11 gS 45 #[.slice aS 0 dS, .slice bS 0 eS, .int .i64 N, .int .i64 0, .int .i64 Z, .slice cS 0 fS]) := XS.out.kept hb
  replace XG : Hid (Bx w11 gG 45 #[.slice aG 0 dG, .slice bG 0 eG, .int .i64 N, .int .i64 0, .int .i64 Z, .slice cG 0 fG]) := XG.out.kept hb
  replace XH : Hid (Bx w11 gH 45 #[.slice aH 0 dH, .slice bH 0 eH, .int .i64 N, .int .i64 0, .int .i64 Z, .slice cH 0 fH]) := XH.out.kept hb
  replace BB : Hid (Below w.heap.size w w11) := (show Hid _ from BB.out.trans (hb.mono BB.out.size))
  clear hb
  go_wp2
  go_ret
  exact ⟨rfl, BB.out⟩
end Eg
end Go.Proofs.Ytdkhdjickkcaiaa
