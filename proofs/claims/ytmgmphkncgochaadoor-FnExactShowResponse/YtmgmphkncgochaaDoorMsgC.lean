/-
  The specification's decimal digits, ShowRequest and ShowResponse by their contracts.
-/
import Derived.Test.YtmgmphkncgochaaDoorMsgB
import Derived.Test.YtmgmphkncgochaaDoorFldW
import Derived.Laws.AppendOwnNone
import Derived.Lib.QuietBelow
namespace Go.Proofs.YtmgmphkncgochaaDoor
open Go.RowKit Go.Sort
set_option linter.unusedVariables false

theorem decS_is {n : Nat} {x : ByteArray} (h : numF 8 n = x.data.toList) : x = decS n := by
  unfold decS
  have : x.data = (numF 8 n).toArray := Array.ext' (by rw [h])
  cases x
  exact congrArg _ this
theorem byte_text6 (w : World) (n : Int) (c : UInt8) (h : n = (c.toNat : Int)) : (convert 71 9 (.slice (some ⟨w.heap.size, 0, none⟩) 1 1)).run Tryd.prog (w.alloc (.cells #[.int .u8 n] 5)) = .ok (.string ⟨#[c]⟩) (w.alloc (.cells #[.int .u8 n] 5)) := by
  subst h
  exact OwnsB.text (OwnsB.one w c)
theorem dec_cat (c : UInt8) (x : ByteArray) : ((⟨#[c]⟩ : ByteArray) ++ x).data.toList = c :: x.data.toList := by rw [add_list]; rfl
theorem num_byte {d : Nat} (h : d < 10) : ((numB d).toNat : Int) = 48 + (d : Int) := by
  have k : ∀ j : Fin 10, ((numB j.val).toNat : Int) = 48 + (j.val : Int) := by decide +kernel
  exact k ⟨d, h⟩
def decMu (a b : Value) : Nat := 2 * (intOf a).toNat + (match b with | .string s => if s.size = 0 then 1 else 0 | _ => 0)
/-- How digits are written one by one. -/
def DecAt (n m : Nat) (x : ByteArray) : Prop := (0 < x.size ∧ m = 0 ∧ numF 8 n = x.data.toList) ∨ ((x.size = 0 ∨ 0 < m) ∧ ∃ f, f + x.data.toList.length = 8 ∧ m < 10 ^ (f + 1) ∧ numF 8 n = numF f m ++ x.data.toList)
theorem DecAt.size {n m : Nat} {x : ByteArray} (h : DecAt n m x) : x.size ≤ 9 := by
  have h3 : x.data.toList.length = x.size := by simp
  rcases h with ⟨_, _, h⟩ | ⟨_, f, h, _⟩
  · have := numF_length 8 n
    rw [h] at this
    omega
  · omega
theorem DecAt.next {n m : Nat} {x : ByteArray} (h : DecAt n m x) (h2 : x.size = 0 ∨ 0 < m) : DecAt n (m / 10) ((⟨#[numB (m % 10)]⟩ : ByteArray) ++ x) := by
  have h3 : x.data.toList.length = x.size := by simp
  have hs : ((⟨#[numB (m % 10)]⟩ : ByteArray) ++ x).size = 1 + x.size := by rw [ByteArray.size_append]; rfl
  have key : ∀ f, f + x.data.toList.length = 8 → m < 10 ^ (f + 1) → numF 8 n = numF f m ++ x.data.toList → DecAt n (m / 10) ((⟨#[numB (m % 10)]⟩ : ByteArray) ++ x) := by
    intro f hf hm he
    by_cases h10 : m < 10
    · rw [numF_small f m h10] at he
      refine .inl ⟨by omega, by omega, ?_⟩
      rw [he, dec_cat, Nat.mod_eq_of_lt h10]
      rfl
    · cases f with
      | zero => simp at hm; omega
      | succ f =>
        refine .inr ⟨.inr (by omega), f, ?_, ?_, ?_⟩
        · rw [dec_cat, List.length_cons]; omega
        · rw [Nat.pow_succ] at hm
          exact Nat.div_lt_of_lt_mul (by rw [Nat.mul_comm]; exact hm)
        · rw [he, numF_step f m h10, dec_cat]; simp
  rcases h with ⟨h1, h0, he⟩ | ⟨_, f, hf, hm, he⟩
  · omega
  · exact key f hf hm he

set_option maxHeartbeats 1000000 in
theorem specInt (n : Nat) (w : World) (hn : n ≤ 100000000) :
    Calls Tryd.prog 50 #[.int .i64 (n : Int)] w fun e w' => e = .returned (.string (decS n)) ∧ Below w.heap.size w w' := by
  have H0 : Hid (DecAt n n ⟨#[]⟩) := .inr ⟨.inl rfl, 8, rfl, by omega, by show numF 8 n = numF 8 n ++ []; rw [List.append_nil]⟩
  have hneg : decide ((n : Int) < 0) = false := by simp
  go_enter Tryd.func50, Tryd.ntmps50
  go_wp2
  go_loopw [0, 3, 5] (fun a b _ wr => ∃ (m : Nat) (x : ByteArray), a = .int .i64 m ∧ b = .string x ∧ m ≤ 100000000 ∧ Hid (DecAt n m x) ∧ Hid (Below w.heap.size w wr)) (fun a b _ _ => decMu a b)
  case atStart => exact ⟨n, ⟨#[]⟩, rfl, rfl, hn, H0, Below.refl _ _⟩
  case round =>
    obtain ⟨m, x, rfl, rfl, hm, hx, hb⟩ := hrel
    have hxs := hx.out.size
    have hmod : m % 10 < 10 := Nat.mod_lt _ (by decide)
    by_cases hend : 0 < x.size ∧ m = 0
    · obtain ⟨h1, rfl⟩ := hend
      have hfe : x.toList.isEmpty = false := by rw [void_emp]; exact decide_eq_false (by omega)
      have HX : Hid (x = decS n) := by
        rcases hx.out with ⟨_, _, h⟩ | ⟨h | h, _⟩
        · exact decS_is h
        · omega
        · omega
      clear hx
      go_wp2
      go_ret
      exact ⟨ret_strT HX.out, hb.out⟩
    · have hc : x.size = 0 ∨ 0 < m := by omega
      have HN : Hid (DecAt n (m / 10) ((⟨#[numB (m % 10)]⟩ : ByteArray) ++ x)) := hx.out.next hc
      have hby := num_byte hmod
      obtain ⟨q, hq⟩ : ∃ q, m % 10 = q := ⟨_, rfl⟩
      obtain ⟨p, hp⟩ : ∃ p, m / 10 = p := ⟨_, rfl⟩
      rw [hq] at HN hby hmod
      rw [hp] at HN
      have hpq : m = 10 * p + q := by omega
      have e3 : (m : Int) % 10 = (q : Int) := by omega
      have e4 : (m : Int) / 10 = (p : Int) := by omega
      have e1 : (m : Int).tmod 10 = (q : Int) := by rw [Int.tmod_eq_emod_of_nonneg (by omega)]; exact e3
      have e2 : (m : Int).tdiv 10 = (p : Int) := by rw [Int.tdiv_eq_ediv_of_nonneg (by omega)]; exact e4
      have d1 : ¬ (q : Int) < 0 := by omega
      have hwr : IntKind.u8.wrap (48 + (q : Int)) = 48 + (q : Int) := by rw [show IntKind.u8.wrap (48 + (q : Int)) = (48 + (q : Int)) % 256 from rfl]; omega
      have htx := fun W => byte_text6 W (48 + (q : Int)) (numB q) hby.symm
      have hsz : ((⟨#[numB q]⟩ : ByteArray) ++ x).size = 1 + x.size := by rw [ByteArray.size_append]; rfl
      have hsz1 : (⟨#[numB q]⟩ : ByteArray).size = 1 := rfl
      have HM : Hid (decMu (.int .i64 (p : Int)) (.string ((⟨#[numB q]⟩ : ByteArray) ++ x)) < decMu (.int .i64 (m : Int)) (.string x)) := by
        show 2 * (p : Int).toNat + (if ((⟨#[numB q]⟩ : ByteArray) ++ x).size = 0 then 1 else 0) < 2 * (m : Int).toNat + (if x.size = 0 then 1 else 0)
        rw [hsz, if_neg (by omega), Int.toNat_natCast, Int.toNat_natCast]
        rcases hc with hc | hc
        · rw [if_pos hc]; omega
        · omega
      have HP : Hid (p ≤ 100000000) := by show p ≤ 100000000; omega
      clear hby hx hend hq hp hpq
      generalize numB q = c at HN htx hsz HM hsz1
      by_cases hv : x.size = 0
      · have hfe : x.toList.isEmpty = true := by rw [void_emp]; exact decide_eq_true hv
        go_wp2
        go_roundw
        case rel => exact ⟨p, _, rfl, rfl, HP.out, HN, hb.out.alloc hb.out.size _⟩
        case measure => exact HM.out
      · have hfe : x.toList.isEmpty = false := by rw [void_emp]; exact decide_eq_false hv
        have hne : ((m : Int) != 0) = true := by simp; omega
        have hne2 : ¬ (m : Int) = 0 := by omega
        go_wp2
        go_roundw
        case rel => exact ⟨p, _, rfl, rfl, HP.out, HN, hb.out.alloc hb.out.size _⟩
        case measure => exact HM.out

theorem cells_off (l : List Fl) {w : World} {g o : Nat} (hc : ∀ j (hj : j < l.length), w.cell? ⟨g, o + j * 2, none⟩ = some (.string l[j].1) ∧ w.cell? ⟨g, o + j * 2 + 1, none⟩ = some (.string l[j].2)) : ∀ j u, (cellsF l)[j]? = some u → w.cell? ((⟨g, o, none⟩ : Addr).add j) = some u := by
  intro j u hu
  have hj : j < (cellsF l).length := (List.getElem?_eq_some_iff.1 hu).1
  rw [cellsF_length] at hj
  rw [addr_add, ← hu]
  obtain ⟨c1, c2⟩ := cellsF_at l (j / 2) (by omega)
  obtain ⟨d1, d2⟩ := hc (j / 2) (by omega)
  have h2 : j = j / 2 * 2 ∨ j = j / 2 * 2 + 1 := by omega
  rcases h2 with h2 | h2
  · rw [h2, c1]; exact d1
  · rw [h2, c2]; exact d2
theorem grown_self6 (w : World) (r : Option Nat) : w.grownBy w r := ⟨rfl, rfl, rfl, Nat.le_refl _, fun _ _ _ => rfl⟩
/-- Fields that came in appended to fields of the call's own. -/
theorem wpList_joinF {ops : Array Oper} {rest : List Oper} {o : Oper} {a : Act} {Q : Exit → Act → World → Prop} (w : World) (hgd : o.guard = none) (s x : Operand)
    (ho : o.op = .call { callee := .builtin .append, args := #[s, x], argTypes := #[27, 27] }) (B : Nat) (v vx : Value) (l m : List Fl) (hs : a.eval s = v) (hown : OwnsF w B v l)
    (hx : a.eval x = vx) (hm : Fls w vx m) (hsol : Solid vx) (hlen : l.length + m.length ≤ 1000000) (hB : B ≤ w.heap.size)
    (h : ∀ v' w', OwnsF w' B v' (l ++ m) → w.grownBy w' v.ownBlock → wpList Tryd.prog ops Q rest (a.put o.dst v') w') :
    wpList Tryd.prog ops Q (o :: rest) a w := by
  obtain ⟨i0, hi, hz0, hz1, hz2⟩ := info_parts Tryd.infoF
  obtain ⟨ax, cap, rfl, h1, h2, h3⟩ := hm
  have key : ∀ A : Addr, ax = some A → (∀ j u, (cellsF m)[j]? = some u → w.cell? (A.add j) = some u) → wpList Tryd.prog ops Q (o :: rest) a w := by
    intro A hA hc
    subst hA
    refine wpList_append_own _ hgd s x 27 ho B 62 i0 (.agg #[.string ⟨#[]⟩, .string ⟨#[]⟩]) 2 32 Tryd.underlying27 hi hz0 hz1 hz2 rfl (by decide) v l.length (cellsF l) hs hown A m.length cap (cellsF m) hx (cellsF_length m) hc
      (cellsF_one m) (by unfold maxLen; omega) (by omega) hB ?_
    intro v' w' g1 g2 _
    refine h v' w' ?_ g2
    unfold OwnsF
    rw [cellsF_append, List.length_append]
    exact g1
  by_cases h0 : 0 < m.length
  · obtain ⟨g, o', rfl, hg, hc⟩ := h3 h0
    exact key _ rfl (cells_off m hc)
  · have hm0 : m = [] := List.eq_nil_of_length_eq_zero (by omega)
    subst hm0
    cases ax with
    | none =>
      obtain rfl : cap = 0 := hsol _ _ rfl
      refine wpList_append_own_none hgd s x 27 ho B 62 i0 2 Tryd.underlying27 hi v l.length (cellsF l) hs hown hx ?_
      exact h v w (by rw [List.append_nil]; exact hown) (grown_self6 _ _)
    | some A => exact key A rfl (fun j u hu => by simp [cellsF] at hu)
end Go.Proofs.YtmgmphkncgochaaDoor
