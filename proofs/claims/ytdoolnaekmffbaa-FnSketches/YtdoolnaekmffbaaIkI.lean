/-
  Arrays of flags that are held against each other; the program's Perhaps.
-/
import Derived.Test.YtdoolnaekmffbaaIkH
namespace Go.Proofs.Ytdoolnaekmffbaa
open Go.RowKit Go.Sort Ow Sk
set_option linter.unusedVariables false
set_option linter.unusedSimpArgs false

section
variable {P : Program}
theorem run_partB (w : World) (e : TypeId) (cs : Array Value) (k : Nat) (v : Value) (ha : (isAgg e).run P w = .ok false w) (hv : cs[k]? = some v) : (part e cs k).run P w = .ok v w := by
  simp [part, ha, hv]
/-- Two arrays of flags, held against each other. -/
theorem run_equalIn_flgs (w : World) (d : Nat) (t e : TypeId) (n : Nat) (xs ys : Array Value) (f g : Nat → Bool) (hu : P.underlying t = some (.array n e)) (he : (P.info? e).map (·.size) = some 1) (hb : P.underlying e = some .bool) (ha : ∀ w, (isAgg e).run P w = .ok false w)
    (hx : ∀ i, i < n → xs[i]? = some (.bool (f i))) (hy : ∀ i, i < n → ys[i]? = some (.bool (g i))) :
    (Op.equalIn (d + 1 + 1) t (.agg xs) (.agg ys)).run P w = .ok ((List.range n).all fun i => f i == g i) w := by
  obtain ⟨i, hi, hs⟩ := Option.map_eq_some_iff.1 he
  have hsz : ∀ w, (sizeOf e).run P w = .ok 1 w := fun w => by simp [sizeOf, typeInfo, hi, hs]
  rw [Op.equalIn]
  simp only [Sem.run_bind, run_underlying hu, Result.andThen_ok, hsz, Std.Legacy.Range.forIn_eq_forIn_range', Std.Legacy.Range.size, Nat.sub_zero, Nat.add_sub_cancel, Nat.div_one, Nat.mul_one]
  rw [show List.range n = List.range' 0 n from List.range_eq_range']
  have hall : ∀ i ∈ List.range' 0 n, xs[i]? = some (.bool (f i)) ∧ ys[i]? = some (.bool (g i)) := fun i hi => by
    rw [List.mem_range'_1] at hi
    exact ⟨hx i (by omega), hy i (by omega)⟩
  generalize List.range' 0 n = L at hall
  clear hx hy
  induction L with
  | nil => simp
  | cons i L ih =>
    have h1 := hall i List.mem_cons_self
    have ih := ih fun j hj => hall j (List.mem_cons_of_mem _ hj)
    have e1 := run_partB (P := P) w e xs i _ (ha w) h1.1
    have e2 := run_partB (P := P) w e ys i _ (ha w) h1.2
    simp only [List.forIn_cons, Sem.run_bind, Nat.mul_one, e1, e2, Result.andThen_ok, run_equalIn_bool w d e _ _ hb, List.all_cons]
    cases hfg : f i == g i with
    | true =>
      simp only [Bool.not_true, Bool.false_eq_true, if_false, Sem.run_ite, Sem.run_pure, Sem.run_bind, Result.andThen_ok, Bool.true_and]
      exact ih
    | false => simp
theorem run_eql_flgs (w : World) (t e : TypeId) (n : Nat) (xs ys : Array Value) (f g : Nat → Bool) (hu : P.underlying t = some (.array n e)) (he : (P.info? e).map (·.size) = some 1) (hb : P.underlying e = some .bool) (ha : ∀ w, (isAgg e).run P w = .ok false w)
    (hx : ∀ i, i < n → xs[i]? = some (.bool (f i))) (hy : ∀ i, i < n → ys[i]? = some (.bool (g i))) :
    (binOp .eql t (.agg xs) (.agg ys)).run P w = .ok (.bool ((List.range n).all fun i => f i == g i)) w := by
  rw [run_eql_struct, run_equalIn_flgs w 9998 t e n xs ys f g hu he hb ha hx hy]
  rfl
end
theorem prh_on {n : Int} {l : List Int} (key : ByteArray) (h : skOk n l = true) : ((List.range 512).all fun i => lessF (inF (mksV n key)) l i == (fun _ => false) i) = prhB n l key := by
  have hs := skOk_iff.1 h
  have hm := mksV_in hs.sz key
  cases hp : prhB n l key with
  | true =>
    have := (prh_iff h).1 hp
    rw [List.all_eq_true]
    intro i _
    unfold lessF inF
    by_cases hi : (i : Int) ∈ mksV n key
    · simp [hi, this _ hi]
    · simp [hi]
  | false =>
    rw [List.all_eq_false]
    have hn : ¬ ∀ x ∈ mksV n key, x ∈ l := fun hh => by rw [(prh_iff h).2 hh] at hp; cases hp
    obtain ⟨x, hx⟩ := Classical.not_forall.1 hn
    obtain ⟨hx1, hx2⟩ := Classical.not_imp.1 hx
    have hb := hm x hx1
    have := hs.sz
    refine ⟨x.toNat, List.mem_range.2 (by omega), ?_⟩
    unfold lessF inF
    rw [Int.toNat_of_nonneg hb.1]
    simp [hx1, hx2]
def frPr (s t : Nat → Value) : Act := { tmps := #[s 0, s 1, s 2, s 3, s 4, t 5, s 6, s 7, s 8, t 9, t 10, t 11, t 12, t 13, t 14, t 15, t 16, s 17, s 18, s 19], defers := [] }
def dPr (i : Nat) : Nat := if i = 0 then 9 else if i = 1 then 10 else if i = 2 then 11 else if i = 3 then 12 else if i = 4 then 13 else if i = 5 then 14 else if i = 6 then 15 else if i = 7 then 16 else if i = 8 then 5 else i + 5000
def GPr (w w1 : World) (n : Int) (key : ByteArray) (a : Option Addr) (cap : Nat) (l : List Int) (M : List Int) (i : Nat) (x : World) (v : Value) : Prop := match i with
  | 0 => v = .pointer (some ⟨w.heap.size, 0, none⟩)
  | 1 => v = .int .i64 n
  | 2 => v = .string key
  | 3 => ∃ g c, v = .slice (some ⟨g, 0, none⟩) M.length c ∧ HasN x w1.heap.size (.slice (some ⟨g, 0, none⟩) M.length c) M
  | 4 => v = .agg (flgs (inF M))
  | 5 => v = .pointer (some ⟨w.heap.size, 1, none⟩)
  | 6 => v = .slice a l.length cap
  | 7 => v = .agg (flgs (lessF (inF M) l))
  | 8 => ∃ g, v = .pointer (some ⟨g, 0, none⟩) ∧ w1.heap.size ≤ g ∧ Bx x g 61 (flgs fun _ => false)
  | _ => True
theorem GPr.keep {w w1 : World} {n : Int} {key : ByteArray} {a : Option Addr} {cap : Nat} {l : List Int} {M : List Int} {x y : World} (hb : Below x.heap.size x y) (j : Nat) (v : Value) (hj : j < 9) (h : GPr w w1 n key a cap l M j x v) : GPr w w1 n key a cap l M j y v := by
  rcases (show j = 0 ∨ j = 1 ∨ j = 2 ∨ j = 3 ∨ j = 4 ∨ j = 5 ∨ j = 6 ∨ j = 7 ∨ j = 8 by omega) with rfl | rfl | rfl | rfl | rfl | rfl | rfl | rfl | rfl
  · exact h
  · exact h
  · exact h
  · obtain ⟨g, c, h1, h2⟩ := h; exact ⟨g, c, h1, h2.kept hb⟩
  · exact h
  · exact h
  · exact h
  · exact h
  · obtain ⟨g, h1, h2, h3⟩ := h; exact ⟨g, h1, h2, h3.kept hb⟩
theorem dPr_ne {i j : Nat} (hi : i < 9) (hj : j < 9) (h : j ≠ i) : dPr j ≠ dPr i := by
  rcases (show i = 0 ∨ i = 1 ∨ i = 2 ∨ i = 3 ∨ i = 4 ∨ i = 5 ∨ i = 6 ∨ i = 7 ∨ i = 8 by omega) with rfl | rfl | rfl | rfl | rfl | rfl | rfl | rfl | rfl <;> rcases (show j = 0 ∨ j = 1 ∨ j = 2 ∨ j = 3 ∨ j = 4 ∨ j = 5 ∨ j = 6 ∨ j = 7 ∨ j = 8 by omega) with rfl | rfl | rfl | rfl | rfl | rfl | rfl | rfl | rfl <;> first | (exact absurd rfl h) | decide
set_option maxRecDepth 100000 in
set_option maxHeartbeats 4000000 in
theorem implPrh (n : Int) (v : Value) (l : List Int) (key : ByteArray) (w : World) (h : Sls intE w v l) (hk : key.size ≤ 1048576) :
    Calls Try.prog 22 #[skV n v, .string key] w fun e w' => e = .returned (.bool (prhB n l key)) ∧ Below w.heap.size w w' := by
  obtain ⟨a, cap, rfl, _⟩ := h.one
  have hS := fun W hW => implSko n (.slice a l.length cap) l W hW
  have B0 : Hid (Below w.heap.size w (w.alloc (.cells #[.int .i64 n, .slice a l.length cap] 26))) := (Below.refl _ w).alloc (Nat.le_refl _) _
  have X0 : Hid (Bx (w.alloc (.cells #[.int .i64 n, .slice a l.length cap] 26)) w.heap.size 26 #[.int .i64 n, .slice a l.length cap]) := (show Hid _ from Bx.new w 26 _)
  have V0 : Hid (Sls intE (w.alloc (.cells #[.int .i64 n, .slice a l.length cap] 26)) (.slice a l.length cap) l) := h.kept B0.out
  unfold skV at *
  clear h
  go_enter Try.func22, Try.ntmps22
  generalize hwA : w.alloc (.cells #[.int .i64 n, .slice a l.length cap] 26) = wA at B0 X0 V0
  have x0 := X0.out.cell 0
  have x1 := X0.out.cell 1
  go_wp2_with fail
  refine (hS _ V0.out).mono ?_
  rintro e w1 ⟨rfl, hb1⟩
  have B1 : Hid (Below w.heap.size w w1) := (show Hid _ from pastK B0.out hb1)
  have X1 : Hid (Bx w1 w.heap.size 26 #[.int .i64 n, .slice a l.length cap]) := X0.out.kept hb1
  have V1 : Hid (Sls intE w1 (.slice a l.length cap) l) := V0.out.kept hb1
  clear hb1 x0 x1 hwA B0 X0 V0 hS
  cases hok : skOk n l with
  | false =>
    have HR : Hid (prhB n l key = false) := by show _ = _; unfold prhB; rw [hok]; rfl
    go_wp2
    go_ret
    exact ⟨congrArg (fun b => Ending.returned (.bool b)) HR.out.symm, B1.out⟩
  | true =>
    have hs := skOk_iff.1 hok
    have HO := prh_on key hok
    have HMin : Hid (∀ x ∈ mksV n key, 0 ≤ x ∧ x < 512) := (show ∀ _, _ from fun x hx => by have := mksV_in hs.sz key x hx; have := hs.sz; omega)
    have HLin : Hid (∀ x ∈ l, 0 ≤ x ∧ x < 512) := (show ∀ _, _ from fun x hx => by have := hs.inn x hx; have := hs.sz; omega)
    have hMk := fun W => implMks n key W hk
    generalize mksV n key = M at HMin HO hMk
    clear hs hok
    go_upto_region 3 with fail
    generalize hA : Act.mk _ _ = A
    obtain ⟨s, hs, s1, s2⟩ : ∃ s : Nat → Value, A = frPr s (fun _ => undef) ∧ s 1 = .string key ∧ s 2 = .pointer (some ⟨w.heap.size, 0, none⟩) := by
      refine ⟨fun i => A.tmps.getD i undef, ?_, ?_, ?_⟩ <;> rw [← hA] <;> rfl
    rw [hs]
    clear hA hs
    refine region_heads 9 mixed (by decide) (by kernel_rfl) (by kernel_rfl) (by kernel_rfl) (by kernel_rfl) (frPr s) dPr (fun x => Below w1.heap.size w1 x) (GPr w w1 n key a cap l M) (fun i j hi hj h => dPr_ne hi hj h) ?put (fun _ => undef) rfl ?hS ?step ?done
    case put =>
      intro i o hi ho t v
      rcases (show i = 0 ∨ i = 1 ∨ i = 2 ∨ i = 3 ∨ i = 4 ∨ i = 5 ∨ i = 6 ∨ i = 7 ∨ i = 8 by omega) with rfl | rfl | rfl | rfl | rfl | rfl | rfl | rfl | rfl
      all_goals
        obtain rfl := Option.some.inj ho
        rfl
    case hS => exact ⟨rfl, rfl, rfl, Nat.le_refl _, fun _ _ => rfl⟩
    case step =>
      intro i o hi ho t x hS hdep K hK
      have X2 := X1.out.kept hS
      have V2 := V1.out.kept hS
      rcases (show i = 0 ∨ i = 1 ∨ i = 2 ∨ i = 3 ∨ i = 4 ∨ i = 5 ∨ i = 6 ∨ i = 7 ∨ i = 8 by omega) with rfl | rfl | rfl | rfl | rfl | rfl | rfl | rfl | rfl
      all_goals obtain rfl := Option.some.inj ho
      · have h2 := hK (.pointer (some ⟨w.heap.size, 0, none⟩)) x hS (fun j u hj hne h => h) rfl
        unfold frPr at h2 ⊢
        go_simp
        simpa [Act.put, s1, s2] using h2
      · have e0 : t 9 = .pointer (some ⟨w.heap.size, 0, none⟩) := hdep { on := 0, ground := Ground.data } (by simp) rfl
        have c0 := X2.cell 0
        have h2 := hK (.int .i64 n) x hS (fun j u hj hne h => h) rfl
        unfold frPr at h2 ⊢
        go_simp
        simpa [Act.put, e0, c0, s1, s2] using h2
      · have h2 := hK (.string key) x hS (fun j u hj hne h => h) rfl
        unfold frPr at h2 ⊢
        go_simp
        simpa [Act.put, s1, s2] using h2
      · have e1 : t 10 = .int .i64 n := hdep { on := 1, ground := Ground.data } (by simp) rfl
        have e2 : t 11 = .string key := hdep { on := 2, ground := Ground.data } (by simp) rfl
        refine callG2 (by rfl) 25 (.tmp 10) (.tmp 11) _ rfl (.int .i64 n) (.string key) e1 e2 (Go.Proofs.enters_of Try.func25 (by kernel_rfl) rfl _) (fun v y => GPr w w1 n key a cap l M 3 y v ∧ Below x.heap.size x y) ((hMk x).mono ?_) ?_
        · rintro e y ⟨g, c, h0, h1, h2⟩
          exact ⟨_, h0, ⟨g, c, rfl, h1.low hS.size⟩, h2⟩
        · rintro v y ⟨h0, h1⟩
          exact hK v y (hS.trans (h1.mono hS.size)) (fun j u hj hne h => GPr.keep h1 j u hj h) h0
      · obtain ⟨g, c, e3, h3⟩ : GPr w w1 n key a cap l M 3 x (t 12) := hdep { on := 3, ground := Ground.data } (by simp) rfl
        refine callG1 (by rfl) 43 (.tmp 12) _ rfl _ e3 (Go.Proofs.enters_of Try.func43 (by kernel_rfl) rfl _) (fun v y => GPr w w1 n key a cap l M 4 y v ∧ Below x.heap.size x y) ((implRow _ M x h3.sls HMin.out).mono ?_) ?_
        · rintro e y ⟨h0, h2⟩
          exact ⟨_, h0, rfl, h2⟩
        · rintro v y ⟨h0, h1⟩
          exact hK v y (hS.trans (h1.mono hS.size)) (fun j u hj hne h => GPr.keep h1 j u hj h) h0
      · have h2 := hK (.pointer (some ⟨w.heap.size, 1, none⟩)) x hS (fun j u hj hne h => h) rfl
        unfold frPr at h2 ⊢
        go_simp
        simpa [Act.put, s1, s2] using h2
      · have e5 : t 14 = .pointer (some ⟨w.heap.size, 1, none⟩) := hdep { on := 5, ground := Ground.data } (by simp) rfl
        have c1 := X2.cell 1
        have h2 := hK (.slice a l.length cap) x hS (fun j u hj hne h => h) rfl
        unfold frPr at h2 ⊢
        go_simp
        simpa [Act.put, e5, c1, s1, s2] using h2
      · have e4 : t 13 = .agg (flgs (inF M)) := hdep { on := 4, ground := Ground.data } (by simp) rfl
        have e6 : t 15 = .slice a l.length cap := hdep { on := 6, ground := Ground.data } (by simp) rfl
        refine callG2 (by rfl) 48 (.tmp 13) (.tmp 15) _ rfl (.agg (flgs (inF M))) (.slice a l.length cap) e4 e6 (Go.Proofs.enters_of Try.func48 (by kernel_rfl) rfl _) (fun v y => GPr w w1 n key a cap l M 7 y v ∧ Below x.heap.size x y) ((implWo (inF M) _ l x V2 HLin.out).mono ?_) ?_
        · rintro e y ⟨h0, h2⟩
          exact ⟨_, h0, rfl, h2⟩
        · rintro v y ⟨h0, h1⟩
          exact hK v y (hS.trans (h1.mono hS.size)) (fun j u hj hne h => GPr.keep h1 j u hj h) h0
      · have h1 : Below x.heap.size x (x.alloc (.cells (flgs fun _ => false) 61)) := (Below.refl _ x).alloc (Nat.le_refl _) _
        exact stepG (by rfl) (wp_allocA 61 rfl (flgs fun _ => false) zeroBR (hK _ _ (hS.trans (h1.mono hS.size)) (fun j u hj hne h => GPr.keep h1 j u hj h) ⟨x.heap.size, rfl, hS.size, Bx.new x _ _⟩))
    case done =>
      intro t x hS hG
      have e7 : t 16 = .agg (flgs (lessF (inF M) l)) := hG 7 (by decide)
      obtain ⟨g, e8, hg8, hx8⟩ : GPr w w1 n key a cap l M 8 x (t 5) := hG 8 (by decide)
      have X8 : Hid (Bx x g 61 (flgs fun _ => false)) := hx8
      have X9 : Hid (Bx (x.setRow g (flgs (lessF (inF M) l))) g 61 (flgs (lessF (inF M) l))) := (show Hid _ from hx8.row _)
      have B9 : Hid (Below w.heap.size w (x.setRow g (flgs (lessF (inF M) l)))) := (show Hid _ from below_setRow (pastK B1.out hS) (by have := B1.out.size; omega) _)
      have heq : ∀ W, (binOp .eql 61 (.agg (flgs (lessF (inF M) l))) (.agg (flgs fun _ => false))).run Try.prog W = .ok (.bool (prhB n l key)) W := fun W => by
        rw [← HO]
        exact run_eql_flgs (P := Try.prog) W 61 4 512 _ _ _ _ Try.underlying61 Try.sizeB4 Try.underlying4 aggB4 (fun i hi => flgs_at _ hi) (fun i hi => flgs_at _ hi)
      have HCs : Hid ((Try.prog.info? 61).map (·.size) = some (flgs (lessF (inF M) l)).size) := (show _ = _ from sizeBR _)
      have HCz : Hid ((flgs fun _ => false).size = (flgs (lessF (inF M) l)).size) := (show _ = _ by rw [flgs_size, flgs_size])
      have HCo : Hid ((flgs (lessF (inF M) l)).all (·.oneCell') = true) := (show _ = _ from flgs_one _)
      clear hG hx8 HO
      show wpList Try.prog _ _ [_] _ x
      generalize flgs (lessF (inF M) l) = C at e7 X9 B9 heq HCs HCz HCo
      unfold frPr
      rw [e7, e8]
      go_wp2_with (first
        | (refine wpList_store_row rfl 61 (.tmp 5) (.tmp 16) rfl g C rfl rfl 61 (flgs fun _ => false) X8.out HCs.out HCz.out HCo.out ?_)
        | (refine wpList_load_row rfl 61 (.tmp 5) rfl g rfl 61 C (0, 0) _ X9.out Try.underlying61 rfl HCs.out ?_)
        | (refine wpList_buildA rfl 61 rfl (some 18) rfl (flgs fun _ => false) builtBR ?_))
      go_ret
      exact ⟨rfl, B9.out⟩
end Go.Proofs.Ytdoolnaekmffbaa
