/-
  A drawn shelf, right or wrong, given what the draw of a right one answers.
-/
import Derived.Test.YtnnmbgenepfacaaRomDr
namespace Go.Proofs.Ytnnmbgenepfacaa
open Go.RowKit Go.Sort Rom
set_option linter.unusedVariables false
set_option linter.unusedSimpArgs false

theorem step_pushI {ops : Array Oper} {o : Oper} {a : Act} {K : Act → World → Prop} {Q : Exit → Act → World → Prop} {X : Prop} {w : World} (hgd : o.guard = none) (s x : Operand)
    (ho : o.op = .call { callee := .builtin .append, args := #[s, x], argTypes := #[32, 32] }) (B : Nat) (v : Value) (l : List It) (c : It) (hs : a.eval s = v) (hown : OwnsI8 w B v l)
    (hx : a.eval x = .slice (some ⟨w.heap.size, 0, none⟩) 1 1) (hlen : l.length ≤ 1000000) (hB : B ≤ w.heap.size)
    (h : ∀ v' w', OwnsI8 w' B v' (l ++ [c]) → w.grownBy w' v.ownBlock → (∀ k, v'.ownBlock = some k → v.ownBlock = some k ∨ w.heap.size ≤ k) → K (a.put o.dst v') w') :
    if Region.wanted o (yielded ops a.tmps) = true then Oper.wp Try.prog o a (w.alloc (.cells #[.string c.1, .int .i64 c.2] 47)) K Q else X := by
  have hw : Region.wanted o (yielded ops a.tmps) = true := by simp [Region.wanted, hgd]
  rw [if_pos hw]
  obtain ⟨i0, hi, hz0, hz1, hz2⟩ := info_parts Try.infoIT
  obtain ⟨v', w', hr, h2, h3, h4, h5⟩ := run_append_own_at (P := Try.prog) (w.alloc (.cells #[.string c.1, .int .i64 c.2] 47)) B 32 o.type 47 i0 (.agg #[.string ⟨#[]⟩, .int .i64 0]) itE.k 24 Try.underlying32 hi hz0 hz1 hz2 rfl itE.pos v l.length (cellsE itE l) (OwnsE.alloc hown _) ⟨w.heap.size, 0, none⟩ [c].length 1 (cellsE itE [c]) (cellsE_length itE [c]) (fresh_cell w c #[.string c.1, .int .i64 c.2] 47 rfl) (cellsE_one itE [c]) (by unfold maxLen; simp; omega) (by simp; omega) (by simp; omega)
  have hx' : a.eval x = .slice (some ⟨w.heap.size, 0, none⟩) [c].length 1 := hx
  unfold Oper.wp execOp
  simp only [ho, resolve, invoke, builtin, Sem.run_bind, Sem.run_pure, Result.andThen_ok, List.map_toArray, List.map_cons, List.map_nil, hs, hx', hr]
  refine h v' w' ?_ ⟨h3.os, h3.tape, h3.output, ?_, ?_⟩ ?_
  · show w'.ownsRow _ _ 2 _ _ _
    rw [cellsE_append, List.length_append]
    exact h2
  · have := h3.size
    simp at this
    omega
  · intro k hk hne
    rw [h3.block k (by simp; omega) hne]
    exact Below.heap_alloc _ _ _ hk
  · intro k hk
    rcases h5 with e | e
    · exact .inl (e.symm.trans hk)
    · rw [e] at hk
      simp at hk
      exact .inr (by omega)
structure Dv (w W : World) (b : Nat) (sa : Option Addr) (sl sc : Nat) (m : Nat) (q : Int) (u : Value) (l : List It) : Prop where
  cur : Cur W b sa sl sc
  bs : Beside b w W
  r : TwoB W w.heap.size (.int .i64 0) (.slice none 0 0)
  bx : TwoB W m (.int .i64 q) u
  own : OwnsI8 W (w.heap.size + 1) u l
  ne : u.ownBlock ≠ some m
  mb : w.heap.size < m
  bb : b < w.heap.size
theorem Dv.beside {w W W' : World} {b : Nat} {sa : Option Addr} {sl sc m : Nat} {q : Int} {u : Value} {l : List It} (h : Dv w W b sa sl sc m q u l) (hc : Cur W' b sa sl sc) (hb : Beside b W W') : Dv w W' b sa sl sc m q u l := by
  have h1 := h.mb; have h2 := h.bb
  exact ⟨hc, h.bs.trans hb, h.r.bs hb (by omega), h.bx.bs hb (by omega), h.own.bsN hb (by omega), h.ne, h.mb, h.bb⟩
theorem Dv.below {w W W' : World} {b : Nat} {sa : Option Addr} {sl sc m : Nat} {q : Int} {u : Value} {l : List It} (h : Dv w W b sa sl sc m q u l) (hb : Below W.heap.size W W') : Dv w W' b sa sl sc m q u l := by
  exact ⟨h.cur.kept hb h.cur.2.2.1, h.bs.below hb, h.r.kept hb h.r.lt, h.bx.kept hb h.bx.lt, h.own.kept hb, h.ne, h.mb, h.bb⟩
theorem Dv.more {w W : World} {b : Nat} {sa : Option Addr} {sl sc m : Nat} {q : Int} {u : Value} {l : List It} (h : Dv w W b sa sl sc m q u l) (o : Obj) : Dv w (W.alloc o) b sa sl sc m q u l := h.below ((Below.refl _ W).alloc (Nat.le_refl _) _)
theorem Dv.drew {w W : World} {b : Nat} {sa : Option Addr} {sl sc m : Nat} {q : Int} {u : Value} {l : List It} (h : Dv w W b sa sl sc m q u l) : Dv w W.drew b sa sl sc m q u l := h.below ⟨rfl, rfl, rfl, Nat.le_refl _, fun _ _ => rfl⟩
theorem Dv.setQ {w W : World} {b : Nat} {sa : Option Addr} {sl sc m : Nat} {q : Int} {u : Value} {l : List It} (h : Dv w W b sa sl sc m q u l) (q' : Int) : Dv w (W.setCell ⟨m, 0, none⟩ (.int .i64 q')) b sa sl sc m q' u l := by
  have h1 := h.mb; have h2 := h.bb
  have k : Below m W (W.setCell ⟨m, 0, none⟩ (.int .i64 q')) := (Below.refl m W).setCell (p := ⟨m, 0, none⟩) (Nat.le_refl m) _
  refine ⟨h.cur.kept k (by omega), h.bs.grow k (by omega), h.r.kept k (by omega), ⟨World.cell?_setCell_same _ _ _ h.bx.c0, ?_, by rw [World.frozen?_setCell]; exact h.bx.f0, by rw [World.frozen?_setCell]; exact h.bx.f1, by simpa [World.setCell] using h.bx.lt⟩, h.own.other _ _ (fun k hk e => h.ne (by rw [hk, e])), h.ne, h.mb, h.bb⟩
  rw [World.cell?_setCell_other _ _ _ _ (by simp)]; exact h.bx.c1
theorem Dv.push {w W W' : World} {b : Nat} {sa : Option Addr} {sl sc m : Nat} {q : Int} {u u' : Value} {l l' : List It} (h : Dv w W b sa sl sc m q u l) (hg : W.grownBy W' u.ownBlock) (ho : OwnsI8 W' (w.heap.size + 1) u' l') (hat : ∀ k, u'.ownBlock = some k → u.ownBlock = some k ∨ W.heap.size ≤ k) : TwoB W' m (.int .i64 q) u ∧ Dv w (W'.setCell ⟨m, 1, none⟩ u') b sa sl sc m q u' l' := by
  have h1 := h.mb; have h2 := h.bb
  have f := fun k hk => h.own.from k hk
  have T := h.bx.grownP hg h.ne
  have hne : u'.ownBlock ≠ some m := fun e => by
    rcases hat m e with e1 | e1
    · exact h.ne e1
    · have := h.bx.lt; omega
  have k0 : Below (w.heap.size + 1) W W' := belowE (Below.refl _ W) hg (by have := h.r.lt; omega) f
  have k : Below (w.heap.size + 1) W (W'.setCell ⟨m, 1, none⟩ u') := k0.setCell (p := ⟨m, 1, none⟩) (by show _ ≤ m; omega) _
  refine ⟨T, ⟨h.cur.kept k (by omega), h.bs.grow k (by omega), h.r.kept k (by omega), ⟨?_, World.cell?_setCell_same _ _ _ T.c1, by rw [World.frozen?_setCell]; exact T.f0, by rw [World.frozen?_setCell]; exact T.f1, by simpa [World.setCell] using T.lt⟩, ho.other _ _ (fun k hk e => hne (by rw [hk, e])), hne, h.mb, h.bb⟩⟩
  rw [World.cell?_setCell_other _ _ _ _ (by simp)]; exact T.c0
theorem Dv.out {w W : World} {b : Nat} {sa : Option Addr} {sl sc m : Nat} {q : Int} {u : Value} {l : List It} (h : Dv w W b sa sl sc m q u l) (x : Value) : OwnsI8 ((W.setCell ⟨w.heap.size, 0, none⟩ x).setCell ⟨w.heap.size, 1, none⟩ u) w.heap.size u l ∧ Cur ((W.setCell ⟨w.heap.size, 0, none⟩ x).setCell ⟨w.heap.size, 1, none⟩ u) b sa sl sc ∧ Beside b w ((W.setCell ⟨w.heap.size, 0, none⟩ x).setCell ⟨w.heap.size, 1, none⟩ u) := by
  have h1 := h.mb; have h2 := h.bb
  have k : Below w.heap.size W ((W.setCell ⟨w.heap.size, 0, none⟩ x).setCell ⟨w.heap.size, 1, none⟩ u) := ((Below.refl w.heap.size W).setCell (p := ⟨w.heap.size, 0, none⟩) (Nat.le_refl _) _).setCell (p := ⟨w.heap.size, 1, none⟩) (Nat.le_refl _) _
  exact ⟨(h.own.two (fun k hk => by have := h.own.from k hk; omega) _ _).low (by omega), h.cur.kept k h.bb, h.bs.grow k (Nat.le_refl _)⟩
def TAB3 : Obj := .cells #[.int .i64 (-1), .int .i64 4611686018427387904, .int .i64 100000] 2
theorem tab3 (x : Nat) (hx : x < 3) : ∃ z : Int, (∀ W : World, (W.alloc (.cells #[.int .i64 (-1), .int .i64 4611686018427387904, .int .i64 100000] 2)).cell? ⟨W.heap.size, x, none⟩ = some (.int .i64 z)) := by
  rcases (show x = 0 ∨ x = 1 ∨ x = 2 by omega) with rfl | rfl | rfl <;> exact ⟨_, fun W => by rw [World.cell?_alloc_mark]; rfl⟩
theorem short_push {l : List It} {k : ByteArray} {z : Int} (h : ∀ x ∈ l, x.1.size ≤ 19) (hk : k.size ≤ 19) : ∀ x ∈ l ++ [(k, z)], x.1.size ≤ 19 := by
  intro x hx
  rcases List.mem_append.1 hx with e | e
  · exact h x e
  · rw [List.mem_singleton.1 e]; exact hk
set_option maxRecDepth 100000 in
set_option maxHeartbeats 4000000 in
theorem l12Any (hS : ∀ (b : Nat) (sa : Option Addr) (sl sc : Nat) (w : World), Cur w b sa sl sc → Calls Try.prog 87 #[.pointer (some ⟨b, 0, Option.none⟩)] w fun e w' => (∃ q u l, e = .returned (shV q u) ∧ OwnsI8 w' w.heap.size u l ∧ l.length ≤ 50 ∧ ∀ x ∈ l, x.1.size ≤ 19) ∧ Cur w' b sa sl sc ∧ Beside b w w')
    (b : Nat) (sa : Option Addr) (sl sc : Nat) (w : World) (hc : Cur w b sa sl sc) :
    Calls Try.prog 67 #[.pointer (some ⟨b, 0, Option.none⟩)] w fun e w' => (∃ q u l, e = .returned (shV q u) ∧ OwnsI8 w' w.heap.size u l ∧ l.length ≤ 51 ∧ ∀ x ∈ l, x.1.size ≤ 19) ∧ Cur w' b sa sl sc ∧ Beside b w w' := by
  have hbz : b < w.heap.size := hc.2.2.1
  unfold shV at *
  have R0 := TwoB.new w (.int .i64 0) (.slice none 0 0) 34
  have B0 : Beside b w (w.alloc (.cells #[.int .i64 0, .slice none 0 0] 34)) := (Beside.refl b w).moreN _
  have C0 : Hid (Cur (w.alloc (.cells #[.int .i64 0, .slice none 0 0] 34)) b sa sl sc) := hc.moreN _
  go_enter Try.func67, Try.ntmps67
  go_wp2_with fail
  refine (hS b sa sl sc _ C0.out).mono ?_
  rintro e w1 ⟨⟨q, u, l, rfl, ho1, hl50, hs1⟩, hc1, hb1⟩
  have HS : Hid (∀ x ∈ l, x.1.size ≤ 19) := hs1
  have hz1 : w.heap.size < w1.heap.size := (R0.bs hb1 (by omega)).lt
  have hu1 := fun k hk => ho1.under k hk
  obtain ⟨a, c, rfl, _⟩ := ho1.form
  have D1 : Hid (Dv w (w1.alloc (.cells #[.int .i64 q, .slice a l.length c] 34)) b sa sl sc w1.heap.size q (.slice a l.length c) l) :=
    ⟨hc1.moreN _, (B0.trans hb1).moreN _, (R0.bs hb1 (by omega)).kept ((Below.refl _ w1).alloc (Nat.le_refl _) _) hz1, TwoB.new _ _ _ _, (ho1.alloc _).low (by simp), fun e => by have := hu1 _ e; omega, hz1, hbz⟩
  clear hc1 hb1 hc R0 B0 C0 ho1 hs1 hu1 hS
  go_wp2_with fail
  refine (l1Once b sa sl sc 12 (by decide) (by decide) _ D1.out.cur).mono ?_
  rintro e w2 ⟨tt, rfl, hc2, hb2⟩
  have D2 : Hid (Dv w w2 b sa sl sc w1.heap.size q (.slice a l.length c) l) := D1.out.beside hc2 hb2
  generalize w1.heap.size = m at *
  clear hc2 hb2 D1
  cases tt with
  | false =>
    have HF : Hid _ := D2.out.out (.int .i64 q)
    obtain ⟨z0, z1, _, _, zl⟩ := D2.out.bx
    obtain ⟨r0, r1, g0, g1, rl⟩ := D2.out.r
    clear D2
    go_wp2
    refine bodyPost_ret (v := .agg #[.int .i64 q, .slice a l.length c]) (by simp [results, Try.results67, go_sem, z0, z1, r0, r1]) rfl ⟨⟨q, _, l, rfl, HF.out.1, by omega, HS.out⟩, HF.out.2⟩
  | true =>
    go_wp2_with fail
    refine (l1Below b sa sl sc 3 (by decide) (by decide) _ D2.out.cur).mono ?_
    rintro e w3 ⟨y, rfl, hy0, hy1, hc3, hb3⟩
    obtain ⟨y, rfl⟩ := Int.eq_ofNat_of_zero_le hy0
    have D3 : Hid (Dv w w3 b sa sl sc m q (.slice a l.length c) l) := D2.out.beside hc3 hb3
    have hb3' : b < w3.heap.size := hc3.2.2.1
    clear hc3 hb3 D2
    rcases (show y = 0 ∨ y = 1 ∨ y = 2 by omega) with rfl | rfl | rfl
    · go_wp2_with fail
      refine (l1Below b sa sl sc 4 (by decide) (by decide) _ (D3.out.more _).cur).mono ?_
      rintro e w4 ⟨x, rfl, hx0, hx1, hc4, hb4⟩
      obtain ⟨x, rfl⟩ := Int.eq_ofNat_of_zero_le hx0
      obtain ⟨z, hz, hz2, hz3⟩ := tabIN hb4 (by omega) x (by simp; omega) rfl
      have D4 : Hid (Dv w w4 b sa sl sc m q (.slice a l.length c) l) := (D3.out.more _).beside hc4 hb4
      have D5 : Hid (Dv w (w4.setCell ⟨m, 0, none⟩ (.int .i64 z)) b sa sl sc m z (.slice a l.length c) l) := D4.out.setQ z
      have HF : Hid _ := D5.out.out (.int .i64 z)
      obtain ⟨z0, z1, f0, f1, zl⟩ := D4.out.bx
      obtain ⟨r0, r1, g0, g1, rl⟩ := D4.out.r
      have hmw : w.heap.size ≠ m := by have := D4.out.mb; omega
      clear D3 D4 D5 hc4 hb4
      go_wp2
      refine bodyPost_ret (v := .agg #[.int .i64 z, .slice a l.length c]) (by simp [results, Try.results67, go_sem, z0, z1, r0, r1, hmw]) rfl ⟨⟨z, _, l, rfl, HF.out.1, by omega, HS.out⟩, HF.out.2⟩
    · have D4 : Hid (Dv w w3.drew b sa sl sc m q (.slice a l.length c) l) := D3.out.drew
      obtain ⟨z0, z1, f0, f1, zl⟩ := D3.out.bx
      have hF := fun W hW => l1FromN b sa sl sc 0 3 (by decide) (by decide) (by decide) W hW
      have hmb := D3.out.mb
      clear D3
      go_wp2_with fail
      go_region_law (first
        | (refine step_pushI rfl (.tmp 21) (.tmp 25) rfl (w.heap.size + 1) (.slice a l.length c) l ((⟨#[97]⟩ : ByteArray), x) (by simp [Act.eval, Act.put]) (by exact Da.out.own) (by simp [Act.eval, Act.put]) (by omega) (by first | omega | (simp; omega)) ?_; intro v4 w4 ho4 hg4 hat4; have hp1 : (l ++ [((⟨#[97]⟩ : ByteArray), x)]).length ≤ 51 := (by simp; omega); have hp2 := short_push (z := x) HS.out (show (⟨#[97]⟩ : ByteArray).size ≤ 19 by decide); generalize l ++ [((⟨#[97]⟩ : ByteArray), x)] = L' at ho4 hp1 hp2; have HP : Hid (∀ x ∈ L', x.1.size ≤ 19) := hp2; obtain ⟨T4, Dp⟩ : TwoB w4 m (.int .i64 q) (.slice a l.length c) ∧ Dv w (w4.setCell ⟨m, 1, none⟩ v4) b sa sl sc m q v4 L' := (by first | exact Da.out.push hg4 ho4 hat4 | exact (Da.out.more _).push hg4 ho4 hat4); obtain ⟨a4, c4, hv4, _⟩ := ho4.form; subst hv4; have DP : Hid (Dv w (w4.setCell ⟨m, 1, none⟩ (.slice a4 L'.length c4)) b sa sl sc m q (.slice a4 L'.length c4) L') := Dp; obtain ⟨y0, y1, h0, h1, yl⟩ := T4; clear ho4 hg4 hat4 Dp Da hp2)
        | (go_simp; go_at_call 56; refine (hF _ (by with_reducible exact D4.out.cur)).mono ?_; rintro e wa ⟨x, rfl, hx0, hx1, hca, hba⟩; have Da : Hid (Dv w wa b sa sl sc m q (.slice a l.length c) l) := D4.out.beside hca hba; have a0 := Da.out.bx.c0; have a1 := Da.out.bx.c1; have al := Da.out.bx.lt; clear hca hba))
      all_goals
        have HF : Hid _ := DP.out.out (.int .i64 q)
        obtain ⟨r0, r1, g0, g1, rl⟩ := DP.out.r
        have hmw : w.heap.size ≠ m := by omega
        clear DP
        go_wp2
        refine bodyPost_ret (v := .agg #[.int .i64 q, .slice a4 L'.length c4]) (by simp [results, Try.results67, go_sem, r0, r1, hmw]) rfl ⟨⟨q, _, L', rfl, HF.out.1, by omega, HP.out⟩, HF.out.2⟩
    · have D4 : Hid (Dv w w3.drew b sa sl sc m q (.slice a l.length c) l) := D3.out.drew
      have D6 : Hid (Dv w w3 b sa sl sc m q (.slice a l.length c) l) := D3
      obtain ⟨z0, z1, f0, f1, zl⟩ := D3.out.bx
      have hB := fun W hW => l1Below b sa sl sc 3 (by decide) (by decide) W hW
      have hmb := D3.out.mb
      clear D3
      go_wp2_with fail
      go_region_law (first
        | (refine step_pushI rfl (.tmp 31) (.tmp 38) rfl (w.heap.size + 1) (.slice a l.length c) l ((⟨#[113]⟩ : ByteArray), z) (by simp [Act.eval, Act.put]) (by first | with_reducible exact Da.out.own | with_reducible exact (Da.out.more _).own) (by simp [Act.eval, Act.put]) (by omega) (by first | omega | (simp; omega)) ?_; intro v4 w4 ho4 hg4 hat4; have hp1 : (l ++ [((⟨#[113]⟩ : ByteArray), z)]).length ≤ 51 := (by simp; omega); have hp2 := short_push (z := z) HS.out (show (⟨#[113]⟩ : ByteArray).size ≤ 19 by decide); generalize l ++ [((⟨#[113]⟩ : ByteArray), z)] = L' at ho4 hp1 hp2; have HP : Hid (∀ x ∈ L', x.1.size ≤ 19) := hp2; obtain ⟨T4, Dp⟩ : TwoB w4 m (.int .i64 q) (.slice a l.length c) ∧ Dv w (w4.setCell ⟨m, 1, none⟩ v4) b sa sl sc m q v4 L' := (by first | exact Da.out.push hg4 ho4 hat4 | exact (Da.out.more _).push hg4 ho4 hat4); obtain ⟨a4, c4, hv4, _⟩ := ho4.form; subst hv4; have DP : Hid (Dv w (w4.setCell ⟨m, 1, none⟩ (.slice a4 L'.length c4)) b sa sl sc m q (.slice a4 L'.length c4) L') := Dp; obtain ⟨y0, y1, h0, h1, yl⟩ := T4; clear ho4 hg4 hat4 Dp Da hp2)
        | (go_simp; go_at_call 68; refine (hB _ (by first | with_reducible exact D4.out.cur | with_reducible exact (D6.out.more _).drew.cur)).mono ?_; rintro e wa ⟨x, rfl, hx0, hx1, hca, hba⟩; obtain ⟨x, rfl⟩ := Int.eq_ofNat_of_zero_le hx0; obtain ⟨z, hz⟩ := tab3 x (by omega); have Da' : Dv w wa b sa sl sc m q (.slice a l.length c) l := (by first | with_reducible exact D4.out.beside hca hba | with_reducible exact (D6.out.more _).drew.beside hca hba); have Da : Hid (Dv w wa b sa sl sc m q (.slice a l.length c) l) := Da'; clear Da'; have hTc := hz wa; (try (have hTi : wa.cell? ⟨w3.heap.size, x, none⟩ = some (.int .i64 z) := besideCell (w := (w3.alloc (.cells #[.int .i64 (-1), .int .i64 4611686018427387904, .int .i64 100000] 2)).drew) (by with_reducible exact hba) (by omega) (by exact hz w3))); have a0 := Da.out.bx.c0; have a1 := Da.out.bx.c1; have al := Da.out.bx.lt; clear hca hba hz))
      all_goals
        have HF : Hid _ := DP.out.out (.int .i64 q)
        obtain ⟨r0, r1, g0, g1, rl⟩ := DP.out.r
        have hmw : w.heap.size ≠ m := by omega
        clear DP
        go_wp2
        refine bodyPost_ret (v := .agg #[.int .i64 q, .slice a4 L'.length c4]) (by simp [results, Try.results67, go_sem, r0, r1, hmw]) rfl ⟨⟨q, _, L', rfl, HF.out.1, by omega, HP.out⟩, HF.out.2⟩
end Go.Proofs.Ytnnmbgenepfacaa
