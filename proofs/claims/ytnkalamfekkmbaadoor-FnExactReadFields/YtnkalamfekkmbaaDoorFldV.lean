/-
  The contract of the program's ReadFields.
-/
import Derived.Test.YtnkalamfekkmbaaDoorFldU
namespace Go.Proofs.YtnkalamfekkmbaaDoor
open Go.RowKit Go.Sort

/-- What ReadFields answers: the fields, how many bytes, whether it could be read. -/
def rdL : Option (List Fl × List UInt8) → List Fl
  | none => []
  | some p => p.1
def rdI (s : ByteArray) : Option (List Fl × List UInt8) → Int
  | none => 0
  | some p => (s.size : Int) - (p.2.length : Int)
def GivesR (w w' : World) (e : Ending) (s : ByteArray) (o : Option (List Fl × List UInt8)) : Prop := ∃ u, e = .returned (.tuple #[u, .int .i64 (rdI s o), .bool o.isSome]) ∧ HasF w' w.heap.size u (rdL o) ∧ Below w.heap.size w w'
theorem givesR_none {w w1 : World} {s : ByteArray} {o : Option (List Fl × List UInt8)} {k : Nat} (h : o = none) (hb : Below w.heap.size w w1) (hk : k = w1.heap.size) : GivesR w (w1.alloc (.cells #[] 53)) (.returned (.tuple #[.slice (some ⟨k, 0, none⟩) 0 0, .int .i64 0, .bool false])) s o := by
  subst h hk
  exact ⟨_, rfl, ((OwnsF.born w1).low hb.size).has, hb.alloc hb.size _⟩
theorem givesR_some {w w1 : World} {s : ByteArray} {o : Option (List Fl × List UInt8)} {out : List Fl} {r : List UInt8} {u : Value} {N : Int} (h : o = some (out, r)) (hN : N = (s.size : Int) - (r.length : Int)) (hF : HasF w1 w.heap.size u out) (hb : Below w.heap.size w w1) : GivesR w w1 (.returned (.tuple #[u, .int .i64 N, .bool true])) s o := by
  subst h hN
  exact ⟨_, rfl, hF, hb⟩
theorem wpList_pushF' {ops : Array Oper} {rest : List Oper} {o : Oper} {a : Act} {Q : Exit → Act → World → Prop} (w : World) (hgd : o.guard = none) (s x : Operand)
    (ho : o.op = .call { callee := .builtin .append, args := #[s, x], argTypes := #[24, 24] }) (B b : Nat) (hb : b = w.heap.size) (v : Value) (l : List Fl) (f : Fl) (hs : a.eval s = v) (hown : OwnsF w B v l)
    (hx : a.eval x = .slice (some ⟨b, 0, none⟩) 1 1) (hlen : l.length ≤ 1000000000000) (hB : B ≤ w.heap.size)
    (h : ∀ v' w', OwnsF w' B v' (l ++ [f]) → w.grownBy w' v.ownBlock → wpList Tryd.prog ops Q rest (a.put o.dst v') w') :
    wpList Tryd.prog ops Q (o :: rest) a (w.alloc (.cells #[.string f.1, .string f.2] 53)) := by
  subst hb
  exact wpList_pushF w hgd s x ho B v l f hs hown hx hlen hB h
theorem full4 {x : ByteArray} (h : 0 < x.size) : x.toList.isEmpty = false := by
  rw [ByteArray.toList_eq]
  have h3 : x.data.toList.length = x.size := by simp
  cases e : x.data.toList with
  | nil => rw [e] at h3; simp at h3; omega
  | cons c r => rfl

set_option maxHeartbeats 2000000 in
theorem implRead (s : ByteArray) (m : Int) (w : World) (hm : w.cell? ⟨0, 0, none⟩ = some (.int .i64 m)) (hs : s.size ≤ 1048576) :
    Calls Tryd.prog 18 #[.string s] w fun e w' => GivesR w w' e s (rdA s.data.toList) := by
  have hsl := len_of s
  go_enter Tryd.func18, Tryd.ntmps18
  go_wp2
  go_loopw [5, 6] (fun u r wr => ∃ (n g c : Nat) (out : List Fl) (y : ByteArray), u = .slice (some ⟨g, 0, none⟩) out.length c ∧ r = .string y ∧ out.length ≤ c ∧ out.length + n = 30 ∧ y.size ≤ s.size ∧ OwnsF wr w.heap.size u out ∧ Hid (rdN (n + 1) out y.data.toList = rdA s.data.toList) ∧ Below w.heap.size w wr) (fun _ r _ => strLen r)
  case atStart => exact ⟨30, w.heap.size, 0, [], s, rfl, rfl, Nat.le_refl _, rfl, Nat.le_refl _, OwnsF.born w, rfl, (Below.refl _ _).alloc (Nat.le_refl _) _⟩
  case round =>
    obtain ⟨n, g, c, out, y, rfl, rfl, hc, hn, hy, hown, hrd, hb⟩ := hrel
    have hyl := len_of y
    have hmr := (hb.cell (p := ⟨0, 0, none⟩) (cell_lt hm)).trans hm
    have hcut := Tryd.strings_Cut y ⟨#[13, 10]⟩ m _ (by omega) hmr
    rw [show (⟨#[13, 10]⟩ : ByteArray).data.toList = [13, 10] from rfl, cut_ln] at hcut
    cases hl : lnC y.data.toList with
    | none =>
      rw [hl] at hcut
      have HN : Hid (rdA s.data.toList = none) := by show _ = _; rw [← hrd.out, rdN_none hl]
      go_wp2_with fail
      refine hcut.mono ?_
      rintro e w1 ⟨rfl, q, rfl⟩
      have hb1 := hb.trans ((drewN_below wr q).mono hb.size)
      go_wp2
      go_ret3
      exact givesR_none HN.out hb1 rfl
    | some p =>
      obtain ⟨x, r⟩ := p
      rw [hl] at hcut
      have hlen := congrArg List.length (lnC_length hl)
      simp only [List.length_append, List.length_cons, List.length_nil] at hlen
      have zr := txt_size r
      by_cases hx : x = []
      · subst hx
        have HN : Hid (rdA s.data.toList = some (out, r)) := by show _ = _; rw [← hrd.out, rdN_void hl]
        have hrm := fun w => implRoom g out.length c w hc
        go_wp2_with fail
        refine hcut.mono ?_
        rintro e w1 ⟨rfl, q, rfl⟩
        have hb1 := hb.trans ((drewN_below wr q).mono hb.size)
        go_wp2_with (go_at_call 46; refine (hrm _).mono ?_; rintro e w2 ⟨rfl, rfl⟩)
        go_ret3
        exact givesR_some HN.out (by omega) ((hown.drewN q).has.cut rfl) hb1
      · have hx0 : 0 < x.length := List.length_pos_iff.2 hx
        have zx := txt_size x
        have hrf := fun w hm => implRdF ⟨x.toArray⟩ m w hm (by omega)
        rw [show (⟨x.toArray⟩ : ByteArray).data.toList = x from by simp] at hrf
        have hne : 0 < (⟨x.toArray⟩ : ByteArray).size := by omega
        have hfull := full hne
        have hfe := full4 hne
        cases hf : rdF x with
        | none =>
          have HN : Hid (rdA s.data.toList = none) := by show _ = _; rw [← hrd.out, rdN_no hl hx hf]
          rw [hf] at hrf
          unfold rdFE at hrf
          generalize (⟨x.toArray⟩ : ByteArray) = t at hcut hrf hfull hfe
          clear hne
          go_wp2_with fail
          refine hcut.mono ?_
          rintro e w1 ⟨rfl, q, rfl⟩
          have hb1 := hb.trans ((drewN_below wr q).mono hb.size)
          go_wp2_with (go_at_call 47; refine (hrf (wr.drewN q) hmr).mono ?_; rintro e w2 ⟨rfl, hb2⟩; have hb02 := hb1.trans (hb2.mono hb1.size))
          have hb03 := hb02.alloc hb02.size (.cells #[.string ⟨#[]⟩, .string ⟨#[]⟩] 53)
          go_ret3
          exact givesR_none HN.out hb03 (by simp)
        | some f =>
          rw [hf] at hrf
          unfold rdFE at hrf
          generalize (⟨x.toArray⟩ : ByteArray) = t at hcut hrf hfull hfe
          clear hne
          by_cases h30 : 30 ≤ out.length
          · have HN : Hid (rdA s.data.toList = none) := by show _ = _; rw [← hrd.out, rdN_many hl hx h30]
            go_wp2_with fail
            refine hcut.mono ?_
            rintro e w1 ⟨rfl, q, rfl⟩
            have hb1 := hb.trans ((drewN_below wr q).mono hb.size)
            go_wp2_with (go_at_call 47; refine (hrf (wr.drewN q) hmr).mono ?_; rintro e w2 ⟨rfl, hb2⟩; have hb02 := hb1.trans (hb2.mono hb1.size))
            have hb03 := hb02.alloc hb02.size (.cells #[.string f.1, .string f.2] 53)
            go_ret3
            exact givesR_none HN.out hb03 (by simp)
          · obtain ⟨n', rfl⟩ : ∃ n', n = n' + 1 := ⟨n - 1, by omega⟩
            have HN : Hid (rdN (n' + 1) (out ++ [f]) r = rdA s.data.toList) := by show _ = _; rw [← hrd.out, rdN_more hl hx hf h30]
            go_wp2_with fail
            refine hcut.mono ?_
            rintro e w1 ⟨rfl, q, rfl⟩
            have hb1 := hb.trans ((drewN_below wr q).mono hb.size)
            go_wp2_with (first
              | (go_at_call 47; refine (hrf (wr.drewN q) hmr).mono ?_; rintro e w2 ⟨rfl, hb2⟩; have hb02 := hb1.trans (hb2.mono hb1.size); have ho2 := (hown.drewN q).kept hb2; have hb03 := hb02.alloc hb02.size (.cells #[.string f.1, .string f.2] 53); have ho3 := ho2.alloc (.cells #[.string f.1, .string f.2] 53))
              | (at_builtin; refine wpList_pushF' _ rfl (.tmp 46) (.tmp 48) rfl w.heap.size (w2.heap.size + 1) (by simp) _ _ f rfl ho3 rfl (by omega) hb03.size ?_; intro v4 w4 ho4 hg4))
            have hb04 := hb03.grown hg4 hb03.size (OwnsF.from ho3)
            obtain ⟨g4, c4, rfl, hc4, hm4⟩ := ho4.solid (by simp)
            clear hown ho2 ho3 hb hb1 hb2 hb02 hb03 hg4 hcut hrf
            go_roundw
            case rel => exact ⟨n', g4, c4, out ++ [f], ⟨r.toArray⟩, rfl, rfl, hc4, by simp; omega, by omega, ho4, by rw [show (⟨r.toArray⟩ : ByteArray).data.toList = r from by simp]; exact HN, hb04⟩
            case measure => show (⟨r.toArray⟩ : ByteArray).size < y.size; omega
end Go.Proofs.YtnkalamfekkmbaaDoor
