/-
  The names of weekdays and months, and two digits: the specification's and the program's contracts.
-/
import Derived.Test.YtkaogmdhjcgcdaaGreatDoorH21
import Derived.Test.YtkaogmdhjcgcdaaGreatDoorH06
import Derived.Laws.Strings
namespace Go.Proofs.YtkaogmdhjcgcdaaGreatDoor.Dd
open Go.RowKit Go.Sort

theorem ret_str {a b : ByteArray} (h : a = b) : Ending.returned (.string a) = .returned (.string b) := by rw [h]
/-- A weekday's name. -/
def wkN (k : Int) : ByteArray := if k = 0 then ⟨#[83, 117, 110]⟩ else if k = 1 then ⟨#[77, 111, 110]⟩ else if k = 2 then ⟨#[84, 117, 101]⟩ else if k = 3 then ⟨#[87, 101, 100]⟩ else if k = 4 then ⟨#[84, 104, 117]⟩ else if k = 5 then ⟨#[70, 114, 105]⟩ else ⟨#[83, 97, 116]⟩
/-- A month's name. -/
def moN (m : Int) : ByteArray := if m = 1 then ⟨#[74, 97, 110]⟩ else if m = 2 then ⟨#[70, 101, 98]⟩ else if m = 3 then ⟨#[77, 97, 114]⟩ else if m = 4 then ⟨#[65, 112, 114]⟩ else if m = 5 then ⟨#[77, 97, 121]⟩ else if m = 6 then ⟨#[74, 117, 110]⟩ else if m = 7 then ⟨#[74, 117, 108]⟩ else if m = 8 then ⟨#[65, 117, 103]⟩ else if m = 9 then ⟨#[83, 101, 112]⟩ else if m = 10 then ⟨#[79, 99, 116]⟩ else if m = 11 then ⟨#[78, 111, 118]⟩ else ⟨#[68, 101, 99]⟩
theorem weeks {k : Int} (h1 : 0 ≤ k) (h2 : k ≤ 6) : k = 0 ∨ k = 1 ∨ k = 2 ∨ k = 3 ∨ k = 4 ∨ k = 5 ∨ k = 6 := by omega
set_option maxHeartbeats 800000 in
theorem implWkN (k : Int) (w : World) (h1 : 0 ≤ k) (h2 : k ≤ 6) :
    Calls Tryz.prog 169 #[.int .i64 k] w fun e w' => e = .returned (.string (wkN k)) ∧ Grew w w' := by
  rcases weeks h1 h2 with rfl | rfl | rfl | rfl | rfl | rfl | rfl
  all_goals
    go_enter Tryz.func169, Tryz.ntmps169
    go_wp2
    go_ret
    exact ⟨rfl, (Grew.refl w).alloc _⟩
set_option maxHeartbeats 800000 in
theorem specWkN (k : Int) (w : World) (h1 : 0 ≤ k) (h2 : k ≤ 6) :
    Calls Tryz.prog 144 #[.int .i64 k] w fun e w' => e = .returned (.string (wkN k)) ∧ w = w' := by
  rcases weeks h1 h2 with rfl | rfl | rfl | rfl | rfl | rfl | rfl
  all_goals
    go_enter Tryz.func144, Tryz.ntmps144
    go_wp2
    go_ret
    exact ⟨ret_str (by decide), rfl⟩
set_option maxHeartbeats 800000 in
theorem implMoN (m : Int) (w : World) (h1 : 1 ≤ m) (h2 : m ≤ 12) :
    Calls Tryz.prog 168 #[.int .i64 m] w fun e w' => e = .returned (.string (moN m)) ∧ Grew w w' := by
  rcases months h1 h2 with rfl | rfl | rfl | rfl | rfl | rfl | rfl | rfl | rfl | rfl | rfl | rfl
  all_goals
    go_enter Tryz.func168, Tryz.ntmps168
    go_wp2
    go_ret
    exact ⟨rfl, (Grew.refl w).alloc _⟩
set_option maxHeartbeats 800000 in
theorem specMoN (m : Int) (w : World) (h1 : 1 ≤ m) (h2 : m ≤ 12) :
    Calls Tryz.prog 120 #[.int .i64 m] w fun e w' => e = .returned (.string (moN m)) ∧ w = w' := by
  rcases months h1 h2 with rfl | rfl | rfl | rfl | rfl | rfl | rfl | rfl | rfl | rfl | rfl | rfl
  all_goals
    go_enter Tryz.func120, Tryz.ntmps120
    go_wp2
    go_ret
    exact ⟨ret_str (by decide), rfl⟩

end Go.Proofs.YtkaogmdhjcgcdaaGreatDoor.Dd
