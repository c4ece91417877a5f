
/- What the law of zones says: it returns true. -/
import Derived.Test.YthpplcadpngdiaaDoorDtAw
import Derived.Test.YthpplcadpngdiaaDoorDtZone
import Derived.OpenShut
namespace Go.Proofs.YthpplcadpngdiaaDoor
set_option linter.unusedVariables false
set_option linter.unusedSimpArgs false
open Go.RowKit Go.BigFrame

theorem mon_cut (m : Nat) (h1 : 1 ≤ m) (h2 : m ≤ 12) (W : World) : (Instr.slice 9 (.string ⟨#[74, 97, 110, 70, 101, 98, 77, 97, 114, 65, 112, 114, 77, 97, 121, 74, 117, 110, 74, 117, 108, 65, 117, 103, 83, 101, 112, 79, 99, 116, 78, 111, 118, 68, 101, 99]⟩) (some (.int .i64 (3 * (m : Int) - 3))) (some (.int .i64 (3 * (m : Int)))) none).run Tryd.prog W = .ok (.string (asS (monL m))) W := by
  rcases (show m = 1 ∨ m = 2 ∨ m = 3 ∨ m = 4 ∨ m = 5 ∨ m = 6 ∨ m = 7 ∨ m = 8 ∨ m = 9 ∨ m = 10 ∨ m = 11 ∨ m = 12 by omega) with rfl | rfl | rfl | rfl | rfl | rfl | rfl | rfl | rfl | rfl | rfl | rfl <;> kernel_rfl
theorem dayT (y m d h mi s zh zm : Nat) (g : UInt8) : asS (dig 4 y) ++ ⟨#[45]⟩ ++ asS (dig 2 m) ++ ⟨#[45]⟩ ++ asS (dig 2 d) ++ ⟨#[84]⟩ ++ asS (clkL h mi s) ++ ⟨#[g]⟩ ++ asS (dig 2 zh) ++ ⟨#[58]⟩ ++ asS (dig 2 zm) = asS (dayL y m d h mi s (g :: (dig 2 zh ++ 58 :: dig 2 zm))) := by
  rw [show (⟨#[45]⟩ : ByteArray) = asS [45] from rfl, show (⟨#[84]⟩ : ByteArray) = asS [84] from rfl, show (⟨#[58]⟩ : ByteArray) = asS [58] from rfl, show (⟨#[g]⟩ : ByteArray) = asS [g] from rfl]
  simp only [asS_apps]
  unfold dayL clkL
  simp only [List.append_assoc, List.cons_append, List.nil_append]
theorem mailT (y m d h mi s zh zm : Nat) (g : UInt8) : asS (dig 2 d) ++ ⟨#[32]⟩ ++ asS (monL m) ++ ⟨#[32]⟩ ++ asS (dig 4 y) ++ ⟨#[32]⟩ ++ asS (clkL h mi s) ++ ⟨#[32, g]⟩ ++ asS (dig 2 zh) ++ asS (dig 2 zm) = asS (mailL y m d h mi s (g :: (dig 2 zh ++ dig 2 zm))) := by
  rw [show (⟨#[32]⟩ : ByteArray) = asS [32] from rfl, show (⟨#[32, g]⟩ : ByteArray) = asS [32, g] from rfl]
  simp only [asS_apps]
  unfold mailL
  simp only [List.append_assoc, List.cons_append, List.nil_append]
theorem r3_zone (y m d c z D : Nat) (hd : DateD y m d) (hD : dayD y m d = D) (hc : c < 86400) (hz : z < 1440) (g : UInt8) (hg : g = 43 ∨ g = 45) (V : Int) (hV : V = if g = 45 then ((D : Int) - 719162) * 86400 + (c : Int) + (z : Int) * 60 else ((D : Int) - 719162) * 86400 + (c : Int) - (z : Int) * 60) (W : World) :
    Calls Tryd.prog 14 #[.string (asS (dig 4 y) ++ ⟨#[45]⟩ ++ asS (dig 2 m) ++ ⟨#[45]⟩ ++ asS (dig 2 d) ++ ⟨#[84]⟩ ++ asS (clkL (c / 3600) (c / 60 % 60) (c % 60)) ++ ⟨#[g]⟩ ++ asS (dig 2 (z / 60)) ++ ⟨#[58]⟩ ++ asS (dig 2 (z % 60)))] W fun e w' => e = .returned (.tuple #[.int .i64 V, .int .i64 0]) ∧ Below W.heap.size W w' := by
  have h31 := long_31 y m
  have hd' := hd
  unfold DateD at hd'
  rw [dayT]
  have := p3339_any (dayL y m d (c / 3600) (c / 60 % 60) (c % 60) (g :: (dig 2 (z / 60) ++ 58 :: dig 2 (z % 60)))) (by unfold dayL; simp [dig_len]) W
  rw [p3339_day _ _ _ _ _ _ _ (by omega) (by omega) (by omega) (by omega) (by omega) (by omega), off6 g hg _ _ (by omega) (by omega)] at this
  change Calls _ _ _ _ (fun e w' => e = .returned (optT (timeV y m d (clkL (c / 3600) (c / 60 % 60) (c % 60)) _)) ∧ _) at this
  rw [time_of hd (by omega) (by omega) (by omega), hD] at this
  rw [hV]
  rcases hg with rfl | rfl
  · rw [if_neg (by decide)] at this ⊢
    rw [show ((D : Int) - 719162) * 86400 + (((c / 3600 : Nat) : Int) * 3600 + ((c / 60 % 60 : Nat) : Int) * 60 + ((c % 60 : Nat) : Int) - (((z / 60 : Nat) : Int) * 3600 + ((z % 60 : Nat) : Int) * 60)) = ((D : Int) - 719162) * 86400 + (c : Int) - (z : Int) * 60 by omega] at this
    exact this
  · rw [if_pos rfl] at this ⊢
    rw [show ((D : Int) - 719162) * 86400 + (((c / 3600 : Nat) : Int) * 3600 + ((c / 60 % 60 : Nat) : Int) * 60 + ((c % 60 : Nat) : Int) - -(((z / 60 : Nat) : Int) * 3600 + ((z % 60 : Nat) : Int) * 60)) = ((D : Int) - 719162) * 86400 + (c : Int) + (z : Int) * 60 by omega] at this
    exact this
theorem zone_white (g : UInt8) (hg : g = 43 ∨ g = 45) (a b : Nat) : (g :: (dig 2 a ++ dig 2 b)).map lowB = g :: (dig 2 a ++ dig 2 b) ∧ ∀ c ∈ (g :: (dig 2 a ++ dig 2 b)).map lowB, whB c = false := by
  have e : (g :: (dig 2 a ++ dig 2 b)).map lowB = g :: (dig 2 a ++ dig 2 b) := by
    rw [List.map_cons, List.map_append, map_dig, map_dig]
    rcases hg with rfl | rfl <;> rfl
  refine ⟨e, ?_⟩
  rw [e]
  intro c hc
  simp only [List.mem_cons, List.mem_append] at hc
  rcases hc with rfl | hc | hc
  · rcases hg with rfl | rfl <;> decide
  · exact dig_white (dig_digs _ _ _ hc)
  · exact dig_white (dig_digs _ _ _ hc)
theorem r8_zone (y m d c z D : Nat) (hd : DateD y m d) (hD : dayD y m d = D) (hc : c < 86400) (hz : z < 1440) (g : UInt8) (hg : g = 43 ∨ g = 45) (V : Int) (hV : V = if g = 45 then ((D : Int) - 719162) * 86400 + (c : Int) + (z : Int) * 60 else ((D : Int) - 719162) * 86400 + (c : Int) - (z : Int) * 60) (W : World) (hT : TabD W) :
    Calls Tryd.prog 16 #[.string (asS (dig 2 d) ++ ⟨#[32]⟩ ++ asS (monL m) ++ ⟨#[32]⟩ ++ asS (dig 4 y) ++ ⟨#[32]⟩ ++ asS (clkL (c / 3600) (c / 60 % 60) (c % 60)) ++ ⟨#[32, g]⟩ ++ asS (dig 2 (z / 60)) ++ asS (dig 2 (z % 60)))] W fun e w' => e = .returned (.tuple #[.int .i64 V, .int .i64 0]) ∧ Below W.heap.size W w' := by
  obtain ⟨el, ew⟩ := zone_white g hg (z / 60) (z % 60)
  rw [mailT]
  have := p822_any (mailL y m d (c / 3600) (c / 60 % 60) (c % 60) (g :: (dig 2 (z / 60) ++ dig 2 (z % 60)))) (by unfold mailL clkL monL; simp [dig_len, List.length_take]; omega) W hT
  rw [p822_mail hd (by omega) (by omega) (by omega) ew (by simp) (by rw [el]; exact off5 g hg _ _ (by omega) (by omega)), hD] at this
  rw [hV]
  rcases hg with rfl | rfl
  · rw [if_neg (by decide)] at this ⊢
    rw [show ((D : Int) - 719162) * 86400 + (((c / 3600 : Nat) : Int) * 3600 + ((c / 60 % 60 : Nat) : Int) * 60 + ((c % 60 : Nat) : Int) - (((z / 60 : Nat) : Int) * 3600 + ((z % 60 : Nat) : Int) * 60)) = ((D : Int) - 719162) * 86400 + (c : Int) - (z : Int) * 60 by omega] at this
    exact this
  · rw [if_pos rfl] at this ⊢
    rw [show ((D : Int) - 719162) * 86400 + (((c / 3600 : Nat) : Int) * 3600 + ((c / 60 % 60 : Nat) : Int) * 60 + ((c % 60 : Nat) : Int) - -(((z / 60 : Nat) : Int) * 3600 + ((z % 60 : Nat) : Int) * 60)) = ((D : Int) - 719162) * 86400 + (c : Int) + (z : Int) * 60 by omega] at this
    exact this
end Go.Proofs.YthpplcadpngdiaaDoor
