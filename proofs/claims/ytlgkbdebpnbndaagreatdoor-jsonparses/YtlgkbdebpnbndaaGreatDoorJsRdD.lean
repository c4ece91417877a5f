
/- The reference's reader: a value, by its first byte. -/
import Derived.Test.YtlgkbdebpnbndaaGreatDoorJsRdC
namespace Go.Proofs.YtlgkbdebpnbndaaGreatDoor
set_option linter.unusedVariables false
set_option linter.unusedSimpArgs false
open Go.RowKit Go.BigFrame
attribute [local go_sem ↓] loadV_eq buildV_eq

section
variable {α : Type} {leaf : LabJ → α} {nest : Bool → List UInt8 → Nat → Except Nat (α × List UInt8 × Nat)} {r : List UInt8} {m : Nat}
theorem num_no {c : UInt8} (h1 : c ≠ 45) (h2 : digJ c = false) : numJ (c :: r) = .error 5 := by
  have h48 : c ≠ 48 := fun e => by rw [e] at h2; revert h2; decide
  have e1 : preX [45] (c :: r) = false := by
    unfold preX
    have : (45 == c) = false := by rw [beq_eq_false_iff_ne]; exact fun e => h1 e.symm
    simp [List.isPrefixOf, this]
  have e2 : preX [48] (c :: r) = false := by
    unfold preX
    have : (48 == c) = false := by rw [beq_eq_false_iff_ne]; exact fun e => h48 e.symm
    simp [List.isPrefixOf, this]
  unfold numJ minJ intJ
  rw [e1]
  simp only [Bool.false_eq_true, if_false]
  rw [e2]
  simp [h2]
theorem num_nil : numJ [] = .error 5 := rfl
theorem pre_hd {c c2 : UInt8} {p : List UInt8} (h : c ≠ c2) : preX (c :: p) (c2 :: r) = false := by
  unfold preX
  have : (c == c2) = false := by rw [beq_eq_false_iff_ne]; exact h
  simp [List.isPrefixOf, this]
theorem pre_oneQ (c : UInt8) : preX [c] (c :: r) = true := by
  unfold preX
  simp [List.isPrefixOf]
theorem atom_91 : atomJ leaf nest (91 :: r) m = nest false r m := atom_list (pre_hd (by decide)) (pre_hd (by decide)) (pre_hd (by decide)) (pre_hd (by decide)) (pre_oneQ 91)
theorem atom_123 : atomJ leaf nest (123 :: r) m = nest true r m := atom_obj (pre_hd (by decide)) (pre_hd (by decide)) (pre_hd (by decide)) (pre_hd (by decide)) (pre_hd (by decide)) (pre_oneQ 123)
theorem atom_rest {c : UInt8} (h1 : c ≠ 110) (h2 : c ≠ 116) (h3 : c ≠ 102) (h4 : c ≠ 34) (h5 : c ≠ 91) (h6 : c ≠ 123) : atomJ leaf nest (c :: r) m = (match numJ (c :: r) with
    | .error e => .error e
    | .ok (v, r) => .ok (leaf (2, v, [], []), r, m)) := by
  cases hn : numJ (c :: r) with
  | error k => exact atom_nno (pre_hd (fun e => h1 e.symm)) (pre_hd (fun e => h2 e.symm)) (pre_hd (fun e => h3 e.symm)) (pre_hd (fun e => h4 e.symm)) (pre_hd (fun e => h5 e.symm)) (pre_hd (fun e => h6 e.symm)) hn
  | ok q => exact atom_num (pre_hd (fun e => h1 e.symm)) (pre_hd (fun e => h2 e.symm)) (pre_hd (fun e => h3 e.symm)) (pre_hd (fun e => h4 e.symm)) (pre_hd (fun e => h5 e.symm)) (pre_hd (fun e => h6 e.symm)) hn
theorem atom_nil : atomJ leaf nest [] m = .error 5 := rfl
theorem beg_cases {c : UInt8} (h : begJ c = true) : c = 110 ∨ c = 116 ∨ c = 102 ∨ c = 34 ∨ c = 91 ∨ c = 123 ∨ c = 45 ∨ digJ c = true := by
  simp [begJ] at h
  rcases h with h | h | h | h | h | h | h | h | h | h | h | h | h | h | h | h | h
  all_goals (subst h; first | (left; rfl) | (right; left; rfl) | (right; right; left; rfl) | (right; right; right; left; rfl) | (right; right; right; right; left; rfl) | (right; right; right; right; right; left; rfl) | (right; right; right; right; right; right; left; rfl) | (right; right; right; right; right; right; right; rfl))
theorem beg_dig {c : UInt8} (h : digJ c = true) : begJ c = true := by
  unfold digJ at h
  rw [decide_eq_true_eq] at h
  have : c = 48 ∨ c = 49 ∨ c = 50 ∨ c = 51 ∨ c = 52 ∨ c = 53 ∨ c = 54 ∨ c = 55 ∨ c = 56 ∨ c = 57 := by
    have e : ∀ k : Nat, k < 256 → c.toNat = k → c = UInt8.ofNat k := fun k hk h => by rw [← h, UInt8.ofNat_toNat]
    obtain ⟨h1, h2⟩ := h
    have : c.toNat = 48 ∨ c.toNat = 49 ∨ c.toNat = 50 ∨ c.toNat = 51 ∨ c.toNat = 52 ∨ c.toNat = 53 ∨ c.toNat = 54 ∨ c.toNat = 55 ∨ c.toNat = 56 ∨ c.toNat = 57 := by omega
    rcases this with h | h | h | h | h | h | h | h | h | h
    · exact .inl (e _ (by decide) h)
    · exact .inr (.inl (e _ (by decide) h))
    · exact .inr (.inr (.inl (e _ (by decide) h)))
    · exact .inr (.inr (.inr (.inl (e _ (by decide) h))))
    · exact .inr (.inr (.inr (.inr (.inl (e _ (by decide) h)))))
    · exact .inr (.inr (.inr (.inr (.inr (.inl (e _ (by decide) h))))))
    · exact .inr (.inr (.inr (.inr (.inr (.inr (.inl (e _ (by decide) h)))))))
    · exact .inr (.inr (.inr (.inr (.inr (.inr (.inr (.inl (e _ (by decide) h))))))))
    · exact .inr (.inr (.inr (.inr (.inr (.inr (.inr (.inr (.inl (e _ (by decide) h)))))))))
    · exact .inr (.inr (.inr (.inr (.inr (.inr (.inr (.inr (.inr (e _ (by decide) h)))))))))
  rcases this with h | h | h | h | h | h | h | h | h | h
  all_goals (subst h; rfl)
end
theorem ValQ.err {d lev n R k m : Nat} {l s : List UInt8} {w w' : World} {cs : Array Value} (h : valJ d lev l n = .error k) (hk : k ≠ 0) (hz : cs.size = 5) (ho : cs.all (·.oneCell') = true) (hr : Re w' R s m k) (hg : w.grownBy w' (some R)) : ValQ d lev l n s R w (.returned (.agg cs)) w' :=
  ⟨(fun t r m h2 => by rw [h] at h2; cases h2), (fun k2 h2 => by rw [h] at h2; injection h2 with h2; subst h2; exact ⟨cs, m, rfl, hz, ho, hk, hr⟩), hg⟩
theorem ValQ.got {d lev n R m : Nat} {l s r : List UInt8} {w w' : World} {cs : Array Value} {t : VJ d} (h : valJ d lev l n = .ok (t, r, m)) (hv : VAt (fun q => w.heap.size ≤ q) d w' cs t) (hr : Rl w' R s r m) (hg : w.grownBy w' (some R)) : ValQ d lev l n s R w (.returned (.agg cs)) w' :=
  ⟨(fun t2 r2 m2 h2 => by rw [h] at h2; injection h2 with h2; injection h2 with h2 h3; injection h3 with h3 h4; subst h2 h3 h4; exact ⟨cs, rfl, hv, hr⟩), (fun k2 h2 => by rw [h] at h2; cases h2), hg⟩
theorem ValQ.leaf {d lev n R m : Nat} {l s r : List UInt8} {w w' : World} {L : LabJ} (h : valJ d lev l n = .ok (leafJ d L, r, m)) (hL : L.2.2.2 = []) (hr : Rl w' R s r m) (hg : w.grownBy w' (some R)) : ValQ d lev l n s R w (.returned (.agg (vcs L none 0 0 none 0))) w' :=
  ValQ.got h (VAt.mk0 (by rw [hL]; exact NmsP.nil _ _ _)) hr hg
set_option maxHeartbeats 8000000 in
set_option maxRecDepth 100000 in
theorem valQ_no (d lev : Nat) (l : List UInt8) (n : Nat) (s : List UInt8) (R : Nat) (w : World) (hs : s.length ≤ 100000) (hn : n ≤ 8192) (h : Rl w R s l n) (l1 : List UInt8) (hl1 : l.dropWhile whX = l1) (X : Int) (hX : ((l1.headD 0).toNat : Int) = X) (hX91 : (X != 91) = true) (hX123 : (X != 123) = true) (hX34 : (X != 34) = true) (hX116 : (X != 116) = true) (hX102 : (X != 102) = true) (hX110 : (X != 110) = true) (hX45 : (X != 45) = true) (hXd : decide (48 ≤ X) = false ∨ (decide (48 ≤ X) = true ∧ decide (X ≤ 57) = false)) (hv : valJ d lev l n = .error 5) : Calls Tryz.prog 40 #[.pointer (some ⟨R, 0, none⟩), .int .i64 (lev : Int)] w fun x w' => ValQ d lev l n s R w x w' := by
  have hs6 : s.length ≤ 1000000 := by omega
  have hRl := h.lt
  have HV := hid hv
  clear hv
  have hbu : ∀ W, (buildI 25 #[]).run Tryz.prog W = .ok (.agg #[.int .i64 0, .int .i64 0, .string ⟨#[]⟩, .slice none 0 0, .slice none 0 0]) W := fun W => run_build W 25 _ _ built_vz
  have HB := hid ((((Below.refl w.heap.size w).alloc (Nat.le_refl _) (.cells #[.int .i64 0, .int .i64 0, .string ⟨#[]⟩, .slice none 0 0, .slice none 0 0] 25)).alloc (by show _ ≤ (Array.push _ _).size; rw [Array.size_push]; omega) (.cells #[.int .i64 0, .int .i64 0, .string ⟨#[]⟩, .slice none 0 0, .slice none 0 0] 25)))
  have HQ := hid (heap_first w (.cells #[.int .i64 0, .int .i64 0, .string ⟨#[]⟩, .slice none 0 0, .slice none 0 0] 25 (0, 0)) (.cells #[.int .i64 0, .int .i64 0, .string ⟨#[]⟩, .slice none 0 0, .slice none 0 0] 25 (0, 0)))
  have HX := hid (heap_second w (.cells #[.int .i64 0, .int .i64 0, .string ⟨#[]⟩, .slice none 0 0, .slice none 0 0] 25 (0, 0)) (.cells #[.int .i64 0, .int .i64 0, .string ⟨#[]⟩, .slice none 0 0, .slice none 0 0] 25 (0, 0)))
  have hsz : (w.alloc (.cells #[.int .i64 0, .int .i64 0, .string ⟨#[]⟩, .slice none 0 0, .slice none 0 0] 25)).heap.size = w.heap.size + 1 := by simp
  obtain ⟨W0, hW0⟩ : ∃ W0, (w.alloc (.cells #[.int .i64 0, .int .i64 0, .string ⟨#[]⟩, .slice none 0 0, .slice none 0 0] 25)).alloc (.cells #[.int .i64 0, .int .i64 0, .string ⟨#[]⟩, .slice none 0 0, .slice none 0 0] 25) = W0 := ⟨_, rfl⟩
  rw [hW0] at HB HX HQ
  have HR0 := hid (h.below HB.out)
  clear h
  go_enter Tryz.func40, Tryz.ntmps40
  go_wp2_with (first
    | (refine wpList_store_abs rfl 25 (.tmp 5) (.tmp 7) rfl (w.heap.size + 1) 0 #[.int .i64 0, .int .i64 0, .string ⟨#[]⟩, .slice none 0 0, .slice none 0 0] rfl rfl 25 _ HX.out (Nat.le_refl 5) infoVj (vcs_all _ _ _ _ _ _ _ _ _) ?_; intro W1 hO hW; rw [over_whole #[.int .i64 0, .int .i64 0, .string ⟨#[]⟩, .slice none 0 0, .slice none 0 0] #[.int .i64 0, .int .i64 0, .string ⟨#[]⟩, .slice none 0 0, .slice none 0 0] rfl] at hW; have HX1 := hid hW; have HQ1 := hid ((hO.block w.heap.size (by omega)).trans HQ.out); have HR1 := hid (HR0.out.to (to_only hO) (by omega)); have HG1 := hid (grow_own ((to_below (R := R) HB.out)) (to_only hO) (fun q e => by injection e with e; omega)); clear hO hW)
    | fail)
  have HWT := hid (HR1.out.white hs6)
  rw [hl1] at HWT
  clear HX HQ HB HR0 HR1 hW0 hsz hbu
  go_wp2_with fail
  refine HWT.out.mono ?_
  rintro x W2 ⟨rfl, hr, hg⟩
  have HX2 := hid (to_row hg HX1.out (by omega))
  have HQ2 := hid (to_row hg HQ1.out (by omega))
  have HG2 := hid (HG1.out.trans hg)
  have HR2 := hid hr
  have HNW := hid hr.now
  rw [hX] at HNW
  clear hr hg HWT HX1 HQ1 HG1 hl1
  go_wp2_with fail
  refine HNW.out.mono ?_
  rintro x W3 ⟨rfl, hb⟩
  have HX3 := hid (row_keep hb HX2.out)
  have HQ3 := hid (row_keep hb HQ2.out)
  have HG3 := hid (HG2.out.trans (to_below hb))
  have HR3 := hid (HR2.out.below hb)
  clear hb HNW HX2 HQ2 HG2 HR2 hX
  have HWR := hid (HR3.out.wrong 5)
  rcases hXd with hXd | ⟨hXd, hXe⟩
  all_goals
    go_wp2_with fail
    refine HWR.out.mono ?_
    rintro x W4 ⟨rfl, hr, hg⟩
    have HX4 := hid (to_row hg HX3.out (by omega))
    have HQ4 := hid (to_row hg HQ3.out (by omega))
    have HG4 := hid (HG3.out.trans hg)
    have HR4 := hid hr
    clear hr hg HX3 HQ3 HG3 HR3
    have hld := loadV_run HX4.out rfl
    go_wp2_with (first
      | (refine wpList_store_abs rfl 25 (.tmp 4) (.tmp 49) rfl w.heap.size 0 (#[.int .i64 0, .int .i64 0, .string ⟨#[]⟩, .slice none 0 0, .slice none 0 0]) rfl rfl 25 _ HQ4.out (Nat.le_refl 5) infoVj (vcs_all _ _ _ _ _ _ _ _ _) ?_; intro W9 hO9 hW9)
      | fail)
    rw [over_whole #[.int .i64 0, .int .i64 0, .string ⟨#[]⟩, .slice none 0 0, .slice none 0 0] (#[.int .i64 0, .int .i64 0, .string ⟨#[]⟩, .slice none 0 0, .slice none 0 0]) rfl] at hW9
    refine bodyPost_ret (ret_v (p := 4) Tryz.results40 _ _ w.heap.size _ rfl (0, 0) rfl hW9) rfl ?_
    have hg9 := grow_own HG4.out (to_only hO9) (fun q e => by injection e with e; omega)
    exact ValQ.err HV.out (by decide) rfl (vcs_all _ _ _ _ _ _ _ _ _) (HR4.out.to (to_only hO9) (by omega)) hg9
set_option maxHeartbeats 8000000 in
set_option maxRecDepth 100000 in
theorem valQ_many (d lev : Nat) (l : List UInt8) (n : Nat) (s : List UInt8) (R : Nat) (w : World) (hs : s.length ≤ 100000) (hn : n ≤ 8192) (h : Rl w R s l n) (l1 : List UInt8) (hl1 : l.dropWhile whX = l1) (X : Int) (hX : ((l1.headD 0).toNat : Int) = X) (hb : X = 91 ∨ X = 123 ∨ X = 34 ∨ X = 45 ∨ X = 116 ∨ X = 102 ∨ X = 110 ∨ (decide (48 ≤ X) = true ∧ decide (X ≤ 57) = true ∧ (X != 91) = true ∧ (X != 123) = true ∧ (X != 34) = true ∧ (X != 45) = true ∧ (X != 116) = true ∧ (X != 102) = true ∧ (X != 110) = true)) (hm : n = 8192) (hv : valJ d lev l n = .error 3) : Calls Tryz.prog 40 #[.pointer (some ⟨R, 0, none⟩), .int .i64 (lev : Int)] w fun x w' => ValQ d lev l n s R w x w' := by
  have hs6 : s.length ≤ 1000000 := by omega
  have hRl := h.lt
  have HV := hid hv
  clear hv
  have hi8 : (8192 : Int) < (n : Int) + 1 := by omega
  clear hm
  have hbu : ∀ W, (buildI 25 #[]).run Tryz.prog W = .ok (.agg #[.int .i64 0, .int .i64 0, .string ⟨#[]⟩, .slice none 0 0, .slice none 0 0]) W := fun W => run_build W 25 _ _ built_vz
  have HB := hid ((((Below.refl w.heap.size w).alloc (Nat.le_refl _) (.cells #[.int .i64 0, .int .i64 0, .string ⟨#[]⟩, .slice none 0 0, .slice none 0 0] 25)).alloc (by show _ ≤ (Array.push _ _).size; rw [Array.size_push]; omega) (.cells #[.int .i64 0, .int .i64 0, .string ⟨#[]⟩, .slice none 0 0, .slice none 0 0] 25)))
  have HQ := hid (heap_first w (.cells #[.int .i64 0, .int .i64 0, .string ⟨#[]⟩, .slice none 0 0, .slice none 0 0] 25 (0, 0)) (.cells #[.int .i64 0, .int .i64 0, .string ⟨#[]⟩, .slice none 0 0, .slice none 0 0] 25 (0, 0)))
  have HX := hid (heap_second w (.cells #[.int .i64 0, .int .i64 0, .string ⟨#[]⟩, .slice none 0 0, .slice none 0 0] 25 (0, 0)) (.cells #[.int .i64 0, .int .i64 0, .string ⟨#[]⟩, .slice none 0 0, .slice none 0 0] 25 (0, 0)))
  have hsz : (w.alloc (.cells #[.int .i64 0, .int .i64 0, .string ⟨#[]⟩, .slice none 0 0, .slice none 0 0] 25)).heap.size = w.heap.size + 1 := by simp
  obtain ⟨W0, hW0⟩ : ∃ W0, (w.alloc (.cells #[.int .i64 0, .int .i64 0, .string ⟨#[]⟩, .slice none 0 0, .slice none 0 0] 25)).alloc (.cells #[.int .i64 0, .int .i64 0, .string ⟨#[]⟩, .slice none 0 0, .slice none 0 0] 25) = W0 := ⟨_, rfl⟩
  rw [hW0] at HB HX HQ
  have HR0 := hid (h.below HB.out)
  clear h
  go_enter Tryz.func40, Tryz.ntmps40
  go_wp2_with (first
    | (refine wpList_store_abs rfl 25 (.tmp 5) (.tmp 7) rfl (w.heap.size + 1) 0 #[.int .i64 0, .int .i64 0, .string ⟨#[]⟩, .slice none 0 0, .slice none 0 0] rfl rfl 25 _ HX.out (Nat.le_refl 5) infoVj (vcs_all _ _ _ _ _ _ _ _ _) ?_; intro W1 hO hW; rw [over_whole #[.int .i64 0, .int .i64 0, .string ⟨#[]⟩, .slice none 0 0, .slice none 0 0] #[.int .i64 0, .int .i64 0, .string ⟨#[]⟩, .slice none 0 0, .slice none 0 0] rfl] at hW; have HX1 := hid hW; have HQ1 := hid ((hO.block w.heap.size (by omega)).trans HQ.out); have HR1 := hid (HR0.out.to (to_only hO) (by omega)); have HG1 := hid (grow_own ((to_below (R := R) HB.out)) (to_only hO) (fun q e => by injection e with e; omega)); clear hO hW)
    | fail)
  have HWT := hid (HR1.out.white hs6)
  rw [hl1] at HWT
  clear HX HQ HB HR0 HR1 hW0 hsz hbu
  go_wp2_with fail
  refine HWT.out.mono ?_
  rintro x W2 ⟨rfl, hr, hg⟩
  have HX2 := hid (to_row hg HX1.out (by omega))
  have HQ2 := hid (to_row hg HQ1.out (by omega))
  have HG2 := hid (HG1.out.trans hg)
  have HR2 := hid hr
  have HNW := hid hr.now
  rw [hX] at HNW
  clear hr hg HWT HX1 HQ1 HG1 hl1
  go_wp2_with fail
  refine HNW.out.mono ?_
  rintro x W3 ⟨rfl, hb⟩
  have HX3 := hid (row_keep hb HX2.out)
  have HQ3 := hid (row_keep hb HQ2.out)
  have HG3 := hid (HG2.out.trans (to_below hb))
  have HR3 := hid (HR2.out.below hb)
  clear hb HNW HX2 HQ2 HG2 HR2 hX
  rcases hb with rfl | rfl | rfl | rfl | rfl | rfl | rfl | ⟨a1, a2, a3, a4, a5, a6, a7, a8, a9⟩
  all_goals
    obtain ⟨p3, e3, l3, hq3⟩ := HR3.out
    obtain ⟨-, -, c2, -⟩ := hq3.cells
    have hn1 : n ≤ 8192 := hn
    unfold Rq at hq3
    have HRW := hid hq3
    have HLP : Hid (s.drop p3 = l1 ∧ p3 ≤ s.length) := ⟨e3, l3⟩
    clear hq3 HR3 e3 l3
    go_wp2_with (first
      | (refine store_part rfl 3 _ _ rfl R 2 (.int .i64 ((n : Int) + 1)) _ _ #[.string (asS s), .int .i64 (p3 : Int), .int .i64 ((n : Int) + 1), .int .i64 ((0 : Nat) : Int)] rfl rfl info3q (by simp) rfl rfl HRW.out rfl ?_; intro W4 ho hr; have HR4 : Hid (Rl W4 R s l1 (n + 1)) := ⟨p3, HLP.out.1, HLP.out.2, by unfold Rq; rw [show ((n + 1 : Nat) : Int) = (n : Int) + 1 from by omega]; exact hr⟩; have HX4 := hid ((ho.block (w.heap.size + 1) (by omega)).trans HX3.out); have HQ4 := hid ((ho.block w.heap.size (by omega)).trans HQ3.out); have HG4 := hid (HG3.out.trans (to_only ho)); have c4 : W4.cell? ⟨R, 2, none⟩ = some (.int .i64 ((n : Int) + 1)) := cell_of_row _ _ _ _ _ _ hr; clear ho hr)
      | fail)
    have HWR := hid (HR4.out.wrong 3)
    clear c4
    refine HWR.out.mono ?_
    rintro x W5 ⟨rfl, hr, hg⟩
    have HX5 := hid (to_row hg HX4.out (by omega))
    have HQ5 := hid (to_row hg HQ4.out (by omega))
    have HG5 := hid (HG4.out.trans hg)
    have HR5 := hid hr
    clear hr hg HX4 HQ4 HG4 HR4
    have hld := loadV_run HX5.out rfl
    go_wp2_with (first
      | (refine wpList_store_abs rfl 25 (.tmp 4) (.tmp 64) rfl w.heap.size 0 (#[.int .i64 0, .int .i64 0, .string ⟨#[]⟩, .slice none 0 0, .slice none 0 0]) rfl rfl 25 _ HQ5.out (Nat.le_refl 5) infoVj (vcs_all _ _ _ _ _ _ _ _ _) ?_; intro W9 hO9 hW9)
      | fail)
    rw [over_whole #[.int .i64 0, .int .i64 0, .string ⟨#[]⟩, .slice none 0 0, .slice none 0 0] (#[.int .i64 0, .int .i64 0, .string ⟨#[]⟩, .slice none 0 0, .slice none 0 0]) rfl] at hW9
    refine bodyPost_ret (ret_v (p := 4) Tryz.results40 _ _ w.heap.size _ rfl (0, 0) rfl hW9) rfl ?_
    have hg9 := grow_own HG5.out (to_only hO9) (fun q e => by injection e with e; omega)
    exact ValQ.err HV.out (by decide) rfl (vcs_all _ _ _ _ _ _ _ _ _) (HR5.out.to (to_only hO9) (by omega)) hg9
/-- What list does, for value. -/
def NQ (d : Nat) (res : Except Nat (VJ d × List UInt8 × Nat)) (s : List UInt8) (R : Nat) (w : World) (x : Ending) (w' : World) : Prop :=
  (∀ t r m, res = .ok (t, r, m) → ∃ cs, x = .returned (.agg cs) ∧ VAt (fun q => w.heap.size ≤ q) d w' cs t ∧ Rl w' R s r m) ∧ (∀ k, res = .error k → ∃ cs m, x = .returned (.agg cs) ∧ cs.size = 5 ∧ (cs.all (·.oneCell') = true) ∧ k ≠ 0 ∧ Re w' R s m k) ∧ w.grownBy w' (some R)
def NestQOk (d lev K : Nat) (e : Int) (nest : List UInt8 → Nat → Except Nat (VJ d × List UInt8 × Nat)) : Prop := ∀ (c0 : UInt8) (l : List UInt8) (n : Nat) (s : List UInt8) (R : Nat) (w : World), s.length ≤ 100000 → n ≤ 8192 → Rl w R s (c0 :: l) n → Calls Tryz.prog 69 #[.pointer (some ⟨R, 0, none⟩), .agg #[.int .i64 (K : Int), .int .i64 0, .string ⟨#[]⟩, .slice none 0 0, .slice none 0 0], .int .u8 e, .int .i64 ((lev : Int) + 1)] w fun x w' => NQ d (nest l n) s R w x w'
theorem Rl.at {w w' : World} {R m : Nat} {s l : List UInt8} (h : Rl w R s l m) (e : w'.heap[R]? = w.heap[R]?) : Rl w' R s l m := by
  obtain ⟨p, h1, h2, h3⟩ := h
  exact ⟨p, h1, h2, e.trans h3⟩
theorem Re.at {w w' : World} {R m k : Nat} {s : List UInt8} (h : Re w R s m k) (e : w'.heap[R]? = w.heap[R]?) : Re w' R s m k := by
  obtain ⟨p, h2, h3⟩ := h
  exact ⟨p, h2, e.trans h3⟩
theorem info9q : (Tryz.prog.info? 9).map (·.size) = some 1 := by kernel_rfl
theorem info2q : (Tryz.prog.info? 2).map (·.size) = some 1 := by kernel_rfl
end Go.Proofs.YtlgkbdebpnbndaaGreatDoor
