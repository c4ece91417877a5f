import Derived.Test.YtgoiafndapemjaaGreatDoorQ18
import Derived.Test.YtgoiafndapemjaaGreatDoorQ17
set_option linter.unusedVariables false
set_option linter.unusedSimpArgs false
set_option maxHeartbeats 1000000
namespace Go.Proofs.YtgoiafndapemjaaGreatDoor
open Go.RowKit Go.BigFrame
attribute [local go_sem ↓] loadN_eq storeN_eq
def fileX (l : List UInt8) : Except Nat (Tr 40) :=
 match asW true l with
 | .error e => .error e
 | .ok l1 => if preX [60, 33, 68, 79, 67, 84, 89, 80, 69] l1 then .error 8 else (match elX 40 16 l1 0 with
  | .error e => .error e
  | .ok (t, l2, _) => (match asW true l2 with
   | .error e => .error e
   | .ok l3 => if l3.isEmpty then .ok t else .error 5))
theorem par_file (s : List UInt8) : parX s = if 65536 < s.length then .error 3 else if !X s then .error 5 else fileX (linE s) := rfl
def FlPost (V : Except Nat (Tr 40)) (w : World) (e : Ending) (w' : World) : Prop :=
 (∃ t cs, V = .ok t ∧ e = .returned (.tuple #[.agg cs, .int .i64 0]) ∧ NdAt (fun q => w.heap.size ≤ q) 40 w' cs t) ∨
 (∃ (er : Nat) (A B C D : Value), V = .error er ∧ (er = 3 ∨ er = 5 ∨ er = 8 ∨ er = 9) ∧ e = .returned (.tuple #[.agg #[A, B, C, D], .int .i64 er]) ∧ A.oneCell' = true ∧ B.oneCell' = true ∧ C.oneCell' = true ∧ D.oneCell' = true)
set_option maxRecDepth 100000 in
theorem file_any (HAT : AtOk) (l : List UInt8) (R : Nat) (w : World) (hl : l.length ≤ 65536) (h13 : (13 : UInt8) ∉ l) (hR : 7 < R) (hT : TabE w) (h : Rd w R l 0) :
  Calls Tryz.prog 67 #[.pointer (some ⟨R, 0, none⟩)] w fun e w' => w.grownBy w' (some R) ∧ FlPost (fileX l) w e w' := by
 have HTO : Hid (∀ W, w.grownBy W (some R) → TabE W) := fun W hW => hT.to hW hR
 have HB0 := hid ((Below.refl w.heap.size w).alloc (Nat.le_refl _) (.cells #[.string ⟨#[]⟩, .slice none 0 0, .string ⟨#[]⟩, .slice none 0 0] 25))
 have HR0 := hid (h.below HB0.out)
 have HO0 := hid (to_below (R := R) HB0.out)
 have HG0 := hid (heap_alloc_new w (.cells #[.string ⟨#[]⟩, .slice none 0 0, .string ⟨#[]⟩, .slice none 0 0] 25))
 have HRW := hid h.lt
 have HN4 : Hid (R ≠ w.heap.size) := by have := h.lt; show _ ≠ _; omega
 have HAS := hid (fun (b : List UInt8) m W (hb : b.length ≤ 65536) (h3 : (13 : UInt8) ∉ b) h1 h2 => asides_any b m R (by omega) h3 hR W h1 h2)
 have HDT : Hid (∀ b m W, Rd W R b m → Calls Tryz.prog 105 #[.pointer (some ⟨R, 0, none⟩), .string ⟨#[60, 33, 68, 79, 67, 84, 89, 80, 69]⟩] W fun e w' => e = .returned (.bool (preX [60, 33, 68, 79, 67, 84, 89, 80, 69] b)) ∧ w' = W) := fun b m W hW => at_any b [60, 33, 68, 79, 67, 84, 89, 80, 69] m R W hW
 have HEL : Hid (∀ b W, b.length ≤ 65536 → (13 : UInt8) ∉ b → TabE W → Rd W R b 0 → Calls Tryz.prog 106 #[.pointer (some ⟨R, 0, none⟩), .int .i64 1] W (ElPost 40 16 b 0 R W)) := fun b W h1 h2 h3 h4 => element_all HAT 40 16 (by omega) (by omega) b 0 R W h1 h2 (by omega) hR h3 h4
 have HF : Hid (fileX l = (match asW true l with
  | .error e => .error e
  | .ok l1 => if preX [60, 33, 68, 79, 67, 84, 89, 80, 69] l1 then .error 8 else (match elX 40 16 l1 0 with
   | .error e => .error e
   | .ok (t, l2, _) => (match asW true l2 with
    | .error e => .error e
    | .ok l3 => if l3.isEmpty then .ok t else .error 5)))) := rfl
 have HL := hid hl
 have H13 := hid h13
 have HA1 := hid (HAS.out l 0 _ hl h13 (HTO.out _ HO0.out) HR0.out)
 clear HAT hl h13 hR hT h
 generalize fileX l = V at HF ⊢
 go_enter Tryz.func67, Tryz.ntmps67
 go_wp2_with fail
 refine HA1.out.mono ?_
 rintro e W1 ⟨ho, (⟨l1, has, rfl, hr⟩ | ⟨has, rfl⟩)⟩
 ·-- on
  have HO1 := hid (HO0.out.trans ho)
  have HR1 := hid hr
  have HG1 := hid (to_row ho HG0.out (Ne.symm HN4.out))
  have s1 : l1 <:+ l := as_sh _ _ _ _ has
  have HS1 := hid s1
  rw [has] at HF
  simp only at HF
  clear ho hr has s1
  go_wp2_with fail
  refine (HDT.out l1 0 _ HR1.out).mono ?_
  rintro e W ⟨rfl, rfl⟩
  cases hdt : preX [60, 33, 68, 79, 67, 84, 89, 80, 69] l1 with
  | true =>
   rw [hdt, if_pos rfl] at HF
   clear hdt
   go_wp2_with (first
    | (refine store_msg infoN rfl _ _ rfl w.heap.size _ _ _ _ rfl rfl rfl rfl rfl rfl _ HG1.out rfl ?_)
    | fail)
   intro W2 ho2 hr2
   have HO2 := hid ho2
   have HG2 := hid hr2
   clear ho2 hr2
   go_wp2_with fail
   refine bodyPost_ret (ret_nd2 (p := 2) (q := 3) Tryz.results67 _ _ w.heap.size _ rfl (0, 0) _ rfl rfl HG2.out) rfl ?_
   exact ⟨grown_own HO1.out (to_only HO2.out) (fun q hq => by injection hq with hq; omega), .inr ⟨8, _, _, _, _, HF.out, by omega, rfl, rfl, rfl, rfl, rfl⟩⟩
  | false =>
   rw [hdt, if_neg (by simp)] at HF
   clear hdt
   have HE1 := hid (HEL.out l1 W (Nat.le_trans HS1.out.length_le HL.out) (fun hx => H13.out (HS1.out.subset hx)) (HTO.out _ HO1.out) HR1.out)
   go_wp2_with fail
   refine HE1.out.mono ?_
   rintro e W2 ⟨ho, (⟨t, l2, m2, cs, he, rfl, hnd, hr⟩ | ⟨er, A, B, C, D, he, her, rfl, o1, o2, o3, o4⟩)⟩
   ·have HO2 := hid (HO1.out.trans ho)
    have HOX := hid ho
    have HR2 := hid hr
    have HG2 := hid (to_row ho HG1.out (Ne.symm HN4.out))
    have HND := hid hnd
    have s2 : l2 <:+ l1 := ((el_sh 40 16 _ _ _ _ _ (by omega) he).1).1
    have HS2 := hid (s2.trans HS1.out)
    rw [he] at HF
    simp only at HF
    obtain ⟨aA, ac, kA, kc, hcs, _, _⟩ := hnd.parts
    obtain ⟨A, B, C, D, hcs2, o1, o2, o3, o4⟩ : ∃ A B C D : Value, cs = #[A, B, C, D] ∧ A.oneCell' = true ∧ B.oneCell' = true ∧ C.oneCell' = true ∧ D.oneCell' = true := ⟨_, _, _, _, hcs, rfl, rfl, rfl, rfl⟩
    clear ho he hnd hr hcs s2
    subst hcs2
    go_wp2_with (first
     | (refine store_msg infoN rfl _ _ rfl W2.heap.size A B C D o1 o2 o3 o4 rfl rfl _ (heap_alloc_new W2 _) rfl ?_)
     | fail)
    intro W3 ho3 hr3
    have hb3 := ((Below.refl _ W2).alloc (Nat.le_refl _) (.cells #[.string ⟨#[]⟩, .slice none 0 0, .string ⟨#[]⟩, .slice none 0 0] 25)).trans (ho3.below (Nat.le_refl _))
    have HB3 := hid hb3
    have HES3 : Hid (ES R w.heap.size W2.heap.size w #[.string ⟨#[]⟩, .slice none 0 0, .string ⟨#[]⟩, .slice none 0 0] #[A, B, C, D] l2 m2 W3) := ⟨row_keep hb3 HR2.out, HO2.out.trans (to_below hb3), row_keep hb3 HG2.out, hr3⟩
    have HZ2 : Hid (w.heap.size < W2.heap.size) := (Array.getElem?_eq_some_iff.1 HG2.out).1
    have HN6 : Hid (R ≠ W2.heap.size) := by have h1 := HRW.out; have h2 := HZ2.out; show _ ≠ _; omega
    clear ho3 hr3 hb3
    have HA2 := hid (HAS.out l2 m2 W3 (Nat.le_trans HS2.out.length_le HL.out) (fun hx => H13.out (HS2.out.subset hx)) (HTO.out _ HES3.out.to) HES3.out.rd)
    go_wp2_with fail
    refine HA2.out.mono ?_
    rintro e W4 ⟨ho, (⟨l3, has, rfl, hr⟩ | ⟨has, rfl⟩)⟩
    ·rw [has] at HF
     simp only at HF
     have HES4 := hid (HES3.out.call HN4.out HN6.out ho hr)
     have HO4 := hid ho
     obtain ⟨c0, _⟩ := hr.cells
     have hq := str_nil8 l3
     clear ho hr has
     have hld4 : (loadI 25 (.pointer (some ⟨W2.heap.size, 0, none⟩))).run Tryz.prog W4 = .ok (.agg #[A, B, C, D]) W4 := loadN_run HES4.out.r6 rfl
     have hst4 : (storeI 25 (.pointer (some ⟨w.heap.size, 0, none⟩)) (.agg #[A, B, C, D])).run Tryz.prog W4 = .ok () (putM W4 w.heap.size #[A, B, C, D]) := storeM_row infoN _ _ _ _ o1 o2 o3 o4 HES4.out.r4 rfl
     have HP4 := hid (putM_only W4 w.heap.size #[A, B, C, D])
     have HQ4 := hid (putM_row HES4.out.r4 (cs' := #[A, B, C, D]) rfl)
     generalize putM W4 w.heap.size #[A, B, C, D] = Y at hst4 HP4 HQ4
     have HNDY : Hid (NdAt (fun q => w.heap.size ≤ q) 40 Y #[A, B, C, D] t) := by
      have z1 := HRW.out
      have z2 := HO1.out.size
      have z3 := (Array.getElem?_eq_some_iff.1 HG1.out).1
      have n1 : NdAt (fun q => W.heap.size ≤ q) 40 W3 #[A, B, C, D] t := HND.out.below HB3.out (Nat.le_refl _)
      refine n1.frame (Nat.le_trans HO4.out.size (by rw [HP4.out.size]; exact Nat.le_refl _)) fun q hq hlq => ⟨?_, by omega⟩
      exact (HP4.out.block q (by omega)).trans (HO4.out.block q hlq (fun e => by injection e with e; omega))
     generalize hzz : l3.isEmpty = zz at HF hq
     clear hzz
     generalize asS l3 = L3 at c0 hq
     cases zz
     ·have hq' : (L3.toList != []) = true := by rw [bne, hq]; rfl
      rw [if_neg (by simp)] at HF
      go_wp2_with fail
      refine bodyPost_ret (ret_nd2 (p := 2) (q := 3) Tryz.results67 _ _ w.heap.size _ rfl (0, 0) _ rfl rfl HQ4.out) rfl ?_
      exact ⟨grown_own HES4.out.to (to_only HP4.out) (fun q hq => by injection hq with hq; omega), .inr ⟨5, _, _, _, _, HF.out, by omega, rfl, o1, o2, o3, o4⟩⟩
     ·have hq' : (L3.toList != []) = false := by rw [bne, hq]; rfl
      rw [if_pos rfl] at HF
      go_wp2_with fail
      refine bodyPost_ret (ret_nd2 (p := 2) (q := 3) Tryz.results67 _ _ w.heap.size _ rfl (0, 0) _ rfl rfl HQ4.out) rfl ?_
      exact ⟨grown_own HES4.out.to (to_only HP4.out) (fun q hq => by injection hq with hq; omega), .inl ⟨t, _, HF.out, rfl, HNDY.out⟩⟩
    ·rw [has] at HF
     simp only at HF
     have HTO4 := hid (HES3.out.to.trans ho)
     have HR64 := hid (to_row ho HES3.out.r6 (Ne.symm HN6.out))
     have HR44 := hid (to_row ho HES3.out.r4 (Ne.symm HN4.out))
     clear ho has
     have hld4 : (loadI 25 (.pointer (some ⟨W2.heap.size, 0, none⟩))).run Tryz.prog W4 = .ok (.agg #[A, B, C, D]) W4 := loadN_run HR64.out rfl
     have hst4 : (storeI 25 (.pointer (some ⟨w.heap.size, 0, none⟩)) (.agg #[A, B, C, D])).run Tryz.prog W4 = .ok () (putM W4 w.heap.size #[A, B, C, D]) := storeM_row infoN _ _ _ _ o1 o2 o3 o4 HR44.out rfl
     have HP4 := hid (putM_only W4 w.heap.size #[A, B, C, D])
     have HQ4 := hid (putM_row HR44.out (cs' := #[A, B, C, D]) rfl)
     generalize putM W4 w.heap.size #[A, B, C, D] = Y at hst4 HP4 HQ4
     go_wp2_with fail
     refine bodyPost_ret (ret_nd2 (p := 2) (q := 3) Tryz.results67 _ _ w.heap.size _ rfl (0, 0) _ rfl rfl HQ4.out) rfl ?_
     exact ⟨grown_own HTO4.out (to_only HP4.out) (fun q hq => by injection hq with hq; omega), .inr ⟨5, _, _, _, _, HF.out, by omega, rfl, o1, o2, o3, o4⟩⟩
   ·rw [he] at HF
    simp only at HF
    have HO2 := hid (HO1.out.trans ho)
    have HG2 := hid (to_row ho HG1.out (Ne.symm HN4.out))
    have HER := hid her
    have hne : ((er : Int) != 0) = true := by rw [bne_iff_ne]; omega
    clear ho he her
    go_wp2_with (first
     | (refine store_msg infoN rfl _ _ rfl W2.heap.size A B C D o1 o2 o3 o4 rfl rfl _ (heap_alloc_new W2 _) rfl ?_)
     | fail)
    intro W3 ho3 hr3
    have hb3 := ((Below.refl _ W2).alloc (Nat.le_refl _) (.cells #[.string ⟨#[]⟩, .slice none 0 0, .string ⟨#[]⟩, .slice none 0 0] 25)).trans (ho3.below (Nat.le_refl _))
    have HTO3 := hid (HO2.out.trans (to_below hb3))
    have HR43 := hid (row_keep hb3 HG2.out)
    have hld3 : (loadI 25 (.pointer (some ⟨W2.heap.size, 0, none⟩))).run Tryz.prog W3 = .ok (.agg #[A, B, C, D]) W3 := loadN_run hr3 rfl
    clear ho3 hr3 hb3
    have hst3 : (storeI 25 (.pointer (some ⟨w.heap.size, 0, none⟩)) (.agg #[A, B, C, D])).run Tryz.prog W3 = .ok () (putM W3 w.heap.size #[A, B, C, D]) := storeM_row infoN _ _ _ _ o1 o2 o3 o4 HR43.out rfl
    have HP3 := hid (putM_only W3 w.heap.size #[A, B, C, D])
    have HQ3 := hid (putM_row HR43.out (cs' := #[A, B, C, D]) rfl)
    generalize putM W3 w.heap.size #[A, B, C, D] = Y at hst3 HP3 HQ3
    go_wp2_with fail
    refine bodyPost_ret (ret_nd2 (p := 2) (q := 3) Tryz.results67 _ _ w.heap.size _ rfl (0, 0) _ rfl rfl HQ3.out) rfl ?_
    exact ⟨grown_own HTO3.out (to_only HP3.out) (fun q hq => by injection hq with hq; omega), .inr ⟨er, _, _, _, _, HF.out, by have := HER.out; omega, rfl, o1, o2, o3, o4⟩⟩
 ·-- what stands ahead does not end
  have HO1 := hid (HO0.out.trans ho)
  have HG1 := hid (to_row ho HG0.out (Ne.symm HN4.out))
  rw [has] at HF
  simp only at HF
  clear ho has
  go_wp2_with (first
   | (refine store_msg infoN rfl _ _ rfl w.heap.size _ _ _ _ rfl rfl rfl rfl rfl rfl _ HG1.out rfl ?_)
   | fail)
  intro W2 ho2 hr2
  have HO2 := hid ho2
  have HG2 := hid hr2
  clear ho2 hr2
  go_wp2_with fail
  refine bodyPost_ret (ret_nd2 (p := 2) (q := 3) Tryz.results67 _ _ w.heap.size _ rfl (0, 0) _ rfl rfl HG2.out) rfl ?_
  exact ⟨grown_own HO1.out (to_only HO2.out) (fun q hq => by injection hq with hq; omega), .inr ⟨5, _, _, _, _, HF.out, by omega, rfl, rfl, rfl, rfl, rfl⟩⟩
end Go.Proofs.YtgoiafndapemjaaGreatDoor
namespace Go.Proofs.YtgoiafndapemjaaGreatDoor
def TopL (N : Nat) (l : Lab) : Prop := l.2.2.length ≤ N ∧ ∀ a ∈ l.2.1, a.value.length ≤ N
def LeT (N : Nat) : (d : Nat) → Tr d → Prop
 | 0, t => TopL N t
 | d + 1, t => TopL N t.1 ∧ ∀ k ∈ t.2, LeT N d k
end Go.Proofs.YtgoiafndapemjaaGreatDoor
