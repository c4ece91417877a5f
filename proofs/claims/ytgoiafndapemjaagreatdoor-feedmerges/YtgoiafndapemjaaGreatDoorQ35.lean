import Derived.Test.YtgoiafndapemjaaGreatDoorQ10
import Derived.Test.YtgoiafndapemjaaGreatDoorQ32
import Derived.Test.YtgoiafndapemjaaGreatDoorQ34
import Derived.Test.YtgoiafndapemjaaGreatDoorQ29
import Derived.Deep.DeepCutAuto
import Derived.Test.YtgoiafndapemjaaGreatDoorQ23
set_option linter.unusedVariables false
set_option linter.unusedSimpArgs false
set_option maxHeartbeats 1000000
namespace Go.Proofs.YtgoiafndapemjaaGreatDoor
open Go.RowKit Go.BigFrame
theorem bel2 {w w1 w2 : World} (h1 : Below w.heap.size w w1) (h2 : Below w1.heap.size w1 w2) : Below w.heap.size w w2 := h1.trans (h2.mono h1.size)
theorem head_any (s : ByteArray) (n : Nat) (w : World) (hs : s.size ≤ 281474976710656) (h1 : 1 ≤ n) (hn : n ≤ 9223372036854775807) :
  Calls Tryz.prog 42 #[.string s, .int .i64 n] w fun e w' => e = .returned (.string (headA s n)) ∧ Below w.heap.size w w' := by
 unfold headA
 cases hv : vld s with
 | true => exact head_ok s n w hs h1 hn hv
 | false => exact head_no s n w (by omega) hv
theorem short_any (l : List UInt8) (hl : l.length ≤ 90000) (w : World) : Calls Tryz.prog 16 #[.string (asS l)] w fun e w' => e = .returned (.string (asS (shL l))) ∧ Below w.heap.size w w' := by
 have hs : (asS l).size ≤ 90000 := by rw [asS_size]; exact hl
 have H1 := hid (fun W => squeeze_any (asS l) W (by omega))
 have h2 := sqzA_le (asS l)
 have H2 := hid (fun W => head_any (sqzA (asS l)) 128 W (by omega) (by omega) (by omega))
 rw [asS_sh]
 change Hid (∀ W, Calls Tryz.prog 43 #[.string (asS l)] W fun e w' => e = .returned (.string (sqzA (asS l))) ∧ Below W.heap.size W w') at H1
 clear h2 hs
 generalize headA (sqzA (asS l)) 128 = h at *
 generalize sqzA (asS l) = q at *
 generalize asS l = s at *
 go_enter Tryz.func16, Tryz.ntmps16
 go_wp2_with fail
 refine (H1.out _).mono ?_
 rintro e w1 ⟨rfl, hb1⟩
 go_wp2_with fail
 refine (H2.out _).mono ?_
 rintro e w2 ⟨rfl, hb2⟩
 go_wp2_with fail
 go_ret
 exact ⟨rfl, bel2 hb1 hb2⟩
theorem of_at (l : List UInt8) (A : Option Addr) (cap : Nat) (w : World) (hT : TabS w) (hA : BytesAt w A l) (hcap : l.length ≤ cap) (hlen : l.length ≤ 1000000) : Calls Tryz.prog 82 #[.slice A l.length cap] w fun e w' => e = .returned (.agg (bcs (sha l))) ∧ Below w.heap.size w w' := by
 by_cases h0 : 0 < l.length
 ·obtain ⟨q, o, he, hq, hc⟩ := hA h0
  exact of_any l A cap q o w hT (fun _ => he) hq hc hcap hlen
 ·exact of_any l A cap 0 0 w hT (fun h => absurd h h0) (Nat.lt_trans (by decide) hT.lt) (fun j hj => absurd hj (by omega)) hcap hlen
theorem hex_row (D : List UInt8) (hD : D.length = 32) (g : Nat) (w : World) (t : TypeId) (hg : w.heap[g]? = some (.cells (bcs D) t (0, 0))) : Calls Tryz.prog 83 #[.slice (some ⟨g, 0, none⟩) 32 32] w fun e w' => e = .returned (.string (asS (hexB D))) ∧ Below w.heap.size w w' := by
 have := hex_any D (some ⟨g, 0, none⟩) 32 g 0 w (fun _ => rfl) (Array.getElem?_eq_some_iff.1 hg).1 (fun j hj => by rw [Nat.zero_add, cell_of_row _ _ _ _ _ _ hg]; exact bcs_at D j hj) (by omega)
 rw [hD] at this
 exact this
theorem refHex_row (D : List UInt8) (hD : D.length = 32) (g : Nat) (w : World) (t : TypeId) (hg : w.heap[g]? = some (.cells (bcs D) t (0, 0))) : Calls Tryz.prog 49 #[.slice (some ⟨g, 0, none⟩) 32 32] w fun e w' => e = .returned (.string (asS (hexB D))) ∧ Below w.heap.size w w' := by
 have := refHex_any D (some ⟨g, 0, none⟩) 32 g 0 w (fun _ => rfl) (Array.getElem?_eq_some_iff.1 hg).1 (fun j hj => by rw [Nat.zero_add, cell_of_row _ _ _ _ _ _ hg]; exact bcs_at D j hj) (by omega)
 rw [hD] at this
 exact this
theorem digL_len (l : List UInt8) : (digL l).length = 64 := by
 unfold digL
 rw [hexB_len, sha_len]
theorem fdigest_any (l : List UInt8) (hl : l.length ≤ 1000000) (w : World) (hT : TabS w) : Calls Tryz.prog 47 #[.string (asS l)] w fun e w' => e = .returned (.string (asS (digL l))) ∧ Below w.heap.size w w' := by
 obtain ⟨cap, W1, hcv, hat, hb1, hcap⟩ := conv_in w (asS l)
 rw [asS_size] at hcv hcap
 have hT1 : TabS W1 := hT.below hb1 hT.lt
 have HOF := hid (of_at l (some ⟨w.heap.size, 0, none⟩) cap W1 hT1 hat hcap hl)
 have HD : Hid ((sha l).length = 32) := sha_len l
 have HX : Hid (∀ W g, W.heap[g]? = some (.cells (bcs (sha l)) 74 (0, 0)) → Calls Tryz.prog 83 #[.slice (some ⟨g, 0, none⟩) 32 32] W fun e w' => e = .returned (.string (asS (digL l))) ∧ Below W.heap.size W w') := fun W g h => hex_row _ (sha_len l) _ W _ h
 have HB1 := hid hb1
 clear hT1 hat hb1 hcap hT
 generalize asS (digL l) = R at HX ⊢
 generalize sha l = D at HOF HD HX
 generalize asS l = s at hcv ⊢
 generalize l.length = n at hcv HOF
 go_enter Tryz.func47, Tryz.ntmps47
 go_wp2_with fail
 refine HOF.out.mono ?_
 rintro e W2 ⟨rfl, hb2⟩
 have HB2 := hid (bel2 HB1.out hb2)
 have HR2 := hid (heap_alloc_new W2 (.cells (bcs (zer 32)) 74))
 clear hb2 hcv HOF HB1
 go_wp2_with (refine wpList_store_abs rfl 74 (.tmp 3) (.tmp 6) rfl W2.heap.size 0 (bcs D) rfl rfl 74 _ HR2.out (by rw [bcs_size, bcs_size, HD.out]; exact Nat.le_refl 32) (size24' D HD.out) (bvs_one D) ?_; intro W9 hO9 hW9)
 rw [over_bytes _ D (by rw [bcs_size, HD.out]; rfl)] at hW9
 have HX9 := hid (HX.out W9 W2.heap.size hW9)
 have HB9 : Hid (Below w.heap.size w W9) := (HB2.out.alloc HB2.out.size _).trans (hO9.below HB2.out.size)
 clear hO9 hW9 HR2 HB2 HX
 go_wp2_with fail
 refine HX9.out.mono ?_
 rintro e W10 ⟨rfl, hb10⟩
 have HB10 := hid (bel2 HB9.out hb10)
 clear hb10 HX9 HB9
 go_wp2_with fail
 go_ret
 exact ⟨rfl, HB10.out⟩
theorem idL_len (name title body : List UInt8) : (idL name title body).length = 66 := by
 unfold idL
 split
 ·rw [List.length_append, digL_len]; rfl
 ·rw [List.length_append, digL_len]; rfl
theorem str_empty (l : List UInt8) : ((asS l).toList == []) = decide (l = []) := by
 rw [show (asS l).toList = l from by rw [ByteArray.toList_eq]; rfl]
 cases l <;> simp
theorem mark_n (x : List UInt8) : (⟨#[110, 58]⟩ : ByteArray) ++ asS x = asS (markN ++ x) := asS_app markN x
theorem mark_c (x : List UInt8) : (⟨#[99, 58]⟩ : ByteArray) ++ asS x = asS (markC ++ x) := asS_app markC x
theorem gap_app (x y : List UInt8) : (asS x ++ (⟨#[0]⟩ : ByteArray)) ++ asS y = asS (x ++ [0] ++ y) := by
 rw [show (⟨#[0]⟩ : ByteArray) = asS [0] from rfl, asS_app, asS_app]
theorem mark_fit (m : ByteArray) (hm : m.size = 2) (x : List UInt8) : ¬ (9223372036854775807 < m.size + (asS (digL x)).size) := by rw [hm, asS_size, digL_len]; omega
theorem id_any (name title body : List UInt8) (hn : name.length ≤ 100000) (ht : title.length ≤ 100000) (hb : body.length ≤ 100000) (w : World) (hT : TabS w) : Calls Tryz.prog 19 #[.string (asS name), .string (asS title), .string (asS body)] w fun e w' => e = .returned (.string (asS (idL name title body))) ∧ Below w.heap.size w w' := by
 have hq : ((asS name).toList == []) = decide (name = []) := str_empty name
 by_cases he : name = []
 ·rw [decide_eq_true he] at hq
  have HD := hid (fun W (h : TabS W) => fdigest_any (title ++ [0] ++ body) (by rw [List.length_append, List.length_append, List.length_singleton]; omega) W h)
  rw [← gap_app] at HD
  have hz1 : ¬ (9223372036854775807 < (asS title).size + (⟨#[0]⟩ : ByteArray).size) := by rw [asS_size, show (⟨#[0]⟩ : ByteArray).size = 1 from rfl]; omega
  have hz2 : ¬ (9223372036854775807 < (asS title ++ (⟨#[0]⟩ : ByteArray)).size + (asS body).size) := by rw [show (⟨#[0]⟩ : ByteArray) = asS [0] from rfl, asS_app, asS_size, asS_size, List.length_append, List.length_singleton]; omega
  have hz3 := mark_fit ⟨#[99, 58]⟩ rfl (title ++ [0] ++ body)
  have HR : Hid (asS (idL name title body) = (⟨#[99, 58]⟩ : ByteArray) ++ asS (digL (title ++ [0] ++ body))) := by
   show _ = _
   unfold idL
   rw [if_pos he, mark_c]
  rw [HR.out]
  clear HR he
  generalize asS (digL (title ++ [0] ++ body)) = R at HD hz3 ⊢
  generalize asS name = S0 at hq ⊢
  generalize asS title = S1 at hz1 hz2 HD ⊢
  generalize asS body = S2 at hz2 HD ⊢
  have HTT := hid hT
  clear hT
  go_enter Tryz.func19, Tryz.ntmps19
  go_wp2_with fail
  refine (HD.out _ HTT.out).mono ?_
  rintro e W1 ⟨rfl, hb1⟩
  go_wp2_with fail
  go_ret
  exact ⟨rfl, hb1⟩
 ·rw [decide_eq_false he] at hq
  have HD := hid (fun W (h : TabS W) => fdigest_any name (by omega) W h)
  have hz3 := mark_fit ⟨#[110, 58]⟩ rfl name
  have HR : Hid (asS (idL name title body) = (⟨#[110, 58]⟩ : ByteArray) ++ asS (digL name)) := by
   show _ = _
   unfold idL
   rw [if_neg he, mark_n]
  rw [HR.out]
  clear HR he
  generalize asS (digL name) = R at HD hz3 ⊢
  generalize asS name = S0 at hq HD ⊢
  generalize asS title = S1
  generalize asS body = S2
  have HTT := hid hT
  clear hT
  go_enter Tryz.func19, Tryz.ntmps19
  go_wp2_with fail
  refine (HD.out _ HTT.out).mono ?_
  rintro e W1 ⟨rfl, hb1⟩
  go_wp2_with fail
  go_ret
  exact ⟨rfl, hb1⟩
theorem conv_l (w : World) (s : ByteArray) (l : List UInt8) (h : s = asS l) : ∃ cap W1, (convert 9 42 (.string s)).run Tryz.prog w = .ok (.slice (some ⟨w.heap.size, 0, none⟩) l.length cap) W1 ∧ BytesAt W1 (some ⟨w.heap.size, 0, none⟩) l ∧ Below w.heap.size w W1 := by
 subst h
 obtain ⟨cap, W1, hcv, hat, hb1, hcap⟩ := conv_in w (asS l)
 rw [asS_size] at hcv
 exact ⟨cap, W1, hcv, hat, hb1⟩
theorem refId_any (name title body : List UInt8) (hn : name.length ≤ 100000) (ht : title.length ≤ 100000) (hb : body.length ≤ 100000) (w : World) : Calls Tryz.prog 20 #[.string (asS name), .string (asS title), .string (asS body)] w fun e w' => e = .returned (.string (asS (idL name title body))) ∧ Below w.heap.size w w' := by
 have hq : ((asS name).toList == []) = decide (name = []) := str_empty name
 have hz1 : ¬ (9223372036854775807 < (asS title).size + (⟨#[0]⟩ : ByteArray).size) := by rw [asS_size, show (⟨#[0]⟩ : ByteArray).size = 1 from rfl]; omega
 have hz2 : ¬ (9223372036854775807 < (asS title ++ (⟨#[0]⟩ : ByteArray)).size + (asS body).size) := by rw [show (⟨#[0]⟩ : ByteArray) = asS [0] from rfl, asS_app, asS_size, asS_size, List.length_append, List.length_singleton]; omega
 by_cases he : name = []
 ·rw [decide_eq_true he] at hq
  obtain ⟨cap, W1, hcv, hat, hb1⟩ := conv_l w (asS title ++ (⟨#[0]⟩ : ByteArray) ++ asS body) (title ++ [0] ++ body) (gap_app title body)
  have HOF := hid (refOf_any (title ++ [0] ++ body) (some ⟨w.heap.size, 0, none⟩) cap W1 hat (by rw [List.length_append, List.length_append, List.length_singleton]; omega))
  have HD : Hid ((sha (title ++ [0] ++ body)).length = 32) := sha_len _
  have HX : Hid (∀ W g, W.heap[g]? = some (.cells (bcs (sha (title ++ [0] ++ body))) 74 (0, 0)) → Calls Tryz.prog 49 #[.slice (some ⟨g, 0, none⟩) 32 32] W fun e w' => e = .returned (.string (asS (digL (title ++ [0] ++ body)))) ∧ Below W.heap.size W w') := fun W g h => refHex_row _ (sha_len _) _ W _ h
  have hz3 := mark_fit ⟨#[99, 58]⟩ rfl (title ++ [0] ++ body)
  have HR : Hid (asS (idL name title body) = (⟨#[99, 58]⟩ : ByteArray) ++ asS (digL (title ++ [0] ++ body))) := by
   show _ = _
   unfold idL
   rw [if_pos he, mark_c]
  rw [HR.out]
  have HB1 := hid hb1
  clear HR he hat hb1
  generalize asS (digL (title ++ [0] ++ body)) = R at HX hz3 ⊢
  generalize sha (title ++ [0] ++ body) = D at HOF HD HX
  generalize (title ++ [0] ++ body).length = n at hcv HOF
  generalize asS name = S0 at hq ⊢
  generalize asS title = S1 at hz1 hz2 hcv ⊢
  generalize asS body = S2 at hz2 hcv ⊢
  go_enter Tryz.func20, Tryz.ntmps20
  go_wp2_with fail
  refine HOF.out.mono ?_
  rintro e W2 ⟨rfl, hb2⟩
  have HB2 := hid (bel2 HB1.out hb2)
  have HR2 := hid (heap_alloc_new W2 (.cells (bcs (zer 32)) 74))
  clear hb2 hcv HOF HB1
  go_wp2_with (refine wpList_store_abs rfl 74 (.tmp 7) (.tmp 16) rfl W2.heap.size 0 (bcs D) rfl rfl 74 _ HR2.out (by rw [bcs_size, bcs_size, HD.out]; exact Nat.le_refl 32) (size24' D HD.out) (bvs_one D) ?_; intro W9 hO9 hW9)
  rw [over_bytes _ D (by rw [bcs_size, HD.out]; rfl)] at hW9
  have HX9 := hid (HX.out W9 W2.heap.size hW9)
  have HB9 : Hid (Below w.heap.size w W9) := (HB2.out.alloc HB2.out.size _).trans (hO9.below HB2.out.size)
  clear hO9 hW9 HR2 HB2 HX
  go_wp2_with fail
  refine HX9.out.mono ?_
  rintro e W10 ⟨rfl, hb10⟩
  have HB10 := hid (bel2 HB9.out hb10)
  clear hb10 HX9 HB9
  go_wp2_with fail
  go_ret
  exact ⟨rfl, HB10.out⟩
 ·rw [decide_eq_false he] at hq
  obtain ⟨cap, W1, hcv, hat, hb1⟩ := conv_l w (asS name) (name) rfl
  have HOF := hid (refOf_any (name) (some ⟨w.heap.size, 0, none⟩) cap W1 hat (by omega))
  have HD : Hid ((sha (name)).length = 32) := sha_len _
  have HX : Hid (∀ W g, W.heap[g]? = some (.cells (bcs (sha (name))) 74 (0, 0)) → Calls Tryz.prog 49 #[.slice (some ⟨g, 0, none⟩) 32 32] W fun e w' => e = .returned (.string (asS (digL (name)))) ∧ Below W.heap.size W w') := fun W g h => refHex_row _ (sha_len _) _ W _ h
  have hz3 := mark_fit ⟨#[110, 58]⟩ rfl (name)
  have HR : Hid (asS (idL name title body) = (⟨#[110, 58]⟩ : ByteArray) ++ asS (digL (name))) := by
   show _ = _
   unfold idL
   rw [if_neg he, mark_n]
  rw [HR.out]
  have HB1 := hid hb1
  clear HR he hat hb1
  generalize asS (digL (name)) = R at HX hz3 ⊢
  generalize sha (name) = D at HOF HD HX
  generalize (name).length = n at hcv HOF
  generalize asS name = S0 at hq hcv ⊢
  clear hz1 hz2
  generalize asS title = S1
  generalize asS body = S2
  go_enter Tryz.func20, Tryz.ntmps20
  go_wp2_with fail
  refine HOF.out.mono ?_
  rintro e W2 ⟨rfl, hb2⟩
  have HB2 := hid (bel2 HB1.out hb2)
  have HR2 := hid (heap_alloc_new W2 (.cells (bcs (zer 32)) 74))
  clear hb2 hcv HOF HB1
  go_wp2_with (refine wpList_store_abs rfl 74 (.tmp 8) (.tmp 22) rfl W2.heap.size 0 (bcs D) rfl rfl 74 _ HR2.out (by rw [bcs_size, bcs_size, HD.out]; exact Nat.le_refl 32) (size24' D HD.out) (bvs_one D) ?_; intro W9 hO9 hW9)
  rw [over_bytes _ D (by rw [bcs_size, HD.out]; rfl)] at hW9
  have HX9 := hid (HX.out W9 W2.heap.size hW9)
  have HB9 : Hid (Below w.heap.size w W9) := (HB2.out.alloc HB2.out.size _).trans (hO9.below HB2.out.size)
  clear hO9 hW9 HR2 HB2 HX
  go_wp2_with fail
  refine HX9.out.mono ?_
  rintro e W10 ⟨rfl, hb10⟩
  have HB10 := hid (bel2 HB9.out hb10)
  clear hb10 HX9 HB9
  go_wp2_with fail
  go_ret
  exact ⟨rfl, HB10.out⟩
def ffL : List (List UInt8) → List UInt8
 | [] => []
 | x :: r => if x = [] then ffL r else x
def ftL : List (List UInt8) → Option Int
 | [] => none
 | x :: r => match anyL x with
  | some v => some v
  | none => ftL r
theorem ff_at (ls : List (List UInt8)) (k : Nat) (h : k < ls.length) : ffL (ls.drop k) = if ls.getD k [] = [] then ffL (ls.drop (k + 1)) else ls.getD k [] := by
 rw [List.drop_eq_getElem_cons h, ffL, List.getD_eq_getElem?_getD, List.getElem?_eq_getElem h]
 rfl
theorem ft_at (ls : List (List UInt8)) (k : Nat) (h : k < ls.length) : ftL (ls.drop k) = or2 (anyL (ls.getD k [])) (ftL (ls.drop (k + 1))) := by
 rw [List.drop_eq_getElem_cons h, ftL, List.getD_eq_getElem?_getD, List.getElem?_eq_getElem h]
 show _ = or2 (anyL ls[k]) _
 cases anyL ls[k] <;> rfl
theorem ff_two (a b : List UInt8) : ffL [a, b] = orL a b := by
 unfold orL ffL ffL ffL
 by_cases ha : a = []
 ·rw [if_pos ha, if_pos ha]
  by_cases hb : b = []
  ·rw [if_pos hb, hb]
  ·rw [if_neg hb]
 ·rw [if_neg ha, if_neg ha]
theorem ft_one (a : List UInt8) : ftL [a] = anyL a := by
 unfold ftL ftL
 cases anyL a <;> rfl
theorem ft_two (a b : List UInt8) : ftL [a, b] = or2 (anyL a) (anyL b) := by
 unfold ftL ftL ftL
 cases anyL a <;> cases anyL b <;> rfl
def TxtsAt (w : World) (g : Nat) (ls : List (List UInt8)) : Prop := ∀ j, j < ls.length → w.cell? ⟨g, j, none⟩ = some (.string (asS (ls.getD j [])))
theorem TxtsAt.two {w : World} {g : Nat} {t : TypeId} {fr : Nat × Nat} (a b : List UInt8) (h : w.heap[g]? = some (.cells #[.string (asS a), .string (asS b)] t fr)) : TxtsAt w g [a, b] := fun j hj => by
 match j, hj with
 | 0, _ => exact cell_of_row _ _ _ _ _ _ h
 | 1, _ => exact cell_of_row _ _ _ _ _ _ h
theorem TxtsAt.one {w : World} {g : Nat} {t : TypeId} {fr : Nat × Nat} (a : List UInt8) (h : w.heap[g]? = some (.cells #[.string (asS a)] t fr)) : TxtsAt w g [a] := fun j hj => by
 match j, hj with
 | 0, _ => exact cell_of_row _ _ _ _ _ _ h
set_option maxRecDepth 100000 in
theorem firstFull_any (ls : List (List UInt8)) (n : Nat) (hn : ls.length = n) (hl : n ≤ 100) (g c : Nat) (w : World) (h : TxtsAt w g ls) : Calls Tryz.prog 94 #[.slice (some ⟨g, 0, none⟩) n c] w fun e w' => e = .returned (.string (asS (ffL ls))) ∧ w' = w := by
 have HC := hid h
 have HN := hid hn
 have HF := hid (fun k hk => ff_at ls k hk)
 have HE : Hid (∀ k, n ≤ k → ffL (ls.drop k) = []) := fun k hk => by rw [List.drop_eq_nil_of_le (by omega)]; rfl
 have HZ : Hid (ffL (ls.drop 0) = ffL ls) := rfl
 generalize ffL ls = R at HZ ⊢
 clear h hn
 go_enter Tryz.func94, Tryz.ntmps94
 go_wp2_with fail
 go_loop [7] (fun i => ∃ k : Nat, k ≤ n ∧ i = .int .i64 (k : Int) ∧ Hid (ffL (ls.drop k) = R)) (fun i => n - (intOf i).toNat)
 case atStart => exact ⟨0, Nat.zero_le _, rfl, HZ.out⟩
 case round =>
  obtain ⟨k, hk, rfl, HR⟩ := hrel
  by_cases hlt : k < n
  ·have hi : (k : Int) < (n : Int) := by omega
   have hkl : k < ls.length := by have := HN.out; omega
   have hc := HC.out k hkl
   have HST := hid (HF.out k hkl)
   rw [HR.out] at HST
   have hq := str_empty (ls.getD k [])
   clear hkl
   generalize ls.getD k [] = x at hc HST hq
   by_cases hx : x = []
   ·rw [decide_eq_true hx] at hq
    rw [if_pos hx] at HST
    clear hx
    generalize asS x = s at hc hq
    go_wp2_with fail
    go_round
    case rel => exact ⟨k + 1, by omega, by go_num, HST.out.symm⟩
    case measure => simp [intOf]; omega
   ·rw [decide_eq_false hx] at hq
    rw [if_neg hx] at HST
    clear hx
    have HRX : Hid (asS R = asS x) := by show _ = _; rw [HST.out]
    generalize asS x = s at hc hq HRX
    go_wp2_with fail
    go_ret
    exact ⟨by rw [HRX.out]; rfl, rfl⟩
  ·have hi : ¬ (k : Int) < (n : Int) := by omega
   have HRN : Hid (R = []) := by
    show _ = _
    rw [← HR.out]
    exact HE.out k (by omega)
   go_wp2_with fail
   go_ret
   exact ⟨by rw [HRN.out]; rfl, rfl⟩
set_option maxRecDepth 100000 in
theorem firstTime_any (ls : List (List UInt8)) (n : Nat) (hn : ls.length = n) (hl : n ≤ 100) (hz : ∀ x ∈ ls, x.length ≤ 90000) (g c : Nat) (w : World) (hT : TabF w) (hg : g < w.heap.size) (h : TxtsAt w g ls) : Calls Tryz.prog 92 #[.slice (some ⟨g, 0, none⟩) n c] w fun e w' => e = .returned (.tuple #[.int .i64 ((ftL ls).getD 0), .bool (ftL ls).isSome]) ∧ Below w.heap.size w w' := by
 have HC := hid h
 have HN := hid hn
 have HG := hid hg
 have HF := hid (fun k hk => ft_at ls k hk)
 have HAN : Hid (∀ x ∈ ls, ∀ W, Below w.heap.size w W → Calls Tryz.prog 121 #[.string (asS x)] W fun e w' => e = .returned (optT (anyL x)) ∧ Below W.heap.size W w') := fun x hx W hb => any_any x (hz x hx) W (hT.below hb).d (hT.below hb).u
 have HE : Hid (∀ k, n ≤ k → ftL (ls.drop k) = none) := fun k hk => by rw [List.drop_eq_nil_of_le (by omega)]; rfl
 have HZ : Hid (ftL (ls.drop 0) = ftL ls) := rfl
 generalize ftL ls = R at HZ ⊢
 clear h hn hT hz hg
 go_enter Tryz.func92, Tryz.ntmps92
 go_wp2_with fail
 go_loopw [10] (fun i wr => ∃ k : Nat, k ≤ n ∧ i = .int .i64 (k : Int) ∧ Hid (ftL (ls.drop k) = R) ∧ Hid (Below w.heap.size w wr)) (fun i wr => n - (intOf i).toNat)
 case atStart => exact ⟨0, Nat.zero_le _, rfl, HZ.out, Below.refl _ _⟩
 case round =>
  obtain ⟨k, hk, rfl, HR, HB⟩ := hrel
  by_cases hlt : k < n
  ·have hi : (k : Int) < (n : Int) := by omega
   have hkl : k < ls.length := by have := HN.out; omega
   have hc : wr.cell? ⟨g, k, none⟩ = some (.string (asS (ls.getD k []))) := by rw [HB.out.cell (p := ⟨g, k, none⟩) HG.out]; exact HC.out k hkl
   have HST := hid (HF.out k hkl)
   rw [HR.out] at HST
   have HA := hid (HAN.out (ls.getD k []) (by rw [List.getD_eq_getElem?_getD, List.getElem?_eq_getElem hkl]; exact List.getElem_mem hkl) wr HB.out)
   clear hkl
   generalize ls.getD k [] = x at hc HST HA
   generalize asS x = s at hc HA
   cases hx : anyL x with
   | some v =>
    rw [hx] at HST HA
    have HRV : Hid (R = some v) := HST.out
    clear hx HST
    change Hid (Calls Tryz.prog 121 #[.string s] wr fun e w' => e = .returned (.tuple #[.int .i64 v, .int .i64 0]) ∧ Below wr.heap.size wr w') at HA
    go_wp2_with fail
    refine HA.out.mono ?_
    rintro e w2 ⟨rfl, hb2⟩
    have HB2 := hid (bel2 HB.out hb2)
    clear hb2 HA
    go_wp2_with fail
    go_ret2
    exact ⟨by rw [HRV.out]; rfl, HB2.out⟩
   | none =>
    rw [hx] at HST HA
    have HRV : Hid (ftL (ls.drop (k + 1)) = R) := HST.out.symm
    clear hx HST
    change Hid (Calls Tryz.prog 121 #[.string s] wr fun e w' => e = .returned (.tuple #[.int .i64 0, .int .i64 5]) ∧ Below wr.heap.size wr w') at HA
    go_wp2_with fail
    refine HA.out.mono ?_
    rintro e w2 ⟨rfl, hb2⟩
    have HB2 := hid (bel2 HB.out hb2)
    clear hb2 HA
    go_wp2_with fail
    go_roundw
    case rel => exact ⟨k + 1, by omega, by go_num, HRV.out, HB2.out⟩
    case measure => simp [intOf]; omega
  ·have hi : ¬ (k : Int) < (n : Int) := by omega
   have HRN : Hid (R = none) := by
    show _ = _
    rw [← HR.out]
    exact HE.out k (by omega)
   go_wp2_with fail
   go_ret2
   exact ⟨by rw [HRN.out]; rfl, HB.out⟩
theorem step_hd {ops : Array Oper} {o : Oper} {a : Act} {w : World} {K : Act → World → Prop} {Q : Exit → Act → World → Prop} {E : Prop} (hgd : o.guard = none) (s x : Operand)
  (ho : o.op = .call { callee := .builtin .append, args := #[s, x], argTypes := #[22, 22] })
  (base : Nat) (v xv : Value) (l ys : List HdV) (hs : a.eval s = v) (hx : a.eval x = xv) (hown : OwnH w base v l)
  (hA : Src Tryz.prog 2 22 xv ys.length (hdvs ys) w) (h0 : 0 < ys.length) (hn : l.length + ys.length ≤ 1000000) (hbase : base ≤ w.heap.size)
  (h : ∀ v' w', OwnH w' base v' (l ++ ys) → Below base w w' → K (a.put o.dst v') w') :
  if Region.wanted o (yielded ops a.tmps) = true then Oper.wp Tryz.prog o a w K Q else E := by
 have hw : Region.wanted o (yielded ops a.tmps) = true := by simp [Region.wanted, hgd]
 rw [if_pos hw]
 obtain ⟨v', w', hr, h2, h3⟩ := run_hd o.type hown hA h0 hn hbase
 unfold Oper.wp
 simp [execOp, ho, resolve, invoke, builtin, hs, hx, hr, Result.andThen]
 exact h v' w' h2 h3
theorem kids_src {P : Nat → Prop} {w : World} {d : Nat} {A : Option Addr} {l : List (Tr d)} (h : NdsAt P d w A l) (h0 : 0 < l.length) (c : Nat) : ∃ css : List (Array Value), css.length = l.length ∧ (∀ x ∈ css, x.size = 4) ∧ (∀ j, j < l.length → NdAt P d w (css.getD j #[]) (l.getD j (zeroT d))) ∧ Src Tryz.prog 4 23 (.slice A l.length c) l.length (ndvs css) w := by
 obtain ⟨q, o, rfl, hp, hq, hc⟩ := h h0
 obtain ⟨css, hl, hcs⟩ := choose_at (#[] : Array Value) l.length (fun j x => ∃ a b c e, x = #[a, b, c, e] ∧ w.cell? ⟨q, o + j * 4, none⟩ = some a ∧ w.cell? ⟨q, o + j * 4 + 1, none⟩ = some b ∧ w.cell? ⟨q, o + j * 4 + 2, none⟩ = some c ∧ w.cell? ⟨q, o + j * 4 + 3, none⟩ = some e ∧ NdAt P d w x (l.getD j (zeroT d))) (fun j hj => by
  obtain ⟨a, b, c, e, k1, k2, k3, k4, k5⟩ := hc j hj
  exact ⟨#[a, b, c, e], a, b, c, e, rfl, k1, k2, k3, k4, k5⟩)
 have hz : ∀ x ∈ css, x.size = 4 := fun x hx => by
  obtain ⟨i, hi, rfl⟩ := mem_getD #[] hx
  obtain ⟨a, b, c, e, he, _⟩ := hcs i (by omega)
  rw [he]
  rfl
 have hnl := ndvs_len css hz
 refine ⟨css, hl, hz, fun j hj => ?_, ?_⟩
 ·obtain ⟨_, _, _, _, _, _, _, _, _, hn⟩ := hcs j hj
  exact hn
 ·refine Src.ofSlice w ndK.sl ⟨q, o, none⟩ l.length c (ndvs css) (by rw [hnl, hl]) (fun i u hu => ?_) (fun u hu => ?_)
  ·have hi : i < css.length * 4 := by
    rw [← hnl]
    rcases Nat.lt_or_ge i (ndvs css).length with h | h
    ·exact h
    ·rw [List.getElem?_eq_none h] at hu; cases hu
   have hj : i / 4 < css.length := by omega
   have hat := ndvs_at css (i / 4) (i % 4) hz hj (by omega)
   rw [show i / 4 * 4 + i % 4 = i from by omega, hu] at hat
   obtain ⟨a, b, c, e, he, k1, k2, k3, k4, _⟩ := hcs (i / 4) (by omega)
   rw [he] at hat
   rw [Addr.add_mid]
   have h4 : i % 4 = 0 ∨ i % 4 = 1 ∨ i % 4 = 2 ∨ i % 4 = 3 := by omega
   rcases h4 with h4 | h4 | h4 | h4 <;> rw [h4] at hat <;> have hu2 := Option.some.inj hat <;> subst hu2
   ·rw [show o + i = o + i / 4 * 4 from by omega]; exact k1
   ·rw [show o + i = o + i / 4 * 4 + 1 from by omega]; exact k2
   ·rw [show o + i = o + i / 4 * 4 + 2 from by omega]; exact k3
   ·rw [show o + i = o + i / 4 * 4 + 3 from by omega]; exact k4
  ·obtain ⟨x, hx, hux⟩ := List.mem_flatMap.1 hu
   obtain ⟨i, hi, rfl⟩ := mem_getD #[] hx
   obtain ⟨_, _, _, _, he, _, _, _, _, hn⟩ := hcs i (by omega)
   exact nd_one hn u hux
end Go.Proofs.YtgoiafndapemjaaGreatDoor
