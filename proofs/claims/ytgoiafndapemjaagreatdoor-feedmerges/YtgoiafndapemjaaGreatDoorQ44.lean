import Derived.Test.YtgoiafndapemjaaGreatDoorQ42
import Derived.Test.YtgoiafndapemjaaGreatDoorQ43
import Derived.Test.YtgoiafndapemjaaGreatDoorQ23
import Derived.Test.YtgoiafndapemjaaGreatDoorQ21
set_option linter.unusedVariables false
set_option linter.unusedSimpArgs false
set_option maxHeartbeats 1000000
namespace Go.Proofs.YtgoiafndapemjaaGreatDoor
open Go.RowKit Go.BigFrame
attribute [local go_sem ↓] loadN_eq
def readP (d : Nat) (t : Tr d) : FeV × Nat := if checkT d t ≠ 0 then (zeroF, 1) else match readT d t with
 | none => (zeroF, 5)
 | some f => (f, 0)
theorem check_at (d : Nat) (t : Tr d) (hw : wtT d t ≤ 12000) (P : Nat → Prop) (cs : Array Value) (W : World) (hnd : NdAt P d W cs t) : Calls Tryz.prog 24 #[.agg cs] W fun e w' => e = .returned (.int .i64 (checkT d t : Nat)) ∧ Below W.heap.size W w' := by
 obtain ⟨h1, h2, h3, _⟩ := wt_print hw
 exact check13_any d t cs W (hnd.mono fun q _ hl => hl) h1 h2 h3
theorem name_eq (x l : List UInt8) : ((asS x).toList == l) = decide (x = l) := tl_eq x l
theorem rss_feed : rssN ≠ feedN := by decide
theorem readP_no {d : Nat} {t : Tr d} (h : checkT d t ≠ 0) : readP d t = (zeroF, 1) := by unfold readP; rw [if_pos h]
theorem readP_rss {d : Nat} {t : Tr d} (h : checkT d t = 0) (hn : nmT d t = rssN) (k : Tr (d - 1)) (r : List (Tr (d - 1))) (hf : fndT chanN (d - 1) (kidsT d t) = k :: r) : readP d t = (rssF (d - 1) k, 0) := by
 unfold readP readT firstT
 rw [if_neg (fun hh => hh h), if_pos hn, hf]
 rfl
theorem readP_rss0 {d : Nat} {t : Tr d} (h : checkT d t = 0) (hn : nmT d t = rssN) (hf : fndT chanN (d - 1) (kidsT d t) = []) : readP d t = (zeroF, 5) := by
 unfold readP readT firstT
 rw [if_neg (fun hh => hh h), if_pos hn, hf]
 rfl
theorem readP_atom {d : Nat} {t : Tr d} (h : checkT d t = 0) (hn : nmT d t = feedN) : readP d t = (atomF d t, 0) := by
 unfold readP readT
 rw [if_neg (fun hh => hh h), if_neg (fun hh => rss_feed (hh.symm.trans hn)), if_pos hn]
theorem readP_else {d : Nat} {t : Tr d} (h : checkT d t = 0) (h1 : nmT d t ≠ rssN) (h2 : nmT d t ≠ feedN) : readP d t = (zeroF, 5) := by
 unfold readP readT
 rw [if_neg (fun hh => hh h), if_neg h1, if_neg h2]
theorem nd_name {P : Nat → Prop} {d : Nat} {w : World} {A B C D : Value} {t : Tr d} (h : NdAt P d w #[A, B, C, D] t) : A = .string (asS (nmT d t)) := by
 obtain ⟨aA, ac, kA, kc, hcs, _⟩ := h.parts
 exact congrArg (fun z : Array Value => z.getD 0 undef) hcs
set_option maxHeartbeats 4000000 in
set_option maxRecDepth 100000 in
theorem read_any (d : Nat) (t : Tr d) (hw : wtT d t ≤ 12000) (P : Nat → Prop) (cs : Array Value) (w : World) (hT : TabF w) (hnd : NdAt P d w cs t) : Calls Tryz.prog 9 #[.agg cs] w fun e w' => ∃ v, e = .returned (.tuple #[v, .int .i64 ((readP d t).2 : Nat)]) ∧ FeedO w' w.heap.size v (readP d t).1 ∧ Below w.heap.size w w' := by
 have HCK : Hid (∀ W, Below w.heap.size w W → Calls Tryz.prog 24 #[.agg cs] W fun e w' => e = .returned (.int .i64 (checkT d t : Nat)) ∧ Below W.heap.size W w') := fun W hb => check_at d t hw P cs W (hnd.below hb (Nat.le_refl _))
 have HFI : Hid (∀ W, Below w.heap.size w W → Calls Tryz.prog 25 #[.agg cs, .string ⟨#[99, 104, 97, 110, 110, 101, 108]⟩] W fun e w' => ∃ v, e = .returned v ∧ (Below W.heap.size W w' ∧ ∃ A' c, v = .slice A' (fndT chanN (d - 1) (kidsT d t)).length c ∧ NdsAt (fun _ => True) (d - 1) w' A' (fndT chanN (d - 1) (kidsT d t)))) := fun W hb => find_at chanN d t hw P cs w W hnd hb
 have HAT : Hid (∀ W, Below w.heap.size w W → Calls Tryz.prog 27 #[.agg cs] W fun e w' => ∃ v, e = .returned v ∧ FeedO w' W.heap.size v (atomF d t) ∧ Below W.heap.size W w') := fun W hb => atom_any d t hw P cs W (hT.below hb) (hnd.below hb (Nat.le_refl _))
 have HRS : Hid (∀ k ∈ fndT chanN (d - 1) (kidsT d t), ∀ (P' : Nat → Prop) (cs' : Array Value) (W : World), Below w.heap.size w W → NdAt P' (d - 1) W cs' k → Calls Tryz.prog 26 #[.agg cs'] W fun e w' => ∃ v, e = .returned v ∧ FeedO w' W.heap.size v (rssF (d - 1) k) ∧ Below W.heap.size W w') := fun k hk P' cs' W hb h => rss_any (d - 1) k (fnd_wt hw k hk) P' cs' W (hT.below hb) h
 have hlen : (fndT chanN (d - 1) (kidsT d t)).length ≤ 12000 := fnd_few hw
 obtain ⟨A, B, C, D, rfl, o1, o2, o3, o4⟩ := nd_four (hnd.mono fun q _ hl => hl)
 have hA := nd_name hnd
 subst hA
 have hq1 := name_eq (nmT d t) [114, 115, 115]
 have hq2 := name_eq (nmT d t) [102, 101, 101, 100]
 generalize hNM : asS (nmT d t) = NM at *
 clear hNM hnd hT o1 o2 o3 o4 hw
 obtain ⟨W1, hW1⟩ : ∃ W1, (w.alloc (.cells #[.string NM, B, C, D] 25)).alloc (.cells #[.string ⟨#[]⟩, .string ⟨#[]⟩, .slice none 0 0] 30) = W1 := ⟨_, rfl⟩
 have HR1 : Hid (W1.heap[w.heap.size]? = some (.cells #[.string NM, B, C, D] 25 (0, 0))) := by rw [← hW1]; exact heap_first w _ _
 have HZ1 : Hid (W1.heap[w.heap.size + 1]? = some (.cells #[.string ⟨#[]⟩, .string ⟨#[]⟩, .slice none 0 0] 30 (0, 0))) := by rw [← hW1]; exact heap_second w _ _
 have HB1 : Hid (Below w.heap.size w W1) := by rw [← hW1]; exact ((Below.refl _ _).alloc (Nat.le_refl _) _).alloc (by simp) _
 have hld1 := loadN_run HR1.out rfl
 by_cases hck : checkT d t = 0
 ·have HRO := hid (fun hn k r hf => readP_rss hck hn k r hf)
  have HRO0 := hid (fun hn hf => readP_rss0 hck hn hf)
  have HRA := hid (fun hn => readP_atom hck hn)
  have HRE := hid (fun h1 h2 => readP_else hck h1 h2)
  rw [hck] at HCK
  clear hck
  by_cases hr : nmT d t = rssN
  ·have hq1' : (NM.toList == [114, 115, 115]) = true := by rw [hq1]; exact decide_eq_true hr
   have hq2' : (NM.toList == [102, 101, 101, 100]) = false := by rw [hq2]; exact decide_eq_false fun h => rss_feed (hr.symm.trans h)
   clear hq1 hq2
   cases hfl : fndT chanN (d - 1) (kidsT d t) with
   | nil =>
    rw [HRO0.out hr hfl]
    rw [hfl] at HFI
    clear hr hfl HRO HRO0 HRA HRE HRS
    show Calls Tryz.prog 9 #[.agg #[.string NM, B, C, D]] w fun e w' => ∃ v, e = .returned (.tuple #[v, .int .i64 5]) ∧ FeedO w' w.heap.size v zeroF ∧ Below w.heap.size w w'
    go_enter Tryz.func9, Tryz.ntmps9
    go_wp2_with fail
    refine (HCK.out W1 HB1.out).mono ?_
    rintro e W2 ⟨rfl, hb2⟩
    have HR2 := hid (row_keep hb2 HR1.out)
    have HZ2 := hid (row_keep hb2 HZ1.out)
    have HB2 := hid (bel2 HB1.out hb2)
    have hld2 := loadN_run HR2.out rfl
    have c0 : W2.cell? ⟨w.heap.size, 0, none⟩ = some (.string NM) := cell_of_row _ _ _ _ _ _ HR2.out
    clear hb2 hld1 hW1
    go_wp2_with fail
    refine (HFI.out W2 HB2.out).mono ?_
    rintro e W3 ⟨v, rfl, hb3, A1, c1, rfl, hn3⟩
    have HZ3 := hid (row_keep hb3 HZ2.out)
    have HB3 := hid (bel2 HB2.out hb3)
    clear hb3 hld2 c0 hn3
    go_wp2_with (first
     | (refine wpList_built rfl 30 _ rfl #[.string ⟨#[]⟩, .string ⟨#[]⟩, .slice none 0 0] built_fd0 ?_)
     | (refine wpList_store_abs rfl 30 (.tmp 2) (.tmp 26) rfl (w.heap.size + 1) 0 #[.string ⟨#[]⟩, .string ⟨#[]⟩, .slice none 0 0] rfl rfl 30 _ HZ3.out (Nat.le_refl 3) infoF (fcs_any _ _ _ _ _) ?_; intro W9 hO9 hW9)
     | fail)
    rw [over_whole #[.string ⟨#[]⟩, .string ⟨#[]⟩, .slice none 0 0] #[.string ⟨#[]⟩, .string ⟨#[]⟩, .slice none 0 0] rfl] at hW9
    refine bodyPost_ret (ret_fd2 (p := 2) (q := 3) Tryz.results9 _ _ (w.heap.size + 1) #[.string ⟨#[]⟩, .string ⟨#[]⟩, .slice none 0 0] rfl (0, 0) (.int .i64 5) rfl rfl hW9) rfl ⟨_, rfl, FeedO.zero _ _, HB3.out.trans (hO9.below (by omega))⟩
   | cons k r =>
    rw [HRO.out hr k r hfl]
    have HRK := hid (HRS.out k (by rw [hfl]; exact List.mem_cons_self))
    rw [hfl] at HFI hlen
    have hpos : 0 < (k :: r).length := by simp
    have hi0 : (0 : Int) < ((k :: r).length : Int) := by rw [List.length_cons]; omega
    have HGD : Hid ((k :: r).getD 0 (zeroT (d - 1)) = k) := rfl
    clear hr hfl HRO HRO0 HRA HRE HRS
    generalize rssF (d - 1) k = RF at HRK ⊢
    show Calls Tryz.prog 9 #[.agg #[.string NM, B, C, D]] w fun e w' => ∃ v, e = .returned (.tuple #[v, .int .i64 0]) ∧ FeedO w' w.heap.size v RF ∧ Below w.heap.size w w'
    go_enter Tryz.func9, Tryz.ntmps9
    go_wp2_with fail
    refine (HCK.out W1 HB1.out).mono ?_
    rintro e W2 ⟨rfl, hb2⟩
    have HR2 := hid (row_keep hb2 HR1.out)
    have HZ2 := hid (row_keep hb2 HZ1.out)
    have HB2 := hid (bel2 HB1.out hb2)
    have hld2 := loadN_run HR2.out rfl
    have c0 : W2.cell? ⟨w.heap.size, 0, none⟩ = some (.string NM) := cell_of_row _ _ _ _ _ _ HR2.out
    clear hb2 hld1 hW1
    go_wp2_with fail
    refine (HFI.out W2 HB2.out).mono ?_
    rintro e W3 ⟨v, rfl, hb3, A1, c1, rfl, hn3⟩
    obtain ⟨q, o, a1, a2, a3, a4, rfl, hql, hld3, hk3⟩ := hn3.load 0 hpos
    rw [Nat.zero_mul, Nat.add_zero] at hld3
    rw [HGD.out] at hk3
    have HZ3 := hid (row_keep hb3 HZ2.out)
    have HB3 := hid (bel2 HB2.out hb3)
    have hz3 : w.heap.size + 1 < W3.heap.size := (Array.getElem?_eq_some_iff.1 HZ3.out).1
    have HRK3 := hid (HRK.out _ _ W3 HB3.out hk3)
    clear hb3 hld2 c0 hn3 hk3 HGD HRK
    generalize (k :: r).length = n at hlen hpos hi0 ⊢
    go_wp2_with fail
    refine HRK3.out.mono ?_
    rintro e W4 ⟨v, rfl, ⟨A4, c4, rfl, hat⟩, hb4⟩
    have HAT4 := hid hat
    have HZ4 := hid (row_keep hb4 HZ3.out)
    have HB4 := hid (bel2 HB3.out hb4)
    clear hat hb4 hld3 HRK3
    generalize hTI : asS RF.title = TI
    generalize hLI : asS RF.link = LI
    have HTI := hid hTI
    have HLI := hid hLI
    clear hTI hLI
    go_wp2_with (first
     | (refine wpList_store_abs rfl 30 (.tmp 2) (.tmp 21) rfl (w.heap.size + 1) 0 #[.string TI, .string LI, .slice A4 RF.entries.length c4] rfl rfl 30 _ HZ4.out (Nat.le_refl 3) infoF (fcs_any _ _ _ _ _) ?_; intro W9 hO9 hW9)
     | fail)
    rw [over_whole #[.string ⟨#[]⟩, .string ⟨#[]⟩, .slice none 0 0] #[.string TI, .string LI, .slice A4 RF.entries.length c4] rfl] at hW9
    refine bodyPost_ret (ret_fd2 (p := 2) (q := 3) Tryz.results9 _ _ (w.heap.size + 1) #[.string TI, .string LI, .slice A4 RF.entries.length c4] rfl (0, 0) (.int .i64 0) rfl rfl hW9) rfl ⟨_, rfl, ⟨A4, c4, by rw [HTI.out, HLI.out], (HAT4.out.only hO9 hz3).le (Nat.le_trans HB3.out.size (Nat.le_refl _))⟩, HB4.out.trans (hO9.below (by omega))⟩
  ·have hq1' : (NM.toList == [114, 115, 115]) = false := by rw [hq1]; exact decide_eq_false hr
   by_cases hf : nmT d t = feedN
   ·have hq2' : (NM.toList == [102, 101, 101, 100]) = true := by rw [hq2]; exact decide_eq_true hf
    rw [HRA.out hf]
    clear hq1 hq2 hr hf HRO HRO0 HRA HRE HRS HFI hlen
    generalize atomF d t = RF at HAT ⊢
    show Calls Tryz.prog 9 #[.agg #[.string NM, B, C, D]] w fun e w' => ∃ v, e = .returned (.tuple #[v, .int .i64 0]) ∧ FeedO w' w.heap.size v RF ∧ Below w.heap.size w w'
    go_enter Tryz.func9, Tryz.ntmps9
    go_wp2_with fail
    refine (HCK.out W1 HB1.out).mono ?_
    rintro e W2 ⟨rfl, hb2⟩
    have HR2 := hid (row_keep hb2 HR1.out)
    have HZ2 := hid (row_keep hb2 HZ1.out)
    have HB2 := hid (bel2 HB1.out hb2)
    have hld2 := loadN_run HR2.out rfl
    have c0 : W2.cell? ⟨w.heap.size, 0, none⟩ = some (.string NM) := cell_of_row _ _ _ _ _ _ HR2.out
    have hz3 : w.heap.size + 1 < W2.heap.size := (Array.getElem?_eq_some_iff.1 HZ2.out).1
    clear hb2 hld1 hW1
    go_wp2_with fail
    refine (HAT.out W2 HB2.out).mono ?_
    rintro e W4 ⟨v, rfl, ⟨A4, c4, rfl, hat⟩, hb4⟩
    have HAT4 := hid hat
    have HZ4 := hid (row_keep hb4 HZ2.out)
    have HB4 := hid (bel2 HB2.out hb4)
    clear hat hb4 hld2 c0
    generalize hTI : asS RF.title = TI
    generalize hLI : asS RF.link = LI
    have HTI := hid hTI
    have HLI := hid hLI
    clear hTI hLI
    go_wp2_with (first
     | (refine wpList_store_abs rfl 30 (.tmp 2) (.tmp 25) rfl (w.heap.size + 1) 0 #[.string TI, .string LI, .slice A4 RF.entries.length c4] rfl rfl 30 _ HZ4.out (Nat.le_refl 3) infoF (fcs_any _ _ _ _ _) ?_; intro W9 hO9 hW9)
     | fail)
    rw [over_whole #[.string ⟨#[]⟩, .string ⟨#[]⟩, .slice none 0 0] #[.string TI, .string LI, .slice A4 RF.entries.length c4] rfl] at hW9
    refine bodyPost_ret (ret_fd2 (p := 2) (q := 3) Tryz.results9 _ _ (w.heap.size + 1) #[.string TI, .string LI, .slice A4 RF.entries.length c4] rfl (0, 0) (.int .i64 0) rfl rfl hW9) rfl ⟨_, rfl, ⟨A4, c4, by rw [HTI.out, HLI.out], (HAT4.out.only hO9 hz3).le (Nat.le_trans HB2.out.size (Nat.le_refl _))⟩, HB4.out.trans (hO9.below (by omega))⟩
   ·have hq2' : (NM.toList == [102, 101, 101, 100]) = false := by rw [hq2]; exact decide_eq_false hf
    rw [HRE.out hr hf]
    clear hq1 hq2 hr hf HRO HRO0 HRA HRE HRS HFI HAT hlen
    show Calls Tryz.prog 9 #[.agg #[.string NM, B, C, D]] w fun e w' => ∃ v, e = .returned (.tuple #[v, .int .i64 5]) ∧ FeedO w' w.heap.size v zeroF ∧ Below w.heap.size w w'
    go_enter Tryz.func9, Tryz.ntmps9
    go_wp2_with fail
    refine (HCK.out W1 HB1.out).mono ?_
    rintro e W2 ⟨rfl, hb2⟩
    have HR2 := hid (row_keep hb2 HR1.out)
    have HZ2 := hid (row_keep hb2 HZ1.out)
    have HB2 := hid (bel2 HB1.out hb2)
    have c0 : W2.cell? ⟨w.heap.size, 0, none⟩ = some (.string NM) := cell_of_row _ _ _ _ _ _ HR2.out
    clear hb2 hld1 hW1
    go_wp2_with (first
     | (refine wpList_built rfl 30 _ rfl #[.string ⟨#[]⟩, .string ⟨#[]⟩, .slice none 0 0] built_fd0 ?_)
     | (refine wpList_store_abs rfl 30 (.tmp 2) (.tmp 26) rfl (w.heap.size + 1) 0 #[.string ⟨#[]⟩, .string ⟨#[]⟩, .slice none 0 0] rfl rfl 30 _ HZ2.out (Nat.le_refl 3) infoF (fcs_any _ _ _ _ _) ?_; intro W9 hO9 hW9)
     | fail)
    rw [over_whole #[.string ⟨#[]⟩, .string ⟨#[]⟩, .slice none 0 0] #[.string ⟨#[]⟩, .string ⟨#[]⟩, .slice none 0 0] rfl] at hW9
    refine bodyPost_ret (ret_fd2 (p := 2) (q := 3) Tryz.results9 _ _ (w.heap.size + 1) #[.string ⟨#[]⟩, .string ⟨#[]⟩, .slice none 0 0] rfl (0, 0) (.int .i64 5) rfl rfl hW9) rfl ⟨_, rfl, FeedO.zero _ _, HB2.out.trans (hO9.below (by omega))⟩
 ·rw [readP_no hck]
  have hq : (((checkT d t : Nat) : Int) == 0) = false := by rw [beq_eq_false_iff_ne]; omega
  clear hck hq1 hq2
  generalize checkT d t = ck at HCK hq
  show Calls Tryz.prog 9 #[.agg #[.string NM, B, C, D]] w fun e w' => ∃ v, e = .returned (.tuple #[v, .int .i64 1]) ∧ FeedO w' w.heap.size v zeroF ∧ Below w.heap.size w w'
  go_enter Tryz.func9, Tryz.ntmps9
  go_wp2_with fail
  refine (HCK.out W1 HB1.out).mono ?_
  rintro e W2 ⟨rfl, hb2⟩
  have HZ2 := hid (row_keep hb2 HZ1.out)
  have HB2 := hid (bel2 HB1.out hb2)
  clear hb2 hld1 hW1
  go_wp2_with (first
   | (refine wpList_built rfl 30 _ rfl #[.string ⟨#[]⟩, .string ⟨#[]⟩, .slice none 0 0] built_fd0 ?_)
   | (refine wpList_store_abs rfl 30 (.tmp 2) (.tmp 8) rfl (w.heap.size + 1) 0 #[.string ⟨#[]⟩, .string ⟨#[]⟩, .slice none 0 0] rfl rfl 30 _ HZ2.out (Nat.le_refl 3) infoF (fcs_any _ _ _ _ _) ?_; intro W9 hO9 hW9)
   | fail)
  rw [over_whole #[.string ⟨#[]⟩, .string ⟨#[]⟩, .slice none 0 0] #[.string ⟨#[]⟩, .string ⟨#[]⟩, .slice none 0 0] rfl] at hW9
  refine bodyPost_ret (ret_fd2 (p := 2) (q := 3) Tryz.results9 _ _ (w.heap.size + 1) #[.string ⟨#[]⟩, .string ⟨#[]⟩, .slice none 0 0] rfl (0, 0) (.int .i64 1) rfl rfl hW9) rfl ⟨_, rfl, FeedO.zero _ _, HB2.out.trans (hO9.below (by omega))⟩
attribute [local go_sem ↓] loadN_eq
def parseP (s : List UInt8) : FeV × Nat := match parX s with
 | .error er => (zeroF, er)
 | .ok t => readP 40 t
theorem nd_shape {P : Nat → Prop} {d : Nat} {w : World} {cs : Array Value} {t : Tr d} (h : NdAt P d w cs t) : ∃ (a1 : ByteArray) (b1 : Option Addr) (b2 b3 : Nat) (a3 : ByteArray) (d1 : Option Addr) (d2 d3 : Nat), cs = #[.string a1, .slice b1 b2 b3, .string a3, .slice d1 d2 d3] := by
 obtain ⟨aA, ac, kA, kc, hcs, _⟩ := h.parts
 exact ⟨_, _, _, _, _, _, _, _, hcs⟩
set_option maxHeartbeats 4000000 in
set_option maxRecDepth 100000 in
theorem parseF_any (s : List UInt8) (n : Nat) (hn : s.length = n) (hwt : ∀ t, parX s = .ok t → wtT 40 t ≤ 12000) (A : Option Addr) (c : Nat) (hz : n = 0 → A = none ∧ c = 0 ∨ ∃ x, A = some x) (w : World) (hT : TabF w) (hA : BytesAt w A s) : Calls Tryz.prog 14 #[.slice A n c] w fun e w' => ∃ v, e = .returned (.tuple #[v, .int .i64 ((parseP s).2 : Nat)]) ∧ FeedO w' w.heap.size v (parseP s).1 ∧ Below w.heap.size w w' := by
 have hcv : ∀ W, Below w.heap.size w W → (convert 42 9 (.slice A n c)).run Tryz.prog W = .ok (.string (asS s)) W := fun W hb => by
  have := str_at (c := c) (hA.below hb (Nat.le_refl _)) (fun h0 => hz (by omega))
  rw [hn] at this
  exact this
 have HPA : Hid (∀ W, Below w.heap.size w W → Calls Tryz.prog 35 #[.string (asS s)] W (ParPost (parX s) W)) := fun W hb => parse13_any attributes_ok s W (hT.below hb).big (hT.below hb).e
 have HRD : Hid (∀ t, parX s = .ok t → ∀ (P : Nat → Prop) (cs : Array Value) (W : World), Below w.heap.size w W → NdAt P 40 W cs t → Calls Tryz.prog 9 #[.agg cs] W fun e w' => ∃ v, e = .returned (.tuple #[v, .int .i64 ((readP 40 t).2 : Nat)]) ∧ FeedO w' W.heap.size v (readP 40 t).1 ∧ Below W.heap.size W w') := fun t ht P cs W hb h => read_any 40 t (hwt t ht) P cs W (hT.below hb) h
 have HB1 := hid ((Below.refl w.heap.size w).alloc (Nat.le_refl _) (.cells #[.string ⟨#[]⟩, .string ⟨#[]⟩, .slice none 0 0] 30))
 have HZ1 := hid (heap_alloc_new w (.cells #[.string ⟨#[]⟩, .string ⟨#[]⟩, .slice none 0 0] 30))
 obtain ⟨W1, hW1⟩ : ∃ W1, w.alloc (.cells #[.string ⟨#[]⟩, .string ⟨#[]⟩, .slice none 0 0] 30) = W1 := ⟨_, rfl⟩
 rw [hW1] at HB1 HZ1
 have hcv1 := hcv W1 HB1.out
 clear hcv hT hA hz hn hwt
 unfold parseP
 generalize asS s = S at hcv1 HPA
 cases hp : parX s with
 | error er =>
  rw [hp] at HPA
  clear HRD hp
  show Calls Tryz.prog 14 #[.slice A n c] w fun e w' => ∃ v, e = .returned (.tuple #[v, .int .i64 (er : Nat)]) ∧ FeedO w' w.heap.size v zeroF ∧ Below w.heap.size w w'
  go_enter Tryz.func14, Tryz.ntmps14
  go_wp2_with fail
  refine (HPA.out W1 HB1.out).mono ?_
  rintro e W2 ⟨hb2, ⟨t, cs, h, _⟩ | ⟨er', h, h1, rfl⟩⟩
  ·cases h
  ·injection h with h
   subst h
   have HZ2 := hid (row_keep hb2 HZ1.out)
   have HB2 := hid (bel2 HB1.out hb2)
   have hq : (((er : Nat) : Int) == 0) = false := by rw [beq_eq_false_iff_ne]; omega
   clear hb2 h1
   have HV0 := hid (heap_alloc_new W2 (.cells #[.string ⟨#[]⟩, .slice none 0 0, .string ⟨#[]⟩, .slice none 0 0] 25))
   have HZ0 : Hid ((W2.alloc (.cells #[.string ⟨#[]⟩, .slice none 0 0, .string ⟨#[]⟩, .slice none 0 0] 25)).heap[w.heap.size]? = some (.cells #[.string ⟨#[]⟩, .string ⟨#[]⟩, .slice none 0 0] 30 (0, 0))) := row_keep ((Below.refl W2.heap.size W2).alloc (Nat.le_refl _) _) HZ2.out
   have HB0 : Hid (Below w.heap.size w (W2.alloc (.cells #[.string ⟨#[]⟩, .slice none 0 0, .string ⟨#[]⟩, .slice none 0 0] 25))) := HB2.out.alloc HB2.out.size _
   have hz2 : w.heap.size < W2.heap.size := (Array.getElem?_eq_some_iff.1 HZ2.out).1
   go_wp2_with (first
    | (refine store_msg infoN rfl _ _ rfl W2.heap.size (.string ⟨#[]⟩) (.slice none 0 0) (.string ⟨#[]⟩) (.slice none 0 0) rfl rfl rfl rfl rfl rfl _ HV0.out rfl ?_; intro V hOV hVr; (have HZV := hid ((hOV.block w.heap.size (by omega)).trans HZ0.out)); (have HBV := hid (HB0.out.trans (hOV.below (B := w.heap.size) (by omega)))); clear hOV hVr)
    | (refine wpList_built rfl 30 _ rfl #[.string ⟨#[]⟩, .string ⟨#[]⟩, .slice none 0 0] built_fd0 ?_)
    | (refine wpList_store_abs rfl 30 (.tmp 2) (.tmp 14) rfl w.heap.size 0 #[.string ⟨#[]⟩, .string ⟨#[]⟩, .slice none 0 0] rfl rfl 30 _ HZV.out (Nat.le_refl 3) infoF (fcs_any _ _ _ _ _) ?_; intro W9 hO9 hW9)
    | fail)
   rw [over_whole #[.string ⟨#[]⟩, .string ⟨#[]⟩, .slice none 0 0] #[.string ⟨#[]⟩, .string ⟨#[]⟩, .slice none 0 0] rfl] at hW9
   refine bodyPost_ret (ret_fd2 (p := 2) (q := 3) Tryz.results14 _ _ w.heap.size #[.string ⟨#[]⟩, .string ⟨#[]⟩, .slice none 0 0] rfl (0, 0) (.int .i64 (er : Nat)) rfl rfl hW9) rfl ⟨_, rfl, FeedO.zero _ _, HBV.out.trans (hO9.below (by omega))⟩
 | ok t =>
  have HRD2 := hid (HRD.out t hp)
  rw [hp] at HPA
  clear HRD hp
  show Calls Tryz.prog 14 #[.slice A n c] w fun e w' => ∃ v, e = .returned (.tuple #[v, .int .i64 ((readP 40 t).2 : Nat)]) ∧ FeedO w' w.heap.size v (readP 40 t).1 ∧ Below w.heap.size w w'
  generalize (readP 40 t).1 = RF at HRD2 ⊢
  generalize (readP 40 t).2 = er at HRD2 ⊢
  go_enter Tryz.func14, Tryz.ntmps14
  go_wp2_with fail
  refine (HPA.out W1 HB1.out).mono ?_
  rintro e W2 ⟨hb2, ⟨t', cs, h, rfl, hnd⟩ | ⟨er', h, h1, rfl⟩⟩
  ·injection h with h
   subst h
   have HZ2 := hid (row_keep hb2 HZ1.out)
   have HB2 := hid (bel2 HB1.out hb2)
   obtain ⟨a1, b1, b2, b3, a3, d1, d2, d3, rfl⟩ := nd_shape hnd
   have HV0 := hid (heap_alloc_new W2 (.cells #[.string ⟨#[]⟩, .slice none 0 0, .string ⟨#[]⟩, .slice none 0 0] 25))
   have HZ0 : Hid ((W2.alloc (.cells #[.string ⟨#[]⟩, .slice none 0 0, .string ⟨#[]⟩, .slice none 0 0] 25)).heap[w.heap.size]? = some (.cells #[.string ⟨#[]⟩, .string ⟨#[]⟩, .slice none 0 0] 30 (0, 0))) := row_keep ((Below.refl W2.heap.size W2).alloc (Nat.le_refl _) _) HZ2.out
   have HB0 : Hid (Below w.heap.size w (W2.alloc (.cells #[.string ⟨#[]⟩, .slice none 0 0, .string ⟨#[]⟩, .slice none 0 0] 25))) := HB2.out.alloc HB2.out.size _
   have hb0 : Below W2.heap.size W2 (W2.alloc (.cells #[.string ⟨#[]⟩, .slice none 0 0, .string ⟨#[]⟩, .slice none 0 0] 25)) := (Below.refl _ _).alloc (Nat.le_refl _) _
   have HND := hid (fun V (h : Below W2.heap.size W2 V) => hnd.below h (Nat.le_refl _))
   have hz2 : w.heap.size < W2.heap.size := (Array.getElem?_eq_some_iff.1 HZ2.out).1
   clear hnd hb2
   go_wp2_with (first
    | (refine store_msg infoN rfl _ _ rfl W2.heap.size (.string a1) (.slice b1 b2 b3) (.string a3) (.slice d1 d2 d3) rfl rfl rfl rfl rfl rfl _ HV0.out rfl ?_; intro V hOV hVr; (have HZV := hid ((hOV.block w.heap.size (by omega)).trans HZ0.out)); (have HBV := hid (HB0.out.trans (hOV.below (B := w.heap.size) (by omega)))); (have HNV := hid (HND.out V (hb0.trans (hOV.below (Nat.le_refl _))))); (have hldV := loadN_run hVr rfl); clear hOV hVr)
    | fail)
   have HR3 := hid (HRD2.out _ _ V HBV.out HNV.out)
   have hzV : w.heap.size < V.heap.size := (Array.getElem?_eq_some_iff.1 HZV.out).1
   refine HR3.out.mono ?_
   rintro e W4 ⟨v, rfl, ⟨A4, c4, rfl, hat⟩, hb4⟩
   have HAT4 := hid hat
   have HZ4 := hid (row_keep hb4 HZV.out)
   have HB4 := hid (bel2 HBV.out hb4)
   clear hat hb4 HR3
   generalize hTI : asS RF.title = TI
   generalize hLI : asS RF.link = LI
   have HTI := hid hTI
   have HLI := hid hLI
   clear hTI hLI
   go_wp2_with (first
    | (refine wpList_store_abs rfl 30 (.tmp 2) (.tmp 18) rfl w.heap.size 0 #[.string TI, .string LI, .slice A4 RF.entries.length c4] rfl rfl 30 _ HZ4.out (Nat.le_refl 3) infoF (fcs_any _ _ _ _ _) ?_; intro W9 hO9 hW9)
    | fail)
   rw [over_whole #[.string ⟨#[]⟩, .string ⟨#[]⟩, .slice none 0 0] #[.string TI, .string LI, .slice A4 RF.entries.length c4] rfl] at hW9
   refine bodyPost_ret (ret_fd2 (p := 2) (q := 3) Tryz.results14 _ _ w.heap.size #[.string TI, .string LI, .slice A4 RF.entries.length c4] rfl (0, 0) (.int .i64 (er : Nat)) rfl rfl hW9) rfl ⟨_, rfl, ⟨A4, c4, by rw [HTI.out, HLI.out], (HAT4.out.only hO9 hzV).le HBV.out.size⟩, HB4.out.trans (hO9.below (by omega))⟩
  ·cases h
def awF1 : List UInt8 := [60, 114, 115, 115, 62, 60, 99, 104, 97, 110, 110, 101, 108, 62, 60, 116, 105, 116, 108, 101, 62, 84, 60, 47, 116, 105, 116, 108, 101, 62, 60, 105, 116, 101, 109, 62, 60, 103, 117, 105, 100, 62, 32, 120, 32, 60, 47, 103, 117, 105, 100, 62, 60, 47, 105, 116, 101, 109, 62, 60, 47, 99, 104, 97, 110, 110, 101, 108, 62, 60, 47, 114, 115, 115, 62]
def awF2 : List UInt8 := [60, 104, 116, 109, 108, 47, 62]
def awGu (d : Nat) : Tr (d + 1) := ((guidN, [], []), [leaf d ([], [], [32, 120, 32])])
def awTi (d : Nat) : Tr (d + 1) := ((titleN, [], []), [leaf d ([], [], [84])])
def awIt (d : Nat) : Tr (d + 2) := ((itemN, [], []), [awGu d])
def awCh (d : Nat) : Tr (d + 3) := ((chanN, [], []), [awTi (d + 1), awIt d])
def awRs (d : Nat) : Tr (d + 4) := ((rssN, [], []), [awCh d])
def awHt (d : Nat) : Tr d := leaf d ([104, 116, 109, 108], [], [])
theorem awf_par1 : parX awF1 = .ok (awRs 36) := by kernel_rfl
theorem awf_par2 : parX awF2 = .ok (awHt 40) := by kernel_rfl
theorem awf_chk1 : checkT 40 (awRs 36) = 0 := by kernel_rfl
theorem awf_chk2 : checkT 40 (awHt 40) = 0 := by kernel_rfl
theorem awf_wt1 : wtT 40 (awRs 36) ≤ 12000 := by
 have : wtT 40 (awRs 36) = 34 := by kernel_rfl
 omega
theorem awf_wt2 : wtT 40 (awHt 40) ≤ 12000 := by
 have : wtT 40 (awHt 40) = 5 := by kernel_rfl
 omega
theorem awf_fnd : fndT chanN 39 (kidsT 40 (awRs 36)) = [awCh 36] := by kernel_rfl
theorem awf_nm : nmT 40 (awRs 36) = rssN := by kernel_rfl
theorem awf_items : fndT itemN 38 (kidsT 39 (awCh 36)) = [awIt 36] := by kernel_rfl
theorem awf_t : kidL titleN 39 (awCh 36) = [84] := by kernel_rfl
theorem awf_l : kidL linkN 39 (awCh 36) = [] := by kernel_rfl
theorem awf_it : kidL titleN 38 (awIt 36) = [] := by kernel_rfl
theorem awf_il : kidL linkN 38 (awIt 36) = [] := by kernel_rfl
theorem awf_id : kidL descN 38 (awIt 36) = [] := by kernel_rfl
theorem awf_ip : kidL pubN 38 (awIt 36) = [] := by kernel_rfl
theorem awf_ig : kidL guidN 38 (awIt 36) = [32, 120, 32] := by kernel_rfl
theorem awf_s1 : shL [84] = [84] := by decide +kernel
theorem awf_s0 : shL [] = [] := by decide +kernel
theorem awf_tr : trmL [32, 120, 32] = [120] := by decide +kernel
theorem awf_an : anyL [] = none := by kernel_rfl
def awE : EnV := mkE [] [] [] none [120]
theorem awf_e : rssE 38 (awIt 36) = awE := by
 unfold rssE
 rw [awf_it, awf_il, awf_id, awf_ip, awf_ig, awf_s0, awf_tr, awf_an]
 rfl
theorem awf_one (e : EnV) : firstsU EnV.id [e] = [e] := rfl
theorem awf_1 : parseP awF1 = (⟨[84], [], [awE]⟩, 0) := by
 unfold parseP
 rw [awf_par1]
 show readP 40 (awRs 36) = _
 rw [readP_rss awf_chk1 awf_nm (awCh 36) [] awf_fnd]
 show ((⟨shL (kidL titleN 39 (awCh 36)), shL (kidL linkN 39 (awCh 36)), firstsU EnV.id ((fndT itemN 38 (kidsT 39 (awCh 36))).map (rssE 38))⟩ : FeV), 0) = _
 rw [awf_t, awf_l, awf_s1, awf_s0, awf_items, List.map_cons, List.map_nil, awf_e, awf_one]
theorem awf_2 : parseP awF2 = (zeroF, 5) := by
 unfold parseP
 rw [awf_par2]
 show readP 40 (awHt 40) = _
 exact readP_else awf_chk2 (by decide) (by decide)
end Go.Proofs.YtgoiafndapemjaaGreatDoor
