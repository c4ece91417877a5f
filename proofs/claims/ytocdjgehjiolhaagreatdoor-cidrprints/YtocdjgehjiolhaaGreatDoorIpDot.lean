
/- What ip.dotted does. -/
import Derived.Test.YtocdjgehjiolhaaGreatDoorIpLo
import Derived.Test.YtocdjgehjiolhaaGreatDoorOwnV
namespace Go.Proofs.YtocdjgehjiolhaaGreatDoor
open Go.RowKit

theorem cellS : OneCell Tryz.prog 69 9 := ⟨Tryz.underlying69, by
  obtain ⟨i, hi, hz0, hz1, hz2⟩ := info_parts (show (Tryz.prog.info? 9).map (fun i => (i.zero, i.size, i.bytes)) = some (some (.string ByteArray.empty), 1, 16) by kernel_rfl)
  exact ⟨i, _, hi, hz0, hz1, by omega, rfl⟩⟩
def asS (l : List UInt8) : ByteArray := ⟨l.toArray⟩
theorem asS_data (l : List UInt8) : (asS l).data.toList = l := rfl
def strs (L : List (List UInt8)) : List Value := L.map fun x => .string (asS x)
theorem strs_app (L M : List (List UInt8)) : strs (L ++ M) = strs L ++ strs M := by simp [strs]
theorem strs_len (L : List (List UInt8)) : (strs L).length = L.length := by simp [strs]
theorem make_strs (n c : Nat) (hn : n ≤ c) (hc : c ≤ 100000) (w : World) : (Instr.makeSlice 69 (.int .i64 (n : Int)) (.int .i64 (c : Int))).run Tryz.prog w = .ok (.slice (some ⟨w.heap.size, 0, none⟩) n c) (w.alloc (.cells (List.replicate c (.string ByteArray.empty)).toArray 9)) := by
  obtain ⟨i, hi, hz0, hz1, hz2⟩ := info_parts (show (Tryz.prog.info? 9).map (fun i => (i.zero, i.size, i.bytes)) = some (some (.string ByteArray.empty), 1, 16) by kernel_rfl)
  have e : madeCells #[Value.string ByteArray.empty] c = (List.replicate c (Value.string ByteArray.empty)).toArray := by
    apply Array.ext
    · rw [size_madeCells]; simp
    · intro i h1 h2
      simp [madeCells, Nat.mod_one]
  rw [run_makeSlice w 69 9 i (.string ByteArray.empty) Tryz.underlying69 hi hz0 .i64 .i64 (n : Int) (c : Int) (by omega) (by omega) (by rw [hz1]; omega) (by rw [hz2]; omega) (by omega), hz1, Int.toNat_natCast, Int.toNat_natCast, Nat.mul_one, ← e]
  rfl
theorem own_made (w : World) (c b : Nat) (hb : b ≤ w.heap.size) : OwnV (w.alloc (.cells (List.replicate c (.string ByteArray.empty)).toArray 9)) 9 b w.heap.size 0 c (strs []) :=
  ⟨hb, rfl, _, heap_alloc_new w _, by simp⟩
theorem join_lib (b : UInt8) : ∀ L : List (List UInt8), Lib.join L [b] = joinL b L
  | [] => rfl
  | [x] => by rw [Lib.join_one]; rfl
  | x :: y :: r => by
    have ih := join_lib b (y :: r)
    rw [joinL, ← ih, Lib.join_cons, Lib.join_cons]
    simp [Lib.joinTail]
theorem itoa_fin : ∀ n : Fin 256, Lib.itoa (n.val : Int) = digs 10 n.val := by decide +kernel
theorem itoa_digs (n : UInt8) : Lib.itoa (n.toNat : Int) = digs 10 n.toNat := itoa_fin ⟨n.toNat, n.toNat_lt⟩
theorem itoaB (n : UInt8) (w : World) (h : TabS w) : Calls Tryz.prog 11 #[.int .i64 n.toNat] w fun e w' => e = .returned (.string (asS (digs 10 n.toNat))) ∧ Below w.heap.size w w' := by
  have := itoa_any n.toNat (by have := n.toNat_lt; omega) w h
  rw [itoa_digs] at this
  exact this
theorem joinL_len (b : UInt8) (m : Nat) : ∀ L : List (List UInt8), (∀ x ∈ L, x.length ≤ m) → (joinL b L).length ≤ L.length * (m + 1)
  | [], _ => by simp [joinL]
  | [x], h => by have := h x (by simp); simp [joinL]; omega
  | x :: y :: r, h => by
    have ih := joinL_len b m (y :: r) (fun z hz => h z (by simp only [List.mem_cons] at hz ⊢; exact Or.inr hz))
    have := h x (by simp)
    simp only [joinL, List.length_append, List.length_cons] at ih ⊢
    have e : (r.length + 1 + 1) * (m + 1) = (r.length + 1) * (m + 1) + (m + 1) := by rw [Nat.add_mul]; omega
    omega
/-- strings.Join of a row of one's own. -/
theorem joinS (b : UInt8) (L : List (List UInt8)) (w : World) (base g cap : Nat) (hL : L.length ≤ 100) (hm : ∀ x ∈ L, x.length ≤ 100) (h : OwnV w 9 base g L.length cap (strs L)) :
    Calls Tryz.prog 51 #[.slice (some ⟨g, 0, none⟩) L.length cap, .string ⟨#[b]⟩] w fun e w' => e = .returned (.string (asS (joinL b L))) ∧ Below w.heap.size w w' := by
  have e : (L.map asS).map (·.data.toList) = L := by
    rw [List.map_map]
    exact List.map_id'' (fun x => rfl) L
  have hl : (joinL b L).length ≤ 10000000 := by
    have := joinL_len b 100 L hm
    have : L.length * (100 + 1) ≤ 100 * 101 := Nat.mul_le_mul_right 101 hL
    omega
  have := Tryz.strings_Join g 0 cap (L.map asS) ⟨#[b]⟩ w (fun j x hx => by
    rw [Nat.zero_add]
    refine h.at j _ ?_
    rw [List.getElem?_map] at hx
    unfold strs
    rw [List.getElem?_map]
    cases hq : L[j]? with
    | none => rw [hq] at hx; cases hx
    | some y => rw [hq] at hx; cases hx; rfl) h.lt (by rw [List.length_map]; omega) (by rw [List.length_map]; exact h.le) (by rw [e, show (⟨#[b]⟩ : ByteArray).data.toList = [b] from rfl, join_lib]; omega)
  rw [e, show (⟨#[b]⟩ : ByteArray).data.toList = [b] from rfl, join_lib, List.length_map] at this
  exact this
/-- The first k numbers, written. -/
def dotsTo (B : List UInt8) (k : Nat) : List (List UInt8) := (List.range k).map fun j => digs 10 (B.getD (12 + j) 0).toNat
theorem dotsTo_len (B : List UInt8) (k : Nat) : (dotsTo B k).length = k := by simp [dotsTo]
theorem dotsTo_succ (B : List UInt8) (k : Nat) : dotsTo B (k + 1) = dotsTo B k ++ [digs 10 (B.getD (12 + k) 0).toNat] := by simp [dotsTo, List.range_succ]
theorem dotsTo_four (B : List UInt8) : joinL 46 (dotsTo B 4) = lastB B := rfl
theorem digs_short (base n : Nat) : (digs base n).length ≤ 20 := by
  unfold digs
  have : ∀ f n, (digsF base f n).length ≤ f := by
    intro f
    induction f with
    | zero => intro n; simp [digsF]
    | succ f ih =>
      intro n
      unfold digsF
      split
      · simp
      · have := ih (n / base); simp; omega
  exact this 20 n
theorem dotsTo_short (B : List UInt8) (k : Nat) : ∀ x ∈ dotsTo B k, x.length ≤ 100 := fun x hx => by
  obtain ⟨j, _, rfl⟩ := List.mem_map.1 hx
  have := digs_short 10 (B.getD (12 + j) 0).toNat
  omega
theorem src_new (w : World) (x : List UInt8) (c : Nat) : Src Tryz.prog 1 69 (.slice (some ⟨w.heap.size, 0, none⟩) 1 c) 1 (strs [x]) (w.alloc (.cells #[.string (asS x)] 9)) :=
  src_lit cellS _ _ c (strs [x]) (heap_alloc_new w _) (fun u hu => by simp [strs] at hu; subst hu; rfl)

set_option maxHeartbeats 2000000 in
theorem dotted_any (v : Bool) (B : List UInt8) (hB : B.length = 16) (w : World) (hT : TabS w) : Calls Tryz.prog 26 #[.agg (acs v B)] w fun e w' => e = .returned (.string (asS (lastB B))) ∧ Below w.heap.size w w' := by
  have HC : Hid (∀ k, k < 4 → (acs v B)[13 + k]? = some (.int .u8 (B.getD (12 + k) 0).toNat)) := fun k hk => by
    have := acs_at v B (12 + k) (by omega)
    rw [show 13 + k = 12 + k + 1 from by omega]; exact this
  have HT := hid hT
  obtain ⟨Z, hZ⟩ : ∃ Z, Z = (List.replicate 4 (Value.string ByteArray.empty)).toArray := ⟨_, rfl⟩
  have hmk : ∀ W, (Instr.makeSlice 69 (.int .i64 0) (.int .i64 4)).run Tryz.prog W = .ok (.slice (some ⟨W.heap.size, 0, none⟩) 0 4) (W.alloc (.cells Z 9)) := fun W => by rw [hZ]; exact make_strs 0 4 (by omega) (by omega) W
  have HZ : Hid (∀ (W : World) b, b ≤ W.heap.size → OwnV (W.alloc (.cells Z 9)) 9 b W.heap.size 0 4 (strs [])) := fun W b hb => by rw [hZ]; exact own_made W 4 b hb
  clear hZ
  have HSL : Hid (∀ (W : World) (g : Nat), (Instr.sliceAt 22 (.pointer (some ⟨g, 1, none⟩)) (some (.int .i64 12)) none none).run Tryz.prog W = .ok (.slice (some ⟨g, 1 + 12, none⟩) (16 - 12) (16 - 12)) W) := fun W g => slice_from 22 16 5 Tryz.underlying22 Tryz.sizeOf5 g 1 12 12 rfl (by omega) W
  generalize acs v B = X at HC ⊢
  clear hT
  go_enter Tryz.func26, Tryz.ntmps26
  go_wp2_with fail
  go_loopw [3, 10] (fun pv iv wx => ∃ k g c : Nat, k ≤ 4 ∧ iv = .int .i64 (k : Int) ∧ pv = .slice (some ⟨g, 0, none⟩) k c ∧ Hid (OwnV wx 9 (w.heap.size + 1) g k c (strs (dotsTo B k))) ∧ Hid (wx.heap[w.heap.size]? = some (.cells X 24 (0, 0))) ∧ Hid (Below w.heap.size w wx)) (fun _ i _ => 4 - (intOf i).toNat)
  case atStart =>
    refine ⟨0, w.heap.size + 1, 4, by omega, rfl, rfl, ?_, ?_, ?_⟩
    · have := HZ.out (w.alloc (Obj.cells X 24)) (w.heap.size + 1) (by simp)
      rw [sz_alloc] at this
      exact this
    · exact (Below.heap_alloc _ _ _ (by simp)).trans (heap_alloc_new w _)
    · exact alloc_below (alloc_below (Below.refl _ w) (Nat.le_refl _) _) (by simp) _
  case round =>
    obtain ⟨k, g, c, hk, rfl, rfl, HO, HX, HB⟩ := hrel
    have hsz := HB.out.size
    by_cases hk4 : (k : Int) < 4
    · obtain ⟨b, hb⟩ : ∃ b, b = B.getD (12 + k) 0 := ⟨_, rfl⟩
      have hc : wr.cell? ⟨w.heap.size, 13 + k, none⟩ = some (.int .u8 b.toNat) := by
        rw [cell_of_row _ _ _ _ _ _ HX.out, hb]; exact HC.out k (by omega)
      have HD : Hid (dotsTo B (k + 1) = dotsTo B k ++ [digs 10 b.toNat]) := by show _ = _; rw [hb, dotsTo_succ]
      have HTW : Hid (TabS wr) := HT.out.below HB.out
      have hbl : b.toNat < 256 := b.toNat_lt
      clear hb
      go_wp2_with fail
      refine (itoaB b _ HTW.out).mono ?_
      rintro e W1 ⟨rfl, hb1⟩
      have HO1 : Hid (OwnV W1 9 (w.heap.size + 1) g k c (strs (dotsTo B k))) := HO.out.below hb1 (Nat.le_refl _)
      have hlt := HO.out.lt
      have HXl := HX.out
      have hxl : w.heap.size < wr.heap.size := (Array.getElem?_eq_some_iff.1 HXl).1
      have HX1 : Hid (W1.heap[w.heap.size]? = some (.cells X 24 (0, 0))) := (hb1.block _ hxl).trans HX.out
      have HB1 : Hid (Below w.heap.size w W1) := HB.out.trans (hb1.mono hsz)
      have hs1 := hb1.size
      have HG := hid HO.out.ge
      clear hb1 HXl hc
      generalize digs 10 b.toNat = db at HD
      go_wp2_with (first
        | (refine wpList_ownV cellS rfl _ _ rfl (w.heap.size + 1) g k c 1 (strs (dotsTo B k)) (strs [db]) _ rfl rfl (HO1.out.alloc _) (src_new W1 db _) (by omega) ?h3 ?_)
        | fail)
      case h3 => simp; omega
      intro g' c' W2 hown hgr hg'
      have HO2 : Hid (OwnV W2 9 (w.heap.size + 1) g' (k + 1) c' (strs (dotsTo B (k + 1)))) := by
        rw [HD.out, strs_app]; exact hown
      have HB2 : Hid (Below w.heap.size w W2) := ((HO1.out.alloc _).mono (by omega : w.heap.size ≤ w.heap.size + 1)).grown (alloc_below HB1.out HB1.out.size _) (by simp; omega) hgr
      have HX2 : Hid (W2.heap[w.heap.size]? = some (.cells X 24 (0, 0))) := by
        refine (hgr.block _ (by simp; omega) (fun e => ?_)).trans ((Below.heap_alloc _ _ _ (by omega)).trans HX1.out)
        have := HG.out
        cases e; omega
      clear hown hgr hg'
      go_wp2_with fail
      go_roundw
      case rel => exact ⟨k + 1, g', c', by omega, by go_num, rfl, HO2, HX2, HB2⟩
      case measure => simp [intOf]; omega
    · have hk' : k = 4 := by omega
      subst hk'
      have HJ := hid (joinS 46 (dotsTo B 4) wr (w.heap.size + 1) g c (by rw [dotsTo_len]; omega) (dotsTo_short B 4) (by rw [dotsTo_len]; exact HO.out))
      rw [dotsTo_len, dotsTo_four] at HJ
      obtain ⟨R, hR⟩ : ∃ R, R = lastB B := ⟨_, rfl⟩
      rw [← hR] at HJ
      have HRE := hid hR
      clear hR
      go_wp2_with fail
      refine HJ.out.mono ?_
      rintro e W1 ⟨rfl, hb1⟩
      go_wp2_with fail
      go_ret
      exact ⟨by rw [← HRE.out]; rfl, HB.out.trans (hb1.mono hsz)⟩
end Go.Proofs.YtocdjgehjiolhaaGreatDoor
