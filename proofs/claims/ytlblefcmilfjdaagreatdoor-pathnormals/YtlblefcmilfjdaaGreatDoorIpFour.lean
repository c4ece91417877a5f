
/- What the functions of layer 5 that read and write IPv4 do. -/
import Derived.Test.YtlblefcmilfjdaaGreatDoorIpTab
import Derived.Test.YtlblefcmilfjdaaGreatDoorIpLast
import Derived.Test.YtlblefcmilfjdaaGreatDoorIpBook
import Derived.Test.YtlblefcmilfjdaaGreatDoorOwnV
namespace Go.Proofs.YtlblefcmilfjdaaGreatDoor
open Go.RowKit

def pV (e : Nat) (x : List UInt8) : Nat := if partOk e x then (partA x).toNat else 0
theorem part_of (e : Nat) (he : e ≤ 4294967296) (x y : List UInt8) (base : Nat) (hy : y ≠ []) (h : partA x = num base y) : partOk e x = numOk base e y ∧ pV e x = numV base e y := by
  have h1 : partOk e x = numOk base e y := by unfold partOk; rw [numOk_iff base e y hy he, h]
  refine ⟨h1, ?_⟩
  unfold pV numV
  rw [h1]
  split
  · rename_i ho
    rw [h, (num_of_ok base e y hy he ho).1]; rfl
  · rfl
theorem part_hexs (e : Nat) (he1 : 1 ≤ e) (he : e ≤ 4294967296) (c : UInt8) (hc : c = 120 ∨ c = 88) (r : List UInt8) : partOk e (48 :: c :: r) = numOk 16 e r ∧ pV e (48 :: c :: r) = numV 16 e r := by
  by_cases hr : r = []
  · subst hr
    have h0 := part_hex0 c hc
    have h1 : partOk e [48, c] = true := by unfold partOk; rw [h0]; simp; omega
    have h2 : numOk 16 e [] = true := by
      unfold numOk; rw [show valB 16 [] = 0 from rfl, List.all_nil, Bool.true_and, decide_eq_true_eq]; omega
    exact ⟨by rw [h1, h2], by unfold pV numV; rw [h1, h2, h0]; rfl⟩
  · exact part_of e he _ r 16 hr (part_hex c hc r hr)
theorem part_octs (e : Nat) (he1 : 1 ≤ e) (he : e ≤ 4294967296) (r : List UInt8) (h : r.headD 0 ≠ 120 ∧ r.headD 0 ≠ 88) : partOk e (48 :: r) = numOk 8 e (48 :: r) ∧ pV e (48 :: r) = numV 8 e (48 :: r) := by
  by_cases hr : r = []
  · subst hr
    have h1 : partOk e [48] = true := by unfold partOk; rw [part_zero]; simp; omega
    have h0 : valB 8 [48] = 0 := by decide
    have h2 : numOk 8 e [48] = true := by
      unfold numOk; rw [h0]
      have : dig 48 < 8 := by decide
      simp [this]; omega
    exact ⟨by rw [h1, h2], by unfold pV numV; rw [h1, h2, part_zero, h0]; rfl⟩
  · exact part_of e he _ _ 8 (by simp) (part_oct r hr h)
theorem drop2_size (s : ByteArray) : (s.extract 2 s.size).size ≤ s.size := by simp
theorem list_two (s : ByteArray) (h : 2 ≤ s.size) : s.data.toList = s[0] :: s[1] :: (s.extract 2 s.size).data.toList := by
  rw [drop2]
  have e0 := byte_at s 0 (by omega)
  have e1 := byte_at s 1 (by omega)
  have hl : s.data.toList.length = s.size := (Lib.size_eq s).symm
  cases hq : s.data.toList with
  | nil => rw [hq] at hl; simp at hl; omega
  | cons a r =>
    cases r with
    | nil => rw [hq] at hl; simp at hl; omega
    | cons b t => rw [hq] at e0 e1; simp at e0 e1; simp [e0, e1]

end Go.Proofs.YtlblefcmilfjdaaGreatDoor
namespace Go.Proofs.YtlblefcmilfjdaaGreatDoor
open Go.RowKit

theorem split_any (s : ByteArray) (b : UInt8) (n : Nat) (hn : 1 ≤ n) (hn2 : n ≤ 100) (hs : s.size ≤ 1000000) (w : World) (hT : TabS w) :
    Calls Tryz.prog 160 #[.string s, .string ⟨#[b]⟩, .int .i64 n] w fun e w' => ∃ (L : List ByteArray) (N : Nat), e = .returned (.slice (some ⟨w.heap.size, 0, none⟩) L.length N) ∧ L.map (·.data.toList) = cutK b (n - 1) s.data.toList ∧ (∀ x ∈ L, x.size ≤ s.size) ∧ w'.heap[w.heap.size]? = some (.cells (Lib.cellsOf L N) 9 (0, 0)) ∧ Below w.heap.size w w' ∧ w.heap.size + 1 ≤ w'.heap.size ∧ L.length ≤ N := by
  obtain ⟨m, hm⟩ := hT.max
  refine (Tryz.strings_SplitN s ⟨#[b]⟩ n m w (by omega) hm (Nat.le_refl 1) hn (by omega)).mono ?_
  rintro e w' ⟨rfl, rfl⟩
  refine ⟨_, _, rfl, ?_, fun x hx => splitB_small _ _ s x hx, heap_alloc_new w _, alloc_below (Below.refl _ w) (Nat.le_refl _) _, by simp, ?_⟩
  · rw [Lib.splitB_data, ← splitN_cut b n hn]
    unfold Lib.splitN
    rw [Lib.size_eq]
  · have := Lib.splitB_length_le ⟨#[b]⟩ 0 (min n (s.size + 1) - 1) s
    omega
theorem part_at {w : World} {g N : Nat} {L : List ByteArray} {fr : Nat × Nat} (h : w.heap[g]? = some (.cells (Lib.cellsOf L N) 9 fr)) (j : Nat) (x : ByteArray) (hj : L[j]? = some x) : w.cell? ⟨g, j, none⟩ = some (.string x) := by
  rw [cell_of_row _ _ _ _ _ _ h]
  unfold Lib.cellsOf
  have hl := (List.getElem?_eq_some_iff.1 hj).1
  rw [List.getElem?_toArray, List.getElem?_append_left (by simpa using hl), List.getElem?_map, hj]
  rfl
theorem map_at {L : List ByteArray} {P : List (List UInt8)} (h : L.map (·.data.toList) = P) (j : Nat) (x : ByteArray) (hj : L[j]? = some x) : P.getD j [] = x.data.toList := by
  rw [← h, List.getD_eq_getElem?_getD, List.getElem?_map, hj]; rfl
/-- The answer of reading one of IPv4: its bytes, or none. -/
def ansB (o : Option (List UInt8)) : List UInt8 := o.getD (zer 16)
def ansE (o : Option (List UInt8)) : Int := if o.isSome then 0 else 5
def p4 (l : List UInt8) : Option (List UInt8) := if 0 ≤ four l then some (v4B (four l).toNat) else none
theorem stV_b8 (x : List UInt8) (h : okFour x = true) : ((stV x : Nat) : Int) = ((b8 (valB 10 x)).toNat : Int) := by
  rw [b8_toNat _ (okFour_num x h).2]; unfold stV; rw [if_pos h]
set_option maxHeartbeats 2000000 in
theorem parse4_any (s : ByteArray) (hs : s.size ≤ 1000000) (w : World) (hT : TabS w) :
    Calls Tryz.prog 144 #[.string s] w fun e w' => e = .returned (.tuple #[.agg (acs false (ansB (p4 s.data.toList))), .int .i64 (ansE (p4 s.data.toList))]) ∧ Below w.heap.size w w' := by
  have HP : Hid (p4 s.data.toList = if 0 ≤ fourP (cutK 46 4 s.data.toList) then some (v4B (fourP (cutK 46 4 s.data.toList)).toNat) else none) := by
    show _ = _; unfold p4; rw [four_parts]
  have HT := hid hT
  have HTA : Hid (∀ o, TabS (w.alloc o)) := fun o => hT.below (alloc_below (Below.refl _ w) (Nat.le_refl _) o)
  clear hT
  go_enter Tryz.func144, Tryz.ntmps144
  go_wp2_with fail
  refine (split_any s 46 5 (by omega) (by omega) hs _ (HTA.out _)).mono ?_
  rintro e W1 ⟨L, N, rfl, hM, hSZ, hR, hb, hz, hN⟩
  obtain ⟨hr0, hb0, _⟩ := row1 hb
  rw [sz_alloc] at hR hz ⊢
  have HR0 := hid hr0; have HB0 := hid hb0; have HR := hid hR; have HM := hid hM; have HSZ := hid hSZ
  have hz1 : w.heap.size + 2 ≤ W1.heap.size := by omega
  clear hb hr0 hb0 hR hM hSZ hz
  by_cases hL : (L.length : Int) = 4
  case neg =>
    have HF : Hid (p4 s.data.toList = none) := by
      show _ = _
      have hl : (cutK 46 4 s.data.toList).length ≠ 4 := by rw [← HM.out, List.length_map]; omega
      rw [HP.out, four_len _ hl]; rfl
    go_wp2_with (first
      | (refine store_addr rfl _ _ rfl w.heap.size false (zer 16) rfl rfl rfl _ HR0.out rfl ?_)
      | fail)
    intro W2 hO2 hW2
    go_wp2
    refine bodyPost_ret (ret_addr2 (p := 2) (q := 3) Tryz.results144 _ _ w.heap.size false (zer 16) rfl (0, 0) _ rfl rfl hW2) rfl ⟨?_, HB0.out.trans (hO2.below (Nat.le_refl _))⟩
    rw [HF.out]; rfl
  case pos =>
    obtain ⟨P, hP⟩ : ∃ P, P = cutK 46 4 s.data.toList := ⟨_, rfl⟩
    rw [← hP] at HP
    have HM' : Hid (L.map (·.data.toList) = P) := by rw [hP]; exact HM.out
    have hPL : P.length = 4 := by rw [← HM'.out, List.length_map]; omega
    clear HM hP
    go_wp2_with (first
      | (refine store_addr rfl _ _ rfl W1.heap.size false (zer 16) rfl rfl rfl _ (heap_alloc_new W1 _) rfl ?_)
      | fail)
    intro W2 hO2 hW2
    have HW2 := hid hW2
    have HO2 : Hid (Below W1.heap.size W1 W2) := (alloc_below (Below.refl _ W1) (Nat.le_refl _) _).trans (hO2.below (Nat.le_refl _))
    clear hO2 hW2
    go_wp2_with fail
    go_loopw [19] (fun iv wx => ∃ k : Nat, k ≤ 4 ∧ iv = .int .i64 (k : Int) ∧ Hid (wx.heap[W1.heap.size]? = some (.cells (acs false (fV P k)) 93 (0, 0))) ∧ Hid (Below W1.heap.size W1 wx) ∧ Hid (∀ j, j < k → okFour (P.getD j []) = true)) (fun i _ => 4 - (intOf i).toNat)
    case atStart => exact ⟨0, by omega, rfl, by rw [fV_zero]; exact HW2, HO2, fun j hj => absurd hj (by omega)⟩
    case round =>
      obtain ⟨k, hk, rfl, HK, HBK, HOK⟩ := hrel
      have HRk : Hid (wr.heap[w.heap.size + 1]? = some (.cells (Lib.cellsOf L N) 9 (0, 0))) := (HBK.out.block _ (by omega)).trans HR.out
      have HR0k : Hid (wr.heap[w.heap.size]? = _) := (HBK.out.block _ (by omega)).trans HR0.out
      have HBw : Hid (Below w.heap.size w wr) := HB0.out.trans (HBK.out.mono (by omega))
      by_cases hk4 : (k : Int) < 4
      · obtain ⟨x, hx⟩ : ∃ x, L[k]? = some x := ⟨_, List.getElem?_eq_getElem (by omega)⟩
        have hc := part_at HRk.out k x hx
        have HX := hid (map_at HM'.out k x hx)
        have hxs : x.size ≤ 1000000 := Nat.le_trans (HSZ.out x (List.mem_of_getElem? hx)) hs
        clear hx
        have HLN := hid (fV_len P hPL k hk)
        obtain ⟨v, hv⟩ : ∃ v, v = stV x.data.toList := ⟨_, rfl⟩
        obtain ⟨o, ho⟩ : ∃ o, o = okFour x.data.toList := ⟨_, rfl⟩
        have hC : ∀ w, Calls Tryz.prog 161 #[.string x] w fun r w' => r = .returned (.tuple #[.int .u8 v, .bool o]) ∧ w' = w := fun w => by rw [hv, ho]; exact strict_any x w hxs
        have HV := hid hv; have HO := hid ho
        clear hv ho
        cases o
        · have HF : Hid (p4 s.data.toList = none) := by
            show _ = _
            rw [HP.out, four_bad P k (by omega) (by rw [HX.out]; exact HO.out.symm)]; rfl
          go_wp2_with (first
            | (go_at_call 161; refine (hC _).mono ?_; rintro r w' ⟨rfl, rfl⟩)
            | (refine store_addr rfl _ _ rfl w.heap.size false (zer 16) rfl rfl rfl _ HR0k.out rfl ?_)
            | fail)
          intro W3 hO3 hW3
          go_wp2
          refine bodyPost_ret (ret_addr2 (p := 2) (q := 3) Tryz.results144 _ _ w.heap.size false (zer 16) rfl (0, 0) _ rfl rfl hW3) rfl ⟨?_, HBw.out.trans (hO3.below (Nat.le_refl _))⟩
          rw [HF.out]; rfl
        · have HZ : Hid ((v : Int) = ((b8 (valB 10 (P.getD k []))).toNat : Int)) := by
            show _ = _
            rw [HX.out, HV.out]; exact stV_b8 _ HO.out.symm
          have HS := hid (fV_set P hPL k (by omega))
          generalize b8 (valB 10 (P.getD k [])) = y8 at HZ HS
          go_wp2_with (first
            | (go_at_call 161; refine (hC _).mono ?_; rintro r w' ⟨rfl, rfl⟩)
            | (refine store_byteA rfl _ _ rfl W1.heap.size _ (12 + k) false (fV P k) (by rw [HLN.out]; omega) y8 v rfl ?hoj rfl HZ.out HK.out ?_)
            | fail)
          case hoj => omega
          intro W3 hO3 hW3
          rw [HS.out] at hW3
          have HW3 := hid hW3; have HO3 := hid hO3
          clear hW3 hO3
          go_wp2_with fail
          go_roundw
          case rel =>
            refine ⟨k + 1, by omega, by go_num, HW3, HBK.out.trans (HO3.out.below (Nat.le_refl _)), fun j hj => ?_⟩
            by_cases hjk : j < k
            · exact HOK.out j hjk
            · rw [show j = k from by omega, HX.out]; exact HO.out.symm
          case measure => simp [intOf]; omega
      · have hk4' : k = 4 := by omega
        subst hk4'
        have HF := hid (four_ok P hPL HOK.out)
        have HF2 : Hid (p4 s.data.toList = some (fV P 4)) := by
          show _ = _
          rw [HP.out, if_pos HF.out.1, HF.out.2]
        go_wp2_with (first
          | (refine load_addr rfl _ rfl W1.heap.size false (fV P 4) (fV_len P hPL 4 (by omega)) rfl (0, 0) HK.out ?_)
          | (refine store_addr rfl _ _ rfl w.heap.size false (fV P 4) (fV_len P hPL 4 (by omega)) rfl rfl _ HR0k.out rfl ?_)
          | fail)
        intro W3 hO3 hW3
        go_wp2
        refine bodyPost_ret (ret_addr2 (p := 2) (q := 3) Tryz.results144 _ _ w.heap.size false (fV P 4) (fV_len P hPL 4 (by omega)) (0, 0) _ rfl rfl hW3) rfl ⟨?_, HBw.out.trans (hO3.below (Nat.le_refl _))⟩
        rw [HF2.out]; rfl
end Go.Proofs.YtlblefcmilfjdaaGreatDoor
namespace Go.Proofs.YtlblefcmilfjdaaGreatDoor
open Go.RowKit

theorem trim_size (l : List UInt8) : (⟨(trimDot l).toArray⟩ : ByteArray).size ≤ l.length := by
  show (trimDot l).toArray.size ≤ _
  unfold trimDot
  split <;> simp
theorem u8wrap (n : Nat) : IntKind.u8.wrap (n : Int) = ((b8 n).toNat : Int) := by
  rw [IntKind.wrap_u8]; simp [b8]
theorem v4L_B (n : Nat) : v4L (b8 (n / 16777216)) (b8 (n / 65536)) (b8 (n / 256)) (b8 n) = v4B n := rfl
theorem u64muladd (A E p : Nat) (h : A * E + p < 4294967296) : IntKind.u64.wrap ((A : Int) * (E : Int)) = ((A * E : Nat) : Int) ∧ IntKind.u64.wrap (((A * E : Nat) : Int) + (p : Int)) = ((A * E + p : Nat) : Int) := by
  obtain ⟨m, hm⟩ : ∃ m, m = A * E := ⟨_, rfl⟩
  have e : (A : Int) * (E : Int) = (m : Int) := by rw [hm]; exact (Int.natCast_mul A E).symm
  rw [e, ← hm]
  rw [← hm] at h
  constructor
  · rw [IntKind.wrap_u64]; omega
  · rw [IntKind.wrap_u64]; omega
theorem pV_part (e : Nat) (x : List UInt8) (h : partOk e x = true) : pV e x = (partA x).toNat := by unfold pV; rw [if_pos h]
theorem acc_step (P : List (List UInt8)) (k A E : Nat) (x : List UInt8) (hE : E = endL P.length k) (hx : P.getD k [] = x) (h : accL P k = some A) (hp : partOk E x = true) : accL P (k + 1) = some (A * E + pV E x) := by
  rw [accL, h]
  simp only
  rw [hx, ← hE, if_pos hp, pV_part E x hp]
theorem acc_stop (P : List (List UInt8)) (k A E : Nat) (x : List UInt8) (hE : E = endL P.length k) (hk : k < P.length) (hx : P.getD k [] = x) (h : accL P k = some A) (hp : partOk E x = false) : accL P P.length = none := by
  have : accL P (k + 1) = none := by
    rw [accL, h]
    simp only
    rw [hx, ← hE, hp]; rfl
  have h2 := acc_none P (k + 1) (P.length - (k + 1)) this
  rw [show k + 1 + (P.length - (k + 1)) = P.length from by omega] at h2
  exact h2
theorem acc_small (P : List (List UInt8)) (k A E : Nat) (x : List UInt8) (h4 : P.length ≤ 4) (hk : k < P.length) (h : accL P (k + 1) = some (A * E + pV E x)) : A * E + pV E x < 4294967296 := by
  by_cases hl : k + 1 = P.length
  · rw [hl] at h; exact acc_full P (by omega) h4 _ h
  · have h1 := acc_lt P (k + 1) _ (by omega) h
    have h2 : 256 ^ (k + 1) ≤ 256 ^ 4 := Nat.pow_le_pow_right (by omega) (by omega)
    have h3 : (256 : Nat) ^ 4 = 4294967296 := by decide
    omega

end Go.Proofs.YtlblefcmilfjdaaGreatDoor
namespace Go.Proofs.YtlblefcmilfjdaaGreatDoor
open Go.RowKit

theorem cellS : OneCell Tryz.prog 59 9 := ⟨Tryz.underlying59, by
  obtain ⟨i, hi, hz0, hz1, hz2⟩ := info_parts (show (Tryz.prog.info? 9).map (fun i => (i.zero, i.size, i.bytes)) = some (some (.string ByteArray.empty), 1, 16) by kernel_rfl)
  exact ⟨i, _, hi, hz0, hz1, by omega, rfl⟩⟩
def asS (l : List UInt8) : ByteArray := ⟨l.toArray⟩
theorem asS_data (l : List UInt8) : (asS l).data.toList = l := rfl
def strs (L : List (List UInt8)) : List Value := L.map fun x => .string (asS x)
theorem strs_app (L M : List (List UInt8)) : strs (L ++ M) = strs L ++ strs M := by simp [strs]
theorem strs_len (L : List (List UInt8)) : (strs L).length = L.length := by simp [strs]
theorem make_strs (n c : Nat) (hn : n ≤ c) (hc : c ≤ 100000) (w : World) : (Instr.makeSlice 59 (.int .i64 (n : Int)) (.int .i64 (c : Int))).run Tryz.prog w = .ok (.slice (some ⟨w.heap.size, 0, none⟩) n c) (w.alloc (.cells (List.replicate c (.string ByteArray.empty)).toArray 9)) := by
  obtain ⟨i, hi, hz0, hz1, hz2⟩ := info_parts (show (Tryz.prog.info? 9).map (fun i => (i.zero, i.size, i.bytes)) = some (some (.string ByteArray.empty), 1, 16) by kernel_rfl)
  have e : madeCells #[Value.string ByteArray.empty] c = (List.replicate c (Value.string ByteArray.empty)).toArray := by
    apply Array.ext
    · rw [size_madeCells]; simp
    · intro i h1 h2
      simp [madeCells, Nat.mod_one]
  rw [run_makeSlice w 59 9 i (.string ByteArray.empty) Tryz.underlying59 hi hz0 .i64 .i64 (n : Int) (c : Int) (by omega) (by omega) (by rw [hz1]; omega) (by rw [hz2]; omega) (by omega), hz1, Int.toNat_natCast, Int.toNat_natCast, Nat.mul_one, ← e]
  rfl
theorem own_made (w : World) (c b : Nat) (hb : b ≤ w.heap.size) : OwnV (w.alloc (.cells (List.replicate c (.string ByteArray.empty)).toArray 9)) 9 b w.heap.size 0 c (strs []) :=
  ⟨hb, rfl, _, heap_alloc_new w _, by simp⟩
theorem join_lib (b : UInt8) : ∀ L : List (List UInt8), Lib.join L [b] = joinL b L
  | [] => rfl
  | [x] => by rw [Lib.join_one]; rfl
  | x :: y :: r => by
    have ih := join_lib b (y :: r)
    rw [joinL, ← ih, Lib.join_cons, Lib.join_cons]
    simp [Lib.joinTail]
theorem itoa_fin : ∀ n : Fin 256, Lib.itoa (n.val : Int) = digs 10 n.val := by decide +kernel
theorem itoa_digs (n : UInt8) : Lib.itoa (n.toNat : Int) = digs 10 n.toNat := itoa_fin ⟨n.toNat, n.toNat_lt⟩
theorem joinL_len (b : UInt8) (m : Nat) : ∀ L : List (List UInt8), (∀ x ∈ L, x.length ≤ m) → (joinL b L).length ≤ L.length * (m + 1)
  | [], _ => by simp [joinL]
  | [x], h => by have := h x (by simp); simp [joinL]; omega
  | x :: y :: r, h => by
    have ih := joinL_len b m (y :: r) (fun z hz => h z (by simp only [List.mem_cons] at hz ⊢; exact Or.inr hz))
    have := h x (by simp)
    simp only [joinL, List.length_append, List.length_cons] at ih ⊢
    have e : (r.length + 1 + 1) * (m + 1) = (r.length + 1) * (m + 1) + (m + 1) := by rw [Nat.add_mul]; omega
    omega
/-- The first k numbers, written. -/
def dotsTo (B : List UInt8) (k : Nat) : List (List UInt8) := (List.range k).map fun j => digs 10 (B.getD (12 + j) 0).toNat
theorem dotsTo_len (B : List UInt8) (k : Nat) : (dotsTo B k).length = k := by simp [dotsTo]
theorem dotsTo_succ (B : List UInt8) (k : Nat) : dotsTo B (k + 1) = dotsTo B k ++ [digs 10 (B.getD (12 + k) 0).toNat] := by simp [dotsTo, List.range_succ]
theorem dotsTo_four (B : List UInt8) : joinL 46 (dotsTo B 4) = lastB B := rfl
theorem digs_short (base n : Nat) : (digs base n).length ≤ 20 := by
  unfold digs
  have : ∀ f n, (digsF base f n).length ≤ f := by
    intro f
    induction f with
    | zero => intro n; simp [digsF]
    | succ f ih =>
      intro n
      unfold digsF
      split
      · simp
      · have := ih (n / base); simp; omega
  exact this 20 n
theorem dotsTo_short (B : List UInt8) (k : Nat) : ∀ x ∈ dotsTo B k, x.length ≤ 100 := fun x hx => by
  obtain ⟨j, _, rfl⟩ := List.mem_map.1 hx
  have := digs_short 10 (B.getD (12 + j) 0).toNat
  omega
theorem src_new (w : World) (x : List UInt8) (c : Nat) : Src Tryz.prog 1 59 (.slice (some ⟨w.heap.size, 0, none⟩) 1 c) 1 (strs [x]) (w.alloc (.cells #[.string (asS x)] 9)) :=
  src_lit cellS _ _ c (strs [x]) (heap_alloc_new w _) (fun u hu => by simp [strs] at hu; subst hu; rfl)

end Go.Proofs.YtlblefcmilfjdaaGreatDoor
