
/- What cidr.Forbidden does. -/
import Derived.Test.YtocdjgehjiolhaaGreatDoorCiV6
import Derived.Test.YtocdjgehjiolhaaGreatDoorOwnK
import Derived.Great.BuildSlice
namespace Go.Proofs.YtocdjgehjiolhaaGreatDoor
open Go.RowKit

theorem cellN : KCells Tryz.prog 18 46 26 := ⟨Tryz.underlying46, by
  obtain ⟨i, hi, hz0, hz1, hz2⟩ := info_parts (show (Tryz.prog.info? 26).map (fun i => (i.zero, i.size, i.bytes)) = some (some (.agg (ncs ⟨false, zer 16, 0⟩)), 18, 32) by kernel_rfl)
  exact ⟨i, _, hi, hz0, hz1, by omega, rfl⟩⟩
def forbCells : List Value := forbL.flatMap nvs
theorem flat_at : ∀ (l : List NetV) (_ : ∀ n ∈ l, n.B.length = 16) (k : Nat), (l.flatMap nvs)[k]? = (l[k / 18]?).bind fun n => (nvs n)[k % 18]?
  | [], _, k => by simp
  | n :: r, h, k => by
    have hn := nvs_len n (h n (by simp))
    rw [List.flatMap_cons]
    by_cases hk : k < 18
    · rw [List.getElem?_append_left (by omega), show k / 18 = 0 from by omega, show k % 18 = k from by omega]
      rfl
    · rw [List.getElem?_append_right (by omega), hn, flat_at r (fun m hm => h m (by simp [hm])) (k - 18), show k / 18 = (k - 18) / 18 + 1 from by omega, List.getElem?_cons_succ, show k % 18 = (k - 18) % 18 from by omega]
theorem flat_len : ∀ (l : List NetV) (_ : ∀ n ∈ l, n.B.length = 16), (l.flatMap nvs).length = l.length * 18
  | [], _ => rfl
  | n :: r, h => by
    rw [List.flatMap_cons, List.length_append, nvs_len n (h n (by simp)), flat_len r (fun m hm => h m (by simp [hm])), List.length_cons]
    omega
theorem nets_fill (l : List NetV) (h : ∀ n ∈ l, n.B.length = 16) (cs : Array Value) (hcs : cs.size = l.length * 18) : Instr.fill (fun i => some (i * 18, 18)) cs (((l.map fun n => Value.agg (ncs n)).zipIdx 0).map fun x => (x.2, x.1)) = some (l.flatMap nvs).toArray := by
  obtain ⟨r, h1, h2, h3⟩ := Great.fill_dense (s := 18) (by omega) (l.map fun n => Value.agg (ncs n)) 0 cs (fun v hv => by
    obtain ⟨n, hn, rfl⟩ := List.mem_map.1 hv
    exact ncs_size n (h n hn)) (by rw [List.length_map, hcs]; omega)
  rw [h1]
  refine congrArg some ?_
  apply Array.ext_getElem?
  intro k
  rw [h3 k, List.getElem?_toArray (xs := l.flatMap nvs), flat_at l h k, List.length_map]
  by_cases hk : k < l.length * 18
  · rw [if_pos ⟨by omega, by omega⟩, Nat.sub_zero, List.getElem?_map]
    cases l[k / 18]? with
    | none => rfl
    | some n => simp [Value.cells, ncs]
  · rw [if_neg (by omega), Array.getElem?_eq_none (by omega), List.getElem?_eq_none (by omega)]
    rfl
theorem wpList_buildSliceL {P : Program} {ops : Array Oper} {rest : List Oper} {o : Oper} {a : Act} {w : World} {Q : Exit → Act → World → Prop} (hg : o.guard = none) (t e : TypeId) (len : Nat) (parts : Array (Nat × Operand)) (ho : o.op = .buildSlice t len parts)
    (cells : Array Value) (ie : TypeInfo) (z : Value)
    (hu : P.underlying t = some (.slice e)) (hie : P.info? e = some ie) (hz : ie.zero = some z) (hsmall : ¬ len * ie.size > 2 ^ 24) (hpos : ¬ len * ie.size = 0)
    (hf : Instr.fill (fun i => some (i * ie.size, ie.size)) ((Array.range (len * ie.size)).map (z.cells[· % z.cells.size]!)) (parts.toList.map fun p => (p.1, a.eval p.2)) = some cells)
    (h : wpList P ops Q rest (a.put o.dst (.slice (some ⟨w.heap.size, 0, none⟩) len len)) (w.alloc (.cells cells e))) : wpList P ops Q (o :: rest) a w := by
  have e2 : (parts.map fun (i, x) => (i, a.eval x)).toList = parts.toList.map fun p => (p.1, a.eval p.2) := by simp
  exact wpList_buildSlice hg t e len parts ho cells ie z hu hie hz hsmall hpos (by rw [e2]; exact hf) h
theorem forb16 : ∀ n ∈ forbL, n.B.length = 16 := fun n hn => (forb_ok n hn).1
theorem built_f0 : Tryz.prog.built 26 [(0, .agg (acs false ((f4 0 0 0 0 8)).B)), (1, .int .i64 8)] = some (ncs (f4 0 0 0 0 8)) := built_net _ _ _ rfl
theorem built_f1 : Tryz.prog.built 26 [(0, .agg (acs false ((f4 10 0 0 0 8)).B)), (1, .int .i64 8)] = some (ncs (f4 10 0 0 0 8)) := built_net _ _ _ rfl
theorem built_f2 : Tryz.prog.built 26 [(0, .agg (acs false ((f4 100 64 0 0 10)).B)), (1, .int .i64 10)] = some (ncs (f4 100 64 0 0 10)) := built_net _ _ _ rfl
theorem built_f3 : Tryz.prog.built 26 [(0, .agg (acs false ((f4 127 0 0 0 8)).B)), (1, .int .i64 8)] = some (ncs (f4 127 0 0 0 8)) := built_net _ _ _ rfl
theorem built_f4 : Tryz.prog.built 26 [(0, .agg (acs false ((f4 169 254 0 0 16)).B)), (1, .int .i64 16)] = some (ncs (f4 169 254 0 0 16)) := built_net _ _ _ rfl
theorem built_f5 : Tryz.prog.built 26 [(0, .agg (acs false ((f4 172 16 0 0 12)).B)), (1, .int .i64 12)] = some (ncs (f4 172 16 0 0 12)) := built_net _ _ _ rfl
theorem built_f6 : Tryz.prog.built 26 [(0, .agg (acs false ((f4 192 0 0 0 24)).B)), (1, .int .i64 24)] = some (ncs (f4 192 0 0 0 24)) := built_net _ _ _ rfl
theorem built_f7 : Tryz.prog.built 26 [(0, .agg (acs false ((f4 192 0 2 0 24)).B)), (1, .int .i64 24)] = some (ncs (f4 192 0 2 0 24)) := built_net _ _ _ rfl
theorem built_f8 : Tryz.prog.built 26 [(0, .agg (acs false ((f4 192 88 99 0 24)).B)), (1, .int .i64 24)] = some (ncs (f4 192 88 99 0 24)) := built_net _ _ _ rfl
theorem built_f9 : Tryz.prog.built 26 [(0, .agg (acs false ((f4 192 168 0 0 16)).B)), (1, .int .i64 16)] = some (ncs (f4 192 168 0 0 16)) := built_net _ _ _ rfl
theorem built_f10 : Tryz.prog.built 26 [(0, .agg (acs false ((f4 198 18 0 0 15)).B)), (1, .int .i64 15)] = some (ncs (f4 198 18 0 0 15)) := built_net _ _ _ rfl
theorem built_f11 : Tryz.prog.built 26 [(0, .agg (acs false ((f4 198 51 100 0 24)).B)), (1, .int .i64 24)] = some (ncs (f4 198 51 100 0 24)) := built_net _ _ _ rfl
theorem built_f12 : Tryz.prog.built 26 [(0, .agg (acs false ((f4 203 0 113 0 24)).B)), (1, .int .i64 24)] = some (ncs (f4 203 0 113 0 24)) := built_net _ _ _ rfl
theorem built_f13 : Tryz.prog.built 26 [(0, .agg (acs false ((f4 224 0 0 0 4)).B)), (1, .int .i64 4)] = some (ncs (f4 224 0 0 0 4)) := built_net _ _ _ rfl
theorem built_f14 : Tryz.prog.built 26 [(0, .agg (acs false ((f4 240 0 0 0 4)).B)), (1, .int .i64 4)] = some (ncs (f4 240 0 0 0 4)) := built_net _ _ _ rfl
theorem built_f15 : Tryz.prog.built 26 [(0, .agg (acs true ((f6 0 0 0 0 0 0 0 128)).B)), (1, .int .i64 128)] = some (ncs (f6 0 0 0 0 0 0 0 128)) := built_net _ _ _ rfl
theorem built_f16 : Tryz.prog.built 26 [(0, .agg (acs true ((f6 0 0 0 0 0 0 1 128)).B)), (1, .int .i64 128)] = some (ncs (f6 0 0 0 0 0 0 1 128)) := built_net _ _ _ rfl
theorem built_f17 : Tryz.prog.built 26 [(0, .agg (acs true ((f6 0 100 255 155 0 1 0 48)).B)), (1, .int .i64 48)] = some (ncs (f6 0 100 255 155 0 1 0 48)) := built_net _ _ _ rfl
theorem built_f18 : Tryz.prog.built 26 [(0, .agg (acs true ((f6 1 0 0 0 0 0 0 64)).B)), (1, .int .i64 64)] = some (ncs (f6 1 0 0 0 0 0 0 64)) := built_net _ _ _ rfl
theorem built_f19 : Tryz.prog.built 26 [(0, .agg (acs true ((f6 32 1 0 0 0 0 0 23)).B)), (1, .int .i64 23)] = some (ncs (f6 32 1 0 0 0 0 0 23)) := built_net _ _ _ rfl
theorem built_f20 : Tryz.prog.built 26 [(0, .agg (acs true ((f6 32 1 13 184 0 0 0 32)).B)), (1, .int .i64 32)] = some (ncs (f6 32 1 13 184 0 0 0 32)) := built_net _ _ _ rfl
theorem built_f21 : Tryz.prog.built 26 [(0, .agg (acs true ((f6 63 255 0 0 0 0 0 20)).B)), (1, .int .i64 20)] = some (ncs (f6 63 255 0 0 0 0 0 20)) := built_net _ _ _ rfl
theorem built_f22 : Tryz.prog.built 26 [(0, .agg (acs true ((f6 95 0 0 0 0 0 0 16)).B)), (1, .int .i64 16)] = some (ncs (f6 95 0 0 0 0 0 0 16)) := built_net _ _ _ rfl
theorem built_f23 : Tryz.prog.built 26 [(0, .agg (acs true ((f6 252 0 0 0 0 0 0 7)).B)), (1, .int .i64 7)] = some (ncs (f6 252 0 0 0 0 0 0 7)) := built_net _ _ _ rfl
theorem built_f24 : Tryz.prog.built 26 [(0, .agg (acs true ((f6 254 128 0 0 0 0 0 10)).B)), (1, .int .i64 10)] = some (ncs (f6 254 128 0 0 0 0 0 10)) := built_net _ _ _ rfl
theorem built_f25 : Tryz.prog.built 26 [(0, .agg (acs true ((f6 255 0 0 0 0 0 0 8)).B)), (1, .int .i64 8)] = some (ncs (f6 255 0 0 0 0 0 0 8)) := built_net _ _ _ rfl
theorem v4_f0 (w : World) : Calls Tryz.prog 40 #[.int .u8 0, .int .u8 0, .int .u8 0, .int .u8 0] w fun e w' => e = .returned (.agg (acs false ((f4 0 0 0 0 8)).B)) ∧ Below w.heap.size w w' := v4_any 0 0 0 0 w
theorem v4_f1 (w : World) : Calls Tryz.prog 40 #[.int .u8 10, .int .u8 0, .int .u8 0, .int .u8 0] w fun e w' => e = .returned (.agg (acs false ((f4 10 0 0 0 8)).B)) ∧ Below w.heap.size w w' := v4_any 10 0 0 0 w
theorem v4_f2 (w : World) : Calls Tryz.prog 40 #[.int .u8 100, .int .u8 64, .int .u8 0, .int .u8 0] w fun e w' => e = .returned (.agg (acs false ((f4 100 64 0 0 10)).B)) ∧ Below w.heap.size w w' := v4_any 100 64 0 0 w
theorem v4_f3 (w : World) : Calls Tryz.prog 40 #[.int .u8 127, .int .u8 0, .int .u8 0, .int .u8 0] w fun e w' => e = .returned (.agg (acs false ((f4 127 0 0 0 8)).B)) ∧ Below w.heap.size w w' := v4_any 127 0 0 0 w
theorem v4_f4 (w : World) : Calls Tryz.prog 40 #[.int .u8 169, .int .u8 254, .int .u8 0, .int .u8 0] w fun e w' => e = .returned (.agg (acs false ((f4 169 254 0 0 16)).B)) ∧ Below w.heap.size w w' := v4_any 169 254 0 0 w
theorem v4_f5 (w : World) : Calls Tryz.prog 40 #[.int .u8 172, .int .u8 16, .int .u8 0, .int .u8 0] w fun e w' => e = .returned (.agg (acs false ((f4 172 16 0 0 12)).B)) ∧ Below w.heap.size w w' := v4_any 172 16 0 0 w
theorem v4_f6 (w : World) : Calls Tryz.prog 40 #[.int .u8 192, .int .u8 0, .int .u8 0, .int .u8 0] w fun e w' => e = .returned (.agg (acs false ((f4 192 0 0 0 24)).B)) ∧ Below w.heap.size w w' := v4_any 192 0 0 0 w
theorem v4_f7 (w : World) : Calls Tryz.prog 40 #[.int .u8 192, .int .u8 0, .int .u8 2, .int .u8 0] w fun e w' => e = .returned (.agg (acs false ((f4 192 0 2 0 24)).B)) ∧ Below w.heap.size w w' := v4_any 192 0 2 0 w
theorem v4_f8 (w : World) : Calls Tryz.prog 40 #[.int .u8 192, .int .u8 88, .int .u8 99, .int .u8 0] w fun e w' => e = .returned (.agg (acs false ((f4 192 88 99 0 24)).B)) ∧ Below w.heap.size w w' := v4_any 192 88 99 0 w
theorem v4_f9 (w : World) : Calls Tryz.prog 40 #[.int .u8 192, .int .u8 168, .int .u8 0, .int .u8 0] w fun e w' => e = .returned (.agg (acs false ((f4 192 168 0 0 16)).B)) ∧ Below w.heap.size w w' := v4_any 192 168 0 0 w
theorem v4_f10 (w : World) : Calls Tryz.prog 40 #[.int .u8 198, .int .u8 18, .int .u8 0, .int .u8 0] w fun e w' => e = .returned (.agg (acs false ((f4 198 18 0 0 15)).B)) ∧ Below w.heap.size w w' := v4_any 198 18 0 0 w
theorem v4_f11 (w : World) : Calls Tryz.prog 40 #[.int .u8 198, .int .u8 51, .int .u8 100, .int .u8 0] w fun e w' => e = .returned (.agg (acs false ((f4 198 51 100 0 24)).B)) ∧ Below w.heap.size w w' := v4_any 198 51 100 0 w
theorem v4_f12 (w : World) : Calls Tryz.prog 40 #[.int .u8 203, .int .u8 0, .int .u8 113, .int .u8 0] w fun e w' => e = .returned (.agg (acs false ((f4 203 0 113 0 24)).B)) ∧ Below w.heap.size w w' := v4_any 203 0 113 0 w
theorem v4_f13 (w : World) : Calls Tryz.prog 40 #[.int .u8 224, .int .u8 0, .int .u8 0, .int .u8 0] w fun e w' => e = .returned (.agg (acs false ((f4 224 0 0 0 4)).B)) ∧ Below w.heap.size w w' := v4_any 224 0 0 0 w
theorem v4_f14 (w : World) : Calls Tryz.prog 40 #[.int .u8 240, .int .u8 0, .int .u8 0, .int .u8 0] w fun e w' => e = .returned (.agg (acs false ((f4 240 0 0 0 4)).B)) ∧ Below w.heap.size w w' := v4_any 240 0 0 0 w
theorem v6_f15 (w : World) : Calls Tryz.prog 41 #[.slice none 0 0] w fun e w' => e = .returned (.agg (acs true ((f6 0 0 0 0 0 0 0 128)).B)) ∧ Below w.heap.size w w' := v6_nil w
theorem v6_f16 (w : World) : Calls Tryz.prog 41 #[.slice (some ⟨w.heap.size, 0, none⟩) 8 8] (w.alloc (.cells #[.int .u16 0, .int .u16 0, .int .u16 0, .int .u16 0, .int .u16 0, .int .u16 0, .int .u16 0, .int .u16 1] 59)) fun e w' => e = .returned (.agg (acs true ((f6 0 0 0 0 0 0 1 128)).B)) ∧ Below w.heap.size w w' := by
  have e : v6L [0, 0, 0, 0, 0, 0, 0, 1] = ((f6 0 0 0 0 0 0 1 128)).B := by decide
  have h := v6_any [0, 0, 0, 0, 0, 0, 0, 1] (by decide) (by decide) w.heap.size 8 (w.alloc (.cells #[.int .u16 0, .int .u16 0, .int .u16 0, .int .u16 0, .int .u16 0, .int .u16 0, .int .u16 0, .int .u16 1] 59)) (heap_alloc_new w _)
  rw [e] at h
  exact h.mono fun e w' h => ⟨h.1, (alloc_below (Below.refl _ w) (Nat.le_refl _) _).trans (h.2.mono (by simp))⟩
theorem v6_f17 (w : World) : Calls Tryz.prog 41 #[.slice (some ⟨w.heap.size, 0, none⟩) 3 3] (w.alloc (.cells #[.int .u16 100, .int .u16 65435, .int .u16 1] 59)) fun e w' => e = .returned (.agg (acs true ((f6 0 100 255 155 0 1 0 48)).B)) ∧ Below w.heap.size w w' := by
  have e : v6L [100, 65435, 1] = ((f6 0 100 255 155 0 1 0 48)).B := by decide
  have h := v6_any [100, 65435, 1] (by decide) (by decide) w.heap.size 3 (w.alloc (.cells #[.int .u16 100, .int .u16 65435, .int .u16 1] 59)) (heap_alloc_new w _)
  rw [e] at h
  exact h.mono fun e w' h => ⟨h.1, (alloc_below (Below.refl _ w) (Nat.le_refl _) _).trans (h.2.mono (by simp))⟩
theorem v6_f18 (w : World) : Calls Tryz.prog 41 #[.slice (some ⟨w.heap.size, 0, none⟩) 1 1] (w.alloc (.cells #[.int .u16 256] 59)) fun e w' => e = .returned (.agg (acs true ((f6 1 0 0 0 0 0 0 64)).B)) ∧ Below w.heap.size w w' := by
  have e : v6L [256] = ((f6 1 0 0 0 0 0 0 64)).B := by decide
  have h := v6_any [256] (by decide) (by decide) w.heap.size 1 (w.alloc (.cells #[.int .u16 256] 59)) (heap_alloc_new w _)
  rw [e] at h
  exact h.mono fun e w' h => ⟨h.1, (alloc_below (Below.refl _ w) (Nat.le_refl _) _).trans (h.2.mono (by simp))⟩
theorem v6_f19 (w : World) : Calls Tryz.prog 41 #[.slice (some ⟨w.heap.size, 0, none⟩) 1 1] (w.alloc (.cells #[.int .u16 8193] 59)) fun e w' => e = .returned (.agg (acs true ((f6 32 1 0 0 0 0 0 23)).B)) ∧ Below w.heap.size w w' := by
  have e : v6L [8193] = ((f6 32 1 0 0 0 0 0 23)).B := by decide
  have h := v6_any [8193] (by decide) (by decide) w.heap.size 1 (w.alloc (.cells #[.int .u16 8193] 59)) (heap_alloc_new w _)
  rw [e] at h
  exact h.mono fun e w' h => ⟨h.1, (alloc_below (Below.refl _ w) (Nat.le_refl _) _).trans (h.2.mono (by simp))⟩
theorem v6_f20 (w : World) : Calls Tryz.prog 41 #[.slice (some ⟨w.heap.size, 0, none⟩) 2 2] (w.alloc (.cells #[.int .u16 8193, .int .u16 3512] 59)) fun e w' => e = .returned (.agg (acs true ((f6 32 1 13 184 0 0 0 32)).B)) ∧ Below w.heap.size w w' := by
  have e : v6L [8193, 3512] = ((f6 32 1 13 184 0 0 0 32)).B := by decide
  have h := v6_any [8193, 3512] (by decide) (by decide) w.heap.size 2 (w.alloc (.cells #[.int .u16 8193, .int .u16 3512] 59)) (heap_alloc_new w _)
  rw [e] at h
  exact h.mono fun e w' h => ⟨h.1, (alloc_below (Below.refl _ w) (Nat.le_refl _) _).trans (h.2.mono (by simp))⟩
theorem v6_f21 (w : World) : Calls Tryz.prog 41 #[.slice (some ⟨w.heap.size, 0, none⟩) 1 1] (w.alloc (.cells #[.int .u16 16383] 59)) fun e w' => e = .returned (.agg (acs true ((f6 63 255 0 0 0 0 0 20)).B)) ∧ Below w.heap.size w w' := by
  have e : v6L [16383] = ((f6 63 255 0 0 0 0 0 20)).B := by decide
  have h := v6_any [16383] (by decide) (by decide) w.heap.size 1 (w.alloc (.cells #[.int .u16 16383] 59)) (heap_alloc_new w _)
  rw [e] at h
  exact h.mono fun e w' h => ⟨h.1, (alloc_below (Below.refl _ w) (Nat.le_refl _) _).trans (h.2.mono (by simp))⟩
theorem v6_f22 (w : World) : Calls Tryz.prog 41 #[.slice (some ⟨w.heap.size, 0, none⟩) 1 1] (w.alloc (.cells #[.int .u16 24320] 59)) fun e w' => e = .returned (.agg (acs true ((f6 95 0 0 0 0 0 0 16)).B)) ∧ Below w.heap.size w w' := by
  have e : v6L [24320] = ((f6 95 0 0 0 0 0 0 16)).B := by decide
  have h := v6_any [24320] (by decide) (by decide) w.heap.size 1 (w.alloc (.cells #[.int .u16 24320] 59)) (heap_alloc_new w _)
  rw [e] at h
  exact h.mono fun e w' h => ⟨h.1, (alloc_below (Below.refl _ w) (Nat.le_refl _) _).trans (h.2.mono (by simp))⟩
theorem v6_f23 (w : World) : Calls Tryz.prog 41 #[.slice (some ⟨w.heap.size, 0, none⟩) 1 1] (w.alloc (.cells #[.int .u16 64512] 59)) fun e w' => e = .returned (.agg (acs true ((f6 252 0 0 0 0 0 0 7)).B)) ∧ Below w.heap.size w w' := by
  have e : v6L [64512] = ((f6 252 0 0 0 0 0 0 7)).B := by decide
  have h := v6_any [64512] (by decide) (by decide) w.heap.size 1 (w.alloc (.cells #[.int .u16 64512] 59)) (heap_alloc_new w _)
  rw [e] at h
  exact h.mono fun e w' h => ⟨h.1, (alloc_below (Below.refl _ w) (Nat.le_refl _) _).trans (h.2.mono (by simp))⟩
theorem v6_f24 (w : World) : Calls Tryz.prog 41 #[.slice (some ⟨w.heap.size, 0, none⟩) 1 1] (w.alloc (.cells #[.int .u16 65152] 59)) fun e w' => e = .returned (.agg (acs true ((f6 254 128 0 0 0 0 0 10)).B)) ∧ Below w.heap.size w w' := by
  have e : v6L [65152] = ((f6 254 128 0 0 0 0 0 10)).B := by decide
  have h := v6_any [65152] (by decide) (by decide) w.heap.size 1 (w.alloc (.cells #[.int .u16 65152] 59)) (heap_alloc_new w _)
  rw [e] at h
  exact h.mono fun e w' h => ⟨h.1, (alloc_below (Below.refl _ w) (Nat.le_refl _) _).trans (h.2.mono (by simp))⟩
theorem v6_f25 (w : World) : Calls Tryz.prog 41 #[.slice (some ⟨w.heap.size, 0, none⟩) 1 1] (w.alloc (.cells #[.int .u16 65280] 59)) fun e w' => e = .returned (.agg (acs true ((f6 255 0 0 0 0 0 0 8)).B)) ∧ Below w.heap.size w w' := by
  have e : v6L [65280] = ((f6 255 0 0 0 0 0 0 8)).B := by decide
  have h := v6_any [65280] (by decide) (by decide) w.heap.size 1 (w.alloc (.cells #[.int .u16 65280] 59)) (heap_alloc_new w _)
  rw [e] at h
  exact h.mono fun e w' h => ⟨h.1, (alloc_below (Below.refl _ w) (Nat.le_refl _) _).trans (h.2.mono (by simp))⟩
theorem forb_fill : Instr.fill (fun i => some (i * 18, 18)) ((Array.range (26 * 18)).map ((Value.agg (ncs ⟨false, zer 16, 0⟩)).cells[· % (Value.agg (ncs ⟨false, zer 16, 0⟩)).cells.size]!)) [(0, .agg (ncs (f4 0 0 0 0 8))), (1, .agg (ncs (f4 10 0 0 0 8))), (2, .agg (ncs (f4 100 64 0 0 10))), (3, .agg (ncs (f4 127 0 0 0 8))), (4, .agg (ncs (f4 169 254 0 0 16))), (5, .agg (ncs (f4 172 16 0 0 12))), (6, .agg (ncs (f4 192 0 0 0 24))), (7, .agg (ncs (f4 192 0 2 0 24))), (8, .agg (ncs (f4 192 88 99 0 24))), (9, .agg (ncs (f4 192 168 0 0 16))), (10, .agg (ncs (f4 198 18 0 0 15))), (11, .agg (ncs (f4 198 51 100 0 24))), (12, .agg (ncs (f4 203 0 113 0 24))), (13, .agg (ncs (f4 224 0 0 0 4))), (14, .agg (ncs (f4 240 0 0 0 4))), (15, .agg (ncs (f6 0 0 0 0 0 0 0 128))), (16, .agg (ncs (f6 0 0 0 0 0 0 1 128))), (17, .agg (ncs (f6 0 100 255 155 0 1 0 48))), (18, .agg (ncs (f6 1 0 0 0 0 0 0 64))), (19, .agg (ncs (f6 32 1 0 0 0 0 0 23))), (20, .agg (ncs (f6 32 1 13 184 0 0 0 32))), (21, .agg (ncs (f6 63 255 0 0 0 0 0 20))), (22, .agg (ncs (f6 95 0 0 0 0 0 0 16))), (23, .agg (ncs (f6 252 0 0 0 0 0 0 7))), (24, .agg (ncs (f6 254 128 0 0 0 0 0 10))), (25, .agg (ncs (f6 255 0 0 0 0 0 0 8)))] = some forbCells.toArray := nets_fill forbL forb16 _ (by simp [forbL])
set_option maxHeartbeats 8000000 in
set_option maxRecDepth 100000 in
theorem forbidden_any (w : World) : Calls Tryz.prog 20 #[] w fun e w' => ∃ b, e = .returned (.slice (some ⟨b, 0, none⟩) 26 26) ∧ w.heap.size ≤ b ∧ w'.heap[b]? = some (.cells forbCells.toArray 26 (0, 0)) ∧ Below w.heap.size w w' := by
  have H0 := hid v4_f0
  have B0 := hid built_f0
  have H1 := hid v4_f1
  have B1 := hid built_f1
  have H2 := hid v4_f2
  have B2 := hid built_f2
  have H3 := hid v4_f3
  have B3 := hid built_f3
  have H4 := hid v4_f4
  have B4 := hid built_f4
  have H5 := hid v4_f5
  have B5 := hid built_f5
  have H6 := hid v4_f6
  have B6 := hid built_f6
  have H7 := hid v4_f7
  have B7 := hid built_f7
  have H8 := hid v4_f8
  have B8 := hid built_f8
  have H9 := hid v4_f9
  have B9 := hid built_f9
  have H10 := hid v4_f10
  have B10 := hid built_f10
  have H11 := hid v4_f11
  have B11 := hid built_f11
  have H12 := hid v4_f12
  have B12 := hid built_f12
  have H13 := hid v4_f13
  have B13 := hid built_f13
  have H14 := hid v4_f14
  have B14 := hid built_f14
  have H15 := hid v6_f15
  have B15 := hid built_f15
  have H16 := hid v6_f16
  have B16 := hid built_f16
  have H17 := hid v6_f17
  have B17 := hid built_f17
  have H18 := hid v6_f18
  have B18 := hid built_f18
  have H19 := hid v6_f19
  have B19 := hid built_f19
  have H20 := hid v6_f20
  have B20 := hid built_f20
  have H21 := hid v6_f21
  have B21 := hid built_f21
  have H22 := hid v6_f22
  have B22 := hid built_f22
  have H23 := hid v6_f23
  have B23 := hid built_f23
  have H24 := hid v6_f24
  have B24 := hid built_f24
  have H25 := hid v6_f25
  have B25 := hid built_f25
  have HF := hid forb_fill
  generalize acs false ((f4 0 0 0 0 8)).B = A0 at H0 B0
  generalize ncs (f4 0 0 0 0 8) = N0 at B0 HF
  generalize acs false ((f4 10 0 0 0 8)).B = A1 at H1 B1
  generalize ncs (f4 10 0 0 0 8) = N1 at B1 HF
  generalize acs false ((f4 100 64 0 0 10)).B = A2 at H2 B2
  generalize ncs (f4 100 64 0 0 10) = N2 at B2 HF
  generalize acs false ((f4 127 0 0 0 8)).B = A3 at H3 B3
  generalize ncs (f4 127 0 0 0 8) = N3 at B3 HF
  generalize acs false ((f4 169 254 0 0 16)).B = A4 at H4 B4
  generalize ncs (f4 169 254 0 0 16) = N4 at B4 HF
  generalize acs false ((f4 172 16 0 0 12)).B = A5 at H5 B5
  generalize ncs (f4 172 16 0 0 12) = N5 at B5 HF
  generalize acs false ((f4 192 0 0 0 24)).B = A6 at H6 B6
  generalize ncs (f4 192 0 0 0 24) = N6 at B6 HF
  generalize acs false ((f4 192 0 2 0 24)).B = A7 at H7 B7
  generalize ncs (f4 192 0 2 0 24) = N7 at B7 HF
  generalize acs false ((f4 192 88 99 0 24)).B = A8 at H8 B8
  generalize ncs (f4 192 88 99 0 24) = N8 at B8 HF
  generalize acs false ((f4 192 168 0 0 16)).B = A9 at H9 B9
  generalize ncs (f4 192 168 0 0 16) = N9 at B9 HF
  generalize acs false ((f4 198 18 0 0 15)).B = A10 at H10 B10
  generalize ncs (f4 198 18 0 0 15) = N10 at B10 HF
  generalize acs false ((f4 198 51 100 0 24)).B = A11 at H11 B11
  generalize ncs (f4 198 51 100 0 24) = N11 at B11 HF
  generalize acs false ((f4 203 0 113 0 24)).B = A12 at H12 B12
  generalize ncs (f4 203 0 113 0 24) = N12 at B12 HF
  generalize acs false ((f4 224 0 0 0 4)).B = A13 at H13 B13
  generalize ncs (f4 224 0 0 0 4) = N13 at B13 HF
  generalize acs false ((f4 240 0 0 0 4)).B = A14 at H14 B14
  generalize ncs (f4 240 0 0 0 4) = N14 at B14 HF
  generalize acs true ((f6 0 0 0 0 0 0 0 128)).B = A15 at H15 B15
  generalize ncs (f6 0 0 0 0 0 0 0 128) = N15 at B15 HF
  generalize acs true ((f6 0 0 0 0 0 0 1 128)).B = A16 at H16 B16
  generalize ncs (f6 0 0 0 0 0 0 1 128) = N16 at B16 HF
  generalize acs true ((f6 0 100 255 155 0 1 0 48)).B = A17 at H17 B17
  generalize ncs (f6 0 100 255 155 0 1 0 48) = N17 at B17 HF
  generalize acs true ((f6 1 0 0 0 0 0 0 64)).B = A18 at H18 B18
  generalize ncs (f6 1 0 0 0 0 0 0 64) = N18 at B18 HF
  generalize acs true ((f6 32 1 0 0 0 0 0 23)).B = A19 at H19 B19
  generalize ncs (f6 32 1 0 0 0 0 0 23) = N19 at B19 HF
  generalize acs true ((f6 32 1 13 184 0 0 0 32)).B = A20 at H20 B20
  generalize ncs (f6 32 1 13 184 0 0 0 32) = N20 at B20 HF
  generalize acs true ((f6 63 255 0 0 0 0 0 20)).B = A21 at H21 B21
  generalize ncs (f6 63 255 0 0 0 0 0 20) = N21 at B21 HF
  generalize acs true ((f6 95 0 0 0 0 0 0 16)).B = A22 at H22 B22
  generalize ncs (f6 95 0 0 0 0 0 0 16) = N22 at B22 HF
  generalize acs true ((f6 252 0 0 0 0 0 0 7)).B = A23 at H23 B23
  generalize ncs (f6 252 0 0 0 0 0 0 7) = N23 at B23 HF
  generalize acs true ((f6 254 128 0 0 0 0 0 10)).B = A24 at H24 B24
  generalize ncs (f6 254 128 0 0 0 0 0 10) = N24 at B24 HF
  generalize acs true ((f6 255 0 0 0 0 0 0 8)).B = A25 at H25 B25
  generalize ncs (f6 255 0 0 0 0 0 0 8) = N25 at B25 HF
  obtain ⟨ie, hie, hz0, hz1, hz2⟩ := info_parts (show (Tryz.prog.info? 26).map (fun i => (i.zero, i.size, i.bytes)) = some (some (.agg (ncs ⟨false, zer 16, 0⟩)), 18, 32) by kernel_rfl)
  have HIE := hid hie; have HZ0 := hid hz0; have HZ1 := hid hz1
  clear hie hz0 hz1 hz2
  generalize forbCells.toArray = FC at HF ⊢
  go_enter Tryz.func20, Tryz.ntmps20
  have HB : Hid (Below w.heap.size w w) := Below.refl _ _
  go_wp2_with (first | fail)
  refine (H0.out _).mono ?_
  rintro e W0 ⟨rfl, hb⟩
  replace HB := hid (HB.out.trans (hb.mono HB.out.size))
  clear hb H0
  go_wp2_with (first | (refine wpList_built rfl 26 _ rfl N0 B0.out ?_) | fail)
  refine (H1.out _).mono ?_
  rintro e W1 ⟨rfl, hb⟩
  replace HB := hid (HB.out.trans (hb.mono HB.out.size))
  clear hb H1
  clear B0
  go_wp2_with (first | (refine wpList_built rfl 26 _ rfl N1 B1.out ?_) | fail)
  refine (H2.out _).mono ?_
  rintro e W2 ⟨rfl, hb⟩
  replace HB := hid (HB.out.trans (hb.mono HB.out.size))
  clear hb H2
  clear B1
  go_wp2_with (first | (refine wpList_built rfl 26 _ rfl N2 B2.out ?_) | fail)
  refine (H3.out _).mono ?_
  rintro e W3 ⟨rfl, hb⟩
  replace HB := hid (HB.out.trans (hb.mono HB.out.size))
  clear hb H3
  clear B2
  go_wp2_with (first | (refine wpList_built rfl 26 _ rfl N3 B3.out ?_) | fail)
  refine (H4.out _).mono ?_
  rintro e W4 ⟨rfl, hb⟩
  replace HB := hid (HB.out.trans (hb.mono HB.out.size))
  clear hb H4
  clear B3
  go_wp2_with (first | (refine wpList_built rfl 26 _ rfl N4 B4.out ?_) | fail)
  refine (H5.out _).mono ?_
  rintro e W5 ⟨rfl, hb⟩
  replace HB := hid (HB.out.trans (hb.mono HB.out.size))
  clear hb H5
  clear B4
  go_wp2_with (first | (refine wpList_built rfl 26 _ rfl N5 B5.out ?_) | fail)
  refine (H6.out _).mono ?_
  rintro e W6 ⟨rfl, hb⟩
  replace HB := hid (HB.out.trans (hb.mono HB.out.size))
  clear hb H6
  clear B5
  go_wp2_with (first | (refine wpList_built rfl 26 _ rfl N6 B6.out ?_) | fail)
  refine (H7.out _).mono ?_
  rintro e W7 ⟨rfl, hb⟩
  replace HB := hid (HB.out.trans (hb.mono HB.out.size))
  clear hb H7
  clear B6
  go_wp2_with (first | (refine wpList_built rfl 26 _ rfl N7 B7.out ?_) | fail)
  refine (H8.out _).mono ?_
  rintro e W8 ⟨rfl, hb⟩
  replace HB := hid (HB.out.trans (hb.mono HB.out.size))
  clear hb H8
  clear B7
  go_wp2_with (first | (refine wpList_built rfl 26 _ rfl N8 B8.out ?_) | fail)
  refine (H9.out _).mono ?_
  rintro e W9 ⟨rfl, hb⟩
  replace HB := hid (HB.out.trans (hb.mono HB.out.size))
  clear hb H9
  clear B8
  go_wp2_with (first | (refine wpList_built rfl 26 _ rfl N9 B9.out ?_) | fail)
  refine (H10.out _).mono ?_
  rintro e W10 ⟨rfl, hb⟩
  replace HB := hid (HB.out.trans (hb.mono HB.out.size))
  clear hb H10
  clear B9
  go_wp2_with (first | (refine wpList_built rfl 26 _ rfl N10 B10.out ?_) | fail)
  refine (H11.out _).mono ?_
  rintro e W11 ⟨rfl, hb⟩
  replace HB := hid (HB.out.trans (hb.mono HB.out.size))
  clear hb H11
  clear B10
  go_wp2_with (first | (refine wpList_built rfl 26 _ rfl N11 B11.out ?_) | fail)
  refine (H12.out _).mono ?_
  rintro e W12 ⟨rfl, hb⟩
  replace HB := hid (HB.out.trans (hb.mono HB.out.size))
  clear hb H12
  clear B11
  go_wp2_with (first | (refine wpList_built rfl 26 _ rfl N12 B12.out ?_) | fail)
  refine (H13.out _).mono ?_
  rintro e W13 ⟨rfl, hb⟩
  replace HB := hid (HB.out.trans (hb.mono HB.out.size))
  clear hb H13
  clear B12
  go_wp2_with (first | (refine wpList_built rfl 26 _ rfl N13 B13.out ?_) | fail)
  refine (H14.out _).mono ?_
  rintro e W14 ⟨rfl, hb⟩
  replace HB := hid (HB.out.trans (hb.mono HB.out.size))
  clear hb H14
  clear B13
  go_wp2_with (first | (refine wpList_built rfl 26 _ rfl N14 B14.out ?_) | fail)
  refine (H15.out _).mono ?_
  rintro e W15 ⟨rfl, hb⟩
  replace HB := hid (HB.out.trans (hb.mono HB.out.size))
  clear hb H15
  clear B14
  go_wp2_with (first | (refine wpList_built rfl 26 _ rfl N15 B15.out ?_) | fail)
  refine (H16.out _).mono ?_
  rintro e W16 ⟨rfl, hb⟩
  replace HB := hid (HB.out.trans (hb.mono HB.out.size))
  clear hb H16
  clear B15
  go_wp2_with (first | (refine wpList_built rfl 26 _ rfl N16 B16.out ?_) | fail)
  refine (H17.out _).mono ?_
  rintro e W17 ⟨rfl, hb⟩
  replace HB := hid (HB.out.trans (hb.mono HB.out.size))
  clear hb H17
  clear B16
  go_wp2_with (first | (refine wpList_built rfl 26 _ rfl N17 B17.out ?_) | fail)
  refine (H18.out _).mono ?_
  rintro e W18 ⟨rfl, hb⟩
  replace HB := hid (HB.out.trans (hb.mono HB.out.size))
  clear hb H18
  clear B17
  go_wp2_with (first | (refine wpList_built rfl 26 _ rfl N18 B18.out ?_) | fail)
  refine (H19.out _).mono ?_
  rintro e W19 ⟨rfl, hb⟩
  replace HB := hid (HB.out.trans (hb.mono HB.out.size))
  clear hb H19
  clear B18
  go_wp2_with (first | (refine wpList_built rfl 26 _ rfl N19 B19.out ?_) | fail)
  refine (H20.out _).mono ?_
  rintro e W20 ⟨rfl, hb⟩
  replace HB := hid (HB.out.trans (hb.mono HB.out.size))
  clear hb H20
  clear B19
  go_wp2_with (first | (refine wpList_built rfl 26 _ rfl N20 B20.out ?_) | fail)
  refine (H21.out _).mono ?_
  rintro e W21 ⟨rfl, hb⟩
  replace HB := hid (HB.out.trans (hb.mono HB.out.size))
  clear hb H21
  clear B20
  go_wp2_with (first | (refine wpList_built rfl 26 _ rfl N21 B21.out ?_) | fail)
  refine (H22.out _).mono ?_
  rintro e W22 ⟨rfl, hb⟩
  replace HB := hid (HB.out.trans (hb.mono HB.out.size))
  clear hb H22
  clear B21
  go_wp2_with (first | (refine wpList_built rfl 26 _ rfl N22 B22.out ?_) | fail)
  refine (H23.out _).mono ?_
  rintro e W23 ⟨rfl, hb⟩
  replace HB := hid (HB.out.trans (hb.mono HB.out.size))
  clear hb H23
  clear B22
  go_wp2_with (first | (refine wpList_built rfl 26 _ rfl N23 B23.out ?_) | fail)
  refine (H24.out _).mono ?_
  rintro e W24 ⟨rfl, hb⟩
  replace HB := hid (HB.out.trans (hb.mono HB.out.size))
  clear hb H24
  clear B23
  go_wp2_with (first | (refine wpList_built rfl 26 _ rfl N24 B24.out ?_) | fail)
  refine (H25.out _).mono ?_
  rintro e W25 ⟨rfl, hb⟩
  replace HB := hid (HB.out.trans (hb.mono HB.out.size))
  clear hb H25
  clear B24
  go_wp2_with (first
    | (refine wpList_built rfl 26 _ rfl N25 B25.out ?_)
    | (refine wpList_buildSliceL rfl 46 26 26 _ rfl FC ie _ Tryz.underlying46 HIE.out HZ0.out (by rw [HZ1.out]; decide) (by rw [HZ1.out]; decide) (by rw [HZ1.out]; exact HF.out) ?_)
    | fail)
  go_ret
  exact ⟨W25.heap.size, rfl, HB.out.size, heap_alloc_new W25 _, alloc_below HB.out HB.out.size _⟩
end Go.Proofs.YtocdjgehjiolhaaGreatDoor
