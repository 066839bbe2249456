/-
  Names and texts that may be.
-/
import Derived.Test.YtkldllnnocdhbaaGreatDoorKt8
import Derived.Shelf.Abstract
import Derived.Shelf.LaysM
import Derived.Shelf.LaysC
import Derived.Shelf.Strconv.Itoa4
import Derived.Shelf.Strconv.Clone
import Derived.Shelf.Strconv.ParseIntPublic10
import Derived.Ground.SlbNamesProg
import Derived.Shelf.Bytes.SlCountOne
import Derived.Test.YtkldllnnocdhbaaGreatDoorProg
import Derived.Lib.ConvBytes
import Derived.Lib.SmallJoins
import Derived.Handy
namespace Go.Proofs.YtkldllnnocdhbaaGreatDoor
open Go.RowKit
attribute [local go_sem ↓] Go.wp_at_zero Go.wp_at_succ
namespace TK
theorem set_cells {W : World} {a j : Nat} {cs : Array Value} {t : TypeId} {x : Value} (h : W.heap[a]? = some (.cells cs t (0, 0))) : (W.setCell ⟨a, j, none⟩ x).heap[a]? = some (.cells (cs.setIfInBounds j x) t (0, 0)) := by
  simp only [World.setCell, Array.getElem?_modify]; rw [h]; simp
set_option maxRecDepth 100000 in
set_option maxHeartbeats 8000000 in
theorem ofNw_ (b : Nat) (w : World) (hb : w.heap[b]? = some (.cells #[.int .i64 2, .int .i64 3, .int .i64 4, .int .i64 5] 197 (0, 0))) :
    Calls Tryz.prog 182 #[.slice (some ⟨b, 0, none⟩) 4 4] w fun e w' => ∃ g, e = .returned (.func (.func 193) #[] #[.pointer (some ⟨g, 0, none⟩)]) ∧ w'.cell? ⟨g, 0, none⟩ = some (.int .u64 60) ∧ Up w w' := by
  obtain ⟨Post, hPost⟩ : ∃ P : Ending → World → Prop, P = fun e w' => ∃ g, e = .returned (.func (.func 193) #[] #[.pointer (some ⟨g, 0, none⟩)]) ∧ w'.cell? ⟨g, 0, none⟩ = some (.int .u64 60) ∧ Up w w' := ⟨_, rfl⟩
  rw [← hPost]
  have HPo : Hid (Post = fun e w' => ∃ g, e = .returned (.func (.func 193) #[] #[.pointer (some ⟨g, 0, none⟩)]) ∧ w'.cell? ⟨g, 0, none⟩ = some (.int .u64 60) ∧ Up w w') := hPost
  have HB : Hid (∀ W, Up w W → ∀ j, W.cell? ⟨b, j, none⟩ = (#[Value.int .i64 2, Value.int .i64 3, Value.int .i64 4, Value.int .i64 5])[j]?) := fun W u j => by
    have h9 := u.heap hb
    simp only [World.cell?, h9]
    rfl
  clear hPost hb
  go_enter Tryz.func182, Tryz.ntmps182
  go_wp2_with fail
  go_loopw [8] (fun s8 W => ∃ k : Nat, k ≤ 4 ∧ s8 = .int .i64 k ∧ W.heap[w.heap.size]? = some (.cells #[.int .u64 (([0, 4, 12, 28, 60] : List Int).getD k 0)] 218 (0, 0)) ∧ Up w W) (fun s8 _ => 4 - (intOf s8).toNat)
  case atStart => exact ⟨0, Nat.zero_le _, rfl, heap_alloc_new w _, (Up.refl _).alloc _⟩
  case round =>
    obtain ⟨k, hk, rfl, hg, hu⟩ := hrel
    have HS : Hid (wr.heap[w.heap.size]? = some (.cells #[.int .u64 (([0, 4, 12, 28, 60] : List Int).getD k 0)] 218 (0, 0)) ∧ Up w wr) := ⟨hg, hu⟩
    have x0 : wr.cell? ⟨w.heap.size, 0, none⟩ = some (.int .u64 (([0, 4, 12, 28, 60] : List Int).getD k 0)) := by simp [World.cell?, hg]
    have f0 : wr.frozen? ⟨w.heap.size, 0, none⟩ = false := by simp [World.frozen?, hg]
    clear hg hu
    by_cases hlt : k < 4
    · have c1 := HB.out wr HS.out.2 k
      have HX : Hid (∀ nq y, y = (([0, 4, 12, 28, 60] : List Int).getD (k + 1) 0) → ((wr.drewN nq).setCell ⟨w.heap.size, 0, none⟩ (.int .u64 y)).heap[w.heap.size]? = some (.cells #[.int .u64 (([0, 4, 12, 28, 60] : List Int).getD (k + 1) 0)] 218 (0, 0)) ∧ Up w ((wr.drewN nq).setCell ⟨w.heap.size, 0, none⟩ (.int .u64 y))) := fun nq y hy => by
        refine ⟨?_, Below.setCell (HS.out.2.drewN nq) (Nat.le_refl _) _⟩
        have h9 : (wr.drewN nq).heap[w.heap.size]? = some (.cells #[.int .u64 (([0, 4, 12, 28, 60] : List Int).getD k 0)] 218 (0, 0)) := HS.out.1
        rw [set_cells h9, hy]
        simp
      have hkk : k = 0 ∨ k = 1 ∨ k = 2 ∨ k = 3 := by omega
      rcases hkk with rfl | rfl | rfl | rfl
      all_goals
        simp at x0 c1
        go_wp2_with fail
        refine TailR.wp_region_seq 4 (by kernel_rfl) (by kernel_rfl) ?_
        simp only [List.take_succ_cons, List.take_zero, List.drop_succ_cons, List.drop_zero]
        repeat (go_big_quiet_step (fail))
        refine wpQuiet_nil ?_
        intro _ hw'
        obtain ⟨nq, hw''⟩ := hw'
        subst hw''
        go_wp2_with fail
        go_roundw
        case rel => exact ⟨_, by omega, by go_num, HX.out _ _ rfl⟩
        case measure => simp [intOf]
    · obtain rfl : k = 4 := by omega
      simp at x0
      go_wp2_with fail
      rw [HPo.out]
      exact ⟨_, rfl, x0, HS.out.2⟩
set_option maxRecDepth 100000 in
set_option maxHeartbeats 8000000 in
theorem ofDw_ (b : Nat) (w : World) (hb : w.heap[b]? = some (.cells #[.int .i64 4] 197 (0, 0))) :
    Calls Tryz.prog 182 #[.slice (some ⟨b, 0, none⟩) 1 1] w fun e w' => ∃ g, e = .returned (.func (.func 193) #[] #[.pointer (some ⟨g, 0, none⟩)]) ∧ w'.cell? ⟨g, 0, none⟩ = some (.int .u64 16) ∧ Up w w' := by
  obtain ⟨Post, hPost⟩ : ∃ P : Ending → World → Prop, P = fun e w' => ∃ g, e = .returned (.func (.func 193) #[] #[.pointer (some ⟨g, 0, none⟩)]) ∧ w'.cell? ⟨g, 0, none⟩ = some (.int .u64 16) ∧ Up w w' := ⟨_, rfl⟩
  rw [← hPost]
  have HPo : Hid (Post = fun e w' => ∃ g, e = .returned (.func (.func 193) #[] #[.pointer (some ⟨g, 0, none⟩)]) ∧ w'.cell? ⟨g, 0, none⟩ = some (.int .u64 16) ∧ Up w w') := hPost
  have HB : Hid (∀ W, Up w W → ∀ j, W.cell? ⟨b, j, none⟩ = (#[Value.int .i64 4])[j]?) := fun W u j => by
    have h9 := u.heap hb
    simp only [World.cell?, h9]
    rfl
  clear hPost hb
  go_enter Tryz.func182, Tryz.ntmps182
  go_wp2_with fail
  go_loopw [8] (fun s8 W => ∃ k : Nat, k ≤ 1 ∧ s8 = .int .i64 k ∧ W.heap[w.heap.size]? = some (.cells #[.int .u64 (([0, 16] : List Int).getD k 0)] 218 (0, 0)) ∧ Up w W) (fun s8 _ => 1 - (intOf s8).toNat)
  case atStart => exact ⟨0, Nat.zero_le _, rfl, heap_alloc_new w _, (Up.refl _).alloc _⟩
  case round =>
    obtain ⟨k, hk, rfl, hg, hu⟩ := hrel
    have HS : Hid (wr.heap[w.heap.size]? = some (.cells #[.int .u64 (([0, 16] : List Int).getD k 0)] 218 (0, 0)) ∧ Up w wr) := ⟨hg, hu⟩
    have x0 : wr.cell? ⟨w.heap.size, 0, none⟩ = some (.int .u64 (([0, 16] : List Int).getD k 0)) := by simp [World.cell?, hg]
    have f0 : wr.frozen? ⟨w.heap.size, 0, none⟩ = false := by simp [World.frozen?, hg]
    clear hg hu
    by_cases hlt : k < 1
    · have c1 := HB.out wr HS.out.2 k
      have HX : Hid (∀ nq y, y = (([0, 16] : List Int).getD (k + 1) 0) → ((wr.drewN nq).setCell ⟨w.heap.size, 0, none⟩ (.int .u64 y)).heap[w.heap.size]? = some (.cells #[.int .u64 (([0, 16] : List Int).getD (k + 1) 0)] 218 (0, 0)) ∧ Up w ((wr.drewN nq).setCell ⟨w.heap.size, 0, none⟩ (.int .u64 y))) := fun nq y hy => by
        refine ⟨?_, Below.setCell (HS.out.2.drewN nq) (Nat.le_refl _) _⟩
        have h9 : (wr.drewN nq).heap[w.heap.size]? = some (.cells #[.int .u64 (([0, 16] : List Int).getD k 0)] 218 (0, 0)) := HS.out.1
        rw [set_cells h9, hy]
        simp
      have hkk : k = 0 := by omega
      rcases hkk with rfl
      all_goals
        simp at x0 c1
        go_wp2_with fail
        refine TailR.wp_region_seq 4 (by kernel_rfl) (by kernel_rfl) ?_
        simp only [List.take_succ_cons, List.take_zero, List.drop_succ_cons, List.drop_zero]
        repeat (go_big_quiet_step (fail))
        refine wpQuiet_nil ?_
        intro _ hw'
        obtain ⟨nq, hw''⟩ := hw'
        subst hw''
        go_wp2_with fail
        go_roundw
        case rel => exact ⟨_, by omega, by go_num, HX.out _ _ rfl⟩
        case measure => simp [intOf]
    · obtain rfl : k = 1 := by omega
      simp at x0
      go_wp2_with fail
      rw [HPo.out]
      exact ⟨_, rfl, x0, HS.out.2⟩
set_option maxRecDepth 100000 in
set_option maxHeartbeats 8000000 in
theorem inName_ (w : World) : Calls Tryz.prog 163 #[] w fun e w' => ∃ g, e = .returned (.func (.func 193) #[] #[.pointer (some ⟨g, 0, none⟩)]) ∧ w'.cell? ⟨g, 0, none⟩ = some (.int .u64 60) ∧ Up w w' := by
  have HO := ofNw_ w.heap.size (w.alloc (.cells #[.int .i64 2, .int .i64 3, .int .i64 4, .int .i64 5] 197)) (heap_alloc_new w _)
  have HO2 : Hid (Calls Tryz.prog 182 #[.slice (some ⟨w.heap.size, 0, none⟩) 4 4] (w.alloc (.cells #[.int .i64 2, .int .i64 3, .int .i64 4, .int .i64 5] 197)) fun e w' => ∃ g, e = .returned (.func (.func 193) #[] #[.pointer (some ⟨g, 0, none⟩)]) ∧ w'.cell? ⟨g, 0, none⟩ = some (.int .u64 60) ∧ Up w w') := Calls.mono HO (fun e w' h => by
    obtain ⟨g, h1, h2, h3⟩ := h
    exact ⟨g, h1, h2, ((Up.refl w).alloc _).trans h3⟩)
  clear HO
  go_enter Tryz.func163, Tryz.ntmps163
  go_wp2_with fail
  refine Calls.mono HO2.out ?_
  rintro r W1 ⟨g, rfl, hc, u⟩
  go_wp2_with fail
  go_ret
  exact ⟨g, rfl, hc, u⟩
end TK
end Go.Proofs.YtkldllnnocdhbaaGreatDoor
namespace Go.Proofs.YtkldllnnocdhbaaGreatDoor
open Go.RowKit
attribute [local go_sem ↓] Go.wp_at_zero Go.wp_at_succ
namespace TK
theorem ba_bl {W : World} {b o c : Nat} {B : List Int} (h : BA W b o B) (hc : B.length ≤ c) : BL W (.slice (some ⟨b, o, none⟩) B.length c) B := by
  refine ⟨by simp [bvs], some ⟨b, o, none⟩, c, rfl, hc, fun _ => ⟨b, o, rfl, fun j hj => ?_⟩⟩
  rw [bvs_at (by omega)]
  exact h W (Up.refl _) j (by omega)
end TK
end Go.Proofs.YtkldllnnocdhbaaGreatDoor
namespace Go.Proofs
open Go.Shelf
def Tryz.laysM173_ren : Go.Shelf.Ren := ⟨fun | 173 => 128 | 246 => 160 | 283 => 178 | 284 => 179 | 285 => 180 | 286 => 181 | 129 => 189 | 317 => 188 | 318 => 190 | 319 => 191 | 320 => 192 | 337 => 198 | 338 => 199 | n => n, fun | 2 => 2 | 3 => 3 | 9 => 9 | 4 => 4 | 171 => 203 | 0 => 0 | 53 => 111 | 37 => 26 | 5 => 5 | 173 => 206 | 212 => 214 | 51 => 215 | 20 => 20 | 213 => 216 | 46 => 218 | 232 => 222 | 233 => 223 | n => n, fun | 17 => 1 | 18 => 2 | 19 => 3 | n => n⟩
theorem Tryz.laysM173 : Go.Proofs.LaysM.n173 Tryz.prog Tryz.laysM173_ren := {
  mixed := by kernel_rfl
  f129 := Tryz.func189.trans (congrArg some (by kernel_rfl))
  f173 := Tryz.func128.trans (congrArg some (by kernel_rfl))
  f246 := Tryz.func160.trans (congrArg some (by kernel_rfl))
  f283 := Tryz.func178.trans (congrArg some (by kernel_rfl))
  f284 := Tryz.func179.trans (congrArg some (by kernel_rfl))
  f285 := Tryz.func180.trans (congrArg some (by kernel_rfl))
  f286 := Tryz.func181.trans (congrArg some (by kernel_rfl))
  f317 := Tryz.func188.trans (congrArg some (by kernel_rfl))
  f318 := Tryz.func190.trans (congrArg some (by kernel_rfl))
  f319 := Tryz.func191.trans (congrArg some (by kernel_rfl))
  f320 := Tryz.func192.trans (congrArg some (by kernel_rfl))
  f337 := Tryz.func198.trans (congrArg some (by kernel_rfl))
  f338 := Tryz.func199.trans (congrArg some (by kernel_rfl))
  t0 := Tryz.underlying0
  a0 := Tryz.isAgg0
  z0 := Tryz.sizeOf0
  v0 := Tryz.zeroValue0
  t2 := Tryz.underlying2
  a2 := Tryz.isAgg2
  z2 := Tryz.sizeOf2
  v2 := Tryz.zeroValue2
  t3 := Tryz.underlying3
  a3 := Tryz.isAgg3
  z3 := Tryz.sizeOf3
  v3 := Tryz.zeroValue3
  t4 := Tryz.underlying4
  a4 := Tryz.isAgg4
  z4 := Tryz.sizeOf4
  v4 := Tryz.zeroValue4
  t5 := Tryz.underlying5
  a5 := Tryz.isAgg5
  z5 := Tryz.sizeOf5
  v5 := Tryz.zeroValue5
  t9 := Tryz.underlying9
  a9 := Tryz.isAgg9
  z9 := Tryz.sizeOf9
  v9 := Tryz.zeroValue9
  t20 := Tryz.underlying20
  a20 := Tryz.isAgg20
  z20 := Tryz.sizeOf20
  v20 := Tryz.zeroValue20
  t37 := Tryz.underlying26
  a37 := Tryz.isAgg26
  z37 := Tryz.sizeOf26
  v37 := Tryz.zeroValue26
  t46 := Tryz.underlying218
  a46 := Tryz.isAgg218
  z46 := Tryz.sizeOf218
  v46 := Tryz.zeroValue218
  t51 := Tryz.underlying215
  a51 := Tryz.isAgg215
  z51 := Tryz.sizeOf215
  v51 := Tryz.zeroValue215
  t53 := Tryz.underlying111
  a53 := Tryz.isAgg111
  z53 := Tryz.sizeOf111
  v53 := Tryz.zeroValue111
  t171 := Tryz.underlying203
  a171 := Tryz.isAgg203
  z171 := Tryz.sizeOf203
  v171 := Tryz.zeroValue203
  t173 := Tryz.underlying206
  a173 := Tryz.isAgg206
  z173 := Tryz.sizeOf206
  v173 := Tryz.zeroValue206
  t212 := Tryz.underlying214
  a212 := Tryz.isAgg214
  z212 := Tryz.sizeOf214
  v212 := Tryz.zeroValue214
  t213 := Tryz.underlying216
  a213 := Tryz.isAgg216
  z213 := Tryz.sizeOf216
  t232 := Tryz.underlying222
  a232 := Tryz.isAgg222
  z232 := Tryz.sizeOf222
  v232 := Tryz.zeroValue222
  t233 := Tryz.underlying223
  a233 := Tryz.isAgg223
  z233 := Tryz.sizeOf223
  v233 := Tryz.zeroValue223
  g17 := by kernel_rfl
  g18 := by kernel_rfl
  g19 := by kernel_rfl
  i0 := by kernel_rfl
  i2 := by kernel_rfl
  i3 := by kernel_rfl
  i4 := by kernel_rfl
  i5 := by kernel_rfl
  i9 := by kernel_rfl
  i20 := by kernel_rfl
  i37 := by kernel_rfl
  i46 := by kernel_rfl
  i51 := by kernel_rfl
  i53 := by kernel_rfl
  i171 := by kernel_rfl
  i173 := by kernel_rfl
  i212 := by kernel_rfl
  i232 := by kernel_rfl
  i233 := by kernel_rfl
  m17 := by kernel_rfl
  m18 := by kernel_rfl
  m19 := by kernel_rfl }
def Tryz.laysM316_ren : Go.Shelf.Ren := ⟨fun | 316 => 164 | n => n, fun | 9 => 9 | 3 => 3 | 4 => 4 | 37 => 26 | 0 => 0 | 127 => 209 | 5 => 5 | n => n, fun | n => n⟩
theorem Tryz.laysM316 : Go.Proofs.LaysM.n316 Tryz.prog Tryz.laysM316_ren := {
  mixed := by kernel_rfl
  f316 := Tryz.func164.trans (congrArg some (by kernel_rfl))
  t0 := Tryz.underlying0
  a0 := Tryz.isAgg0
  z0 := Tryz.sizeOf0
  v0 := Tryz.zeroValue0
  t3 := Tryz.underlying3
  a3 := Tryz.isAgg3
  z3 := Tryz.sizeOf3
  v3 := Tryz.zeroValue3
  t4 := Tryz.underlying4
  a4 := Tryz.isAgg4
  z4 := Tryz.sizeOf4
  v4 := Tryz.zeroValue4
  t9 := Tryz.underlying9
  a9 := Tryz.isAgg9
  z9 := Tryz.sizeOf9
  v9 := Tryz.zeroValue9
  t37 := Tryz.underlying26
  a37 := Tryz.isAgg26
  z37 := Tryz.sizeOf26
  v37 := Tryz.zeroValue26
  t127 := Tryz.underlying209
  a127 := Tryz.isAgg209
  z127 := Tryz.sizeOf209
  v127 := Tryz.zeroValue209
  t5 := Tryz.underlying5
  a5 := Tryz.isAgg5
  z5 := Tryz.sizeOf5
  v5 := Tryz.zeroValue5
  i0 := by kernel_rfl
  i3 := by kernel_rfl
  i4 := by kernel_rfl
  i5 := by kernel_rfl
  i9 := by kernel_rfl
  i37 := by kernel_rfl
  i127 := by kernel_rfl }
end Go.Proofs
namespace Go.Proofs.YtkldllnnocdhbaaGreatDoor
open Go.RowKit
attribute [local go_sem ↓] Go.wp_at_zero Go.wp_at_succ
namespace TK
theorem bw_bl (w : World) (l : List Int) (hl : Byt l) (c : Nat) (hc : l.length ≤ c) : BL (Lib.bytesWorld w 5 (strOfNums l)) (.slice (some ⟨w.heap.size, 0, none⟩) l.length c) l := by
  refine ⟨by simp [bvs], _, c, rfl, hc, fun _ => ⟨w.heap.size, 0, rfl, fun j hj => ?_⟩⟩
  have hj2 : j < l.length := by omega
  rw [Nat.zero_add, Lib.bytesWorld_cell w 5 (strOfNums l) j (by rw [strOfNums_size]; exact hj2), bvs_at hj2, strOfNums_data]
  have h1 := hl.at j
  congr 2
  rw [List.getD_eq_getElem?_getD, List.getElem?_map, List.getElem?_eq_getElem hj2]
  simp only [Option.map_some, Option.getD_some, UInt8.toNat_ofNat']
  rw [List.getD_eq_getElem?_getD, List.getElem?_eq_getElem hj2] at h1 ⊢
  simp only [Option.getD_some] at h1 ⊢
  omega
theorem bw_up (w : World) (e : TypeId) (s : ByteArray) : Up w (Lib.bytesWorld w e s) := Joins.below_bytesWorld _ _ _ _ (Nat.le_refl _)
theorem conv_str (w : World) (s : ByteArray) : (convert 9 26 (.string s)).run Tryz.prog w = .ok (.slice (some ⟨w.heap.size, 0, none⟩) s.size (grownCap w s.size 0 5)) (Lib.bytesWorld w 5 s) := Lib.run_convert_string_bytes w _ _ _ s Tryz.underlying9 Tryz.underlying26 Tryz.underlying5
set_option maxRecDepth 100000 in
set_option maxHeartbeats 8000000 in
theorem isText_ (l : List Int) (w : World) (hl : Byt l) (hn : l.length ≤ 281474976710656) : Calls Tryz.prog 132 #[.string (strOfNums l)] w fun e w' => e = .returned (.bool (okT l)) ∧ Up w w' := by
  obtain ⟨R, hR⟩ : ∃ R, R = okT l := ⟨_, rfl⟩
  rw [← hR]
  have HR : Hid (R = okT l) := hR
  clear hR
  obtain ⟨s, hs⟩ : ∃ s, s = strOfNums l := ⟨_, rfl⟩
  have HS : Hid (s = strOfNums l) := hs
  have hsz : s.size = l.length := by rw [hs, strOfNums_size]
  rw [← hs]
  obtain ⟨n, hN⟩ : ∃ n, n = l.length := ⟨_, rfl⟩
  have HN : Hid (n = l.length) := hN
  rw [← hN] at hsz hn
  have hcs := conv_str w s
  rw [hsz] at hcs
  by_cases hbig : n ≤ 64
  · have e1 : (n : Int) ≤ 64 := by omega
    have HG : Hid (n ≤ grownCap w n 0 5) := grownCap_ge w n 0 _
    have HBH : Hid (Calls Tryz.prog 162 #[.slice (some ⟨w.heap.size, 0, none⟩) n (grownCap w n 0 5), .int .i64 ((0 : Nat) : Int), .func (.func 165) #[] #[]] (Lib.bytesWorld w 5 s) fun r9 w' => r9 = .returned (.int .i64 (spn pln l 0 : Nat)) ∧ Up (Lib.bytesWorld w 5 s) w') :=
      behind_ 165 #[] #[] pln _ l 0 _ (by rw [HN.out, HS.out]; exact bw_bl w l hl _ (by rw [← HN.out]; exact HG.out)) (Nat.zero_le _) (by have := HN.out; omega) (enters_of Tryz.func165 (by kernel_rfl) rfl) (fun W c9 _ => by simpa using Calls.mono (isPlain_ c9 W) (fun e w9 h9 => by obtain ⟨h8, h7⟩ := h9; subst h7; exact ⟨h8, Up.refl _⟩))
    have HQ : Hid (R = (((spn pln l 0 : Nat) : Int) == (n : Int))) := by
      unfold Hid
      rw [HR.out]
      unfold okT
      rw [decide_eq_true (by have := HN.out; omega), Bool.true_and, HN.out, Bool.eq_iff_iff, ← spn_whole, beq_iff_eq]
      omega
    clear hs hN hl
    generalize spn pln l 0 = e at *
    go_enter Tryz.func132, Tryz.ntmps132
    go_wp2_with fail
    refine Calls.mono HBH.out ?_
    rintro r W1 ⟨rfl, u1⟩
    have HU : Hid (Up w W1) := (bw_up w _ _).trans u1
    clear u1
    go_wp2_with fail
    go_ret
    exact ⟨by rw [HQ.out] <;> rfl, HU.out⟩
  · have e1 : ¬ (n : Int) ≤ 64 := by omega
    have HQ : Hid (R = false) := by unfold Hid; rw [HR.out]; unfold okT; rw [decide_eq_false (by have := HN.out; omega)]; rfl
    clear hs hN hl hcs
    go_enter Tryz.func132, Tryz.ntmps132
    go_wp2_with fail
    go_ret
    exact ⟨by rw [HQ.out] <;> rfl, Up.refl _⟩
theorem cls_sml2 {c : Int} (h : clsI c = 2) : sml c = true := by
  unfold clsI at h
  split at h
  · omega
  · split at h
    · assumption
    · repeat' split at h
      all_goals omega
theorem sml_cls (c : Int) : sml c = (clsI c == 2) := by
  by_cases h : sml c = true
  · have h1 : blk c = false := by
      unfold sml at h
      simp only [Bool.and_eq_true, decide_eq_true_eq] at h
      unfold blk
      simp
      omega
    unfold clsI
    rw [h1, h]
    rfl
  · have h2 : sml c = false := by simpa using h
    rw [h2]
    have h3 : clsI c ≠ 2 := fun h9 => by
      have h8 := cls_sml2 h9
      rw [h2] at h8
      cases h8
    simpa using h3
set_option maxRecDepth 100000 in
set_option maxHeartbeats 8000000 in
theorem isName_ (l : List Int) (w : World) (hl : Byt l) (hn : l.length ≤ 281474976710656) : Calls Tryz.prog 129 #[.string (strOfNums l)] w fun e w' => e = .returned (.bool (okN l)) ∧ Up w w' := by
  obtain ⟨R, hR⟩ : ∃ R, R = okN l := ⟨_, rfl⟩
  rw [← hR]
  have HR : Hid (R = okN l) := hR
  clear hR
  obtain ⟨s, hs⟩ : ∃ s, s = strOfNums l := ⟨_, rfl⟩
  have HS : Hid (s = strOfNums l) := hs
  have hsz : s.size = l.length := by rw [hs, strOfNums_size]
  have hni : s.toList = [] ↔ l = [] := by rw [hs]; exact nums_nil
  have HBT : Hid (∀ i, i < l.length → ∃ d : Nat, (d : Int) = l.getD i 0 ∧ ∀ h : i < s.size, (s[i]'h).toNat = d) := fun i hi => by
    have h1 := hl.at i
    refine ⟨(l.getD i 0).toNat, by omega, fun h => ?_⟩
    subst hs
    have h2 := nums_at hl hi h
    omega
  rw [← hs]
  obtain ⟨n, hN⟩ : ∃ n, n = l.length := ⟨_, rfl⟩
  have HN : Hid (n = l.length) := hN
  rw [← hN] at hsz hn
  have hcs := conv_str w s
  rw [hsz] at hcs
  by_cases h0 : l = []
  · have t0 : s.toList.isEmpty = true := by rw [hni.2 h0]; rfl
    have HQ : Hid (R = false) := by unfold Hid; rw [HR.out, h0]; rfl
    clear hs hN hl hcs hni
    go_enter Tryz.func129, Tryz.ntmps129
    go_wp2_with fail
    go_ret
    exact ⟨by rw [HQ.out] <;> rfl, Up.refl _⟩
  · have t0 : s.toList.isEmpty = false := by
      cases h9 : s.toList with
      | nil => exact absurd (hni.1 h9) h0
      | cons a b => rfl
    have hn0 : 0 < n := by
      rcases Nat.eq_zero_or_pos n with h9 | h9
      · exact absurd (List.eq_nil_of_length_eq_zero (by omega)) h0
      · exact h9
    by_cases hbig : 32 < n
    · have e1 : (32 : Int) < (n : Int) := by omega
      have HQ : Hid (R = false) := by unfold Hid; rw [HR.out]; unfold okN; rw [decide_eq_false (show ¬ l.length ≤ 32 by omega)]; simp
      clear hs hN hl hcs hni h0
      go_enter Tryz.func129, Tryz.ntmps129
      go_wp2_with fail
      go_ret
      exact ⟨by rw [HQ.out] <;> rfl, Up.refl _⟩
    · have e1 : ¬ (32 : Int) < (n : Int) := by omega
      obtain ⟨d, hd, hx0⟩ := HBT.out 0 (by omega)
      have HCL : Hid (Calls Tryz.prog 161 #[.int .u8 (d : Int)] w fun e w' => e = .returned (.int .i64 (clsI (d : Int))) ∧ w' = w) := classOf_ _ w
      have HIN := inName_ (Lib.bytesWorld w 5 s)
      have HQ : Hid (R = ((clsI (d : Int) == 2) && (((spn prt l 0 : Nat) : Int) == (n : Int)))) := by
        unfold Hid
        rw [HR.out]
        unfold okN
        rw [decide_eq_true (show l ≠ [] from h0), decide_eq_true (show l.length ≤ 32 by omega), Bool.true_and, Bool.true_and, ← hd, sml_cls]
        congr 1
        rw [HN.out, Bool.eq_iff_iff, ← spn_whole, beq_iff_eq]
        omega
      have HG : Hid (n ≤ grownCap w n 0 5) := grownCap_ge w n 0 _
      have HBL : Hid (∀ W, Up (Lib.bytesWorld w 5 s) W → BL W (.slice (some ⟨w.heap.size, 0, none⟩) n (grownCap w n 0 5)) l) := fun W x => by
        have h9 := bw_bl w l hl (grownCap w n 0 5) (by rw [← HN.out]; exact HG.out)
        rw [← HN.out, ← HS.out] at h9
        exact h9.up x
      have HI2 : Hid (Calls Tryz.prog 163 #[] (Lib.bytesWorld w 5 s) fun e w' => ∃ g, e = .returned (.func (.func 193) #[] #[.pointer (some ⟨g, 0, none⟩)]) ∧ w'.cell? ⟨g, 0, none⟩ = some (.int .u64 60) ∧ Up (Lib.bytesWorld w 5 s) w') := HIN
      clear hs hN hl hni hd HIN HBT h0 HG HR
      generalize clsI (d : Int) = k at *
      by_cases hk : k = 2
      · subst hk
        go_enter Tryz.func129, Tryz.ntmps129
        go_wp2_with fail
        refine Calls.mono HCL.out ?_
        rintro r W1 ⟨rfl, hw⟩
        obtain rfl := hw.symm
        clear hw HCL
        go_wp2_with fail
        refine Calls.mono HI2.out ?_
        rintro r W2 ⟨g, rfl, h60, u2⟩
        have HBH : Hid (Calls Tryz.prog 162 #[.slice (some ⟨w.heap.size, 0, none⟩) n (grownCap w n 0 5), .int .i64 ((0 : Nat) : Int), .func (.func 193) #[] #[.pointer (some ⟨g, 0, none⟩)]] W2 fun r9 w' => r9 = .returned (.int .i64 (spn prt l 0 : Nat)) ∧ Up W2 w') :=
          behind_ 193 #[] #[.pointer (some ⟨g, 0, none⟩)] prt _ l 0 W2 (HBL.out W2 u2) (Nat.zero_le _) (by have := HN.out; omega) (enters_of Tryz.func193 (by kernel_rfl) rfl) (fun W c9 x => by simpa using ofN_ c9 g W (x.cell h60))
        have HU : Hid (Up w W2) := (bw_up w _ _).trans u2
        clear u2 h60 HI2 HBL
        generalize spn prt l 0 = e at *
        go_wp2_with fail
        refine Calls.mono HBH.out ?_
        rintro r W3 ⟨rfl, u3⟩
        have HU : Hid (Up w W3) := HU.out.trans u3
        clear u3
        go_wp2_with fail
        go_ret
        exact ⟨by rw [HQ.out] <;> rfl, HU.out⟩
      · have hk2 : (k == 2) = false := by simpa using hk
        have hk3 : (k != 2) = true := by simpa using hk
        rw [hk2] at HQ
        go_enter Tryz.func129, Tryz.ntmps129
        go_wp2_with fail
        refine Calls.mono HCL.out ?_
        rintro r W1 ⟨rfl, hw⟩
        obtain rfl := hw.symm
        clear hw HCL
        go_wp2_with fail
        go_ret
        exact ⟨by rw [HQ.out] <;> rfl, Up.refl _⟩
end TK
end Go.Proofs.YtkldllnnocdhbaaGreatDoor
