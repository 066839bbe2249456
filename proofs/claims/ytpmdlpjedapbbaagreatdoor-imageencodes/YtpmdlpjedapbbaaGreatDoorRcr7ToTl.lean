/-
  The document's sum.
-/
import Derived.Test.YtpmdlpjedapbbaaGreatDoorPoly7ToThr7
import Derived.Test.YtpmdlpjedapbbaaGreatDoorWhToCt
import Derived.Test.YtpmdlpjedapbbaaGreatDoorSlToSm
namespace Go.Proofs.YtpmdlpjedapbbaaGreatDoor
namespace SM
open Go.RowKit
set_option maxRecDepth 100000 in
set_option maxHeartbeats 1000000 in
theorem turned (n : Nat) (w : World) (h : n < 4294967296) :
    Calls Tryz.prog 97 #[.int .u32 n] w fun e w' => e = .returned (.int .u32 (n ^^^ 4294967295 : Nat)) ∧ w' = w := by
  have e2 := xor_u32 n 4294967295 h (by decide)
  go_enter Tryz.func97, Tryz.ntmps97
  go_wp2
  go_ret
  exact ⟨ret_int e2, rfl⟩
set_option maxRecDepth 100000 in
set_option maxHeartbeats 1000000 in
theorem shifted8 (n : Nat) (w : World) (h : n < 4294967296) :
    Calls Tryz.prog 98 #[.int .u32 n] w fun e w' => e = .returned (.int .u32 (Sn 8 n)) ∧ w' = w := by
  go_enter Tryz.func98, Tryz.ntmps98
  go_wp2_with fail
  go_loop [0, 3] (fun s0 s3 => ∃ k x : Nat, k ≤ 8 ∧ x < 4294967296 ∧ Sn k x = Sn 8 n ∧ s0 = .int .u32 x ∧ s3 = .int .i64 ((8 - k : Nat) : Int)) (fun _ i => 8 - (intOf i).toNat)
  case atStart => exact ⟨8, n, by omega, h, rfl, rfl, rfl⟩
  case round =>
    obtain ⟨k, x, hk, hx, hm, rfl, rfl⟩ := hrel
    have HM : Hid (Sn k x = Sn 8 n) := hm
    clear hm
    cases k with
    | zero =>
      have HP : Hid (x = Sn 8 n) := HM.out
      go_wp2
      go_ret
      exact ⟨ret_int (by rw [HP.out]), rfl⟩
    | succ k =>
      have hi : ((8 - (k + 1) : Nat) : Int) = 7 - (k : Int) := by omega
      rw [hi]
      have hk8 : (7 - (k : Int) < 8) := by omega
      have HN : Hid (Sn k (S x) = Sn 8 n) := HM.out
      have hs := S_lt hx
      rcases Nat.mod_two_eq_zero_or_one x with hx2 | hx2
      · have HS : Hid (S x = x / 2) := S_even x hx2
        have hd : (x : Int) % 2 = 0 := by omega
        clear hx2
        go_wp2
        go_round
        case rel => exact ⟨k, S x, by omega, hs, HN.out, by rw [HS.out]; rfl, by go_num⟩
        case measure => simp [intOf]; omega
      · have HS : Hid (S x = x / 2 ^^^ 3988292384) := S_odd x hx2
        have hd : (x : Int) % 2 = 1 := by omega
        have e2 := xor_u32 (x / 2) 3988292384 (by omega) (by decide)
        clear hx2
        go_wp2
        go_round
        case rel => exact ⟨k, S x, by omega, hs, HN.out, by rw [HS.out]; first | rfl | (rw [← e2]; rfl), by go_num⟩
        case measure => simp [intOf]; omega
set_option maxRecDepth 100000 in
set_option maxHeartbeats 1000000 in
theorem refGo_none (a : Option Addr) (cap s : Nat) (w : World) (hs : s < 4294967296) :
    Calls Tryz.prog 78 #[.int .u32 s, .slice a 0 cap] w fun e w' => e = .returned (.int .u32 (crc s [])) ∧ w' = w := by
  have hs' : s ^^^ 4294967295 < 4294967296 := xor_lt32 hs (by decide)
  have HE : Hid (crc s [] = (s ^^^ 4294967295) ^^^ 4294967295) := rfl
  generalize crc s [] = c at *
  go_enter Tryz.func78, Tryz.ntmps78
  go_wp2_with fail
  refine (turned s _ hs).mono ?_
  rintro e w1 ⟨rfl, rfl⟩
  generalize s ^^^ 4294967295 = s' at *
  have e3 := xor_u32 s' 4294967295 hs' (by decide)
  have e4 : bits .xor .u32 (s' : Int) 4294967295 = ((s' ^^^ 4294967295 : Nat) : Int) := e3
  clear e3
  go_wp2
  go_rounds 1
  go_ret
  exact ⟨ret_int (by rw [HE.out]), rfl⟩
set_option maxRecDepth 100000 in
set_option maxHeartbeats 1000000 in
theorem refGo_some (b off len cap : Nat) (zs : List Nat) (s : Nat) (w : World) (hs : s < 4294967296) (hl : zs.length = len) (hm : len ≤ 9223372036854775807)
    (hc : ∀ i, i < len → w.cell? ⟨b, off + i, none⟩ = some (.int .u8 (zs.getD i 0 : Nat))) (hb : Bys zs) :
    Calls Tryz.prog 78 #[.int .u32 s, .slice (some ⟨b, off, none⟩) len cap] w fun e w' => e = .returned (.int .u32 (crc s zs)) ∧ w' = w := by
  have HC : Hid (∀ i, i < len → w.cell? ⟨b, off + i, none⟩ = some (.int .u8 (zs.getD i 0 : Nat))) := hc
  have HL : Hid (zs.length = len) := hl
  have HB : Hid (Bys zs) := hb
  have hs' : s ^^^ 4294967295 < 4294967296 := xor_lt32 hs (by decide)
  have HE : Hid (crc s zs = R (s ^^^ 4294967295) zs ^^^ 4294967295) := rfl
  generalize crc s zs = c at *
  clear hc hl hb
  go_enter Tryz.func78, Tryz.ntmps78
  go_wp2_with fail
  refine (turned s _ hs).mono ?_
  rintro e w1 ⟨rfl, rfl⟩
  generalize s ^^^ 4294967295 = s' at *
  go_wp2_with fail
  go_loop [5, 6] (fun s5 s6 => ∃ k x : Nat, k ≤ len ∧ x < 4294967296 ∧ x = R s' (zs.take k) ∧ s5 = .int .u32 x ∧ s6 = .int .i64 k) (fun _ i => len - (intOf i).toNat)
  case atStart => exact ⟨0, s', Nat.zero_le _, hs', rfl, rfl, rfl⟩
  case round =>
    obtain ⟨k, x, hk, hx, hR, rfl, rfl⟩ := hrel
    have HR : Hid (x = R s' (zs.take k)) := hR
    clear hR
    by_cases hlt : k < len
    · have hki : (k : Int) < (len : Int) := by omega
      have hcell := HC.out k hlt
      have hz := HB.out k
      have HS : Hid (Sn 8 (x ^^^ zs.getD k 0) = R s' (zs.take (k + 1))) := by unfold Hid; rw [take_snoc' zs k (by rw [HL.out]; exact hlt), R_snoc, ← HR.out]
      generalize zs.getD k 0 = z at *
      have hwz : IntKind.u32.wrap (z : Int) = (z : Int) := by rw [IntKind.wrap_u32']; omega
      have e2 := xor_u32 x z hx (by omega)
      have hxz : x ^^^ z < 4294967296 := xor_lt32 hx (by omega)
      have hsx : Sn 8 (x ^^^ z) < 4294967296 := Sn_lt hxz
      generalize x ^^^ z = y at *
      go_wp2_with (go_at_call 98; refine (shifted8 y _ hxz).mono ?_; rintro e w' ⟨rfl, rfl⟩)
      go_round
      case rel => exact ⟨k + 1, Sn 8 y, by omega, hsx, HS.out, rfl, by go_num⟩
      case measure => simp [intOf]; omega
    · have : k = len := by omega
      subst this
      have HX : Hid (c = x ^^^ 4294967295) := by unfold Hid; rw [HE.out, HR.out, List.take_of_length_le (by rw [HL.out]; exact Nat.le_refl _)]
      go_wp2_with fail
      refine (turned x _ hx).mono ?_
      rintro e w1 ⟨rfl, rfl⟩
      go_wp2
      go_ret
      exact ⟨ret_int (by rw [HX.out]), rfl⟩
theorem refGo (s : Nat) (v : Value) (zs : List Nat) (w : World) (hs : s < 4294967296) (h : Lies w v zs) (hm : zs.length ≤ 9223372036854775807) (hb : Bys zs) :
    Calls Tryz.prog 78 #[.int .u32 s, v] w fun e w' => e = .returned (.int .u32 (crc s zs)) ∧ w' = w := by
  obtain ⟨a, cap, rfl, _, h⟩ := h
  by_cases h0 : zs.length = 0
  · obtain rfl := List.eq_nil_of_length_eq_zero h0
    exact refGo_none a cap s w hs
  · obtain ⟨b, off, rfl, hc⟩ := h h0
    exact refGo_some b off zs.length cap zs s w hs rfl hm hc hb
set_option maxRecDepth 100000 in
set_option maxHeartbeats 1000000 in
theorem refCrc (v : Value) (zs : List Nat) (w : World) (h : Lies w v zs) (hm : zs.length ≤ 9223372036854775807) (hb : Bys zs) :
    Calls Tryz.prog 33 #[v] w fun e w' => e = .returned (.int .u32 (crc 0 zs)) ∧ w' = w := by
  obtain ⟨a, cap, hv, h'⟩ := h
  have HH : Hid (Lies w v zs) := ⟨a, cap, hv, h'⟩
  clear h'
  subst hv
  go_enter Tryz.func33, Tryz.ntmps33
  go_wp2_with fail
  refine (refGo 0 _ zs _ (by decide) HH.out hm hb).mono ?_
  rintro e w2 ⟨rfl, rfl⟩
  go_wp2
  go_ret
  exact ⟨rfl, rfl⟩
end SM
end Go.Proofs.YtpmdlpjedapbbaaGreatDoor
/-
  The document's small questions, and its entries.
-/
namespace Go.Proofs.YtpmdlpjedapbbaaGreatDoor
open Go.RowKit
attribute [local go_sem ↓] Go.wp_at_zero Go.wp_at_succ

namespace ST
def fromB (x lo hi : Int) : Bool := decide (lo ≤ x) && decide (x ≤ hi)
theorem from_num (x : Int) (n : Nat) : fromB x 0 ((n : Int) - 1) = numB x n := by
  simp only [fromB, numB]
  congr 1
  apply decide_eq_decide.2
  omega
set_option maxHeartbeats 1000000 in
theorem rfrom_ (x lo hi : Int) (w : World) : Calls Tryz.prog 111 #[.int .i64 x, .int .i64 lo, .int .i64 hi] w fun e w' => e = .returned (.bool (fromB x lo hi)) ∧ w' = w := by
  by_cases h1 : lo ≤ x
  · by_cases h2 : x ≤ hi
    · go_enter Tryz.func111, Tryz.ntmps111
      go_wp2
      go_ret
      exact ⟨by simp [fromB, h1, h2], rfl⟩
    · go_enter Tryz.func111, Tryz.ntmps111
      go_wp2
      go_ret
      exact ⟨by simp [fromB]; omega, rfl⟩
  · go_enter Tryz.func111, Tryz.ntmps111
    go_wp2
    go_ret
    exact ⟨by simp [fromB]; omega, rfl⟩
theorem rfromB (x lo hi : Int) (b : Bool) (h : fromB x lo hi = b) (w : World) : Calls Tryz.prog 111 #[.int .i64 x, .int .i64 lo, .int .i64 hi] w fun e w' => e = .returned (.bool b) ∧ w' = w := by subst h; exact rfrom_ x lo hi w
set_option maxHeartbeats 1000000 in
theorem rStat_ (n : Int) (w : World) : Calls Tryz.prog 112 #[.int .i32 n] w fun e w' => e = .returned (.bool (statB n)) ∧ w' = w := by
  by_cases h1 : -1000000000 ≤ n
  · by_cases h2 : n ≤ 1000000000
    · go_enter Tryz.func112, Tryz.ntmps112
      go_wp2
      go_ret
      exact ⟨by simp [statB, h1, h2], rfl⟩
    · go_enter Tryz.func112, Tryz.ntmps112
      go_wp2
      go_ret
      exact ⟨by simp [statB]; omega, rfl⟩
  · go_enter Tryz.func112, Tryz.ntmps112
    go_wp2
    go_ret
    exact ⟨by simp [statB]; omega, rfl⟩
theorem rStatB (n : Int) (b : Bool) (h : statB n = b) (w : World) : Calls Tryz.prog 112 #[.int .i32 n] w fun e w' => e = .returned (.bool b) ∧ w' = w := by subst h; exact rStat_ n w
theorem crd_ref (c : Crd) (n : Nat) : crdB n c = (fromB c.kind 0 255 && fromB c.owner 0 ((n : Int) - 1) && statB c.power && statB c.health && statB c.damage && statB c.marks) := by
  rw [from_num]
  have e : fromB c.kind 0 255 = numB c.kind 256 := from_num c.kind 256
  rw [e, crdB, crd0B]
  cases numB c.kind 256 <;> cases numB c.owner n <;> cases statB c.power <;> cases statB c.health <;> cases statB c.damage <;> cases statB c.marks <;> rfl
set_option maxHeartbeats 4000000 in
theorem rcard_ (c : Crd) (n : Nat) (hn : n ≤ 4294967296) (w : World) : Calls Tryz.prog 113 #[cag c, .int .i64 n] w fun e w' => e = .returned (.bool (crdB n c)) ∧ Up w w' := by
  obtain ⟨R, hR⟩ : ∃ R, R = crdB n c := ⟨_, rfl⟩
  rw [← hR]
  have HR : Hid (R = (fromB c.kind 0 255 && fromB c.owner 0 ((n : Int) - 1) && statB c.power && statB c.health && statB c.damage && statB c.marks)) := by unfold Hid; rw [hR, crd_ref]
  clear hR
  unfold cag
  cases h0 : fromB c.kind 0 255
  · go_enter Tryz.func113, Tryz.ntmps113
    go_wp2_with fail
    refine Calls.mono (rfromB _ 0 255 false h0 _) ?_
    rintro e w1 ⟨rfl, rfl⟩
    go_wp2
    go_ret
    exact ⟨by rw [HR.out]; simp [h0], (Up.refl _).alloc _⟩
  · cases h1 : fromB c.owner 0 ((n : Int) - 1)
    · go_enter Tryz.func113, Tryz.ntmps113
      go_wp2_with fail
      refine Calls.mono (rfromB _ 0 255 true h0 _) ?_
      rintro e w1 ⟨rfl, rfl⟩
      go_wp2_with fail
      refine Calls.mono (rfromB _ 0 _ false h1 _) ?_
      rintro e w2 ⟨rfl, rfl⟩
      go_wp2
      go_ret
      exact ⟨by rw [HR.out]; simp [h1], (Up.refl _).alloc _⟩
    · cases h2 : statB c.power
      · go_enter Tryz.func113, Tryz.ntmps113
        go_wp2_with fail
        refine Calls.mono (rfromB _ 0 255 true h0 _) ?_
        rintro e w1 ⟨rfl, rfl⟩
        go_wp2_with fail
        refine Calls.mono (rfromB _ 0 _ true h1 _) ?_
        rintro e w2 ⟨rfl, rfl⟩
        go_wp2_with fail
        refine Calls.mono (rStatB _ false h2 _) ?_
        rintro e w3 ⟨rfl, rfl⟩
        go_wp2
        go_ret
        exact ⟨by rw [HR.out]; simp [h2], (Up.refl _).alloc _⟩
      · cases h3 : statB c.health
        · go_enter Tryz.func113, Tryz.ntmps113
          go_wp2_with fail
          refine Calls.mono (rfromB _ 0 255 true h0 _) ?_
          rintro e w1 ⟨rfl, rfl⟩
          go_wp2_with fail
          refine Calls.mono (rfromB _ 0 _ true h1 _) ?_
          rintro e w2 ⟨rfl, rfl⟩
          go_wp2_with fail
          refine Calls.mono (rStatB _ true h2 _) ?_
          rintro e w3 ⟨rfl, rfl⟩
          go_wp2_with fail
          refine Calls.mono (rStatB _ false h3 _) ?_
          rintro e w4 ⟨rfl, rfl⟩
          go_wp2
          go_ret
          exact ⟨by rw [HR.out]; simp [h3], (Up.refl _).alloc _⟩
        · cases h4 : statB c.damage
          · go_enter Tryz.func113, Tryz.ntmps113
            go_wp2_with fail
            refine Calls.mono (rfromB _ 0 255 true h0 _) ?_
            rintro e w1 ⟨rfl, rfl⟩
            go_wp2_with fail
            refine Calls.mono (rfromB _ 0 _ true h1 _) ?_
            rintro e w2 ⟨rfl, rfl⟩
            go_wp2_with fail
            refine Calls.mono (rStatB _ true h2 _) ?_
            rintro e w3 ⟨rfl, rfl⟩
            go_wp2_with fail
            refine Calls.mono (rStatB _ true h3 _) ?_
            rintro e w4 ⟨rfl, rfl⟩
            go_wp2_with fail
            refine Calls.mono (rStatB _ false h4 _) ?_
            rintro e w5 ⟨rfl, rfl⟩
            go_wp2
            go_ret
            exact ⟨by rw [HR.out]; simp [h4], (Up.refl _).alloc _⟩
          · cases h5 : statB c.marks
            · go_enter Tryz.func113, Tryz.ntmps113
              go_wp2_with fail
              refine Calls.mono (rfromB _ 0 255 true h0 _) ?_
              rintro e w1 ⟨rfl, rfl⟩
              go_wp2_with fail
              refine Calls.mono (rfromB _ 0 _ true h1 _) ?_
              rintro e w2 ⟨rfl, rfl⟩
              go_wp2_with fail
              refine Calls.mono (rStatB _ true h2 _) ?_
              rintro e w3 ⟨rfl, rfl⟩
              go_wp2_with fail
              refine Calls.mono (rStatB _ true h3 _) ?_
              rintro e w4 ⟨rfl, rfl⟩
              go_wp2_with fail
              refine Calls.mono (rStatB _ true h4 _) ?_
              rintro e w5 ⟨rfl, rfl⟩
              go_wp2_with fail
              refine Calls.mono (rStatB _ false h5 _) ?_
              rintro e w6 ⟨rfl, rfl⟩
              go_wp2
              go_ret
              exact ⟨by rw [HR.out]; simp [h5], (Up.refl _).alloc _⟩
            · go_enter Tryz.func113, Tryz.ntmps113
              go_wp2_with fail
              refine Calls.mono (rfromB _ 0 255 true h0 _) ?_
              rintro e w1 ⟨rfl, rfl⟩
              go_wp2_with fail
              refine Calls.mono (rfromB _ 0 _ true h1 _) ?_
              rintro e w2 ⟨rfl, rfl⟩
              go_wp2_with fail
              refine Calls.mono (rStatB _ true h2 _) ?_
              rintro e w3 ⟨rfl, rfl⟩
              go_wp2_with fail
              refine Calls.mono (rStatB _ true h3 _) ?_
              rintro e w4 ⟨rfl, rfl⟩
              go_wp2_with fail
              refine Calls.mono (rStatB _ true h4 _) ?_
              rintro e w5 ⟨rfl, rfl⟩
              go_wp2_with fail
              refine Calls.mono (rStatB _ true h5 _) ?_
              rintro e w6 ⟨rfl, rfl⟩
              go_wp2
              go_ret
              exact ⟨by rw [HR.out]; simp [h0, h1, h2, h3, h4, h5], (Up.refl _).alloc _⟩
/- the entries -/
theorem off_le9 (zs : List (List Int)) (z : Nat) : (zs.take z).flatten.length ≤ zs.flatten.length := by
  have : zs.flatten = (zs.take z).flatten ++ (zs.drop z).flatten := by rw [← List.flatten_append, List.take_append_drop]
  rw [this, List.length_append]
  omega
theorem ivs_app9 (a b : List Int) : ivs (a ++ b) = ivs a ++ ivs b := by simp [ivs]
theorem off_flat (zs : List (List Int)) (i : Nat) (hi : i < zs.length) : (zs.take (i + 1)).flatten = (zs.take i).flatten ++ zs.getD i [] := by
  rw [List.take_add_one, List.getElem?_eq_getElem hi, List.flatten_append, List.getD_eq_getElem?_getD, List.getElem?_eq_getElem hi]
  simp
set_option maxRecDepth 100000 in
set_option maxHeartbeats 4000000 in
theorem entries_ (v : Value) (s : Stt) (w : World) (hs : StL w v s) (hz : s.zs.length ≤ 4294967296) (hfl : (flat s).length ≤ 4294967296) (hl : ∀ r, r < s.zs.length → (s.zs.getD r []).length ≤ 4294967296) :
    Calls Tryz.prog 114 #[v] w (CpPost w fun W v' => IRow w.heap.size W v' (flat s)) := by
  obtain ⟨iT, hiT, i0, i1, i2⟩ := info_parts infoI
  obtain ⟨Post, hPost⟩ : ∃ P : Ending → World → Prop, P = CpPost w fun W v' => IRow w.heap.size W v' (flat s) := ⟨_, rfl⟩
  rw [← hPost]
  have HP : Hid (Post = CpPost w fun W v' => IRow w.heap.size W v' (flat s)) := hPost
  obtain ⟨vp, vc, vz, rfl, -, -, h3⟩ := hs
  obtain ⟨a3, k3, rfl, -, c3⟩ := zl_at h3
  have HC : Hid _ := c3
  have HL : Hid _ := hl
  have HFl : Hid (∀ i, i < s.zs.length → (s.zs.take i).flatten.length + (s.zs.getD i []).length ≤ 4294967296) := fun i hi => by
    have h1 := flat_next s.zs i hi
    have h2 := off_le9 s.zs (i + 1)
    unfold flat at hfl
    omega
  obtain ⟨n, hn0⟩ : ∃ n, n = s.zs.length := ⟨_, rfl⟩
  have HN : Hid (n = s.zs.length) := hn0
  rw [← hn0] at hz HC HL HFl ⊢
  clear hPost h3 c3 hl hfl hn0
  unfold sv
  obtain ⟨W0, hW0⟩ : ∃ W, W = w.alloc (.cells #[vp, vc, .slice a3 n k3, .int .i32 s.turn, .int .i64 s.whose, .int .i8 s.fin, .int .i64 s.winner] 27) := ⟨_, rfl⟩
  have HW0 : Hid (Up w W0 ∧ W0.heap[w.heap.size]? = some (.cells #[vp, vc, .slice a3 n k3, .int .i32 s.turn, .int .i64 s.whose, .int .i8 s.fin, .int .i64 s.winner] 27 (0, 0)) ∧ W0.heap.size = w.heap.size + 1) := ⟨by rw [hW0]; exact (Up.refl _).alloc _, by rw [hW0]; exact heap_alloc_new w _, by rw [hW0]; simp⟩
  go_enter Tryz.func114, Tryz.ntmps114
  go_wp2_with fail
  rw [← hW0]
  clear hW0
  go_loopw [3, 4] (fun s3 s4 W => ∃ (i : Nat) (va : Option Addr) (vk : Nat), i ≤ n ∧ s4 = .int .i64 i ∧ s3 = .slice va (s.zs.take i).flatten.length vk ∧ W.ownsRow W0.heap.size 3 1 (.slice va (s.zs.take i).flatten.length vk) (s.zs.take i).flatten.length (ivs (s.zs.take i).flatten) ∧ Up W0 W) (fun _ s4 _ => n - (intOf s4).toNat)
  case atStart => exact ⟨0, none, 0, Nat.zero_le _, rfl, rfl, World.ownsRow_nil _ _ _ _, Up.refl _⟩
  case round =>
    obtain ⟨i, va, vk, hi, rfl, rfl, hz9, hu⟩ := hrel
    have HZ : Hid _ := hz9
    have HU : Hid (Up W0 wr) := hu
    clear hz9 hu
    have y2 : wr.cell? ⟨w.heap.size, 2, none⟩ = some (.slice a3 n k3) := HU.out.cell (seven_cells HW0.out.2.1).2.2.1
    by_cases hlt : i < n
    · have hlt2 : (i : Int) < (n : Int) := by omega
      obtain ⟨b3, o3, rfl, hrow⟩ := HC.out (by omega)
      obtain ⟨ra, rc, hcell, hil⟩ := hrow i hlt
      have x1 := hcell wr (HW0.out.1.trans HU.out)
      have hb := HFl.out i hlt
      have HIL : Hid (LC wr (.slice ra (s.zs.getD i []).length rc) 1 (s.zs.getD i []).length (ivs (s.zs.getD i []))) := hil.up (HW0.out.1.trans HU.out)
      have HOf : Hid ((s.zs.take (i + 1)).flatten = (s.zs.take i).flatten ++ s.zs.getD i []) := off_flat s.zs i (by rw [← HN.out]; exact hlt)
      clear hcell hrow hil
      generalize s.zs.getD i [] = r at x1 hb HIL HOf
      generalize (s.zs.take i).flatten = p at hb HOf HZ ⊢
      have HSz : Hid (W0.heap.size ≤ wr.heap.size) := HU.out.size
      go_wp2_with (at_builtin; (refine wpList_append_lc (by rfl) (.tmp 12) (.tmp 17) 98 (by rfl) W0.heap.size 3 iT (.int .i64 0) 1 8 Tryz.underlying98 hiT i0 i1 i2 (by rfl) (by decide) (.slice va p.length vk) p.length (ivs p) (by rfl) HZ.out (.slice ra r.length rc) r.length (ivs r) (by rfl) HIL.out (ivs_one _) (by unfold maxLen; omega) (by omega) HSz.out ?_; intro v5 w5 hin hg1; have u5 : Up W0 w5 := (by refine Below.grown HU.out hg1 HSz.out ?_; intro k hk; exact (World.ownsRow.lt HZ.out k hk).1); obtain ⟨xa5, xk5, hx5⟩ := row_val hin; have HI5 : Hid (w5.ownsRow W0.heap.size 3 1 v5 (p.length + r.length) (ivs (p ++ r)) ∧ Up W0 w5) := (by refine ⟨?_, u5⟩; rw [ivs_app9]; exact hin); subst hx5; clear hin hg1 u5))
      go_roundw
      case rel =>
        refine ⟨i + 1, xa5, xk5, by omega, by go_num, ?_, ?_, HI5.out.2⟩
        · rw [HOf.out, List.length_append]
        · rw [HOf.out, List.length_append]; exact HI5.out.1
      case measure => simp [intOf]; omega
    · have hlt2 : ¬ (i : Int) < (n : Int) := by omega
      have hfl : (s.zs.take i).flatten = flat s := by rw [List.take_of_length_le (by rw [← HN.out]; omega)]; rfl
      rw [hfl] at HZ ⊢
      clear hfl
      go_wp2
      rw [HP.out]
      exact ⟨_, rfl, own_less HZ.out (by rw [HW0.out.2.2]; omega), HW0.out.1.trans HU.out⟩
end ST
end Go.Proofs.YtpmdlpjedapbbaaGreatDoor
/-
  The document's Check, May and Where, given what it makes of the list of things.
-/
namespace Go.Proofs.YtpmdlpjedapbbaaGreatDoor
open Go.RowKit
attribute [local go_sem ↓] Go.wp_at_zero Go.wp_at_succ

namespace ST
def bvs (l : List Bool) : List Value := l.map (fun b => .bool b)
theorem bvs_get (l : List Bool) (i : Nat) (hi : i < l.length) : (bvs l)[i]? = some (.bool (l.getD i false)) := by
  simp [bvs, List.getD_eq_getElem?_getD, List.getElem?_eq_getElem hi]
def BL (W : World) (v : Value) (l : List Bool) : Prop := LC W v 1 l.length (bvs l)
/- things answers a list of which the first that is not so is ff s -/
def ThingsOk (s : Stt) : Prop := ∀ v w, StL w v s → Calls Tryz.prog 87 #[v] w fun e w' => ∃ x l, e = .returned x ∧ BL w' x l ∧ l.findIdx? (fun b => !b) = ff s ∧ l.length ≤ 4294967296 ∧ Up w w'
set_option maxRecDepth 100000 in
set_option maxHeartbeats 4000000 in
theorem rcheck_ (v : Value) (s : Stt) (w : World) (hs : StL w v s) (ht : ThingsOk s) :
    Calls Tryz.prog 66 #[v] w fun e w' => e = .returned (ckV (ff s)) ∧ Up w w' := by
  obtain ⟨Post, hPost⟩ : ∃ P : Ending → World → Prop, P = fun e w' => e = .returned (ckV (ff s)) ∧ Up w w' := ⟨_, rfl⟩
  rw [← hPost]
  have HP : Hid (Post = fun e w' => e = .returned (ckV (ff s)) ∧ Up w w') := hPost
  have hc := ht v _ (hs.up ((Up.refl w).alloc (.cells v.cells 27)))
  obtain ⟨vp, vc, vz, rfl, -, -, -⟩ := hs
  unfold sv at hc ⊢
  have HC : Hid _ := hc
  clear hc ht hPost
  go_enter Tryz.func66, Tryz.ntmps66
  go_wp2_with fail
  refine Calls.mono HC.out ?_
  rintro e w1 ⟨x, l, rfl, hx, hf, hn, u1⟩
  have HU : Hid (Up w w1) := ((Up.refl w).alloc _).trans u1
  obtain ⟨a1, k1, rfl, -, h1⟩ := lc_at hx
  have H1 : Hid (∀ i, i < l.length → ∃ b o, a1 = some ⟨b, o, none⟩ ∧ w1.cell? ⟨b, o + i, none⟩ = some (.bool (l.getD i false))) := fun i hi => by
    obtain ⟨b, o, ha, -, hcell⟩ := h1 (by omega)
    exact ⟨b, o, ha, by rw [hcell w1 (Up.refl _) i (by omega)]; exact bvs_get l i hi⟩
  have HF : Hid (l.findIdx? (fun b => !b) = ff s) := hf
  obtain ⟨n, hn0⟩ : ∃ n, n = l.length := ⟨_, rfl⟩
  have HN : Hid (n = l.length) := hn0
  rw [← hn0] at hn H1 ⊢
  clear HC hx h1 hf u1 hn0
  go_wp2_with fail
  go_loopw [2, 3, 5] (fun s2 s3 s5 W => ∃ i : Nat, i ≤ n ∧ s2 = .int .i64 0 ∧ s3 = .int .i64 0 ∧ s5 = .int .i64 i ∧ W = w1 ∧ ∀ j, j < i → l.getD j false = true) (fun _ _ s5 _ => n - (intOf s5).toNat)
  case atStart => exact ⟨0, Nat.zero_le _, rfl, rfl, rfl, rfl, fun j hj => by omega⟩
  case round =>
    obtain ⟨i, hi, rfl, rfl, rfl, rfl, hj⟩ := hrel
    have HJ : Hid (∀ j, j < i → l.getD j false = true) := hj
    clear hj
    by_cases hlt : i < n
    · have hlt2 : (i : Int) < (n : Int) := by omega
      obtain ⟨b, o, rfl, x1⟩ := H1.out i hlt
      have HY : Hid ((l.getD i false = true → ∀ j, j < i + 1 → l.getD j false = true) ∧ (l.getD i false = false → ff s = some i)) := ⟨fun e j hj => by
        by_cases ej : j = i
        · subst ej; exact e
        · exact HJ.out j (by omega), fun e => by rw [← HF.out]; exact findIdx_at l (fun b => b) false i (by rw [← HN.out]; exact hlt) HJ.out e⟩
      clear HJ
      generalize l.getD i false = y at x1 HY
      cases y
      · have HR : Hid (ff s = some i) := HY.out.2 rfl
        clear HY
        go_wp2
        rw [HP.out, HR.out]
        exact ⟨rfl, HU.out⟩
      · have HR : Hid _ := HY.out.1 rfl
        clear HY
        go_wp2_with fail
        go_roundw
        case rel => exact ⟨i + 1, by omega, rfl, rfl, by go_num, by first | rfl | trivial, HR.out⟩
        case measure => simp [intOf]; omega
    · have hlt2 : ¬ (i : Int) < (n : Int) := by omega
      have HR : Hid (ff s = none) := by unfold Hid; rw [← HF.out]; exact findIdx_no l (fun b => b) false (fun j hj => HJ.out j (by have := HN.out; omega))
      clear HJ
      go_wp2
      rw [HP.out, HR.out]
      exact ⟨rfl, HU.out⟩
set_option maxHeartbeats 2000000 in
theorem rmay_ (v : Value) (s : Stt) (w : World) (hs : StL w v s) (ht : ThingsOk s) :
    Calls Tryz.prog 31 #[v] w fun e w' => e = .returned (.bool (decide (ff s = none))) ∧ Up w w' := by
  have hc := rcheck_ v s _ (hs.up ((Up.refl w).alloc (.cells v.cells 27))) ht
  obtain ⟨vp, vc, vz, rfl, -, -, -⟩ := hs
  cases hff : ff s with
  | none =>
    rw [hff] at hc
    unfold ckV sv at hc
    have HC : Hid _ := hc
    clear hc hff ht
    unfold sv
    go_enter Tryz.func31, Tryz.ntmps31
    go_wp2_with fail
    refine Calls.mono HC.out ?_
    rintro e w1 ⟨rfl, u1⟩
    clear HC
    have HU : Hid (Up w w1) := ((Up.refl w).alloc _).trans u1
    clear u1
    go_wp2
    go_ret
    exact ⟨rfl, HU.out⟩
  | some k =>
    rw [hff] at hc
    unfold ckV sv at hc
    have HC : Hid _ := hc
    clear hc hff ht
    unfold sv
    go_enter Tryz.func31, Tryz.ntmps31
    go_wp2_with fail
    refine Calls.mono HC.out ?_
    rintro e w1 ⟨rfl, u1⟩
    clear HC
    have HU : Hid (Up w w1) := ((Up.refl w).alloc _).trans u1
    clear u1
    go_wp2
    go_ret
    exact ⟨rfl, HU.out⟩
end ST
end Go.Proofs.YtpmdlpjedapbbaaGreatDoor
/-
  The list of things that are looked at, no program: the first that is not so is ff s.
-/
namespace Go.Proofs.YtpmdlpjedapbbaaGreatDoor
namespace ST
def thA (s : Stt) : List Bool := true :: (s.ps.map plyB ++ s.cs.map (crdB s.ps.length))
def thT (s : Stt) (k : Nat) : List Bool := if k < (flat s).length then [false] else [decide (s.cs.length ≤ k), decide (1 ≤ s.turn), numB s.whose s.ps.length, finB s, winB s]
def thL (s : Stt) : List Bool := if sizesB s = false then [false] else thA s ++ (List.replicate (good s.cs.length (flat s)) true ++ thT s (good s.cs.length (flat s)))
theorem rep_none (k : Nat) : (List.replicate k true).findIdx? (fun b => !b) = none := by
  rw [List.findIdx?_eq_none_iff]
  intro x hx
  rw [List.eq_of_mem_replicate hx]; rfl
theorem thL_ff (s : Stt) : (thL s).findIdx? (fun b => !b) = ff s := by
  have hgl := good_le s.cs.length (flat s)
  have hgs := good_small s.cs.length (flat s) (good s.cs.length (flat s)) hgl (fun i hi => good_ok _ _ i hi)
  unfold thL ff
  cases hs : sizesB s
  · simp
  · rw [if_neg (by simp), if_neg (by simp)]
    generalize good s.cs.length (flat s) = k at *
    unfold thA
    rw [List.findIdx?_append, List.findIdx?_cons, List.findIdx?_append, List.findIdx?_map, List.findIdx?_map, List.findIdx?_append, rep_none]
    simp only [Function.comp_def]
    cases h1 : s.ps.findIdx? (fun p => !plyB p) with
    | some i => simp; omega
    | none =>
      cases h2 : s.cs.findIdx? (fun c => !crdB s.ps.length c) with
      | some i => simp; omega
      | none =>
        unfold thT
        by_cases h3 : k < (flat s).length
        · simp [h3]; omega
        · by_cases h4 : k < s.cs.length
          · have : ¬ s.cs.length ≤ k := by omega
            simp [h3, h4, this, List.findIdx?_cons]; omega
          · have e4 : s.cs.length ≤ k := by omega
            have hk : k = s.cs.length := by omega
            by_cases h5 : 1 ≤ s.turn
            · cases h6 : numB s.whose s.ps.length
              · simp [h3, h4, e4, h5, List.findIdx?_cons]; omega
              · cases h7 : finB s
                · simp [h3, h4, e4, h5, List.findIdx?_cons]; omega
                · cases h8 : winB s
                  · simp [h3, h4, e4, h5, List.findIdx?_cons]; omega
                  · simp [h3, h4, e4, h5, List.findIdx?_cons]
            · simp [h3, h4, e4, h5, List.findIdx?_cons]; omega
theorem thL_len (s : Stt) : (thL s).length ≤ 1 + 4 + 256 + 256 + 5 := by
  have hgl := good_le s.cs.length (flat s)
  have hgs := good_small s.cs.length (flat s) (good s.cs.length (flat s)) hgl (fun i hi => good_ok _ _ i hi)
  unfold thL
  cases hs : sizesB s
  · simp
  · rw [if_neg (by simp)]
    simp only [sizesB, npB, ncB, Bool.and_eq_true, decide_eq_true_eq] at hs
    have : (thT s (good s.cs.length (flat s))).length ≤ 5 := by unfold thT; split <;> simp
    simp only [thA, List.length_append, List.length_cons, List.length_map, List.length_replicate]
    omega
end ST
end Go.Proofs.YtpmdlpjedapbbaaGreatDoor
