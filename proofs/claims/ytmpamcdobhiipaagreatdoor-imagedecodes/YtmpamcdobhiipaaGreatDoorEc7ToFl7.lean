/-
  Encode and Sum.
-/
import Derived.Test.YtmpamcdobhiipaaGreatDoorEn7Q
import Derived.Test.YtmpamcdobhiipaaGreatDoorPoly7ToThr7
namespace Go.Proofs.YtmpamcdobhiipaaGreatDoor
open Go.RowKit
attribute [local go_sem ↓] Go.wp_at_zero Go.wp_at_succ

namespace IM
open Go.Proofs.YtmpamcdobhiipaaGreatDoor.ST
/- what Encode answers: the bytes, and whether there are any -/
def encB (s : Stt) : List Int := if ff s = none then img s else []
def okI (s : Stt) : Int := if ff s = none then 0 else 10
theorem infoSt : (Tryz.prog.info? 30).map (·.size) = some 7 := by kernel_rfl
theorem byt_app {a b : List Int} (ha : Byt a) (hb : Byt b) : Byt (a ++ b) := fun c hc => (List.mem_append.1 hc).elim (ha c) (hb c)
theorem byt1 (n : Int) : Byt (by1 n) := fun c hc => by simp [by1] at hc; omega
theorem byt2 (n : Int) : Byt (by2 n) := fun c hc => by simp [by2] at hc; omega
theorem byt4 (n : Int) : Byt (by4 n) := fun c hc => by simp [by4] at hc; omega
theorem byt_flat {A : Type} (f : A → List Int) (h : ∀ x, Byt (f x)) (l : List A) : Byt (l.flatMap f) := fun c hc => by
  obtain ⟨x, -, hx⟩ := List.mem_flatMap.1 hc
  exact h x c hx
theorem byt_img (s : Stt) : Byt (img s) := by
  unfold img
  refine byt_app (fun c hc => by simp [mk] at hc; omega) (byt_app (byt1 _) (byt_app (byt_flat _ (fun p => ?_) _) (byt_app (byt2 _) (byt_app (byt_flat _ (fun c => ?_) _) (byt_app (byt_flat _ (fun z => ?_) _) (byt_app (byt4 _) (byt_app (byt1 _) (byt_app (byt1 _) (byt1 _)))))))))
  · exact byt_app (byt4 _) (byt_app (byt4 _) (byt1 _))
  · exact byt_app (byt2 _) (byt_app (byt1 _) (byt_app (byt4 _) (byt_app (byt4 _) (byt_app (byt4 _) (byt4 _)))))
  · exact byt_app (byt2 _) (byt_flat _ byt2 _)
/- bytes as natural numbers -/
def bts (l : List Int) : List Nat := l.map Int.toNat
theorem bts_getD {l : List Int} (hl : Byt l) (i : Nat) (h : i < l.length) : ((bts l).getD i 0 : Int) = l.getD i 0 := by
  have h1 := hl l[i] (List.getElem_mem h)
  simp [bts, List.getD, h]
  omega
theorem bts_bys {l : List Int} (hl : Byt l) : SM.Bys (bts l) := SM.Bys.of fun c hc => by
  obtain ⟨z, hz, rfl⟩ := List.mem_map.1 hc
  have := hl z hz
  omega
theorem bvs_at {l : List Int} {i : Nat} (h : i < l.length) : (bvs l)[i]? = some (.int .u8 (l.getD i 0)) := by simp [bvs, List.getD, h]
/- a list of bytes in memory -/
def BL (W : World) (v : Value) (l : List Int) : Prop := LC W v 1 l.length (bvs l)
theorem own_bl {W : World} {base : Nat} {v : Value} {l : List Int} (h : W.ownsRow base 5 1 v l.length (bvs l)) : BL W v l := own_lc h
theorem BL.lies {W : World} {v : Value} {l : List Int} (h : BL W v l) (hl : Byt l) (hz : ∀ cap, v ≠ .slice none 0 (cap + 1)) : SM.Lies W v (bts l) := by
  obtain ⟨-, a, cap, rfl, hcap, hc⟩ := h
  have hbl : (bts l).length = l.length := by simp [bts]
  refine ⟨a, cap, by rw [hbl], fun ha => ?_, fun hn => ?_⟩
  · subst ha
    by_cases h0 : l.length = 0
    · cases cap with
      | zero => rfl
      | succ c => exact absurd (by rw [h0]) (hz c)
    · obtain ⟨b, off, hb, -⟩ := hc h0
      cases hb
  · rw [hbl] at hn
    obtain ⟨b, off, rfl, hcell⟩ := hc hn
    refine ⟨b, off, rfl, fun i hi => ?_⟩
    rw [hbl] at hi
    rw [hcell i (by omega), bvs_at hi, bts_getD hl i hi]
theorem own_lies {W : World} {base : Nat} {v : Value} {l : List Int} (h : W.ownsRow base 5 1 v l.length (bvs l)) (hl : Byt l) : SM.Lies W v (bts l) :=
  (own_bl h).lies hl (fun cap hv => by
    rcases h.2 with ⟨h0, -⟩ | ⟨g, c, cur, h0, -⟩
    · rw [h0] at hv; cases hv
    · rw [h0] at hv; cases hv)
set_option maxRecDepth 100000 in
set_option maxHeartbeats 4000000 in
theorem encode_ (v : Value) (s : Stt) (w : World) (hv : StL w v s) (hsm : Small s) (ht : R4 s.turn) :
    Calls Tryz.prog 13 #[v] w fun x w' => ∃ vb, x = .returned (.tuple #[vb, .int .i64 (okI s)]) ∧ w'.ownsRow w.heap.size 5 1 vb (encB s).length (bvs (encB s)) ∧ Up w w' := by
  obtain ⟨Post, hPost⟩ : ∃ P : Ending → World → Prop, P = fun x w' => ∃ vb, x = .returned (.tuple #[vb, .int .i64 (okI s)]) ∧ w'.ownsRow w.heap.size 5 1 vb (encB s).length (bvs (encB s)) ∧ Up w w' := ⟨_, rfl⟩
  rw [← hPost]
  have HP : Hid (Post = _) := hPost
  have HCK : Hid (∀ W, Up w W → Calls Tryz.prog 17 #[v] W fun e w' => e = .returned (ckV (ff s)) ∧ Up W w') := fun W u => check_ v s W (hv.up u) hsm
  have HWR : Hid (ff s = none → ∀ W, Up w W → Calls Tryz.prog 47 #[v] W fun x w' => ∃ vb, x = .returned vb ∧ w'.ownsRow W.heap.size 5 1 vb (img s).length (bvs (img s)) ∧ Up W w') := fun h W u => written_ v s W (hv.up u) (rs_of h ht)
  obtain ⟨vp, vc, vz, hvv, h1, h2, h3⟩ := hv
  obtain ⟨a1, k1, rfl, -, -⟩ := lc_at h1
  obtain ⟨a2, k2, rfl, -, -⟩ := lc_at h2
  obtain ⟨a3, k3, rfl, -, -⟩ := zl_at h3
  unfold sv at hvv
  clear h1 h2 h3 hPost hsm ht
  obtain ⟨A, hA⟩ : ∃ A : Array Value, A = #[.slice a1 s.ps.length k1, .slice a2 s.cs.length k2, .slice a3 s.zs.length k3, .int .i32 s.turn, .int .i64 s.whose, .int .i8 s.fin, .int .i64 s.winner] := ⟨_, rfl⟩
  have hA1 : A.size = 7 := by rw [hA]; rfl
  rw [← hA] at hvv
  subst hvv
  obtain ⟨W0, hW0⟩ : ∃ W0, w.alloc (.cells A 30) = W0 := ⟨_, rfl⟩
  have g0 : W0.heap[w.heap.size]? = some (.cells A 30 (0, 0)) := by rw [← hW0]; exact heap_alloc_new _ _
  have HU : Up w W0 := by rw [← hW0]; exact (Up.refl _).alloc _
  rw [hA] at hW0
  have HAA : Hid (Value.agg A = .agg #[.slice a1 s.ps.length k1, .slice a2 s.cs.length k2, .slice a3 s.zs.length k3, .int .i32 s.turn, .int .i64 s.whose, .int .i8 s.fin, .int .i64 s.winner]) := by unfold Hid; rw [hA]
  rw [HAA.out]
  clear hA
  go_enter Tryz.func13, Tryz.ntmps13
  go_wp2_with (first | (refine wpList_world hW0 ?_; refine wpList_load_row (by rfl) 30 (.tmp 1) (by rfl) w.heap.size (by rfl) 30 A (0, 0) _ g0 Tryz.underlying30 (by rfl) (by rw [hA1]; exact infoSt) ?_) | (refine wpList_load_row (by rfl) 30 (.tmp 1) (by rfl) w.heap.size (by rfl) 30 A (0, 0) _ g0 Tryz.underlying30 (by rfl) (by rw [hA1]; exact infoSt) ?_))
  refine Calls.mono (HCK.out _ HU) ?_
  rintro r W1 ⟨rfl, u⟩
  have g1 := u.heap g0
  have HU := HU.trans u
  clear u g0 hW0 HCK
  by_cases hf : ff s = none
  · have HF : Hid (encB s = img s ∧ okI s = 0) := by unfold Hid encB okI; rw [if_pos hf, if_pos hf]; exact ⟨rfl, rfl⟩
    have HWR := HWR.out hf
    have HWR : Hid _ := HWR
    rw [hf]
    unfold ckV
    go_wp2_with (first | (refine wpList_load_row (by rfl) 30 (.tmp 1) (by rfl) w.heap.size (by rfl) 30 A (0, 0) _ g1 Tryz.underlying30 (by rfl) (by rw [hA1]; exact infoSt) ?_))
    refine Calls.mono (HWR.out _ HU) ?_
    rintro r W2 ⟨vb, rfl, ho, u⟩
    have HZ : Hid (W2.ownsRow w.heap.size 5 1 vb (img s).length (bvs (img s)) ∧ Up w W2) := ⟨own_less ho HU.size, HU.trans u⟩
    obtain ⟨fa, fn, fc, hvs⟩ : ∃ a n c, vb = Value.slice a n c := by
      rcases ho.2 with ⟨hv, _⟩ | ⟨g, cap, cur, hv, _⟩ <;> exact ⟨_, _, _, hv⟩
    subst hvs
    clear ho u g1
    go_wp2
    rw [HP.out, HF.out.1, HF.out.2]
    exact ⟨_, rfl, HZ.out⟩
  · obtain ⟨k, hk⟩ : ∃ k, ff s = some k := by
      cases h : ff s with
      | none => exact absurd h hf
      | some k => exact ⟨k, rfl⟩
    have HF : Hid (encB s = [] ∧ okI s = 10) := by unfold Hid encB okI; rw [if_neg hf, if_neg hf]; exact ⟨rfl, rfl⟩
    have HZ : Hid _ := HU
    rw [hk]
    unfold ckV
    clear HWR HU g1
    go_wp2
    rw [HP.out, HF.out.1, HF.out.2]
    exact ⟨_, rfl, World.ownsRow_nil _ _ _ _, HZ.out⟩
end IM
end Go.Proofs.YtmpamcdobhiipaaGreatDoor
/-
  Decode: the next bytes as a number.
-/
namespace Go.Proofs.YtmpamcdobhiipaaGreatDoor
open Go.RowKit
attribute [local go_sem ↓] Go.wp_at_zero Go.wp_at_succ

namespace IM
open Go.Proofs.YtmpamcdobhiipaaGreatDoor.ST
def vl (l : List Int) : Int := l.foldl (fun n c => 256 * n + c) 0
theorem vl_snoc (l : List Int) (c : Int) : vl (l ++ [c]) = 256 * vl l + c := by simp [vl]
theorem vl_lt : ∀ (k : Nat) (l : List Int), l.length = k → Byt l → 0 ≤ vl l ∧ vl l < 256 ^ k
  | 0, l, h, _ => by
    obtain rfl := List.eq_nil_of_length_eq_zero h
    simp [vl]
  | k + 1, l, h, hb => by
    obtain ⟨m, c, rfl⟩ : ∃ m c, l = m ++ [c] := ⟨l.dropLast, l.getLast (by intro e; rw [e] at h; cases h), (List.dropLast_concat_getLast _).symm⟩
    have h1 := vl_lt k m (by simpa using h) (fun x hx => hb x (List.mem_append_left _ hx))
    have h2 := hb c (by simp)
    rw [vl_snoc, Int.pow_succ]
    omega
theorem pow_mono : ∀ {k : Nat}, k ≤ 3 → (256 : Int) ^ k ≤ 256 ^ 3
  | 0, _ => by decide
  | 1, _ => by decide
  | 2, _ => by decide
  | 3, _ => by decide
theorem or_step (x c : Nat) (hx : x < 16777216) (hc : c < 256) : bits .or .u32 ((x : Int) * 256) (c : Int) = ((256 * x + c : Nat) : Int) := by
  rw [show (x : Int) * 256 = ((x * 256 : Nat) : Int) by omega]
  have h1 := u32_or_nat (x * 256) c (by omega) (by omega)
  rw [h1]
  congr 1
  have h2 : x * 256 + c = x * 256 ||| c := by simpa [Nat.shiftLeft_eq] using Nat.shiftLeft_add_eq_or_of_lt (b := c) (i := 8) (by omega) x
  rw [← h2]
  omega
set_option maxRecDepth 100000 in
set_option maxHeartbeats 4000000 in
theorem bits_no (rb : Nat) (a : Option Addr) (n cap at_ wide : Nat) (w : World) (c0 : w.cell? ⟨rb, 0, none⟩ = some (.slice a n cap)) (c1 : w.cell? ⟨rb, 1, none⟩ = some (.int .i64 at_)) (hat : at_ ≤ n) (hn : n ≤ 4611686018427387904) (hw : n < at_ + wide) :
    Calls Tryz.prog 87 #[.pointer (some ⟨rb, 0, none⟩), .int .i64 wide] w fun x w' => x = .returned (.tuple #[.int .u32 0, .bool false]) ∧ ∃ k, w' = w.drewN k := by
  have e1 : IntKind.i64.wrap ((n : Int) - (at_ : Int)) = (n : Int) - (at_ : Int) := by rw [IntKind.wrap_i64]; omega
  have e2 : (n : Int) - (at_ : Int) < (wide : Int) := by omega
  go_enter Tryz.func87, Tryz.ntmps87
  go_wp2_with fail
  go_region
  go_wp2
  go_ret2
  exact ⟨rfl, _, rfl⟩
set_option maxRecDepth 100000 in
set_option maxHeartbeats 4000000 in
theorem bits_yes (rb b off n cap at_ wide : Nat) (B : List Int) (w : World) (c0 : w.cell? ⟨rb, 0, none⟩ = some (.slice (some ⟨b, off, none⟩) n cap)) (c1 : w.cell? ⟨rb, 1, none⟩ = some (.int .i64 at_)) (hf : w.frozen? ⟨rb, 1, none⟩ = false) (hnc : n ≤ cap)
    (hB : ∀ j, j < n → w.cell? ⟨b, off + j, none⟩ = some (.int .u8 (B.getD j 0))) (hby : Byt B) (hl : B.length = n) (hn : n ≤ 4611686018427387904) (hw1 : 1 ≤ wide) (hw0 : wide ≤ 4) (hw : at_ + wide ≤ n) :
    Calls Tryz.prog 87 #[.pointer (some ⟨rb, 0, none⟩), .int .i64 wide] w fun x w' => x = .returned (.tuple #[.int .u32 (vl ((B.drop at_).take wide)), .bool true]) ∧ ∃ k, w' = (w.drewN k).setCell ⟨rb, 1, none⟩ (.int .i64 ((at_ + wide : Nat) : Int)) := by
  have e1 : IntKind.i64.wrap ((n : Int) - (at_ : Int)) = (n : Int) - (at_ : Int) := by rw [IntKind.wrap_i64]; omega
  have e2 : ¬ (n : Int) - (at_ : Int) < (wide : Int) := by omega
  have e3 : IntKind.i64.wrap ((at_ : Int) + (wide : Int)) = (at_ : Int) + (wide : Int) := by rw [IntKind.wrap_i64]; omega
  have hca : ¬ cap = at_ := by omega
  have HB : Hid _ := hB
  have HY : Hid (Byt B ∧ B.length = n) := ⟨hby, hl⟩
  clear hB hby hl
  go_enter Tryz.func87, Tryz.ntmps87
  go_wp2_with fail
  go_region
  go_wp2_with fail
  go_region
  go_wp2_with fail
  clear e1 e2 hca hnc
  have HT : Hid (∀ k, k ≤ wide → ((B.drop at_).take k).length = k ∧ Byt ((B.drop at_).take k)) := fun k hk => by
    refine ⟨?_, fun c hc => HY.out.1 c (List.mem_of_mem_drop (List.mem_of_mem_take hc))⟩
    rw [List.length_take, List.length_drop, HY.out.2]
    omega
  have HS : Hid (∀ k, k < wide → vl ((B.drop at_).take (k + 1)) = 256 * vl ((B.drop at_).take k) + B.getD (at_ + k) 0) := fun k hk => by
    have hlt : k < (B.drop at_).length := by rw [List.length_drop, HY.out.2]; omega
    rw [List.take_succ_eq_append_getElem hlt, vl_snoc]
    congr 1
    rw [List.getElem_drop]
    have : at_ + k < B.length := by rw [HY.out.2]; omega
    simp [List.getD, this]
  go_loop [6, 37] (fun s6 s37 => ∃ k x : Nat, k ≤ wide ∧ s37 = .int .i64 k ∧ s6 = .int .u32 x ∧ (x : Int) = vl ((B.drop at_).take k)) (fun _ s37 => wide - (intOf s37).toNat)
  case atStart => exact ⟨0, 0, Nat.zero_le _, rfl, rfl, rfl⟩
  case round =>
    obtain ⟨k, x, hk, rfl, rfl, hx⟩ := hrel
    have HX : Hid ((x : Int) = vl ((B.drop at_).take k)) := hx
    clear hx
    by_cases hlt : k < wide
    · have hlt2 : (k : Int) < (wide : Int) := by omega
      have y0 := HB.out (at_ + k) (by omega)
      rw [← Nat.add_assoc] at y0
      have hc := HY.out.1 _ (mem_getD 0 (show at_ + k < B.length by rw [HY.out.2]; omega))
      have HS1 := HS.out k hlt
      have hxl : x < 16777216 := by
        have h9 := vl_lt k _ (HT.out k hk).1 (HT.out k hk).2
        rw [← HX.out] at h9
        have : k ≤ 3 := by omega
        have h8 : (256 : Int) ^ k ≤ 256 ^ 3 := pow_mono this
        have : (256 : Int) ^ 3 = 16777216 := by decide
        omega
      obtain ⟨c, hcc⟩ : ∃ c : Nat, (c : Int) = B.getD (at_ + k) 0 := ⟨(B.getD (at_ + k) 0).toNat, by omega⟩
      rw [← hcc] at y0 hc HS1
      rw [← HX.out] at HS1
      have HN : Hid (((256 * x + c : Nat) : Int) = vl ((B.drop at_).take (k + 1))) := by unfold Hid; rw [HS1]; omega
      have e4 := or_step x c hxl (by omega)
      have e5 : IntKind.u32.wrap ((x : Int) * 256) = ((x * 256 : Nat) : Int) := by rw [IntKind.wrap_u32']; omega
      have e6 : IntKind.u32.wrap (c : Int) = (c : Int) := by rw [IntKind.wrap_u32']; omega
      clear hcc HS1 HX
      go_wp2
      go_round
      case rel => exact ⟨k + 1, 256 * x + c, by omega, by go_num, rfl, HN.out⟩
      case measure => simp [intOf]; omega
    · have hlt2 : ¬ (k : Int) < (wide : Int) := by omega
      obtain rfl : k = wide := by omega
      go_wp2
      go_ret2
      exact ⟨by rw [HX.out]; rfl, 2, rfl⟩
end IM
end Go.Proofs.YtmpamcdobhiipaaGreatDoor
/-
  Decode: numbers.
-/
namespace Go.Proofs.YtmpamcdobhiipaaGreatDoor
open Go.RowKit
attribute [local go_sem ↓] Go.wp_at_zero Go.wp_at_succ

namespace IM
open Go.Proofs.YtmpamcdobhiipaaGreatDoor.ST
/- the next number, whether there is one, and the world behind it: the place goes on -/
def rv (B : List Int) (at_ wide : Nat) : Int := if at_ + wide ≤ B.length then vl ((B.drop at_).take wide) else 0
def rok (B : List Int) (at_ wide : Nat) : Bool := decide (at_ + wide ≤ B.length)
def rw_ (rb : Nat) (B : List Int) (at_ wide k : Nat) (w : World) : World := if at_ + wide ≤ B.length then (w.drewN k).setCell ⟨rb, 1, none⟩ (.int .i64 ((at_ + wide : Nat) : Int)) else w.drewN k
/- a reader at block rb: its bytes, its place -/
structure RR (rb : Nat) (vb : Value) (B : List Int) (at_ : Nat) (w : World) : Prop where
  c0 : w.cell? ⟨rb, 0, none⟩ = some vb
  c1 : w.cell? ⟨rb, 1, none⟩ = some (.int .i64 at_)
  fz : w.frozen? ⟨rb, 1, none⟩ = false
  bl : BL w vb B
  byt : Byt B
  len : B.length ≤ 4611686018427387904
  at_le : at_ ≤ B.length
theorem rv_in (B : List Int) (hB : Byt B) (at_ wide : Nat) (hw : wide ≤ 4) : 0 ≤ rv B at_ wide ∧ rv B at_ wide < 4294967296 := by
  unfold rv
  split
  · have h1 := vl_lt wide ((B.drop at_).take wide) (by rw [List.length_take, List.length_drop]; omega) (fun c hc => hB c (List.mem_of_mem_drop (List.mem_of_mem_take hc)))
    have h2 : (256 : Int) ^ wide ≤ 4294967296 := by
      match wide, hw with
      | 0, _ => decide
      | 1, _ => decide
      | 2, _ => decide
      | 3, _ => decide
      | 4, _ => decide
    omega
  · omega
theorem bits_ (rb : Nat) (vb : Value) (B : List Int) (at_ wide : Nat) (w : World) (h : RR rb vb B at_ w) (hw1 : 1 ≤ wide) (hw0 : wide ≤ 4) :
    Calls Tryz.prog 87 #[.pointer (some ⟨rb, 0, none⟩), .int .i64 wide] w fun x w' => x = .returned (.tuple #[.int .u32 (rv B at_ wide), .bool (rok B at_ wide)]) ∧ ∃ k, w' = rw_ rb B at_ wide k w := by
  obtain ⟨c0, c1, fz, ⟨-, a, cap, rfl, hnc, hc⟩, hby, hlen, hat⟩ := h
  unfold rv rok rw_
  by_cases hok : at_ + wide ≤ B.length
  · simp only [if_pos hok, decide_eq_true hok]
    obtain ⟨b, off, rfl, hcell⟩ := hc (by omega)
    exact bits_yes rb b off B.length cap at_ wide B w c0 c1 fz hnc (fun j hj => by rw [hcell j (by omega), bvs_at hj]) hby rfl hlen hw1 hw0 hok
  · simp only [if_neg hok, decide_eq_false hok]
    exact bits_no rb a B.length cap at_ wide w c0 c1 hat hlen (by omega)
set_option maxRecDepth 100000 in
set_option maxHeartbeats 2000000 in
theorem number_ (rb : Nat) (vb : Value) (B : List Int) (at_ wide : Nat) (w : World) (h : RR rb vb B at_ w) (hw1 : 1 ≤ wide) (hw0 : wide ≤ 4) :
    Calls Tryz.prog 65 #[.pointer (some ⟨rb, 0, none⟩), .int .i64 wide] w fun x w' => x = .returned (.tuple #[.int .i64 (rv B at_ wide), .bool (rok B at_ wide)]) ∧ ∃ k, w' = rw_ rb B at_ wide k w := by
  have HB : Hid _ := bits_ rb vb B at_ wide w h hw1 hw0
  have h1 := rv_in B h.byt at_ wide hw0
  have e1 : IntKind.i64.wrap (rv B at_ wide) = rv B at_ wide := by rw [IntKind.wrap_i64]; omega
  clear h h1
  generalize rv B at_ wide = x at *
  generalize rok B at_ wide = o at *
  go_enter Tryz.func65, Tryz.ntmps65
  go_wp2_with fail
  refine Calls.mono HB.out ?_
  rintro r W1 ⟨rfl, hk⟩
  have HK : Hid _ := hk
  clear hk HB
  go_wp2
  go_ret2
  exact ⟨rfl, HK.out⟩
set_option maxRecDepth 100000 in
set_option maxHeartbeats 2000000 in
theorem into_ (rb : Nat) (vb : Value) (B : List Int) (at_ wide : Nat) (g j : Nat) (z : Value) (w : World) (h : RR rb vb B at_ w) (hw1 : 1 ≤ wide) (hw0 : wide ≤ 4) (hg : ∀ k, (rw_ rb B at_ wide k w).cell? ⟨g, j, none⟩ = some z ∧ (rw_ rb B at_ wide k w).frozen? ⟨g, j, none⟩ = false) :
    Calls Tryz.prog 90 #[.pointer (some ⟨rb, 0, none⟩), .int .i64 wide, .pointer (some ⟨g, j, none⟩)] w fun x w' => x = .returned (.bool (rok B at_ wide)) ∧ ∃ k, w' = (rw_ rb B at_ wide k w).setCell ⟨g, j, none⟩ (.int .i64 (rv B at_ wide)) := by
  have HB : Hid _ := number_ rb vb B at_ wide w h hw1 hw0
  have HG : Hid _ := hg
  clear h hg
  generalize rv B at_ wide = x at *
  generalize rok B at_ wide = o at *
  go_enter Tryz.func90, Tryz.ntmps90
  go_wp2_with fail
  refine Calls.mono HB.out ?_
  rintro r W1 ⟨rfl, k, rfl⟩
  obtain ⟨d1, d2⟩ := HG.out k
  have HK : Hid (∃ k', (rw_ rb B at_ wide k w).setCell ⟨g, j, none⟩ (.int .i64 x) = (rw_ rb B at_ wide k' w).setCell ⟨g, j, none⟩ (.int .i64 x)) := ⟨k, rfl⟩
  generalize rw_ rb B at_ wide k w = W at *
  clear HB HG
  go_wp2
  go_ret
  exact ⟨rfl, HK.out⟩
end IM
end Go.Proofs.YtmpamcdobhiipaaGreatDoor
/-
  Decode: the byte of a player; the bytes of the mark.
-/
namespace Go.Proofs.YtmpamcdobhiipaaGreatDoor
open Go.RowKit
attribute [local go_sem ↓] Go.wp_at_zero Go.wp_at_succ

namespace IM
open Go.Proofs.YtmpamcdobhiipaaGreatDoor.ST
def fok (B : List Int) (at_ : Nat) : Bool := decide (at_ < B.length) && decide (B.getD at_ 0 ≤ 1)
set_option maxRecDepth 100000 in
set_option maxHeartbeats 4000000 in
theorem flag_end (rb : Nat) (a : Option Addr) (n cap g j : Nat) (w : World) (c0 : w.cell? ⟨rb, 0, none⟩ = some (.slice a n cap)) (c1 : w.cell? ⟨rb, 1, none⟩ = some (.int .i64 n)) :
    Calls Tryz.prog 89 #[.pointer (some ⟨rb, 0, none⟩), .pointer (some ⟨g, j, none⟩)] w fun x w' => x = .returned (.bool false) ∧ ∃ k, w' = w.drewN k := by
  go_enter Tryz.func89, Tryz.ntmps89
  go_wp2_with fail
  go_region
  go_wp2
  go_ret
  exact ⟨rfl, _, rfl⟩
set_option maxRecDepth 100000 in
set_option maxHeartbeats 1000000 in
theorem flag_bad (rb b off n cap at_ g j : Nat) (c : Int) (w : World) (c0 : w.cell? ⟨rb, 0, none⟩ = some (.slice (some ⟨b, off, none⟩) n cap)) (c1 : w.cell? ⟨rb, 1, none⟩ = some (.int .i64 at_)) (hat : at_ < n) (hB : w.cell? ⟨b, off + at_, none⟩ = some (.int .u8 c)) (hc : 1 < c) :
    Calls Tryz.prog 89 #[.pointer (some ⟨rb, 0, none⟩), .pointer (some ⟨g, j, none⟩)] w fun x w' => x = .returned (.bool false) ∧ ∃ k, w' = w.drewN k := by
  have e1 : ((at_ : Int) == (n : Int)) = false := by simp; omega
  have e2 : (at_ : Int) < (n : Int) := by omega
  go_enter Tryz.func89, Tryz.ntmps89
  go_wp2_with fail
  refine TailR.wp_region_seq 22 (by kernel_rfl) (by kernel_rfl) ?_
  simp only [List.take_succ_cons, List.take_zero, List.drop_succ_cons, List.drop_zero]
  repeat (go_big_quiet_step (fail))
  refine wpQuiet_nil ?_
  intro _ hw'
  obtain ⟨nq, hw''⟩ := hw'
  subst hw''
  go_wp2
  go_ret
  exact ⟨rfl, _, rfl⟩
set_option maxRecDepth 100000 in
set_option maxHeartbeats 1000000 in
theorem flag_good (rb b off n cap at_ g j : Nat) (c : Int) (z : Value) (w : World) (c0 : w.cell? ⟨rb, 0, none⟩ = some (.slice (some ⟨b, off, none⟩) n cap)) (c1 : w.cell? ⟨rb, 1, none⟩ = some (.int .i64 at_)) (hf : w.frozen? ⟨rb, 1, none⟩ = false) (hat : at_ < n) (hn : n ≤ 4611686018427387904) (hB : w.cell? ⟨b, off + at_, none⟩ = some (.int .u8 c)) (hc : ¬ 1 < c)
    (hz : w.cell? ⟨g, j, none⟩ = some z) (hzf : w.frozen? ⟨g, j, none⟩ = false) (hz1 : ∃ q, z = .bool q) (hgr : g ≠ rb) :
    Calls Tryz.prog 89 #[.pointer (some ⟨rb, 0, none⟩), .pointer (some ⟨g, j, none⟩)] w fun x w' => x = .returned (.bool true) ∧ ∃ k, w' = ((w.drewN k).setCell ⟨g, j, none⟩ (.bool (c == 1))).setCell ⟨rb, 1, none⟩ (.int .i64 ((at_ : Int) + 1)) := by
  have e1 : ((at_ : Int) == (n : Int)) = false := by simp; omega
  have e2 : (at_ : Int) < (n : Int) := by omega
  have e3 : IntKind.i64.wrap ((at_ : Int) + 1) = (at_ : Int) + 1 := by rw [IntKind.wrap_i64]; omega
  have d1 : ∀ (k : Nat) (v : Value), ((w.drewN k).setCell ⟨g, j, none⟩ v).cell? ⟨rb, 1, none⟩ = some (.int .i64 at_) := fun k v => by
    unfold World.cell? at c1 ⊢
    rw [Below.heap_setCell _ _ _ _ (fun e => hgr e.symm)]
    exact c1
  have d2 : ∀ (k : Nat) (v : Value), ((w.drewN k).setCell ⟨g, j, none⟩ v).frozen? ⟨rb, 1, none⟩ = false := fun k v => by
    unfold World.frozen? at hf ⊢
    rw [Below.heap_setCell _ _ _ _ (fun e => hgr e.symm)]
    exact hf
  obtain ⟨q, rfl⟩ := hz1
  go_enter Tryz.func89, Tryz.ntmps89
  go_wp2_with fail
  refine TailR.wp_region_seq 22 (by kernel_rfl) (by kernel_rfl) ?_
  simp only [List.take_succ_cons, List.take_zero, List.drop_succ_cons, List.drop_zero]
  repeat (go_big_quiet_step (fail))
  refine wpQuiet_nil ?_
  intro _ hw'
  obtain ⟨nq, hw''⟩ := hw'
  subst hw''
  go_wp2_with fail
  refine TailR.wp_region_seq 12 (by kernel_rfl) (by kernel_rfl) ?_
  simp only [List.take_succ_cons, List.take_zero, List.drop_succ_cons, List.drop_zero]
  repeat (go_big_quiet_step (fail))
  refine wpQuiet_nil ?_
  intro _ hw'
  obtain ⟨nr, hw''⟩ := hw'
  subst hw''
  go_wp2_with fail
  go_ret
  first | exact ⟨rfl, _, rfl⟩ | exact ⟨rfl, nq + nr, rfl⟩ | exact ⟨rfl, nr + nq, rfl⟩ | exact ⟨rfl, nq + nr, by simp [World.drewN, Nat.add_assoc]⟩
theorem byte_at {w : World} {v : Value} {B : List Int} (h : BL w v B) : ∃ a cap, v = .slice a B.length cap ∧ ∀ i, i < B.length → ∃ b off, a = some ⟨b, off, none⟩ ∧ w.cell? ⟨b, off + i, none⟩ = some (.int .u8 (B.getD i 0)) := by
  obtain ⟨-, a, cap, rfl, -, hc⟩ := h
  refine ⟨a, cap, rfl, fun i hi => ?_⟩
  obtain ⟨b, off, rfl, hcell⟩ := hc (by omega)
  exact ⟨b, off, rfl, by rw [hcell i (by omega), bvs_at hi]⟩
/- the byte of a player, whatever it is -/
theorem flag_ (rb : Nat) (vb : Value) (B : List Int) (at_ g j : Nat) (q : Bool) (w : World) (h : RR rb vb B at_ w) (hz : w.cell? ⟨g, j, none⟩ = some (.bool q)) (hzf : w.frozen? ⟨g, j, none⟩ = false) (hgr : g ≠ rb) :
    Calls Tryz.prog 89 #[.pointer (some ⟨rb, 0, none⟩), .pointer (some ⟨g, j, none⟩)] w fun x w' => x = .returned (.bool (fok B at_)) ∧ ∃ k, w' = if fok B at_ = true then ((w.drewN k).setCell ⟨g, j, none⟩ (.bool (B.getD at_ 0 == 1))).setCell ⟨rb, 1, none⟩ (.int .i64 ((at_ : Int) + 1)) else w.drewN k := by
  obtain ⟨c0, c1, fz, hbl, hby, hlen, hat⟩ := h
  obtain ⟨a, cap, rfl, hc⟩ := byte_at hbl
  by_cases hlt : at_ < B.length
  · obtain ⟨b, off, rfl, hcell⟩ := hc at_ hlt
    by_cases hb : 1 < B.getD at_ 0
    · have hk : fok B at_ = false := by unfold fok; rw [decide_eq_true hlt, decide_eq_false (show ¬ B.getD at_ 0 ≤ 1 by omega)]; rfl
      rw [hk]
      simp only [Bool.false_eq_true, ↓reduceIte]
      exact flag_bad rb b off B.length cap at_ g j _ w c0 c1 hlt hcell hb
    · have hk : fok B at_ = true := by unfold fok; rw [decide_eq_true hlt, decide_eq_true (show B.getD at_ 0 ≤ 1 by omega)]; rfl
      rw [hk]
      simp only [↓reduceIte]
      exact flag_good rb b off B.length cap at_ g j _ _ w c0 c1 fz hlt hlen hcell hb hz hzf ⟨q, rfl⟩ hgr
  · have hk : fok B at_ = false := by unfold fok; rw [decide_eq_false hlt]; rfl
    rw [hk]
    simp only [Bool.false_eq_true, ↓reduceIte]
    obtain rfl : at_ = B.length := by omega
    exact flag_end rb a B.length cap g j w c0 c1
end IM
end Go.Proofs.YtmpamcdobhiipaaGreatDoor
