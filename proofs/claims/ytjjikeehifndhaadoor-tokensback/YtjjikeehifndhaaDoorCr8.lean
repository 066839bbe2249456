
/-
  Numbers.
-/
import Derived.Test.YtjjikeehifndhaaDoorCo8
import Derived.Test.YtjjikeehifndhaaDoorNu8
import Derived.Test.YtjjikeehifndhaaDoorSh8
import Derived.Lib.SmallJoins
import Derived.Deep.Cut
namespace Go.Proofs.YtjjikeehifndhaaDoor
open Go.RowKit
attribute [local go_sem ↓] Go.wp_at_zero Go.wp_at_succ
namespace TK
/- the error that numbers that are too great bear -/
def ER (w : World) : Prop := ∃ te pe, w.cell? ⟨3, 0, none⟩ = some (.iface te pe)
theorem ER.up {w W : World} (h : ER w) (u : Up w W) : ER W := by
  obtain ⟨te, pe, h⟩ := h
  exact ⟨te, pe, u.cell h⟩
set_option maxRecDepth 100000 in
set_option maxHeartbeats 16000000 in
theorem number_ (b o c p : Nat) (B : List Int) (w : World) (h : BA w b o B) (hc : B.length ≤ c) (hp : p < B.length) (hn : B.length ≤ 65536) (her : ER w) (hd : dig (B.getD p 0) = true) : Calls Tryd.prog 30 #[.slice (some ⟨b, o, none⟩) B.length c, .int .i64 p] w (TkP w (nmb B p)) := by
  obtain ⟨Post, hPost⟩ : ∃ P : Ending → World → Prop, P = TkP w (nmb B p) := ⟨_, rfl⟩
  rw [← hPost]
  have HPo : Hid (Post = TkP w (nmb B p)) := hPost
  clear hPost
  have HBA : Hid (BA w b o B) := h
  obtain ⟨n, hN⟩ : ∃ n, n = B.length := ⟨_, rfl⟩
  have HN : Hid (n = B.length) := hN
  rw [← hN] at hc hp hn ⊢
  have HBL : Hid (∀ W, Up w W → BL W (.slice (some ⟨b, o, none⟩) n c) B) := fun W u => by rw [HN.out]; exact ba_bl (h.up u) (by have := HN.out; omega)
  clear h hN
  have HER : Hid (ER w) := her
  have HDG : Hid (sub B p (nue B p) ≠ [] ∧ ∀ c ∈ sub B p (nue B p), dig c = true) := nue_dig (by have := HN.out; omega) hd
  have HVN : Hid (0 ≤ val (sub B p (nue B p))) := val_nn HDG.out.2
  obtain ⟨W0, hW0⟩ : ∃ W0, w.alloc (.cells #[.int .i8 0, .string ⟨#[]⟩, .int .i64 0, .int .i64 0] 63) = W0 := ⟨_, rfl⟩
  have g0 : W0.heap[w.heap.size]? = some (.cells tz 63 (0, 0)) := by rw [← hW0]; exact heap_alloc_new _ _
  have u0 : Up w W0 := by rw [← hW0]; exact (Up.refl _).alloc _
  have HU : Hid (Up w W0) := u0
  have x1 := HBA.out W0 u0 p (by have := HN.out; omega)
  have HW0 : Hid (w.alloc (.cells #[.int .i8 0, .string ⟨#[]⟩, .int .i64 0, .int .i64 0] 63) = W0) := hW0
  have e1 : IntKind.i64.wrap ((p : Int) + 1) = ((p + 1 : Nat) : Int) := by rw [IntKind.wrap_i64]; omega
  clear her hd u0
  by_cases h48 : B.getD p 0 = 48
  · obtain ⟨e, he⟩ : ∃ e, e = p + 1 := ⟨_, rfl⟩
    have HNE : Hid (e = nue B p) := by unfold Hid nue; rw [h48, he]; rfl
    have he1 : p ≤ e := by omega
    have he2 : e ≤ n := by omega
    rw [h48] at x1
    rw [← he] at e1
    clear h48 he
    go_enter Tryd.func30, Tryd.ntmps30
    go_upto_region 4 with fail
    try rw [HW0.out]
    clear hW0 HW0 x1
    have hcv : (convert 22 9 (.slice (some ⟨b, o + p, none⟩) (e - p) (c - p))).run Tryd.prog W0 = .ok (.string (strOfNums (sub B p e))) W0 := conv_sub (HBA.out.up HU.out) (by have := HN.out; omega) _
    have HPI : Hid (Lib.parseIntB 64 (strOfNums (sub B p e)).data.toList = if 9223372036854775807 < val (sub B p e) then .range else .ok (val (sub B p e))) := by
      unfold Hid
      rw [HNE.out]
      exact int_is HDG.out.1 HDG.out.2
    have HSZ : Hid ((strOfNums (sub B p e)).size ≤ 65536) := by
      unfold Hid
      rw [strOfNums_size, sub_len (by have := HN.out; omega)]
      omega
    have HSP : Hid (nmb B p = if 9223372036854775807 < val (sub B p e) then .bad p else if e < spn prt B e then .bad e else .tok ⟨2, [], val (sub B p e), p⟩ e) := by
      unfold Hid nmb
      rw [← HNE.out]
    have hnn := HVN.out
    rw [← HNE.out] at hnn
    generalize hv : val (sub B p e) = v at *
    generalize strOfNums (sub B p e) = s at *
    clear hv
    by_cases hbig : 9223372036854775807 < v
    · rw [if_pos hbig] at HPI HSP
      obtain ⟨te, pe, her⟩ := HER.out
      have HC : Hid (Calls Tryd.prog 69 #[.string s, .int .i64 10, .int .i64 64] W0 fun e w' => ∃ x y z, e = .returned (.tuple #[.int .i64 x, .iface y (.pointer z)]) ∧ Up W0 w') := by
        refine Calls.mono (Any.strconv_ParseInt_10_at64_range Tryd.laysC174 s (by have := HSZ.out; omega) HPI.out (.iface te pe) W0 (HU.out.cell her) (.inr ⟨te, pe, rfl⟩)) ?_
        rintro e w' ⟨N, h1, h2, h3, h4⟩
        exact ⟨_, _, _, h1, h4⟩
      clear hnn hbig her
      go_wp2_with fail
      refine Calls.mono HC.out ?_
      rintro r V1 ⟨x, y, z, rfl, u⟩
      have g0 := u.heap g0
      have HU : Hid (Up w V1) := HU.out.trans u
      clear u HC hcv
      go_wp2_with (refine wpList_store_row (by rfl) 63 (.tmp 4) (.tmp 33) (by rfl) w.heap.size tz (by rfl) (by rfl) 63 tz g0 infoTs rfl (tz_one) ?_)
      refine bodyPost_ret (v := .tuple #[.agg tz, .int .i64 p, .bool false]) (res_c2 (p := 4) (q := 5) (r := 6) (ty := 63) rfl _ _ w.heap.size 63 tz (0, 0) _ _ _ rfl rfl rfl (setRow_heap _ _ _ _ _ _ g0) Tryd.underlying63 rfl infoTs) rfl ?_
      rw [HPo.out]
      rw [HSP.out]
      exact ⟨rfl, up_setRow HU.out (Nat.le_refl _) _⟩
    · rw [if_neg hbig] at HPI HSP
      have HC : Hid (Calls Tryd.prog 69 #[.string s, .int .i64 10, .int .i64 64] W0 fun e w' => e = .returned (.tuple #[.int .i64 v, .nilIface]) ∧ Up W0 w') := by
        refine Calls.mono (Any.strconv_ParseInt_10_at64_ok Tryd.laysC174 s (by have := HSZ.out; omega) v HPI.out W0) ?_
        rintro e w' ⟨h1, h2⟩
        refine ⟨h1, ?_⟩
        rcases h2 with h2 | ⟨t, h2⟩
        · rw [h2]; exact Up.refl _
        · rw [h2]; exact Joins.below_bytesWorld _ _ _ _ (Nat.le_refl _)
      go_wp2_with fail
      refine Calls.mono HC.out ?_
      rintro r V1 ⟨rfl, u⟩
      have g0 := u.heap g0
      have HU : Hid (Up w V1) := HU.out.trans u
      clear u HC hcv
      go_wp2_with fail
      refine Calls.mono (inName_ V1) ?_
      rintro r V2 ⟨g, rfl, h60, u⟩
      have g0 := u.heap g0
      have HU : Hid (Up w V2) := HU.out.trans u
      have HBH : Hid (Calls Tryd.prog 65 #[.slice (some ⟨b, o, none⟩) n c, .int .i64 (e : Nat), .func (.func 91) #[] #[.pointer (some ⟨g, 0, none⟩)]] V2 fun r9 w' => r9 = .returned (.int .i64 (spn prt B e : Nat)) ∧ Up V2 w') :=
        behind_ 91 #[] #[.pointer (some ⟨g, 0, none⟩)] prt _ B e V2 (HBL.out V2 HU.out) (by have := HN.out; omega) (by have := HN.out; omega) (enters_of Tryd.func91 (by kernel_rfl) rfl) (fun W c9 x => by simpa using ofN_ c9 g W (x.cell h60))
      clear u h60
      go_wp2_with fail
      refine Calls.mono HBH.out ?_
      rintro r V3 ⟨rfl, u⟩
      have g0 := u.heap g0
      have HU : Hid (Up w V3) := HU.out.trans u
      clear u HBH
      generalize spn prt B e = e7 at *
      by_cases hmore : e < e7
      · have e8 : (e : Int) < (e7 : Int) := by omega
        rw [if_pos hmore] at HSP
        go_wp2_with (refine wpList_store_row (by rfl) 63 (.tmp 4) (.tmp 41) (by rfl) w.heap.size tz (by rfl) (by rfl) 63 tz g0 infoTs rfl (tz_one) ?_)
        refine bodyPost_ret (v := .tuple #[.agg tz, .int .i64 e, .bool false]) (res_c2 (p := 4) (q := 5) (r := 6) (ty := 63) rfl _ _ w.heap.size 63 tz (0, 0) _ _ _ rfl rfl rfl (setRow_heap _ _ _ _ _ _ g0) Tryd.underlying63 rfl infoTs) rfl ?_
        rw [HPo.out]
        rw [HSP.out]
        exact ⟨rfl, up_setRow HU.out (Nat.le_refl _) _⟩
      · have e8 : ¬ (e : Int) < (e7 : Int) := by omega
        rw [if_neg hmore] at HSP
        go_wp2_with (refine wpList_store_row (by rfl) 63 (.tmp 4) (.tmp 44) (by rfl) w.heap.size (tA 2 [] v) (by rfl) (by rfl) 63 tz g0 infoTs rfl (tA_one _ _ _) ?_)
        refine bodyPost_ret (v := .tuple #[.agg (tA 2 [] v), .int .i64 e, .bool true]) (res_c2 (p := 4) (q := 5) (r := 6) (ty := 63) rfl _ _ w.heap.size 63 (tA 2 [] v) (0, 0) _ _ _ rfl rfl rfl (setRow_heap _ _ _ _ _ _ g0) Tryd.underlying63 rfl infoTs) rfl ?_
        rw [HPo.out]
        rw [HSP.out]
        exact ⟨rfl, up_setRow HU.out (Nat.le_refl _) _⟩
  · have h48b : (B.getD p 0 != 48) = true := by simpa using h48
    have HNE0 : Hid (nue B p = spn dig B (p + 1)) := by unfold Hid nue; rw [if_neg (by simpa using h48)]
    have HOD : Hid (Calls Tryd.prog 68 #[.slice (some ⟨W0.heap.size, 0, none⟩) 1 1] (W0.alloc (.cells #[.int .i64 4] 70)) fun e w' => ∃ g, e = .returned (.func (.func 91) #[] #[.pointer (some ⟨g, 0, none⟩)]) ∧ w'.cell? ⟨g, 0, none⟩ = some (.int .u64 16) ∧ Up W0 w') := Calls.mono (ofDw_ W0.heap.size (W0.alloc (.cells #[.int .i64 4] 70)) (heap_alloc_new W0 _)) (fun e w' h => by
      obtain ⟨g, h1, h2, h3⟩ := h
      exact ⟨g, h1, h2, ((Up.refl W0).alloc _).trans h3⟩)
    generalize B.getD p 0 = d at x1 h48b
    clear h48
    go_enter Tryd.func30, Tryd.ntmps30
    go_upto_region 3 with fail
    try rw [HW0.out]
    clear hW0 HW0 x1
    go_wp2_with fail
    refine Calls.mono HOD.out ?_
    rintro r W1 ⟨g, rfl, h16, u1⟩
    have g0 := u1.heap g0
    have HU : Hid (Up w W1) := HU.out.trans u1
    have HBH : Hid (Calls Tryd.prog 65 #[.slice (some ⟨b, o, none⟩) n c, .int .i64 ((p + 1) : Nat), .func (.func 91) #[] #[.pointer (some ⟨g, 0, none⟩)]] W1 fun r9 w' => r9 = .returned (.int .i64 (spn dig B (p + 1) : Nat)) ∧ Up W1 w') :=
      behind_ 91 #[] #[.pointer (some ⟨g, 0, none⟩)] dig _ B (p + 1) W1 (HBL.out W1 HU.out) (by have := HN.out; omega) (by have := HN.out; omega) (enters_of Tryd.func91 (by kernel_rfl) rfl) (fun W c9 x => by simpa using ofD_ c9 g W (x.cell h16))
    clear u1 h16 HOD
    go_wp2_with fail
    refine Calls.mono HBH.out ?_
    rintro r W2 ⟨rfl, u1⟩
    have g0 := u1.heap g0
    have HU : Hid (Up w W2) := HU.out.trans u1
    have he1 := spn_ge dig B (p + 1)
    have he2 := spn_le dig (B := B) (p := p + 1) (by have := HN.out; omega)
    rw [← HN.out] at he2
    clear u1 HBH
    obtain ⟨e, he⟩ : ∃ e, e = spn dig B (p + 1) := ⟨_, rfl⟩
    have HNE : Hid (e = nue B p) := by unfold Hid; rw [HNE0.out]; exact he
    rw [← he] at he1 he2 ⊢
    clear he HNE0
    have he1 : p ≤ e := by omega
    go_upto_region 4 with fail
    have hcv : (convert 22 9 (.slice (some ⟨b, o + p, none⟩) (e - p) (c - p))).run Tryd.prog W2 = .ok (.string (strOfNums (sub B p e))) W2 := conv_sub (HBA.out.up HU.out) (by have := HN.out; omega) _
    have HPI : Hid (Lib.parseIntB 64 (strOfNums (sub B p e)).data.toList = if 9223372036854775807 < val (sub B p e) then .range else .ok (val (sub B p e))) := by
      unfold Hid
      rw [HNE.out]
      exact int_is HDG.out.1 HDG.out.2
    have HSZ : Hid ((strOfNums (sub B p e)).size ≤ 65536) := by
      unfold Hid
      rw [strOfNums_size, sub_len (by have := HN.out; omega)]
      omega
    have HSP : Hid (nmb B p = if 9223372036854775807 < val (sub B p e) then .bad p else if e < spn prt B e then .bad e else .tok ⟨2, [], val (sub B p e), p⟩ e) := by
      unfold Hid nmb
      rw [← HNE.out]
    have hnn := HVN.out
    rw [← HNE.out] at hnn
    generalize hv : val (sub B p e) = v at *
    generalize strOfNums (sub B p e) = s at *
    clear hv
    by_cases hbig : 9223372036854775807 < v
    · rw [if_pos hbig] at HPI HSP
      obtain ⟨te, pe, her⟩ := HER.out
      have HC : Hid (Calls Tryd.prog 69 #[.string s, .int .i64 10, .int .i64 64] W2 fun e w' => ∃ x y z, e = .returned (.tuple #[.int .i64 x, .iface y (.pointer z)]) ∧ Up W2 w') := by
        refine Calls.mono (Any.strconv_ParseInt_10_at64_range Tryd.laysC174 s (by have := HSZ.out; omega) HPI.out (.iface te pe) W2 (HU.out.cell her) (.inr ⟨te, pe, rfl⟩)) ?_
        rintro e w' ⟨N, h1, h2, h3, h4⟩
        exact ⟨_, _, _, h1, h4⟩
      clear hnn hbig her
      go_wp2_with fail
      refine Calls.mono HC.out ?_
      rintro r V1 ⟨x, y, z, rfl, u⟩
      have g0 := u.heap g0
      have HU : Hid (Up w V1) := HU.out.trans u
      clear u HC hcv
      go_wp2_with (refine wpList_store_row (by rfl) 63 (.tmp 4) (.tmp 33) (by rfl) w.heap.size tz (by rfl) (by rfl) 63 tz g0 infoTs rfl (tz_one) ?_)
      refine bodyPost_ret (v := .tuple #[.agg tz, .int .i64 p, .bool false]) (res_c2 (p := 4) (q := 5) (r := 6) (ty := 63) rfl _ _ w.heap.size 63 tz (0, 0) _ _ _ rfl rfl rfl (setRow_heap _ _ _ _ _ _ g0) Tryd.underlying63 rfl infoTs) rfl ?_
      rw [HPo.out]
      rw [HSP.out]
      exact ⟨rfl, up_setRow HU.out (Nat.le_refl _) _⟩
    · rw [if_neg hbig] at HPI HSP
      have HC : Hid (Calls Tryd.prog 69 #[.string s, .int .i64 10, .int .i64 64] W2 fun e w' => e = .returned (.tuple #[.int .i64 v, .nilIface]) ∧ Up W2 w') := by
        refine Calls.mono (Any.strconv_ParseInt_10_at64_ok Tryd.laysC174 s (by have := HSZ.out; omega) v HPI.out W2) ?_
        rintro e w' ⟨h1, h2⟩
        refine ⟨h1, ?_⟩
        rcases h2 with h2 | ⟨t, h2⟩
        · rw [h2]; exact Up.refl _
        · rw [h2]; exact Joins.below_bytesWorld _ _ _ _ (Nat.le_refl _)
      go_wp2_with fail
      refine Calls.mono HC.out ?_
      rintro r V1 ⟨rfl, u⟩
      have g0 := u.heap g0
      have HU : Hid (Up w V1) := HU.out.trans u
      clear u HC hcv
      go_wp2_with fail
      refine Calls.mono (inName_ V1) ?_
      rintro r V2 ⟨g, rfl, h60, u⟩
      have g0 := u.heap g0
      have HU : Hid (Up w V2) := HU.out.trans u
      have HBH : Hid (Calls Tryd.prog 65 #[.slice (some ⟨b, o, none⟩) n c, .int .i64 (e : Nat), .func (.func 91) #[] #[.pointer (some ⟨g, 0, none⟩)]] V2 fun r9 w' => r9 = .returned (.int .i64 (spn prt B e : Nat)) ∧ Up V2 w') :=
        behind_ 91 #[] #[.pointer (some ⟨g, 0, none⟩)] prt _ B e V2 (HBL.out V2 HU.out) (by have := HN.out; omega) (by have := HN.out; omega) (enters_of Tryd.func91 (by kernel_rfl) rfl) (fun W c9 x => by simpa using ofN_ c9 g W (x.cell h60))
      clear u h60
      go_wp2_with fail
      refine Calls.mono HBH.out ?_
      rintro r V3 ⟨rfl, u⟩
      have g0 := u.heap g0
      have HU : Hid (Up w V3) := HU.out.trans u
      clear u HBH
      generalize spn prt B e = e7 at *
      by_cases hmore : e < e7
      · have e8 : (e : Int) < (e7 : Int) := by omega
        rw [if_pos hmore] at HSP
        go_wp2_with (refine wpList_store_row (by rfl) 63 (.tmp 4) (.tmp 41) (by rfl) w.heap.size tz (by rfl) (by rfl) 63 tz g0 infoTs rfl (tz_one) ?_)
        refine bodyPost_ret (v := .tuple #[.agg tz, .int .i64 e, .bool false]) (res_c2 (p := 4) (q := 5) (r := 6) (ty := 63) rfl _ _ w.heap.size 63 tz (0, 0) _ _ _ rfl rfl rfl (setRow_heap _ _ _ _ _ _ g0) Tryd.underlying63 rfl infoTs) rfl ?_
        rw [HPo.out]
        rw [HSP.out]
        exact ⟨rfl, up_setRow HU.out (Nat.le_refl _) _⟩
      · have e8 : ¬ (e : Int) < (e7 : Int) := by omega
        rw [if_neg hmore] at HSP
        go_wp2_with (refine wpList_store_row (by rfl) 63 (.tmp 4) (.tmp 44) (by rfl) w.heap.size (tA 2 [] v) (by rfl) (by rfl) 63 tz g0 infoTs rfl (tA_one _ _ _) ?_)
        refine bodyPost_ret (v := .tuple #[.agg (tA 2 [] v), .int .i64 e, .bool true]) (res_c2 (p := 4) (q := 5) (r := 6) (ty := 63) rfl _ _ w.heap.size 63 (tA 2 [] v) (0, 0) _ _ _ rfl rfl rfl (setRow_heap _ _ _ _ _ _ g0) Tryd.underlying63 rfl infoTs) rfl ?_
        rw [HPo.out]
        rw [HSP.out]
        exact ⟨rfl, up_setRow HU.out (Nat.le_refl _) _⟩
end TK
end Go.Proofs.YtjjikeehifndhaaDoor
