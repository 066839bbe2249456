
/-
  Every name: the law KindsNames.
-/
import Derived.Test.YtifabdnjdadkbaaDoorRd12
import Derived.Test.YtifabdnjdadkbaaDoorSb12
namespace Go.Proofs.YtifabdnjdadkbaaDoor
open Go.RowKit
open BG (SB Kp)
attribute [local go_sem ↓] Go.wp_at_zero Go.wp_at_succ
namespace KD
theorem fneq0 (W : World) : (binOp .neq 53 .nilFunc .nilFunc).run Tryd.prog W = .ok (.bool false) W := by kernel_rfl
theorem four_c {W : World} {g : Nat} {a b c d : Value} {t : TypeId} (h : W.heap[g]? = some (.cells #[a, b, c, d] t (0, 0))) : W.cell? ⟨g, 0, none⟩ = some a ∧ W.cell? ⟨g, 1, none⟩ = some b ∧ W.cell? ⟨g, 2, none⟩ = some c ∧ W.cell? ⟨g, 3, none⟩ = some d :=
  ⟨by simp [World.cell?, h], by simp [World.cell?, h], by simp [World.cell?, h], by simp [World.cell?, h]⟩
theorem three_c {W : World} {g : Nat} {a b c : Value} {t : TypeId} (h : W.heap[g]? = some (.cells #[a, b, c] t (0, 0))) : W.cell? ⟨g, 0, none⟩ = some a ∧ W.cell? ⟨g, 1, none⟩ = some b ∧ W.cell? ⟨g, 2, none⟩ = some c :=
  ⟨by simp [World.cell?, h], by simp [World.cell?, h], by simp [World.cell?, h]⟩
/- what is known of the bag in the loop -/
def BN (w W : World) : Prop := (∃ v L, SB W w.heap.size w.heap.size (w.heap.size + 1) v L) ∧ Up w W
set_option maxRecDepth 100000 in
set_option maxHeartbeats 16000000 in
theorem knames (s : ByteArray) (z : Int) (w : World) (hz : -9223372036854775808 ≤ z ∧ z ≤ 9223372036854775807) : Calls Tryd.prog 4 #[.string s, .int .i64 z] w fun e w' => e = .returned (.bool true) ∧ Up w w' := by
  obtain ⟨Post, hPost⟩ : ∃ P : Ending → World → Prop, P = fun e w' => e = .returned (.bool true) ∧ Up w w' := ⟨_, rfl⟩
  rw [← hPost]
  have HP : Hid (∀ W, Up w W → Post (.returned (.bool true)) W) := fun W h => by rw [hPost]; exact ⟨rfl, h⟩
  clear hPost
  have HB0 : Hid (BN w (w.alloc (.cells #[.slice none 0 0, .slice none 0 0, .slice none 0 0, .slice none 0 0, .slice none 0 0, .slice none 0 0, .slice none 0 0, .slice none 0 0, .slice none 0 0, .slice none 0 0, .slice none 0 0, .slice none 0 0, .slice none 0 0, .slice none 0 0, .slice none 0 0, .slice none 0 0, .slice none 0 0, .slice none 0 0, .slice none 0 0, .slice none 0 0, .slice none 0 0] 45))) := ⟨⟨_, _, BG.sb_start w⟩, (Up.refl w).alloc _⟩
  have hf0 := fneq0
  go_enter Tryd.func4, Tryd.ntmps4
  go_wp2_with fail
  go_loopw [6] (fun s6 W => ∃ k : Nat, k ≤ 3 ∧ s6 = .int .i64 k ∧ BN w W) (fun s6 _ => 3 - (intOf s6).toNat)
  case atStart => exact ⟨0, by omega, rfl, HB0.out⟩
  case round =>
    clear HB0
    obtain ⟨k, hk, rfl, hbn⟩ := hrel
    have HB : Hid (BN w wr) := hbn
    clear hbn
    by_cases hlt : k < 3
    · have hlt2 : (k : Int) < 3 := by omega
      have ek : IntKind.i64.wrap ((k : Int) + 1) = ((k + 1 : Nat) : Int) := by rw [IntKind.wrap_i64]; omega
      have HK : Hid (k < 3) := hlt
      cases hf : fnd (lst k) s with
      | none =>
        have HF : Hid (∀ W, Calls Tryd.prog 13 #[.int .i64 (k : Int), .string s] W fun e w' => e = .returned (.tuple #[.int .i64 0, .agg #[.string ⟨#[]⟩, .slice none 0 0, .int .i8 0, .nilFunc], .bool false]) ∧ Up W w') := fun W => (lfind_ k s W HK.out).mono fun e w' ⟨h1, h2⟩ => by
          unfold FdR at h1
          rw [hf] at h1
          exact ⟨h1, h2⟩
        have HR : Hid (∀ W, Calls Tryd.prog 14 #[.int .i64 (k : Int), .string s] W fun e w' => e = .returned (.tuple #[.int .i64 0, .agg #[.string ⟨#[]⟩, .slice none 0 0, .int .i8 0], .bool false]) ∧ Up W w') := fun W => (rfind_ k s W HK.out).mono fun e w' ⟨h1, h2⟩ => by
          unfold FdQ at h1
          rw [hf] at h1
          exact ⟨h1, h2⟩
        clear hf
        go_wp2_with fail
        refine (HF.out _).mono ?_
        rintro r W1 ⟨rfl, u1⟩
        have HU1 : Hid (Up wr W1) := u1
        clear u1
        go_wp2_with fail
        refine (HF.out _).mono ?_
        rintro r W2 ⟨rfl, u2⟩
        have HU2 : Hid (Up wr W2) := (HU1.out.alloc _).trans u2
        have g1 := u2.heap (heap_alloc_new W1 (.cells #[.string ⟨#[]⟩, .slice none 0 0, .int .i8 0, .nilFunc] 55))
        obtain ⟨p1, hp1⟩ : ∃ p, p = W1.heap.size := ⟨_, rfl⟩
        rw [← hp1] at g1 ⊢
        clear hp1 u2 HU1 HF
        go_wp2_with fail
        refine (HR.out _).mono ?_
        rintro r W3 ⟨rfl, u3⟩
        have HU3 : Hid (Up wr (W3.alloc (.cells #[.string ⟨#[]⟩, .slice none 0 0, .int .i8 0] 57))) := ((HU2.out.alloc _).trans u3).alloc _
        have g2 := ((Up.refl W3).alloc (.cells #[.string ⟨#[]⟩, .slice none 0 0, .int .i8 0] 57)).heap (u3.heap (((Up.refl W2).alloc (.cells #[.string ⟨#[]⟩, .slice none 0 0, .int .i8 0, .nilFunc] 55)).heap g1))
        obtain ⟨x0, x1, x2, x3⟩ := four_c g2
        clear g1 g2 u3 HU2 HR
        go_wp2_with fail
        go_roundw
        case rel => exact ⟨k + 1, by omega, by go_num, ⟨HB.out.1.elim fun v h => h.elim fun L h => ⟨v, L, h.up HU3.out⟩, HB.out.2.trans HU3.out⟩⟩
        case measure => simp [intOf]; omega
      | some m =>
        have HML : Hid (m < (lst k).length) := (fnd_some hf).1
        have HNM : Hid (((lst k).getD m ds).name = s) := (fnd_some hf).2
        have HF : Hid (∀ W, Calls Tryd.prog 13 #[.int .i64 (k : Int), .string s] W fun e w' => ∃ g, e = .returned (.tuple #[.int .i64 (m : Int), .agg #[.string ((lst k).getD m ds).name, .slice (some ⟨g, 0, none⟩) ((lst k).getD m ds).args.length ((lst k).getD m ds).args.length, .int .i8 ((lst k).getD m ds).tell, .func (.func (gi ((lst k).getD m ds).each)) #[] #[]], .bool true]) ∧ Up W w' ∧ w'.heap[g]? = some (argO ((lst k).getD m ds)) ∧ W.heap.size ≤ g) := fun W => (lfind_ k s W HK.out).mono fun e w' ⟨h1, h2⟩ => by
          unfold FdR at h1
          rw [hf] at h1
          obtain ⟨g, h1, h3, h4⟩ := h1
          exact ⟨g, h1, h2, h3, h4⟩
        have HR : Hid (∀ W, Calls Tryd.prog 14 #[.int .i64 (k : Int), .string s] W fun e w' => ∃ g, e = .returned (.tuple #[.int .i64 (m : Int), .agg #[.string ((lst k).getD m ds).name, .slice (some ⟨g, 0, none⟩) ((lst k).getD m ds).args.length ((lst k).getD m ds).args.length, .int .i8 ((lst k).getD m ds).tell], .bool true]) ∧ Up W w' ∧ w'.heap[g]? = some (argO ((lst k).getD m ds))) := fun W => (rfind_ k s W HK.out).mono fun e w' ⟨h1, h2⟩ => by
          unfold FdQ at h1
          rw [hf] at h1
          obtain ⟨g, h1, h3⟩ := h1
          exact ⟨g, h1, h2, h3⟩
        have HSG : Hid (∀ (W : World) (g g' : Nat), W.heap[g]? = some (argO ((lst k).getD m ds)) → W.heap[g']? = some (argO ((lst k).getD m ds)) → Calls Tryd.prog 7 #[.agg #[.string ((lst k).getD m ds).name, .slice (some ⟨g, 0, none⟩) ((lst k).getD m ds).args.length ((lst k).getD m ds).args.length, .int .i8 ((lst k).getD m ds).tell, .func (.func (gi ((lst k).getD m ds).each)) #[] #[]], .agg #[.string ((lst k).getD m ds).name, .slice (some ⟨g', 0, none⟩) ((lst k).getD m ds).args.length ((lst k).getD m ds).args.length, .int .i8 ((lst k).getD m ds).tell], .int .i64 (k : Int), .int .i64 (m : Int), .int .i64 z] W fun e w' => e = .returned (.bool true) ∧ Up W w') := fun W g g' h h' => sign_ k m z g g' W HK.out HML.out hz h h'
        have HAD : Hid (∀ (W : World) (v : Value) (L : BG.VL) (g : Nat), SB W w.heap.size w.heap.size (w.heap.size + 1) v L → W.heap[g]? = some (argO ((lst k).getD m ds)) → w.heap.size ≤ g → ¬ BG.Blks L g → Calls Tryd.prog 8 #[.pointer (some ⟨w.heap.size, 0, none⟩), .slice (some ⟨g, 0, none⟩) ((lst k).getD m ds).args.length ((lst k).getD m ds).args.length] W (BG.SbP w.heap.size w.heap.size (w.heap.size + 1) L (.slice (some ⟨g, 0, none⟩) ((lst k).getD m ds).args.length ((lst k).getD m ds).args.length, ((lst k).getD m ds).args.length) W)) := fun W v L g h1 h2 h3 h4 => BG.sb_add _ _ _ v L g _ (ivs ((lst k).getD m ds).args) W h1 h2 (Nat.le_trans (args_len HK.out HML.out) (by decide)) (by simp [ivs]) h3 h4
        have HTY : Hid (∀ (W W' : World) (g : Nat), Kp w.heap.size W W' → W.heap[g]? = some (argO ((lst k).getD m ds)) → W'.heap[g]? = some (argO ((lst k).getD m ds))) := fun W W' g h1 h2 => h1.2 g _ _ _ h2 (by decide) (by decide)
        clear hf HML HNM
        generalize hsg : (lst k).getD m ds = sg at *
        clear hsg
        obtain ⟨nm, ar, tl, ec⟩ := sg
        generalize hargo : argO ⟨nm, ar, tl, ec⟩ = ao at *
        clear hargo
        dsimp only at *
        generalize gi ec = gf at *
        generalize ar.length = q at *
        go_wp2_with fail
        refine (HF.out _).mono ?_
        rintro r W1 ⟨g1, rfl, u1, ha1, hb1⟩
        have HU1 : Hid (Up wr W1) := u1
        have HA1 : Hid (W1.heap[g1]? = some ao ∧ wr.heap.size ≤ g1) := ⟨ha1, hb1⟩
        clear u1 ha1 hb1
        go_wp2_with fail
        refine (HF.out _).mono ?_
        rintro r W2 ⟨g2, rfl, u2, ha2, hb2⟩
        have HU2 : Hid (Up wr W2) := (HU1.out.alloc _).trans u2
        have h1 := u2.heap (heap_alloc_new W1 (.cells #[.string nm, .slice (some ⟨g1, 0, none⟩) q q, .int .i8 tl, .func (.func gf) #[] #[]] 55))
        have HA2 : Hid (W2.heap[g1]? = some ao ∧ W2.heap[g2]? = some ao ∧ wr.heap.size ≤ g1 ∧ wr.heap.size ≤ g2 ∧ g1 ≠ g2) := by
          have h9 := HU1.out.size
          have h8 := (Array.getElem?_eq_some_iff.1 HA1.out.1).1
          simp at hb2
          exact ⟨u2.heap (((Up.refl W1).alloc _).heap HA1.out.1), ha2, HA1.out.2, by omega, by omega⟩
        obtain ⟨p1, hp1⟩ : ∃ p, p = W1.heap.size := ⟨_, rfl⟩
        rw [← hp1] at h1 ⊢
        clear hp1 u2 HU1 HF ha2 hb2 HA1
        go_wp2_with fail
        refine (HR.out _).mono ?_
        rintro r W3 ⟨g3, rfl, u3, ha3⟩
        have u4 : Up W2 (W3.alloc (.cells #[.string nm, .slice (some ⟨g3, 0, none⟩) q q, .int .i8 tl] 57)) := (((Up.refl W2).alloc _).trans u3).alloc _
        have k2 := ((Up.refl W3).alloc (.cells #[.string nm, .slice (some ⟨g3, 0, none⟩) q q, .int .i8 tl] 57)).heap (u3.heap (heap_alloc_new W2 (.cells #[.string nm, .slice (some ⟨g2, 0, none⟩) q q, .int .i8 tl, .func (.func gf) #[] #[]] 55)))
        have k1 := u4.heap h1
        have HU4 : Hid (Up wr (W3.alloc (.cells #[.string nm, .slice (some ⟨g3, 0, none⟩) q q, .int .i8 tl] 57))) := HU2.out.trans u4
        have HA4 : Hid ((W3.alloc (.cells #[.string nm, .slice (some ⟨g3, 0, none⟩) q q, .int .i8 tl] 57)).heap[g1]? = some ao ∧ (W3.alloc (.cells #[.string nm, .slice (some ⟨g3, 0, none⟩) q q, .int .i8 tl] 57)).heap[g2]? = some ao ∧ (W3.alloc (.cells #[.string nm, .slice (some ⟨g3, 0, none⟩) q q, .int .i8 tl] 57)).heap[g3]? = some ao ∧ wr.heap.size ≤ g1 ∧ wr.heap.size ≤ g2 ∧ g1 ≠ g2) := ⟨u4.heap HA2.out.1, u4.heap HA2.out.2.1, ((Up.refl W3).alloc _).heap ha3, HA2.out.2.2⟩
        have k3 := heap_alloc_new W3 (.cells #[.string nm, .slice (some ⟨g3, 0, none⟩) q q, .int .i8 tl] 57)
        obtain ⟨p2, hp2⟩ : ∃ p, p = W2.heap.size := ⟨_, rfl⟩
        rw [← hp2] at k2 ⊢
        clear hp2 h1 u3 u4 ha3 HU2 HR HA2
        have HK1 : Hid _ := k1
        have HK2 : Hid _ := k2
        have HK3 : Hid _ := k3
        obtain ⟨x0, x1, x2, x3⟩ := four_c k1
        obtain ⟨y0, y1, y2, y3⟩ := four_c k2
        clear k1 k2 k3
        go_wp2_with fail
        refine (HSG.out _ g1 g3 HA4.out.1 HA4.out.2.2.1).mono ?_
        rintro r W4 ⟨rfl, u4⟩
        have HU5 : Hid (Up wr W4) := HU4.out.trans u4
        have HA5 : Hid (W4.heap[g1]? = some ao ∧ W4.heap[g2]? = some ao ∧ W4.heap[g3]? = some ao ∧ wr.heap.size ≤ g1 ∧ wr.heap.size ≤ g2 ∧ g1 ≠ g2) := ⟨u4.heap HA4.out.1, u4.heap HA4.out.2.1, u4.heap HA4.out.2.2.1, HA4.out.2.2.2⟩
        have k1 := u4.heap HK1.out
        have k2 := u4.heap HK2.out
        have k3 := u4.heap HK3.out
        obtain ⟨p3, hp3⟩ : ∃ p, p = W3.heap.size := ⟨_, rfl⟩
        rw [← hp3] at k3 ⊢
        clear hp3 u4 HK1 HK2 HK3 HU4 HA4 x0 x1 x2 x3 y0 y1 y2 y3
        have HK1 : Hid _ := k1
        have HK2 : Hid _ := k2
        obtain ⟨y0, y1, y2, y3⟩ := four_c k2
        obtain ⟨z0, z1, z2⟩ := three_c k3
        clear k1 k2 k3
        go_wp2_with fail
        refine (HSG.out _ g2 g3 HA5.out.2.1 HA5.out.2.2.1).mono ?_
        rintro r W5 ⟨rfl, u5⟩
        have HU6 : Hid (Up wr W5) := HU5.out.trans u5
        have HA6 : Hid (W5.heap[g1]? = some ao ∧ W5.heap[g2]? = some ao ∧ wr.heap.size ≤ g1 ∧ wr.heap.size ≤ g2 ∧ g1 ≠ g2) := ⟨u5.heap HA5.out.1, u5.heap HA5.out.2.1, HA5.out.2.2.2⟩
        have k1 := u5.heap HK1.out
        have k2 := u5.heap HK2.out
        clear u5 HK1 HK2 HU5 HA5 y0 y1 y2 y3 z0 z1 z2 HSG
        have HK2 : Hid _ := k2
        obtain ⟨x0, x1, x2, x3⟩ := four_c k1
        obtain ⟨⟨bv, BL, hsb⟩, hup⟩ := HB.out
        have HSB : Hid (SB wr w.heap.size w.heap.size (w.heap.size + 1) bv BL) := hsb
        have HUW : Hid (Up w wr) := hup
        have HNB1 : Hid (¬ BG.Blks BL g1) := fun h => by have := (hsb.blks h).2.1; have := HA6.out.2.2.1; omega
        have HNB2 : Hid (¬ BG.Blks BL g2) := fun h => by have := (hsb.blks h).2.1; have := HA6.out.2.2.2.1; omega
        have HAA : Hid (Calls Tryd.prog 8 #[.pointer (some ⟨w.heap.size, 0, none⟩), .slice (some ⟨g1, 0, none⟩) q q] W5 (BG.SbP w.heap.size w.heap.size (w.heap.size + 1) BL (.slice (some ⟨g1, 0, none⟩) q q, q) W5)) := HAD.out W5 bv BL g1 (hsb.up HU6.out) HA6.out.1 (by have := HUW.out.size; have := HA6.out.2.2.1; omega) HNB1.out
        clear k1 k2 hsb hup HB
        go_wp2_with fail
        refine HAA.out.mono ?_
        rintro r W6 ⟨rfl, bv2, BL2, hsb2, hl2, hkp⟩
        have HKP : Hid (Kp w.heap.size W5 W6) := hkp
        have HSB2 : Hid (SB W6 w.heap.size w.heap.size (w.heap.size + 1) bv2 BL2) := hsb2
        have k2 := hkp.2 _ _ _ _ HK2.out (by decide) (by decide)
        have HNB3 : Hid (¬ BG.Blks BL2 g2) := fun h => by
          rcases hl2 with rfl | rfl
          · exact HNB2.out h
          · rcases BG.blks_one h with h9 | h9
            · exact HNB2.out h9
            · have e9 : g1 = g2 := by simpa [Value.ownBlock] using h9
              exact HA6.out.2.2.2.2 e9
        have HAB : Hid (Calls Tryd.prog 8 #[.pointer (some ⟨w.heap.size, 0, none⟩), .slice (some ⟨g2, 0, none⟩) q q] W6 (BG.SbP w.heap.size w.heap.size (w.heap.size + 1) BL2 (.slice (some ⟨g2, 0, none⟩) q q, q) W6)) := HAD.out W6 bv2 BL2 g2 hsb2 (HTY.out _ _ _ hkp HA6.out.2.1) (by have := HUW.out.size; have := HA6.out.2.2.2.1; omega) HNB3.out
        obtain ⟨y0, y1, y2, y3⟩ := four_c k2
        clear hkp hsb2 hl2 k2 HAA x0 x1 x2 x3 HK2
        go_wp2_with fail
        refine HAB.out.mono ?_
        rintro r W7 ⟨rfl, bv3, BL3, hsb3, -, hkp⟩
        have HEND : Hid (BN w W7) := ⟨⟨bv3, BL3, hsb3⟩, Below.trans (HUW.out.trans HU6.out) (HKP.out.1.trans hkp.1)⟩
        clear hsb3 hkp HAB y0 y1 y2 y3
        go_wp2_with fail
        go_roundw
        case rel => exact ⟨k + 1, by omega, by go_num, HEND.out⟩
        case measure => simp [intOf]; omega
    · have hlt2 : ¬ (k : Int) < 3 := by omega
      have H1 : Hid (∀ W, Calls Tryd.prog 15 #[.string s] W fun e w' => e = .returned (.tuple #[.int .i64 ((lkI evI s).getD 0), .bool (lkI evI s).isSome]) ∧ Up W w') := event_ s
      have H2 : Hid (∀ W, Calls Tryd.prog 16 #[.string s] W fun e w' => e = .returned (.tuple #[.int .i64 ((lkI evI s).getD 0), .bool (lkI evI s).isSome]) ∧ Up W w') := revent_ s
      have H3 : Hid (∀ W, Calls Tryd.prog 17 #[.string s] W fun e w' => e = .returned (.tuple #[.int .i64 ((lkI zoI s).getD 0), .bool (lkI zoI s).isSome]) ∧ Up W w') := zone_ s
      have H4 : Hid (∀ W, Calls Tryd.prog 18 #[.string s] W fun e w' => e = .returned (.tuple #[.int .i64 ((lkI zoI s).getD 0), .bool (lkI zoI s).isSome]) ∧ Up W w') := rzone_ s
      have H5 : Hid (∀ W, Calls Tryd.prog 19 #[.string s] W fun e w' => e = .returned (.bool (wd s)) ∧ w' = W) := word_ s
      have H6 : Hid (∀ W, Calls Tryd.prog 20 #[.string s] W fun e w' => e = .returned (.bool (wd s)) ∧ Up W w') := r12word_ s
      generalize (lkI evI s).getD 0 = e0 at *
      generalize (lkI evI s).isSome = e1 at *
      generalize (lkI zoI s).getD 0 = o0 at *
      generalize (lkI zoI s).isSome = o1 at *
      generalize wd s = wo at *
      go_wp2_with fail
      refine (H1.out _).mono ?_
      rintro r W1 ⟨rfl, u1⟩
      have HU1 : Hid (Up wr W1) := u1
      clear u1 H1
      go_wp2_with fail
      refine (H2.out _).mono ?_
      rintro r W2 ⟨rfl, u2⟩
      have HU2 : Hid (Up wr W2) := HU1.out.trans u2
      clear u2 H2 HU1
      go_wp2_with fail
      refine (H3.out _).mono ?_
      rintro r W3 ⟨rfl, u3⟩
      have HU3 : Hid (Up wr W3) := HU2.out.trans u3
      clear u3 H3 HU2
      go_wp2_with fail
      refine (H4.out _).mono ?_
      rintro r W4 ⟨rfl, u4⟩
      have HU4 : Hid (Up wr W4) := HU3.out.trans u4
      clear u4 H4 HU3
      obtain ⟨⟨bv, BL, hsb⟩, hup⟩ := HB.out
      have HAP := BG.sb_apart _ _ _ _ _ W4 (hsb.up HU4.out)
      have HUW : Hid (Up w W4) := hup.trans HU4.out
      clear hsb hup HB HU4
      go_wp2_with fail
      refine HAP.mono ?_
      rintro r W5 ⟨rfl, b5⟩
      have HU5 : Hid (Up w W5) := Below.trans HUW.out b5
      clear b5 HAP HUW
      go_wp2_with fail
      refine (H5.out _).mono ?_
      rintro r W6 ⟨rfl, hw⟩
      obtain rfl := hw.symm
      clear hw H5
      go_wp2_with fail
      refine (H6.out _).mono ?_
      rintro r W7 ⟨rfl, u7⟩
      have HU7 : Hid (Up w W7) := HU5.out.trans u7
      clear u7 H6 HU5
      have HLV := lives_ W7
      go_wp2_with fail
      refine HLV.mono ?_
      rintro r W8 ⟨rfl, u8⟩
      have HU8 : Hid (Up w W8) := HU7.out.trans u8
      clear u8 HLV HU7
      go_wp2_with fail
      exact HP.out _ HU8.out
end KD
end Go.Proofs.YtifabdnjdadkbaaDoor
