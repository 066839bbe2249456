
/-
  TokensBack: the law's walk.
-/
import Derived.Test.YtjjikeehifndhaaDoorGq8
import Derived.Test.YtjjikeehifndhaaDoorBd8
import Derived.Test.YtjjikeehifndhaaDoorCu8
import Derived.Test.YtjjikeehifndhaaDoorEt8
import Derived.Test.YtjjikeehifndhaaDoorWk8
import Derived.Test.YtjjikeehifndhaaDoorTw8
import Derived.Test.YtjjikeehifndhaaDoorLu8
import Derived.Lib.AppendStr
import Derived.Lib.ItoaLen
namespace Go.Proofs.YtjjikeehifndhaaDoor
open Go.RowKit
attribute [local go_sem ↓] Go.wp_at_zero Go.wp_at_succ
namespace TK
theorem own_ne {w : World} {b1 b2 e1 e2 s1 s2 n1 n2 : Nat} {v1 v2 : Value} {x1 x2 : List Value} (h1 : w.ownsRow b1 e1 s1 v1 n1 x1) (h2 : w.ownsRow b2 e2 s2 v2 n2 x2) (hne : e1 ≠ e2) : v1.ownBlock = none ∨ v1.ownBlock ≠ v2.ownBlock := by
  rcases h1.2 with ⟨rfl, -⟩ | ⟨g1, c1, cur1, rfl, -, h3, -⟩
  · exact .inl rfl
  · rcases h2.2 with ⟨rfl, -⟩ | ⟨g2, c2, cur2, rfl, -, h4, -⟩
    · exact .inr (by simp [Value.ownBlock])
    · refine .inr fun e => ?_
      have e : g1 = g2 := by simpa [Value.ownBlock] using e
      subst e
      rw [h3] at h4
      injection h4 with h5
      injection h5 with _ h6
      exact hne h6
theorem byt_app {a b : List Int} (h : Byt a) (k : Byt b) : Byt (a ++ b) := fun c hc => (List.mem_append.1 hc).elim (h c) (k c)
theorem byt_dcm (n : Int) : Byt (dcm n) := fun c hc => by
  unfold dcm at hc
  obtain ⟨b, -, rfl⟩ := List.mem_map.1 hc
  have := b.toNat_lt
  omega
theorem byt_quo {l : List Int} (h : Byt l) : Byt (quo l) := fun c hc => by
  unfold quo at hc
  simp only [List.mem_append, List.mem_flatMap, List.mem_cons, List.not_mem_nil, or_false] at hc
  rcases hc with rfl | ⟨x, hx, hc⟩ | rfl
  · decide
  · unfold quC at hc
    split at hc
    · simp only [List.mem_cons, List.not_mem_nil, or_false] at hc
      rcases hc with rfl | rfl
      · decide
      · exact h _ hx
    · obtain rfl : c = x := by simpa using hc
      exact h _ hx
  · decide
theorem byt_tex {t : Tok} (h : Byt t.text) : Byt (tex t) := by
  have h0 : Byt [] := fun c hc => by cases hc
  unfold tex
  split
  · exact h0
  · split
    · exact byt_dcm _
    · split
      · exact h0
      · split
        · exact h
        · split
          · exact byt_quo h
          · exact h0
theorem fl_up : ∀ l : List Int, (l.flatMap quC).length ≤ 2 * l.length
  | [] => Nat.le_refl _
  | c :: r => by
    have := fl_up r
    rw [List.flatMap_cons, List.length_append, List.length_cons]
    have : (quC c).length ≤ 2 := by unfold quC; split <;> simp
    omega
theorem mrk_len {l : List Int} (h : mrk l = true) : l.length ≤ 2 := by
  match l, h with
  | [_], _ => simp
  | [_, _], _ => simp
theorem tex_len {t : Tok} (h0 : -9223372036854775808 ≤ t.num) (h1 : t.num ≤ 9223372036854775807) : (tex t).length ≤ 200 := by
  unfold tex
  split
  · simp
  · split
    · unfold dcm
      have := Lib.itoa_length_le t.num h0 h1
      rw [List.length_map]
      omega
    · split
      · simp
      · split
        · rename_i h
          rcases h with ⟨-, h⟩ | ⟨-, h⟩
          · unfold okN at h
            simp only [Bool.and_eq_true, decide_eq_true_eq] at h
            omega
          · have := mrk_len h
            omega
        · split
          · rename_i h
            have h := h.2
            unfold okT at h
            simp only [Bool.and_eq_true, decide_eq_true_eq] at h
            have := fl_up t.text
            rw [quo_len]
            omega
          · simp
theorem str_bvs {l : List Int} (h : Byt l) : Lib.strCells (strOfNums l) = bvs l := by
  unfold Lib.strCells bvs
  rw [strOfNums_data, List.map_map]
  refine List.map_congr_left fun c hc => ?_
  have h9 := h c hc
  have e : ((UInt8.ofNat c.toNat).toNat : Int) = c := by
    rw [UInt8.toNat_ofNat']
    omega
  simp only [Function.comp]
  rw [e]
theorem RowsB.up {w W : World} {v : Value} {L : List (List Int)} (h : RowsB w v L) (u : Up w W) : RowsB W v L := by
  obtain ⟨V, h1, h2, h3⟩ := h
  exact ⟨V, h1, h2.up u, fun i hi => ⟨(h3 i hi).1.up u, (h3 i hi).2⟩⟩
/- what is written so far -/
structure TB (w W : World) (M : List (List Int × Tok)) (k m : Nat) (a b : Value) : Prop where
  ln : (flat M).length = k
  lm : M.length = m
  le : 2 * m ≤ k
  by_ : Byt (flat M)
  all : ∀ x ∈ M, IsGp x.1 ∧ tex x.2 ≠ [] ∧ x.2.num ≤ 9223372036854775807
  src : W.ownsRow w.heap.size 5 1 a k (bvs (flat M))
  wnt : W.ownsRow w.heap.size 63 4 b m (tvs (toks 0 M))
  up : Up w W
theorem toks_len : ∀ (l : List (List Int × Tok)) (n : Nat), (toks n l).length = l.length
  | [], _ => rfl
  | x :: r, n => by rw [toks, List.length_cons, toks_len r, List.length_cons]
theorem TB.upd {w W W' : World} {M : List (List Int × Tok)} {k m : Nat} {a b : Value} (h : TB w W M k m a b) (u : Up W W') : TB w W' M k m a b :=
  ⟨h.ln, h.lm, h.le, h.by_, h.all, row_up h.src u, row_up h.wnt u, h.up.trans u⟩
/- a gap has been written -/
structure TM (w W : World) (M : List (List Int × Tok)) (G : List Int) (k m : Nat) (a b : Value) : Prop where
  ln : (flat M).length = k
  lm : M.length = m
  le : 2 * m ≤ k
  by_ : Byt (flat M)
  byG : Byt G
  isG : IsGp G
  all : ∀ x ∈ M, IsGp x.1 ∧ tex x.2 ≠ [] ∧ x.2.num ≤ 9223372036854775807
  src : W.ownsRow w.heap.size 5 1 a (k + G.length) (bvs (flat M ++ G))
  wnt : W.ownsRow w.heap.size 63 4 b m (tvs (toks 0 M))
  up : Up w W
theorem TB.gap {w W V : World} {M : List (List Int × Tok)} {G : List Int} {k m : Nat} {a b v : Value} (h : TB w W M k m a b) (hG : IsGp G) (hb : Byt G) (hr : V.ownsRow w.heap.size 5 1 v (k + G.length) (bvs (flat M) ++ bvs G)) (hg : W.grownBy V a.ownBlock) : TM w V M G k m v b :=
  ⟨h.ln, h.lm, h.le, h.by_, hb, hG, h.all, by rw [show bvs (flat M ++ G) = bvs (flat M) ++ bvs G by simp [bvs]]; exact hr, World.ownsRow.kept h.wnt hg (own_ne h.wnt h.src (by decide)), Below.grown h.up hg h.up.size (fun k9 hk => (World.ownsRow.lt h.src k9 hk).1)⟩
theorem TM.upd {w W W' : World} {M : List (List Int × Tok)} {G : List Int} {k m : Nat} {a b : Value} (h : TM w W M G k m a b) (u : Up W W') : TM w W' M G k m a b :=
  ⟨h.ln, h.lm, h.le, h.by_, h.byG, h.isG, h.all, row_up h.src u, row_up h.wnt u, h.up.trans u⟩
/- and the token is wanted -/
structure TN (w W : World) (M : List (List Int × Tok)) (G : List Int) (t : Tok) (k m : Nat) (a b : Value) : Prop where
  mid : TM w W M G k m a b ∨ True
  ln : (flat M).length = k
  lm : M.length = m
  le : 2 * m ≤ k
  by_ : Byt (flat M)
  byG : Byt G
  isG : IsGp G
  all : ∀ x ∈ M, IsGp x.1 ∧ tex x.2 ≠ [] ∧ x.2.num ≤ 9223372036854775807
  src : W.ownsRow w.heap.size 5 1 a (k + G.length) (bvs (flat M ++ G))
  wnt : W.ownsRow w.heap.size 63 4 b (m + 1) (tvs (toks 0 (M ++ [(G, t)])))
  up : Up w W
theorem TM.want {w W V : World} {M : List (List Int × Tok)} {G : List Int} {k m : Nat} {a b v : Value} (h : TM w W M G k m a b) (t : Tok) (hr : V.ownsRow w.heap.size 63 4 v (m + 1) (tvs (toks 0 M) ++ [.int .i8 t.kind, .string (strOfNums t.text), .int .i64 t.num, .int .i64 ((k + G.length : Nat) : Int)])) (hg : W.grownBy V b.ownBlock) : TN w V M G t k m a v :=
  ⟨.inr trivial, h.ln, h.lm, h.le, h.by_, h.byG, h.isG, h.all, World.ownsRow.kept h.src hg (own_ne h.src h.wnt (by decide)), by
    rw [toks_app, tvs_app, Nat.zero_add, h.ln]
    exact hr, Below.grown h.up hg h.up.size (fun k9 hk => (World.ownsRow.lt h.wnt k9 hk).1)⟩
theorem TN.fin {w W V : World} {M : List (List Int × Tok)} {G : List Int} {t : Tok} {k m : Nat} {a b v : Value} (h : TN w W M G t k m a b) (ht : tex t ≠ []) (hb : Byt (tex t)) (hn : t.num ≤ 9223372036854775807) {ys : ByteArray} (hy : ys = strOfNums (tex t)) (hr : V.ownsRow w.heap.size 5 1 v (k + G.length + ys.size) (bvs (flat M ++ G) ++ Lib.strCells ys)) (hg : W.grownBy V a.ownBlock) : TB w V (M ++ [(G, t)]) (k + G.length + ys.size) (m + 1) v b := by
  subst hy
  have hl : (strOfNums (tex t)).size = (tex t).length := strOfNums_size _
  have hp : 0 < (tex t).length := List.length_pos_iff.2 ht
  have hp2 : 0 < G.length := by
    obtain ⟨r, hr⟩ := gap_sp h.isG
    rw [hr]
    simp
  refine ⟨?_, ?_, ?_, ?_, ?_, ?_, World.ownsRow.kept h.wnt hg (own_ne h.wnt h.src (by decide)), Below.grown h.up hg h.up.size (fun k9 hk => (World.ownsRow.lt h.src k9 hk).1)⟩
  · rw [flat_app, List.length_append, List.length_append, h.ln, hl]
  · rw [List.length_append, h.lm]
    rfl
  · have := h.le
    omega
  · rw [flat_app]
    exact byt_app (byt_app h.by_ h.byG) hb
  · intro x hx
    rcases List.mem_append.1 hx with hx | hx
    · exact h.all x hx
    · obtain rfl : x = (G, t) := by simpa using hx
      exact ⟨h.isG, ht, hn⟩
  · rw [flat_app, show bvs (flat M ++ G ++ tex t) = bvs (flat M ++ G) ++ bvs (tex t) by simp [bvs], ← str_bvs hb]
    exact hr
theorem own_bl2 {W : World} {base : Nat} {v : Value} {l : List Int} (h : W.ownsRow base 5 1 v l.length (bvs l)) : BL W v l := by
  rcases own_lv h with ⟨rfl, rfl⟩ | ⟨b, o, c, rfl, hc, hb⟩
  · exact ⟨rfl, none, 0, rfl, by simp, fun h9 => absurd rfl h9⟩
  · exact ba_bl hb hc
theorem gap_pos {G : List Int} (h : IsGp G) : 0 < G.length := by
  obtain ⟨r, hr⟩ := gap_sp h
  rw [hr]
  simp
set_option maxRecDepth 100000 in
set_option maxHeartbeats 16000000 in
theorem tback (v u : Value) (l : List Tok) (L : List (List Int)) (w : World) (hv : TLs w v l) (hok : ∀ t ∈ l, TokOk t) (hln : l.length ≤ 140737488355328) (hu0 : RowsB w u L) (hT : TabP w) (her : ER w) :
    Calls Tryd.prog 6 #[v, u] w fun e w' => e = .returned (.bool true) ∧ Up w w' := by
  obtain ⟨Post, hPost⟩ : ∃ P : Ending → World → Prop, P = fun e w' => e = .returned (.bool true) ∧ Up w w' := ⟨_, rfl⟩
  rw [← hPost]
  have HPo : Hid (Post = fun e w' => e = .returned (.bool true) ∧ Up w w') := hPost
  clear hPost
  obtain ⟨i5, hi5, z0, z1, z2⟩ := info_parts SM.info5
  obtain ⟨iT, hiT, y0, y1, y2⟩ := info_parts infoTok
  have HSZ0 : Hid (Calls Tryd.prog 24 #[v] w fun e w' => (∃ n : Nat, e = .returned (.int .i64 n) ∧ n ≤ 562949953421312) ∧ w' = w) := sizeT_ v l w hv hln (fun t ht => (hok t ht).2.1)
  have HER : Hid (∀ W, Up w W → ER W) := fun W x => her.up x
  have HTP : Hid (∀ W, Up w W → TabP W) := fun W x => hT.up x
  have HWK : Hid (∀ W, Up w W → Calls Tryd.prog 19 #[] W fun e w' => e = .returned (.bool true) ∧ Up W w') := fun W hu => works_ W (HER.out W hu)
  have HWK0 : Hid (∀ W, Up w W → Calls Tryd.prog 19 #[] W fun e w' => e = .returned (.bool true) ∧ Up W w') := fun W hu => works_ W (HER.out W hu)
  have HGP : Hid (∀ W (i : Nat), Up w W → i ≤ 9223372036854775807 → Calls Tryd.prog 25 #[u, .int .i64 i] W (GapR W)) := fun W i x hi => gap_ u L i W (hu0.up x) hi
  obtain ⟨lb, ub, cb, rfl⟩ : ∃ n a c, u = .slice a n c := by
    obtain ⟨V, -, ⟨-, a, c, h1, -⟩, -⟩ := hu0
    exact ⟨_, a, c, h1⟩
  obtain ⟨a, c, rfl, hc, hcell⟩ := tl_at hv
  obtain ⟨n, hN⟩ : ∃ n, n = l.length := ⟨_, rfl⟩
  rw [← hN] at hc hcell hln HSZ0 ⊢
  have HC : Hid (∀ i, i < n → ∃ b off, a = some ⟨b, off, none⟩ ∧ TokOk (l.getD i dt) ∧ ∀ W, Up w W → W.cell? ⟨b, off + i * 4, none⟩ = some (.int .i8 (l.getD i dt).kind) ∧ W.cell? ⟨b, off + i * 4 + 1, none⟩ = some (.string (strOfNums (l.getD i dt).text)) ∧ W.cell? ⟨b, off + i * 4 + 2, none⟩ = some (.int .i64 (l.getD i dt).num) ∧ W.cell? ⟨b, off + i * 4 + 3, none⟩ = some (.int .i64 (l.getD i dt).pos)) := fun i hi => by
    obtain ⟨b, off, h1, h2⟩ := hcell (by omega)
    refine ⟨b, off, h1, hok _ ?_, fun W x => h2 W x i hi⟩
    rw [List.getD_eq_getElem?_getD, List.getElem?_eq_getElem (by omega)]
    exact List.getElem_mem _
  clear hv hok hu0 hT her hcell hN
  go_enter Tryd.func6, Tryd.ntmps6
  go_wp2_with fail
  refine Calls.mono HSZ0.out ?_
  rintro r W1 ⟨⟨sz, rfl, hsz⟩, hw1⟩
  obtain rfl := hw1.symm
  clear hw1
  go_wp2_with fail
  refine Calls.mono (SM.longB sz w) ?_
  rintro r W1 ⟨rfl, hw1⟩
  obtain rfl := hw1.symm
  clear hw1
  by_cases hbig : 2147483647 < sz
  · rw [decide_eq_true hbig]
    go_wp2_with fail
    rw [HPo.out]
    exact ⟨rfl, Up.refl _⟩
  · rw [decide_eq_false hbig]
    by_cases hlb : 65536 < lb
    · have hlb2 : (65536 : Int) < (lb : Int) := by omega
      go_wp2_with fail
      rw [HPo.out]
      exact ⟨rfl, Up.refl _⟩
    · have hlb2 : ¬ (65536 : Int) < (lb : Int) := by omega
      go_wp2_with fail
      go_loopw [5, 6, 7] (fun s5 s6 s7 W => ∃ (i k m : Nat) (M : List (List Int × Tok)) (sa ta : Option Addr) (sc tc : Nat), i ≤ n ∧ k ≤ 100000 ∧ s5 = .slice sa k sc ∧ s6 = .slice ta m tc ∧ s7 = .int .i64 i ∧ TB w W M k m (.slice sa k sc) (.slice ta m tc)) (fun _ _ s7 _ => n - (intOf s7).toNat)
      case atStart => exact ⟨0, 0, 0, [], none, none, 0, 0, Nat.zero_le _, by omega, rfl, rfl, rfl, rfl, rfl, Nat.le_refl _, (fun c hc => by cases hc), (fun x hx => by cases hx), World.ownsRow_nil _ _ _ _, World.ownsRow_nil _ _ _ _, Up.refl _⟩
      case round =>
        obtain ⟨i, k, m, M, sa, ta, sc, tc, hi, hk, rfl, rfl, rfl, htb⟩ := hrel
        have HTB : Hid (TB w wr M k m (.slice sa k sc) (.slice ta m tc)) := htb
        clear htb
        have ei : IntKind.i64.wrap ((i : Int) + 1) = ((i + 1 : Nat) : Int) := by rw [IntKind.wrap_i64]; omega
        by_cases hlt : i < n ∧ k ≤ 65536
        · obtain ⟨hlt, hk6⟩ := hlt
          have hlt2 : (i : Int) < (n : Int) := by omega
          have hk7 : (k : Int) ≤ 65536 := by omega
          obtain ⟨b, off, rfl, htok, hce⟩ := HC.out i hlt
          have HCE : Hid (∀ W, Up w W → W.cell? ⟨b, off + i * 4, none⟩ = some (.int .i8 (l.getD i dt).kind) ∧ W.cell? ⟨b, off + i * 4 + 1, none⟩ = some (.string (strOfNums (l.getD i dt).text)) ∧ W.cell? ⟨b, off + i * 4 + 2, none⟩ = some (.int .i64 (l.getD i dt).num) ∧ W.cell? ⟨b, off + i * 4 + 3, none⟩ = some (.int .i64 (l.getD i dt).pos)) := hce
          clear hce
          have HTX : Hid (∀ W, Up w W → Calls Tryd.prog 22 #[.agg #[.int .i8 (l.getD i dt).kind, .string (strOfNums (l.getD i dt).text), .int .i64 (l.getD i dt).num, .int .i64 (l.getD i dt).pos]] W fun e w' => e = .returned (.string (strOfNums (tex (l.getD i dt)))) ∧ Up W w') := fun W x => text8_ _ _ _ _ W htok.1 htok.2.1 htok.2.2.1 htok.2.2.2 (HTP.out W x)
          have hsz2 : (strOfNums (tex (l.getD i dt))).size ≤ 200 := by rw [strOfNums_size]; exact tex_len htok.2.2.1 htok.2.2.2
          have hem : (strOfNums (tex (l.getD i dt))).toList = [] ↔ tex (l.getD i dt) = [] := nums_nil
          have HBT : Hid (Byt (tex (l.getD i dt)) ∧ (l.getD i dt).num ≤ 9223372036854775807) := ⟨byt_tex htok.1, htok.2.2.2⟩
          clear htok
          obtain ⟨t, ht⟩ : ∃ t, t = l.getD i dt := ⟨_, rfl⟩
          rw [← ht] at HCE HTX hsz2 hem HBT
          clear ht
          obtain ⟨x0, x1, x2, x3⟩ := HCE.out wr HTB.out.up
          obtain ⟨ys, hys⟩ : ∃ ys, ys = strOfNums (tex t) := ⟨_, rfl⟩
          rw [← hys] at HTX hsz2 hem
          have HYS : Hid (ys = strOfNums (tex t)) := hys
          clear hys
          obtain ⟨tk, htk⟩ : ∃ x, x = t.kind := ⟨_, rfl⟩
          obtain ⟨ts, hts⟩ : ∃ x, x = strOfNums t.text := ⟨_, rfl⟩
          obtain ⟨tn, htn⟩ : ∃ x, x = t.num := ⟨_, rfl⟩
          obtain ⟨tp, htp⟩ : ∃ x, x = t.pos := ⟨_, rfl⟩
          rw [← htk, ← hts, ← htn, ← htp] at HCE HTX
          rw [← htk] at x0
          rw [← hts] at x1
          rw [← htn] at x2
          rw [← htp] at x3
          have HEQ : Hid (tk = t.kind ∧ ts = strOfNums t.text ∧ tn = t.num) := ⟨htk, hts, htn⟩
          clear htk hts htn htp
          go_wp2_with fail
          refine Calls.mono (HTX.out wr HTB.out.up) ?_
          rintro r W2 ⟨rfl, u2⟩
          have HTB : Hid (TB w W2 M k m (.slice sa k sc) (.slice ta m tc)) := HTB.out.upd u2
          clear u2 x0 x1 x2 x3 HTX
          by_cases hte : tex t = []
          · have q8 : ys.toList = [] := hem.2 hte
            have q9 : ys.toList.isEmpty = true := by rw [q8]; rfl
            clear hem hte HCE
            go_wp2_with fail
            go_roundw
            case rel => exact ⟨i + 1, k, m, M, sa, ta, sc, tc, by omega, by omega, rfl, rfl, by go_num, HTB.out⟩
            case measure => simp [intOf]; omega
          · have q8 : ¬ ys.toList = [] := fun h9 => hte (hem.1 h9)
            have q9 : ys.toList.isEmpty = false := by cases hh : ys.toList with | nil => exact absurd hh q8 | cons a l => rfl
            have HTE : Hid (tex t ≠ []) := hte
            clear hem hte
            go_wp2_with fail
            refine Calls.mono (HGP.out W2 i HTB.out.up (by omega)) ?_
            rintro r W3 ⟨G, gu, rfl, hG, hGb, hGl, hGr, u3⟩
            obtain ⟨g, gc, -, -, rfl⟩ := row_some hGr (gap_pos hG)
            have HTB : Hid (TB w W3 M k m (.slice sa k sc) (.slice ta m tc)) := HTB.out.upd u3
            have HMW : Hid (∀ q u, (bvs G)[q]? = some u → W3.cell? ((⟨g, 0, none⟩ : Addr).add q) = some u) := World.ownsRow.cells hGr rfl
            have HG : Hid (IsGp G ∧ Byt G) := ⟨hG, hGb⟩
            clear hG hGb hGr u3
            go_upto_region 11 with (at_builtin; go_loud (refine wpList_append_own _ (by rfl) (.tmp 39) (.tmp 42) 22 (by rfl) w.heap.size 5 i5 _ 1 1 Tryd.underlying22 hi5 z0 z1 z2 (by rfl) (by decide) (.slice sa k sc) k (bvs (flat M)) (by rfl) HTB.out.src ⟨g, 0, none⟩ G.length gc (bvs G) (by rfl) (by simp [bvs]) HMW.out (by simp [bvs, Value.oneCell']) (by unfold maxLen; omega) (by omega) HTB.out.up.size ?_; intro v' V hin hg1 _; have HTM : Hid (TM w V M G k m v' (.slice ta m tc)) := HTB.out.gap HG.out.1 HG.out.2 hin hg1; obtain ⟨fa, fc, hva⟩ : ∃ a c, v' = Value.slice a (k + G.length) c := row_val hin; subst hva; clear hin hg1 HTB HMW))
            obtain ⟨x0, x1, x2, x3⟩ := HCE.out V HTM.out.up
            obtain ⟨W5, hW5⟩ : ∃ W5, V.alloc (.cells #[.int .i8 tk, .string ts, .int .i64 tn, .int .i64 tp] 63) = W5 := ⟨_, rfl⟩
            have g5 : W5.heap[V.heap.size]? = some (.cells #[.int .i8 tk, .string ts, .int .i64 tn, .int .i64 tp] 63 (0, 0)) := by rw [← hW5]; exact heap_alloc_new _ _
            have HTM5 : Hid (TM w W5 M G k m (.slice fa (k + G.length) fc) (.slice ta m tc)) := by
              unfold Hid
              rw [← hW5]
              exact HTM.out.upd ((Up.refl _).alloc _)
            have hvle : w.heap.size ≤ V.heap.size := HTM.out.up.size
            have HU5 : Hid (Up V W5) := by rw [← hW5]; exact (Up.refl _).alloc _
            go_upto_region 12 with fail
            try rw [hW5]
            clear hW5 x0 x1 x2 x3
            obtain ⟨kg, hkg⟩ : ∃ x, x = k + G.length := ⟨_, rfl⟩
            rw [← hkg] at HTM5 ⊢
            have HKG : Hid (kg = k + G.length) := hkg
            have hkg2 : kg ≤ 70000 := by omega
            clear hkg
            obtain ⟨W6, hW6⟩ : ∃ W6, W5.setCell ⟨V.heap.size, 3, none⟩ (.int .i64 (kg : Int)) = W6 := ⟨_, rfl⟩
            have g6 : W6.heap[V.heap.size]? = some (.cells #[.int .i8 tk, .string ts, .int .i64 tn, .int .i64 (kg : Int)] 63 (0, 0)) := by rw [← hW6]; exact set3 g5 _
            have HTM6 : Hid (TM w W6 M G k m (.slice fa kg fc) (.slice ta m tc)) := by
              unfold Hid
              rw [HKG.out, ← hW6]
              exact HTM.out.upd (((Only.up HU5.out).set 3 _).fresh (Nat.le_refl _))
            have f0 : W5.cell? ⟨V.heap.size, 3, none⟩ = some (.int .i64 tp) := by simp only [World.cell?, g5]; rfl
            have f1 : W5.frozen? ⟨V.heap.size, 3, none⟩ = false := by simp [World.frozen?, g5]
            go_upto_region 13 with fail
            try rw [hW6]
            clear hW6 f0 f1 g5 HTM HTM5 hvle
            have HTV : Hid (TM w (W6.alloc (.cells #[.int .i8 tk, .string ts, .int .i64 tn, .int .i64 (kg : Int)] 63)) M G k m (.slice fa kg fc) (.slice ta m tc)) := HTM6.out.upd ((Up.refl _).alloc _)
            have HMW : Hid (∀ q u, [.int .i8 tk, .string ts, .int .i64 tn, .int .i64 (kg : Int)][q]? = some u → (W6.alloc (.cells #[.int .i8 tk, .string ts, .int .i64 tn, .int .i64 (kg : Int)] 63)).cell? ((⟨W6.heap.size, 0, none⟩ : Addr).add q) = some u) := World.news_of_block (cs := #[.int .i8 tk, .string ts, .int .i64 tn, .int .i64 (kg : Int)]) (t := 63) (fr := (0, 0)) (heap_alloc_new W6 _)
            have hm9 : m ≤ 70000 := by have := HTM6.out.le; omega
            have HFN : Hid (∀ v' V', V'.ownsRow w.heap.size 63 4 v' (m + 1) (tvs (toks 0 M) ++ [.int .i8 tk, .string ts, .int .i64 tn, .int .i64 (kg : Int)]) → (W6.alloc (.cells #[.int .i8 tk, .string ts, .int .i64 tn, .int .i64 (kg : Int)] 63)).grownBy V' (Value.slice ta m tc).ownBlock → TN w V' M G t k m (.slice fa kg fc) v') := fun v' V' n1 n2 => HTV.out.want t (by rw [← HEQ.out.1, ← HEQ.out.2.1, ← HEQ.out.2.2, ← HKG.out]; exact n1) n2
            go_upto_region 14 with (first | (refine wpList_load_rowG (by rfl) 63 (.tmp 9) (by rfl) V.heap.size (by rfl) 63 #[.int .i8 tk, .string ts, .int .i64 tn, .int .i64 (kg : Int)] (0, 0) _ g6 Tryd.underlying63 (by rfl) infoTs ?_) | (at_builtin; go_loud (refine wpList_append_own _ (by rfl) (.tmp 51) (.tmp 53) 25 (by rfl) w.heap.size 63 iT _ 4 40 Tryd.underlying25 hiT y0 y1 y2 (by rfl) (by decide) (.slice ta m tc) m (tvs (toks 0 M)) (by rfl) HTV.out.wnt ⟨W6.heap.size, 0, none⟩ 1 1 [.int .i8 tk, .string ts, .int .i64 tn, .int .i64 (kg : Int)] (by rfl) (by rfl) HMW.out (by simp [Value.oneCell']) (by unfold maxLen; omega) (by omega) HTV.out.up.size ?_; intro v' V2 hin hg1 _; have HTN : Hid (TN w V2 M G t k m (.slice fa kg fc) v') := HFN.out v' V2 hin hg1; obtain ⟨fb, fd, hva⟩ : ∃ a c, v' = Value.slice a (m + 1) c := row_val hin; subst hva; clear hin hg1 HTV HMW HFN HTM6)))
            have HSR : Hid (V2.ownsRow w.heap.size 5 1 (.slice fa kg fc) kg (bvs (flat M ++ G))) := by
              have h9 := HTN.out.src
              rw [← HKG.out] at h9
              exact h9
            have HFF : Hid (∀ v' V', V'.ownsRow w.heap.size 5 1 v' (kg + ys.size) (bvs (flat M ++ G) ++ Lib.strCells ys) → V2.grownBy V' (Value.slice fa kg fc).ownBlock → TB w V' (M ++ [(G, t)]) (kg + ys.size) (m + 1) v' (.slice fb (m + 1) fd)) := fun v' V' n1 n2 => by
              rw [HKG.out] at n1 ⊢
              exact HTN.out.fin HTE.out HBT.out.1 HBT.out.2 HYS.out n1 n2
            have HUS : Hid (w.heap.size ≤ V2.heap.size) := HTN.out.up.size
            go_wp2_with (at_builtin; go_loud (refine Lib.wpList_append_own_string _ (by rfl) (.tmp 55) (.tmp 56) 22 9 (by rfl) w.heap.size 5 i5 Tryd.underlying22 Tryd.underlying9 hi5 z0 z1 z2 (.slice fa kg fc) kg (bvs (flat M ++ G)) (by rfl) HSR.out ys (by rfl) (by unfold maxLen; omega) (by omega) HUS.out ?_; intro v' V3 hin hg1 _; have HTB : Hid (TB w V3 (M ++ [(G, t)]) (kg + ys.size) (m + 1) v' (.slice fb (m + 1) fd)) := HFF.out v' V3 hin hg1; obtain ⟨fe, ff, hva⟩ : ∃ a c, v' = Value.slice a (kg + ys.size) c := row_val hin; subst hva; clear hin hg1))
            go_roundw
            case rel => exact ⟨i + 1, kg + ys.size, m + 1, M ++ [(G, t)], fe, fb, ff, fd, by omega, by omega, rfl, rfl, by go_num, HTB.out⟩
            case measure => simp [intOf]; omega
        · have HWK : Hid (Calls Tryd.prog 19 #[] wr fun e w' => e = .returned (.bool true) ∧ Up w w') := (HWK.out wr HTB.out.up).mono fun e w' h9 => ⟨h9.1, HTB.out.up.trans h9.2⟩
          by_cases hk6 : 65536 < k
          · have hk7 : (65536 : Int) < (k : Int) := by omega
            have hk8 : ¬ (k : Int) ≤ 65536 := by omega
            by_cases hin : i < n
            · have hin2 : (i : Int) < (n : Int) := by omega
              clear hlt
              go_wp2_with fail
              refine Calls.mono HWK.out ?_
              rintro r W4 ⟨rfl, u4⟩
              go_wp2_with fail
              rw [HPo.out]
              exact ⟨rfl, u4⟩
            · have hin2 : ¬ (i : Int) < (n : Int) := by omega
              clear hlt
              go_wp2_with fail
              refine Calls.mono HWK.out ?_
              rintro r W4 ⟨rfl, u4⟩
              go_wp2_with fail
              rw [HPo.out]
              exact ⟨rfl, u4⟩
          · have hk7 : ¬ (65536 : Int) < (k : Int) := by omega
            have hin2 : ¬ (i : Int) < (n : Int) := by omega
            clear hlt HWK
            have hm9 : m ≤ 70000 := by have := HTB.out.le; omega
            have HTV : Hid (TB w (wr.alloc (.cells #[.int .i8 0, .string ⟨#[]⟩, .int .i64 0, .int .i64 (k : Int)] 63)) M k m (.slice sa k sc) (.slice ta m tc)) := HTB.out.upd ((Up.refl _).alloc _)
            have HMW : Hid (∀ q u, [Value.int .i8 0, .string ⟨#[]⟩, .int .i64 0, .int .i64 (k : Int)][q]? = some u → (wr.alloc (.cells #[.int .i8 0, .string ⟨#[]⟩, .int .i64 0, .int .i64 (k : Int)] 63)).cell? ((⟨wr.heap.size, 0, none⟩ : Addr).add q) = some u) := World.news_of_block (cs := #[.int .i8 0, .string ⟨#[]⟩, .int .i64 0, .int .i64 (k : Int)]) (t := 63) (fr := (0, 0)) (heap_alloc_new wr _)
            have HFN : Hid (∀ v' V', V'.ownsRow w.heap.size 63 4 v' (m + 1) (tvs (toks 0 M) ++ [Value.int .i8 0, .string ⟨#[]⟩, .int .i64 0, .int .i64 (k : Int)]) → (wr.alloc (.cells #[.int .i8 0, .string ⟨#[]⟩, .int .i64 0, .int .i64 (k : Int)] 63)).grownBy V' (Value.slice ta m tc).ownBlock → TLs V' v' (toks 0 M ++ [⟨0, [], 0, (k : Int)⟩]) ∧ BL V' (.slice sa k sc) (flat M) ∧ Up w V') := fun v' V' n1 n2 => by
              refine ⟨own_tl (base := w.heap.size) ?_, own_bl2 (base := w.heap.size) ?_, Below.grown HTV.out.up n2 HTV.out.up.size (fun k9 hk => (World.ownsRow.lt HTV.out.wnt k9 hk).1)⟩
              · rw [tvs_app, List.length_append, toks_len, HTV.out.lm]
                exact n1
              · rw [HTV.out.ln]
                exact World.ownsRow.kept HTV.out.src n2 (own_ne HTV.out.src HTV.out.wnt (by decide))
            have HBK := back HTB.out.all (by rw [HTB.out.ln]; omega)
            rw [HTB.out.ln] at HBK
            have HBK : Hid (cuE (flat M) = 0 ∧ cuA (flat M) = 0 ∧ cuL (flat M) = toks 0 M ++ [⟨0, [], 0, (k : Int)⟩]) := HBK
            have HLN : Hid ((toks 0 M ++ [(⟨0, [], 0, (k : Int)⟩ : Tok)]).length ≤ 4294967296) := by
              unfold Hid
              rw [List.length_append, toks_len, HTB.out.lm]
              simp
              omega
            go_upto_region 18 with (at_builtin; go_loud (refine wpList_append_own _ (by rfl) (.tmp 62) (.tmp 66) 25 (by rfl) w.heap.size 63 iT _ 4 40 Tryd.underlying25 hiT y0 y1 y2 (by rfl) (by decide) (.slice ta m tc) m (tvs (toks 0 M)) (by rfl) HTV.out.wnt ⟨wr.heap.size, 0, none⟩ 1 1 [Value.int .i8 0, .string ⟨#[]⟩, .int .i64 0, .int .i64 (k : Int)] (by rfl) (by rfl) HMW.out (by simp [Value.oneCell']) (by unfold maxLen; omega) (by omega) HTV.out.up.size ?_; intro v' V2 hin hg1 _; have HFE : Hid (TLs V2 v' (toks 0 M ++ [⟨0, [], 0, (k : Int)⟩]) ∧ BL V2 (.slice sa k sc) (flat M) ∧ Up w V2) := HFN.out v' V2 hin hg1; obtain ⟨fb, fd, hva⟩ : ∃ a c, v' = Value.slice a (m + 1) c := row_val hin; subst hva; clear hin hg1 HTV HMW HFN))
            have HCU : Hid (Calls Tryd.prog 11 #[.slice sa k sc] V2 (CuP V2 (flat M))) := cut_ _ _ V2 HFE.out.2.1 HTB.out.by_ (HER.out V2 HFE.out.2.2)
            go_wp2_with fail
            refine Calls.mono HCU.out ?_
            rintro r V3 ⟨gv, rfl, hrow, u3⟩
            rw [HBK.out.1, HBK.out.2.1]
            rw [HBK.out.2.2] at hrow
            have HEQ : Hid (Calls Tryd.prog 13 #[gv, .slice fb (m + 1) fd] V3 fun e w' => e = .returned (.bool true) ∧ Up V3 w') := eqTok_ _ _ _ V3 (own_tl hrow) (HFE.out.1.up u3) HLN.out
            have HU3 : Hid (Up w V3) := HFE.out.2.2.trans u3
            have HW3 : Hid (Calls Tryd.prog 19 #[] V3 fun e w' => e = .returned (.bool true) ∧ Up V3 w') := HWK0.out V3 HU3.out
            obtain ⟨ga, gc, hgv⟩ := row_val hrow
            generalize (toks 0 M ++ [(⟨0, [], 0, (k : Int)⟩ : Tok)]).length = gl at hgv
            subst hgv
            clear hrow u3 HCU HBK
            go_wp2_with fail
            refine Calls.mono HEQ.out ?_
            rintro r V4 ⟨rfl, u4⟩
            have HU3 : Hid (Up w V4) := HU3.out.trans u4
            clear u4
            have HW3 : Hid (Calls Tryd.prog 19 #[] V4 fun e w' => e = .returned (.bool true) ∧ Up V4 w') := HWK0.out V4 HU3.out
            go_wp2_with fail
            refine Calls.mono HW3.out ?_
            rintro r V5 ⟨rfl, u4⟩
            go_wp2_with fail
            rw [HPo.out]
            exact ⟨rfl, HU3.out.trans u4⟩
end TK
end Go.Proofs.YtjjikeehifndhaaDoor
