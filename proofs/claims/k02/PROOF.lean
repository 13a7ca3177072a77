import PyProof.Rows.All
import Wide.All
import OpenK.AllK
import Wide.FinOn
import KE.KStateDown
import Lean
import HandS.ForMost
import HandS.Codes
import HandS.Wide
import HandS.IsInst
import HandS.Style
import HandS.Steps
import HandS.Defaults
import HandS.EndBits
import HandS.Head0
import HandS.Head1
import HandS.Head2
import HandS.HeadEnd
import HandS.HeadHook1
import HandS.HeadHook2
import PySem.Challenge.RW_warycard_k02_words
set_option Elab.async false
set_option linter.all false
set_option maxRecDepth 100000
set_option maxHeartbeats 4000000
/-! What the proofs of several laws share: defs by their facts, wide products, the drawing bag. -/
namespace Wc
open PySem PySem.Spec PyProof.Rows L2
open C8 (Cal pe_c pe_gc)

/-- a def of the row's top, where it stands -/
abbrev FnP (K : PySem.W.Frag) (x : Str) (st : Stmt) (f : Addr) (fd : FuncData) : Prop :=
  FunD K x x (defArgs st) (defBody st) (defScope st) [] [] f fd
/-- a def's promise, by its body's term and the reading of it -/
theorem fnD {P : Program} {w : World} {K : PySem.W.Frag} {mg : Str → Option Value} {base : Heap} {x : Str} {st : Stmt} {ps N : List Str} {k : Nat} {sp : Sp} {fd : FuncData}
    (F : FnP K x st (He.ga K x) fd) (S : FnScope N ps (defScope st)) (len : ∀ vs H Q E, sp vs H Q E → vs.length = ps.length)
    (body : ∀ (cdv : Value) (A : Around) (outer : List Env) (s : Shared) (H : Hp) (vs : List V) (Q : VK) (E : XK),
      Room k (A.deeper (envOfC x (defScope st) s.heap.objs.size (He.ga K x) cdv)) → sp vs H Q E →
      ∃ t, PSs (cxOf CX0 P w K mg base N x (defScope st) (He.ga K x) cdv A outer s H E).nox (defBody st) t ∧
        t { nx := fun _ H' => Q .non H', rt := Q } (start N vs) H) : FnOk P w K mg base CX0 (k + 1) (He.ga K x) fd ps sp := by
  refine F.ok S len fun cdv A outer s H vs Q E hr hs => ?_
  obtain ⟨t, h, q⟩ := body cdv A outer s H vs Q E hr hs
  exact ⟨t, PSs.nox h, q⟩
theorem calD {P : Program} {w : World} {K : PySem.W.Frag} {mg : Str → Option Value} {base : Heap} {x : Str} {st : Stmt} {ps N : List Str} {k : Nat} {sp : Sp}
    (F : ∃ fd, FnP K x st (He.ga K x) fd) (g : mg x = some (.ref (He.ga K x)))
    (b : ∀ (kV doc pm : Value) (an : Option Addr) (cdv ct : Value) (us : List Value), us.length = ps.length →
      bindArgs (PySem.W.fnOf x x (defArgs st) (defBody st) (defScope st) .none kV doc pm an cdv ct) ⟨us, []⟩ = pure (ps.zip us))
    (S : FnScope N ps (defScope st)) (len : ∀ vs H Q E, sp vs H Q E → vs.length = ps.length)
    (body : ∀ (cdv : Value) (A : Around) (outer : List Env) (s : Shared) (H : Hp) (vs : List V) (Q : VK) (E : XK),
      Room k (A.deeper (envOfC x (defScope st) s.heap.objs.size (He.ga K x) cdv)) → sp vs H Q E →
      ∃ t, PSs (cxOf CX0 P w K mg base N x (defScope st) (He.ga K x) cdv A outer s H E).nox (defBody st) t ∧
        t { nx := fun _ H' => Q .non H', rt := Q } (start N vs) H) : Cal P w K mg base (k + 1) x sp [] := by
  obtain ⟨fd, F⟩ := F
  exact ⟨He.ga K x, fd, ps, [], fnD F S len body, g, F.kp, F.bindsN b, .nil⟩
theorem ifB {c : Bool} {A B : Prop} (h : c = true → A) (g : c = false → B) : if c = true then A else B := by
  cases c with
  | true => exact iteT (h rfl)
  | false => exact iteF (g rfl)
theorem ifNo {c : Bool} {A B : Prop} (h : c = false) (b : B) : if c = true then A else B := by
  rw [h]
  exact iteF b
theorem ifYes {c : Bool} {A B : Prop} (h : c = true) (a : A) : if c = true then A else B := by
  rw [h]
  exact iteT a
/-- two values that are the same do not differ -/
theorem neqF {x y : V} {A B : Prop} (h : x = y) (b : B) : if (!decide (x = y)) = true then A else B := by
  rw [decide_eq_true h]
  exact iteF b
/-- a built-in class as a value -/
theorem pe_ty {X : Cx} {x : Str} {pos : Pos} (n : String) (hg : Gl X x) (hm : X.mg x = none) (hv : bootBuiltins x = some (.type n)) (hn : x ≠ "__name__" := by decide) (hd : (x == ("__debug__" : Str)) = false := by decide) :
    PE X (.Name x pos) (tC (.ty n)) := pe_bltn hg hm hv (show RelV (.ty n) (.type n) from rfl) hn hd
/-- from a law's promise to what the row's end asks -/
theorem lawD {P : Program} {w : World} {K : PySem.W.Frag} {mg : Str → Option Value} {st : Stmt} {k : Nat} {sp : Sp} {fa : Addr}
    (F : ∃ fd, FnP K "law" st (He.ga K "law") fd) (g : mg "law" = some (.ref (He.ga K "law"))) (h : mg "law" = some (.ref fa))
    (c : ∀ (base : Heap) (fd : FuncData), FnP K "law" st (He.ga K "law") fd → FnOk P w K mg base CX0 k (He.ga K "law") fd ["script"] sp)
    (b : ∀ (kV doc pm : Value) (an : Option Addr) (cdv ct : Value) (us : List Value), us.length = (["script"] : List Str).length →
      bindArgs (PySem.W.fnOf "law" "law" (defArgs st) (defBody st) (defScope st) .none kV doc pm an cdv ct) ⟨us, []⟩ = pure ((["script"] : List Str).zip us))
    (hsp : ∀ (H : Hp) (a : Addr) (ns : List Int), ns.length ≤ 63 → (∀ z ∈ ns, Builtin.Int.intBits z ≤ 1048576) → SqL K H a (ns.map V.int) → sp [.ref a] H (fun v _ => v = .bl true) fun _ _ _ => False) :
    ∃ (fd : FuncData) (sp : Sp), (∀ (s : Shared) (u : Value), BindsTo s fd ⟨[u], []⟩ [("script", u)]) ∧
      (∀ (H : Hp) (a : Addr) (ns : List Int), ns.length ≤ 63 → (∀ z ∈ ns, Builtin.Int.intBits z ≤ 1048576) → SqL K H a (ns.map V.int) → sp [.ref a] H (fun v _ => v = .bl true) fun _ _ _ => False) ∧
      ∀ base : Heap, K.In base → base.Ns mainGlobals mg → FnOk P w K mg base CX0 k fa fd ["script"] sp := by
  obtain ⟨fd, F⟩ := F
  have e : He.ga K "law" = fa := by
    have z := g.symm.trans h
    injection z with z
    injection z with z
  subst e
  exact ⟨fd, sp, fun s u => F.bindsA (ps := ["script"]) b s [u] rfl, hsp, fun base _ _ => c base fd F⟩
/-! ### great ints -/
def CMulX (i j : Int) : Prop := i.natAbs.log2 + j.natAbs.log2 < 100000000
theorem CMulX.ok {i j : Int} (h : CMulX i j) : IntMulOk i j := by
  have b : ∀ x : Int, Builtin.Int.intBits x ≤ x.natAbs.log2 + 1 := fun x => by
    unfold Builtin.Int.intBits
    split <;> omega
  have h1 := b i
  have h2 := b j
  have h3 : i.natAbs.log2 + j.natAbs.log2 < 100000000 := h
  have e : bitsLine = 134217728 := by decide
  unfold IntMulOk
  intro z
  have z2 := (Bool.and_eq_true_iff.mp z).2
  unfold Builtin.Int.intTooBig at z2
  have z3 := of_decide_eq_true z2
  omega
theorem op_mulX {X : Cx} : OpR X (binaryOp .Mult) (rI CMulX fun i j => .int (i * j)) :=
  opI fun _ _ _ _ _ _ _ hc q => mul_int q hc.ok
theorem log2_le {i : Int} {n : Nat} (h : i.natAbs < 2 ^ (n + 1)) : i.natAbs.log2 ≤ n := by
  have := PySem.Flt.log2_lt_of (Nat.succ_pos n) h
  omega
theorem mulX {i j : Int} (hi : i.natAbs.log2 ≤ 2000000) (hj : j.natAbs.log2 ≤ 2000000) : CMulX i j := by
  unfold CMulX
  omega
/-- an int of at most 200 bits -/
theorem sm {i : Int} (h : i.natAbs < 2 ^ 200) : i.natAbs.log2 ≤ 2000000 := by
  have := PySem.Flt.log2_lt_of (by decide) h
  omega
theorem bits_log {i : Int} (h : Builtin.Int.intBits i ≤ 1048576) : i.natAbs.log2 ≤ 1048576 := by
  unfold Builtin.Int.intBits at h
  split at h
  · rename_i e
    have e2 : i = 0 := by simpa using e
    subst e2
    decide
  · omega

/-! ### the drawing bag -/
structure Bag where
  r : Int
  s : Int
  k : Int
namespace Bag
def seed (b : Bag) : Int := (b.s * 48271 + b.k * 69621 + 11) % 2147483647
def fill (b : Bag) : Bag := if b.r = 0 then ⟨b.seed * 2147483629 + (b.seed * b.seed + b.k * 16807) % 2147483629, b.seed, b.k⟩ else b
def val (b : Bag) (m : Int) : Int := b.fill.r % m
def next (b : Bag) (m : Int) : Bag := ⟨b.fill.r / m, b.fill.s, b.fill.k⟩
def vals (b : Bag) : List V := [.int b.r, .int b.s, .int b.k]
structure Ok (b : Bag) : Prop where
  s : b.s.natAbs.log2 ≤ 1048576
  k : b.k.natAbs < 2 ^ 60
theorem seed_lo (b : Bag) : 0 ≤ b.seed := Int.emod_nonneg _ (by decide)
theorem seed_hi (b : Bag) : b.seed < 2147483647 := Int.emod_lt_of_pos _ (by decide)
theorem Ok.fill {b : Bag} (h : b.Ok) : b.fill.Ok := by
  unfold Bag.fill
  split
  · exact ⟨Nat.le_trans (log2_le (n := 1048576) (Nat.lt_of_lt_of_le (show b.seed.natAbs < 2 ^ 31 by have := b.seed_lo; have := b.seed_hi; omega) (Nat.pow_le_pow_right (by decide) (by decide)))) (Nat.le_refl _), h.k⟩
  · exact h
theorem Ok.next {b : Bag} (h : b.Ok) (m : Int) : (b.next m).Ok := ⟨h.fill.s, h.fill.k⟩
theorem val_lo (b : Bag) {m : Int} (h : 0 < m) : 0 ≤ b.val m := Int.emod_nonneg _ (by omega)
theorem val_hi (b : Bag) {m : Int} (h : 0 < m) : b.val m < m := Int.emod_lt_of_pos _ h
end Bag
/-- the bag b stands at p -/
def BagAt (H : Hp) (p : Addr) (b : Bag) : Prop := H p = some (.lst b.vals)
/-- some bag stands at p -/
def Bg (H : Hp) (p : Addr) : Prop := ∃ b : Bag, b.Ok ∧ BagAt H p b
/-- all but what stands at p is kept -/
def Keep (p : Addr) (H H' : Hp) : Prop := ∀ c o, H c = some o → c ≠ p → H' c = some o
/-- a draw: some number below m, the bag turned -/
def spDraw : Sp := fun vs H Q _ => ∃ (p : Addr) (m : Int), vs = [.ref p, .int m] ∧ Bg H p ∧ 0 < m ∧ m.natAbs.log2 < 9000 ∧
  ∀ (z : Int) (H' : Hp), 0 ≤ z → z < m → Bg H' p → Keep p H H' → Q (.int z) H'
/-- a new bag from the script's k-th cell -/
def spBag (K : PySem.W.Frag) : Sp := fun vs H Q _ => ∃ (a : Addr) (ns : List Int) (k : Int), vs = [.ref a, .int k] ∧ SqL K H a (ns.map V.int) ∧ (∀ n ∈ ns, Builtin.Int.intBits n ≤ 1048576) ∧
  0 ≤ k ∧ k < 2 ^ 60 ∧ ∀ (p : Addr) (H' : Hp), H p = none → Bg H' p → Same H H' → Q (.ref p) H'
theorem Keep.refl (p : Addr) (H : Hp) : Keep p H H := fun _ _ h _ => h
theorem Keep.trans {p : Addr} {H H1 H2 : Hp} (a : Keep p H H1) (b : Keep p H1 H2) : Keep p H H2 := fun c o e n => b c o (a c o e n) n
theorem Keep.own {p : Addr} {H H1 : Hp} {o : HO} (a : Keep p H H1) : Keep p H (upd H1 p o) := fun c u e n => by rw [upd_ne n]; exact a c u e n
theorem Keep.new {p q : Addr} {H H1 : Hp} {o : HO} (a : Keep p H H1) (h : H1 q = none) : Keep p H (upd H1 q o) := fun c u e n => by
  have z := a c u e n
  rw [upd_ne (ne_of_none z h)]
  exact z
theorem Keep.same {p : Addr} {H H1 H2 : Hp} (a : Same H H1) (n : H p = none) (b : Keep p H1 H2) : Same H H2 := fun c o e => b c o (a c o e) (ne_of_none e n)
theorem _root_.L2.Same.neww {q : Addr} {H H1 : Hp} {o : HO} (a : Same H H1) (h : H1 q = none) : Same H (upd H1 q o) := fun c u e => by
  have z := a c u e
  rw [upd_ne (ne_of_none z h)]
  exact z
theorem Same_upd {q : Addr} {H : Hp} {o : HO} (h : H q = none) : Same H (L2.upd H q o) := (Same.refl H).neww h
/-- a new object, its heap a letter -/
theorem newO {H : Hp} {o : HO} {Q : VK} (h : ∀ p H', H p = none → H' p = some o → Same H H' → Q (.ref p) H') : ∀ p, H p = none → Q (.ref p) (L2.upd H p o) :=
  fun p n => h p _ n upd_same (Same_upd n)
/-- a change at p, its heap a letter -/
theorem setO {H : Hp} {p : Addr} {o : HO} {Q : Hp → Prop} (h : ∀ H', H' p = some o → Keep p H H' → Q H') : Q (L2.upd H p o) :=
  h _ upd_same (Keep.refl p H).own
theorem _root_.L2.Same.keepw {p : Addr} {H H' : Hp} (s : Same H H') : Keep p H H' := fun c o e _ => s c o e
theorem _root_.L2.Same.bgw {H H' : Hp} {p : Addr} (s : Same H H') (b : Bg H p) : Bg H' p := by
  obtain ⟨x, ok, h⟩ := b
  exact ⟨x, ok, s _ _ h⟩
theorem Bg.ne {H : Hp} {p q : Addr} (b : Bg H p) (h : H q = none) : p ≠ q := by
  obtain ⟨x, _, e⟩ := b
  exact ne_of_none e h
/-- an item of a written list of ints -/
theorem menu (xs : List Int) {i : Int} (h0 : 0 ≤ i) (h1 : i < xs.length) : atI (xs.map V.int) i = some (.int (xs.getD i.toNat 0)) := by
  obtain ⟨j, rfl⟩ := Int.eq_ofNat_of_zero_le h0
  have hl : j < xs.length := by omega
  refine atI_nat ?_
  rw [List.getElem?_map, List.getElem?_eq_getElem hl]
  simp [List.getD, List.getElem?_eq_getElem hl]
theorem menu_all {q : Int → Prop} (xs : List Int) (h : ∀ x ∈ xs, q x) (z : q 0) (n : Nat) : q (xs.getD n 0) := by
  by_cases hl : n < xs.length
  · have e : xs.getD n 0 = xs[n] := by simp [List.getD, List.getElem?_eq_getElem hl]
    rw [e]
    exact h _ (List.getElem_mem hl)
  · have e : xs.getD n 0 = 0 := by simp [List.getD, List.getElem?_eq_none (by omega : xs.length ≤ n)]
    rw [e]
    exact z
/-- an item of a written list of any values -/
theorem menuV (xs : List V) {i : Int} (h0 : 0 ≤ i) (h1 : i < xs.length) : ∃ v ∈ xs, atI xs i = some v := by
  obtain ⟨j, rfl⟩ := Int.eq_ofNat_of_zero_le h0
  have hl : j < xs.length := by omega
  exact ⟨xs[j], List.getElem_mem hl, atI_nat (List.getElem?_eq_getElem hl)⟩
/-- the end of a law's row, with the bits of the script's numbers -/
theorem walk_bits {l : PySem.W.OpenLaw} {n k : Nat} {q : Program} {loose : List Str} {XP : (Str → Option Value) → Heap → Prop} {YP : World → Heap → Prop} {d : DefRec} {x : Str}
    (hn : l.most = some n) (hn2 : n ≤ sizeLine) (hdf : d.params.defaults = []) (hr : Room k callerA)
    (F : ∀ (w : World) (mg : Str → Option Value) (fa : Addr) (h : Heap), YP w h → h.Ns mainGlobals mg → mg d.name = some (.ref fa) →
      ∃ K : PySem.W.Frag, K.In h ∧ ∃ (fd : FuncData) (sp : Sp), (∀ (s : Shared) (u : Value), BindsTo s fd ⟨[u], []⟩ [(x, u)]) ∧
        (∀ (H : Hp) (a : Addr) (ns : List Int), ns.length ≤ n → (∀ z ∈ ns, Builtin.Int.intBits z ≤ 1048576) → SqL K H a (ns.map V.int) → sp [.ref a] H (fun v _ => v = .bl true) fun _ _ _ => False) ∧
        ∀ base : Heap, K.In base → base.Ns mainGlobals mg → FnOk l.prog w K mg base CX0 k fa fd [x] sp) :
    PySem.W.WalkO q loose XP YP l.row.toRowW d [] (fun f vs => PySem.call f vs) := by
  refine Att.attach_callB hn hdf fun w s₀ s₁ mg mb fa o pm cd doc a vs ns G Y ho hd hcd hmg hobj hints hlen hbits hg => ?_
  obtain ⟨K, KX, fd, sp, hb, hsp, hF⟩ := F w mg fa _ Y G.T.g hmg
  exact law_call (CX := CX0) KX G.T.g G.T.b G.T.builtins G.T.nolimit hg hobj hints (Nat.le_trans hlen hn2) hr hF hb (fun H _ hS => hsp H a ns hlen hbits hS) fun _ _ _ z => z
end Wc
set_option Elab.async false
set_option linter.all false
set_option maxRecDepth 100000
set_option maxHeartbeats 4000000
namespace Pf
open PySem PySem.Spec PyProof.Rows L2 Wc
open C8 (Cal pe_c pe_gc)
def top (i : Nat) : Stmt := PySem.Challenge.pw_warycard_k02_words.main.body.getD i (.Pass ⟨0, 0, 0, 0⟩)
abbrev s_is_integer : Stmt := top 1
abbrev N_is_integer : List Str := ["value", "least", "greatest"]
theorem sc_is_integer : FnScope N_is_integer ["value", "least", "greatest"] (defScope s_is_integer) := ⟨rfl, rfl, rfl, by decide +kernel, rfl, by decide +kernel, by decide +kernel⟩
abbrev s_is_word : Stmt := top 3
abbrev N_is_word : List Str := ["value"]
theorem sc_is_word : FnScope N_is_word ["value"] (defScope s_is_word) := ⟨rfl, rfl, rfl, by decide +kernel, rfl, by decide +kernel, by decide +kernel⟩
abbrev s_wrap : Stmt := top 4
abbrev N_wrap : List Str := ["number"]
theorem sc_wrap : FnScope N_wrap ["number"] (defScope s_wrap) := ⟨rfl, rfl, rfl, by decide +kernel, rfl, by decide +kernel, by decide +kernel⟩
abbrev s__law_bag : Stmt := top 6
abbrev N__law_bag : List Str := ["script", "k", "cell"]
theorem sc__law_bag : FnScope N__law_bag ["script", "k"] (defScope s__law_bag) := ⟨rfl, rfl, rfl, by decide +kernel, rfl, by decide +kernel, by decide +kernel⟩
abbrev s__law_draw : Stmt := top 7
abbrev N__law_draw : List Str := ["bag", "many", "seed", "rest"]
theorem sc__law_draw : FnScope N__law_draw ["bag", "many"] (defScope s__law_draw) := ⟨rfl, rfl, rfl, by decide +kernel, rfl, by decide +kernel, by decide +kernel⟩
abbrev s__law_integer : Stmt := top 8
abbrev N__law_integer : List Str := ["bag", "edge", "times", "number"]
theorem sc__law_integer : FnScope N__law_integer ["bag"] (defScope s__law_integer) := ⟨rfl, rfl, rfl, by decide +kernel, rfl, by decide +kernel, by decide +kernel⟩
abbrev s_law : Stmt := top 9
abbrev N_law : List Str := ["script", "k", "bag", "number", "word", "told"]
theorem sc_law : FnScope N_law ["script"] (defScope s_law) := ⟨rfl, rfl, rfl, by decide +kernel, rfl, by decide +kernel, by decide +kernel⟩
/-- where all stands behind the top -/
structure Txt (K : PySem.W.Frag) (mg : Str → Option Value) : Prop where
  d_is_integer : ∃ fd, FnP K "is_integer" s_is_integer (He.ga K "is_integer") fd
  g_is_integer : mg "is_integer" = some (.ref (He.ga K "is_integer"))
  d_is_word : ∃ fd, FnP K "is_word" s_is_word (He.ga K "is_word") fd
  g_is_word : mg "is_word" = some (.ref (He.ga K "is_word"))
  d_wrap : ∃ fd, FnP K "wrap" s_wrap (He.ga K "wrap") fd
  g_wrap : mg "wrap" = some (.ref (He.ga K "wrap"))
  d__law_bag : ∃ fd, FnP K "_law_bag" s__law_bag (He.ga K "_law_bag") fd
  g__law_bag : mg "_law_bag" = some (.ref (He.ga K "_law_bag"))
  d__law_draw : ∃ fd, FnP K "_law_draw" s__law_draw (He.ga K "_law_draw") fd
  g__law_draw : mg "_law_draw" = some (.ref (He.ga K "_law_draw"))
  d__law_integer : ∃ fd, FnP K "_law_integer" s__law_integer (He.ga K "_law_integer") fd
  g__law_integer : mg "_law_integer" = some (.ref (He.ga K "_law_integer"))
  d_law : ∃ fd, FnP K "law" s_law (He.ga K "law") fd
  g_law : mg "law" = some (.ref (He.ga K "law"))
  n_bool : mg "bool" = none
  n_int : mg "int" = none
  n_isinstance : mg "isinstance" = none
  n_len : mg "len" = none
  n_max : mg "max" = none
  n_min : mg "min" = none
  n_range : mg "range" = none
section
variable {P : Program} {w : World} {K : PySem.W.Frag} {mg : Str → Option Value} {base : Heap}
theorem c_draw (T : Txt K mg) : Cal P w K mg base 1 "_law_draw" spDraw [] := by
  refine calD T.d__law_draw T.g__law_draw (fun _ _ _ _ _ _ us hl => match us, hl with | [_, _], _ => rfl) sc__law_draw (fun vs H Q E h => ?_) (fun cdv A outer s H vs Q E hr h => ?_)
  · obtain ⟨p, m, rfl, _⟩ := h
    rfl
  · obtain ⟨p, m, rfl, ⟨b, ok, hp⟩, hm, hm2, q0⟩ := h
    have q : Q (.int (b.val m)) (upd H p (.lst (b.next m).vals)) := q0 _ _ (b.val_lo hm) (b.val_hi hm) ⟨_, ok.next m, upd_same⟩ (Keep.refl p H).own
    refine ⟨_, (pss_cons (ps_if (pt_cmpR op_eq (pe_ix ix_list (pv 0) pe_int (fun _ _ => rfl)) pe_int (nomark _)) (pss_cons (ps_set (i := 2) sc__law_draw.nd rfl (Or.inl rfl) (pe_op op_mod (pe_callTy call_int1 rfl T.n_int (by rfl) (pa_cons (pe_op op_add (pe_op op_add (pe_op op_mulX (pe_ix ix_list (pv 0) pe_int (fun _ _ => rfl)) pe_int) (pe_op op_mulX (pe_ix ix_list (pv 0) pe_int (fun _ _ => rfl)) pe_int)) pe_int) pa_nil)) pe_int))
      (pss_cons (ps_asg (pe_op op_add (pe_op op_mulX (pv 2) pe_int) (pe_op op_mod (pe_callTy call_int1 rfl T.n_int (by rfl) (pa_cons (pe_op op_add (pe_op op_mulX (pv 2) (pv 2)) (pe_op op_mulX (pe_ix ix_list (pv 0) pe_int (fun _ _ => rfl)) pe_int)) pa_nil)) pe_int)) (pg_sub (pv 0) pe_int set_list))
      (pss_one (ps_asg (pv 2) (pg_sub (pv 0) pe_int set_list))))) pss_nil)
      (pss_cons (ps_set (i := 3) sc__law_draw.nd rfl (Or.inl rfl) (pe_ix ix_list (pv 0) pe_int (fun _ _ => rfl)))
      (pss_cons (ps_asg (pe_op op_fdivW (pv 3) (pv 1)) (pg_sub (pv 0) pe_int set_list))
      (pss_one (ps_ret (pe_op op_mod (pe_callTy call_int1 rfl T.n_int (by rfl) (pa_cons (pv 3) pa_nil)) (pv 1))))))), ?_⟩
    -- the first item: is it 0
    refine ⟨_, rfl, p, b.vals, 0, .int b.r, rfl, rfl, SqL.of hp, rfl, rfl, _, rfl, ?_⟩
    refine ifB (fun e => ?_) (fun e => ?_)
    · have e0 : b.r = 0 := V.int.inj (of_decide_eq_true e)
      have ef : b.fill = ⟨b.seed * 2147483629 + (b.seed * b.seed + b.k * 16807) % 2147483629, b.seed, b.k⟩ := if_pos e0
      have hs : b.s.natAbs.log2 ≤ 2000000 := Nat.le_trans ok.s (by decide)
      have hk : b.k.natAbs.log2 ≤ 2000000 := sm (Nat.lt_of_lt_of_le ok.k (by decide))
      have hz : b.seed.natAbs.log2 ≤ 2000000 := sm (by have := b.seed_lo; have := b.seed_hi; omega)
      refine ⟨_, rfl, p, b.vals, 1, .int b.s, rfl, rfl, SqL.of hp, rfl, _, _, rfl, rfl, mulX hs (sm (by decide)), ?_⟩
      refine ⟨_, rfl, p, b.vals, 2, .int b.k, rfl, rfl, SqL.of hp, rfl, _, _, rfl, rfl, mulX hk (sm (by decide)), _, _, rfl, rfl, _, _, rfl, rfl, .inl ⟨_, rfl, _, _, rfl, rfl, (by show (0 : Int) < 2147483647; decide), ?_⟩⟩
      refine ⟨_, rfl, b.seed, _, rfl, rfl, mulX hz (sm (by decide)), _, rfl, _, rfl, b.seed, b.seed, rfl, rfl, mulX hz hz, ?_⟩
      refine ⟨_, rfl, p, b.vals, 2, .int b.k, rfl, rfl, SqL.of hp, rfl, _, _, rfl, rfl, mulX hk (sm (by decide)), _, _, rfl, rfl, .inl ⟨_, rfl, _, _, rfl, rfl, (by show (0 : Int) < 2147483629; decide), ?_⟩⟩
      refine ⟨_, _, rfl, rfl, _, rfl, p, b.vals, 0, 0, rfl, rfl, hp, rfl, ?_⟩
      refine ⟨_, rfl, _, rfl, p, _, 1, 1, rfl, rfl, upd_same, rfl, ?_⟩
      refine ⟨_, rfl, p, _, 0, _, rfl, rfl, SqL.of upd_same, rfl, ?_⟩
      refine ⟨_, rfl, _, rfl, _, _, rfl, rfl, ⟨hm, hm2⟩, _, rfl, p, _, 0, 0, rfl, rfl, upd_same, rfl, ?_⟩
      refine ⟨_, rfl, .inl ⟨_, rfl, _, rfl, _, _, rfl, rfl, hm, ?_⟩⟩
      rw [upd_upd, upd_upd]
      unfold Bag.val Bag.next at q
      rw [ef] at q
      exact q
    · have e0 : ¬ b.r = 0 := fun z => of_decide_eq_false e (congrArg V.int z)
      have ef : b.fill = b := if_neg e0
      refine ⟨_, rfl, p, b.vals, 0, .int b.r, rfl, rfl, SqL.of hp, rfl, ?_⟩
      refine ⟨_, rfl, _, rfl, _, _, rfl, rfl, ⟨hm, hm2⟩, _, rfl, p, b.vals, 0, 0, rfl, rfl, hp, rfl, ?_⟩
      refine ⟨_, rfl, .inl ⟨_, rfl, _, rfl, _, _, rfl, rfl, hm, ?_⟩⟩
      unfold Bag.val Bag.next at q
      rw [ef] at q
      exact q
theorem c_bag (T : Txt K mg) : Cal P w K mg base 1 "_law_bag" (spBag K) [] := by
  refine calD T.d__law_bag T.g__law_bag (fun _ _ _ _ _ _ us hl => match us, hl with | [_, _], _ => rfl) sc__law_bag (fun vs H Q E h => ?_) (fun cdv A outer s H vs Q E hr h => ?_)
  · obtain ⟨a, ns, k, rfl, _⟩ := h
    rfl
  · obtain ⟨a, ns, k, rfl, hS, hb, k0, k1, q⟩ := h
    have kk : k.natAbs < 2 ^ 60 := by omega
    have fin : ∀ c : Int, c.natAbs.log2 ≤ 1048576 → (∀ p, H p = none → Q (.ref p) (upd H p (.lst [.int c, .int c, .int k]))) ∧ ∀ p, H p = none → Q (.ref p) (upd H p (.lst [.int 0, .int c, .int k])) :=
      fun c hc => ⟨fun p hp => q p _ hp ⟨⟨c, c, k⟩, ⟨hc, kk⟩, upd_same⟩ (Same_upd hp), fun p hp => q p _ hp ⟨⟨0, c, k⟩, ⟨hc, kk⟩, upd_same⟩ (Same_upd hp)⟩
    refine ⟨_, (pss_cons (ps_set (i := 2) sc__law_bag.nd rfl (Or.inl rfl) pe_int)
      (pss_cons (ps_if (pt_cmpR op_lt (pv 1) (pe_callB call_len_seq rfl T.n_len (by rfl) (pa_cons (pv 0) pa_nil)) (nomark _)) (pss_one (ps_set (i := 2) sc__law_bag.nd rfl (Or.inl rfl) (pe_callTy call_int1 rfl T.n_int (by rfl) (pa_cons (pe_ix ix_list (pv 0) (pv 1) (fun _ _ => rfl)) pa_nil)))) pss_nil)
      (pss_cons (ps_if (pt_cmpR op_ge (pv 2) (pe_op op_pow pe_int pe_int) (nomark _)) (pss_one (ps_ret (pe_lst (pa_cons (pv 2) (pa_cons (pv 2) (pa_cons (pv 1) pa_nil)))))) pss_nil)
      (pss_one (ps_ret (pe_lst (pa_cons pe_int (pa_cons (pv 2) (pa_cons (pv 1) pa_nil))))))))), ?_⟩
    refine ⟨_, rfl, _, rfl, a, _, rfl, .inl hS, _, _, rfl, rfl, _, rfl, ?_⟩
    refine ifB (fun e => ?_) (fun e => ?_)
    · have hk : k < ns.length := by simpa using of_decide_eq_true e
      obtain ⟨j, rfl⟩ := Int.eq_ofNat_of_zero_le k0
      have hj : j < ns.length := by omega
      have hi : (ns.map V.int)[j]? = some (.int ns[j]) := by rw [List.getElem?_map, List.getElem?_eq_getElem hj] <;> rfl
      have fj := fin ns[j] (bits_log (hb _ (List.getElem_mem hj)))
      refine ⟨_, rfl, _, rfl, a, _, _, _, rfl, rfl, hS, atI_nat hi, .inl ⟨_, rfl, ?_⟩⟩
      refine ⟨_, rfl, _, _, rfl, rfl, ⟨by decide, by decide, by decide⟩, _, _, rfl, rfl, _, rfl, ?_⟩
      refine ifB (fun _ => ?_) (fun _ => ?_)
      · exact ⟨_, rfl, _, rfl, _, rfl, (by show 3 ≤ sizeLine; decide), fj.1⟩
      · exact ⟨_, rfl, _, rfl, (by show 3 ≤ sizeLine; decide), fj.2⟩
    · have f0 := fin 0 (by decide)
      refine ⟨_, rfl, _, _, rfl, rfl, ⟨by decide, by decide, by decide⟩, _, _, rfl, rfl, _, rfl, ?_⟩
      refine ifB (fun _ => ?_) (fun _ => ?_)
      · exact ⟨_, rfl, _, rfl, _, rfl, (by show 3 ≤ sizeLine; decide), f0.1⟩
      · exact ⟨_, rfl, _, rfl, (by show 3 ≤ sizeLine; decide), f0.2⟩
/-- the word of an int -/
def wr (n : Int) : Int := (n + 32768) % 65536 - 32768
theorem wr_lo (n : Int) : -32768 ≤ wr n := by
  unfold wr
  omega
theorem wr_hi (n : Int) : wr n ≤ 32767 := by
  unfold wr
  omega
theorem wr_wr (n : Int) : wr (wr n) = wr n := by
  unfold wr
  omega
theorem wr_mod (n : Int) : (n - wr n) % 65536 = 0 := by
  unfold wr
  omega
def spWrap : Sp := fun vs H Q _ => ∃ n : Int, vs = [.int n] ∧ Q (.int (wr n)) H
theorem c_wrap (T : Txt K mg) : Cal P w K mg base 1 "wrap" spWrap [] := by
  refine calD T.d_wrap T.g_wrap (fun _ _ _ _ _ _ us hl => match us, hl with | [_], _ => rfl) sc_wrap (fun vs H Q E h => ?_) (fun cdv A outer s H vs Q E hr h => ?_)
  · obtain ⟨n, rfl, _⟩ := h
    rfl
  · obtain ⟨n, rfl, q⟩ := h
    refine ⟨_, (pss_one (ps_ret (pe_op op_sub (pe_op op_mod (pe_op op_add (pv 0) pe_int) pe_int) pe_int))), ?_⟩
    exact ⟨_, rfl, _, _, rfl, rfl, _, _, rfl, rfl, (by show (0 : Int) < 65536; decide), _, _, rfl, rfl, q⟩
/-- what kind of thing a value is, for the test of an int -/
inductive Kd (K : PySem.W.Frag) (H : Hp) : V → Option Int → Prop where
  | int (n : Int) : Kd K H (.int n) (some n)
  | bl (b : Bool) : Kd K H (.bl b) none
  | other {v : V} {t : String} (h : TyX K H v (.type t)) (i : kitB t "int" = some false) : Kd K H v none
def inRange (o : Option Int) (lo hi : Int) : Bool := match o with
  | some n => decide (lo ≤ n) && decide (n ≤ hi)
  | none => false
def spIsInt (K : PySem.W.Frag) : Sp := fun vs H Q _ => ∃ (v : V) (lo hi : Int) (o : Option Int), vs = [v, .int lo, .int hi] ∧ Kd K H v o ∧ Q (.bl (inRange o lo hi)) H
theorem c_isint (T : Txt K mg) : Cal P w K mg base 1 "is_integer" (spIsInt K) [] := by
  refine calD T.d_is_integer T.g_is_integer (fun _ _ _ _ _ _ us hl => match us, hl with | [_, _, _], _ => rfl) sc_is_integer (fun vs H Q E h => ?_) (fun cdv A outer s H vs Q E hr h => ?_)
  · obtain ⟨v, lo, hi, o, rfl, _⟩ := h
    rfl
  · obtain ⟨v, lo, hi, o, rfl, hk, q⟩ := h
    refine ⟨_, (pss_cons (ps_if (PW.pt (pw_or (pt_not (pt_val (pe_callB call_isi rfl T.n_isinstance (by rfl) (pa_cons (pv 0) (pa_cons (pe_ty "int" rfl T.n_int (by rfl)) pa_nil))))) (pw_or1 (pt_val (pe_callB call_isi rfl T.n_isinstance (by rfl) (pa_cons (pv 0) (pa_cons (pe_ty "bool" rfl T.n_bool (by rfl)) pa_nil))))))) (pss_one (ps_ret pe_bl)) pss_nil)
      (pss_one (ps_ret (pe_chain op_le op_le (pv 1) (pv 0) (pv 2))))), ?_⟩
    cases hk with
    | int n =>
      refine ⟨_, rfl, _, _, _, _, _, rfl, ClsV.ty "int", TyX.base (TyOf.int n), kit_ty (r := true) (by decide +kernel), _, rfl, iteF ?_⟩
      refine ⟨_, rfl, _, _, _, _, _, rfl, ClsV.ty "bool", TyX.base (TyOf.int n), kit_ty (r := false) (by decide +kernel), _, rfl, iteF ?_⟩
      refine ⟨_, rfl, _, rfl, _, _, rfl, rfl, _, rfl, ifB (fun e => ?_) (fun e => ?_)⟩
      · refine ⟨_, rfl, _, _, rfl, rfl, ?_⟩
        have q2 : Q (.bl (decide (lo ≤ n) && decide (n ≤ hi))) H := q
        rw [e] at q2
        exact q2
      · have q2 : Q (.bl (decide (lo ≤ n) && decide (n ≤ hi))) H := q
        rw [e] at q2
        exact q2
    | bl b =>
      refine ⟨_, rfl, _, _, _, _, _, rfl, ClsV.ty "int", TyX.base (TyOf.bl b), kit_ty (r := true) (by decide +kernel), _, rfl, iteF ?_⟩
      refine ⟨_, rfl, _, _, _, _, _, rfl, ClsV.ty "bool", TyX.base (TyOf.bl b), kit_ty (r := true) (by decide +kernel), _, rfl, iteT q⟩
    | other h i =>
      exact ⟨_, rfl, _, _, _, _, _, rfl, ClsV.ty "int", h, kit_ty i, _, rfl, iteT q⟩
def spIsWord (K : PySem.W.Frag) : Sp := fun vs H Q _ => ∃ (v : V) (o : Option Int), vs = [v] ∧ Kd K H v o ∧ Q (.bl (inRange o (-32768) 32767)) H
theorem c_isword (T : Txt K mg) : Cal P w K mg base 2 "is_word" (spIsWord K) [] := by
  have C_is_integer := c_isint (P := P) (w := w) (base := base) T
  refine calD T.d_is_word T.g_is_word (fun _ _ _ _ _ _ us hl => match us, hl with | [_], _ => rfl) sc_is_word (fun vs H Q E h => ?_) (fun cdv A outer s H vs Q E hr h => ?_)
  · obtain ⟨v, o, rfl, _⟩ := h
    rfl
  · obtain ⟨v, o, rfl, hk, q⟩ := h
    refine ⟨_, (pss_one (ps_ret (pe_c C_is_integer hr (by decide) rfl (pa_cons (pv 0) (pa_cons (pe_un un_neg pe_int) (pa_cons pe_int pa_nil)))))), ?_⟩
    exact ⟨_, rfl, _, rfl, _, _, _, _, rfl, hk, q⟩
end
end Pf
set_option Elab.async false
set_option linter.all false
set_option maxRecDepth 100000
set_option maxHeartbeats 4000000
namespace Pf
open PySem PySem.Spec PyProof.Rows L2 Wc
open C8 (Cal pe_c pe_gc)
section
variable {P : Program} {w : World} {K : PySem.W.Frag} {mg : Str → Option Value} {base : Heap}
def spInteger : Sp := fun vs H Q _ => ∃ (p : Addr), vs = [.ref p] ∧ Bg H p ∧ ∀ (n : Int) (H' : Hp), Bg H' p → Keep p H H' → Q (.int n) H'
theorem c_integer (T : Txt K mg) : Cal P w K mg base 2 "_law_integer" spInteger [] := by
  have C__law_draw := c_draw (P := P) (w := w) (base := base) T
  refine calD T.d__law_integer T.g__law_integer (fun _ _ _ _ _ _ us hl => match us, hl with | [_], _ => rfl) sc__law_integer (fun vs H Q E h => ?_) (fun cdv A outer s H vs Q E hr h => ?_)
  · obtain ⟨p, rfl, _⟩ := h
    rfl
  · obtain ⟨p, rfl, bg, q⟩ := h
    refine ⟨_, (pss_cons (ps_set (i := 1) sc__law_integer.nd rfl (Or.inl rfl) (pe_op op_sub (pe_op op_add (pe_ix ix_list (pe_lst (pa_cons pe_int (pa_cons pe_int (pa_cons pe_int (pa_cons pe_int (pa_cons pe_int pa_nil)))))) (pe_c C__law_draw hr (by decide) rfl (pa_cons (pv 0) (pa_cons pe_int pa_nil))) (fun _ _ => rfl)) (pe_c C__law_draw hr (by decide) rfl (pa_cons (pv 0) (pa_cons pe_int pa_nil)))) pe_int))
      (pss_cons (ps_set (i := 2) sc__law_integer.nd rfl (Or.inl rfl) (pe_ix ix_list (pe_lst (pa_cons pe_int (pa_cons pe_int (pa_cons pe_int (pa_cons (pe_c C__law_draw hr (by decide) rfl (pa_cons (pv 0) (pa_cons pe_int pa_nil))) (pa_cons (pe_op op_mulX (pe_c C__law_draw hr (by decide) rfl (pa_cons (pv 0) (pa_cons (pe_op op_pow pe_int pe_int) pa_nil))) (pe_op op_pow pe_int pe_int)) pa_nil)))))) (pe_c C__law_draw hr (by decide) rfl (pa_cons (pv 0) (pa_cons pe_int pa_nil))) (fun _ _ => rfl)))
      (pss_cons (ps_set (i := 3) sc__law_integer.nd rfl (Or.inl rfl) (pe_op op_add (pe_op op_add (pv 1) (pe_op op_mulX pe_int (pv 2))) (pe_op op_mulX (pe_c C__law_draw hr (by decide) rfl (pa_cons (pv 0) (pa_cons pe_int pa_nil))) (pe_c C__law_draw hr (by decide) rfl (pa_cons (pv 0) (pa_cons pe_int pa_nil))))))
      (pss_cons (ps_if (pt_cmpR op_eq (pe_c C__law_draw hr (by decide) rfl (pa_cons (pv 0) (pa_cons pe_int pa_nil))) pe_int (nomark _)) (pss_one (ps_ret (pe_un un_neg (pv 3)))) pss_nil)
      (pss_one (ps_ret (pv 3))))))), ?_⟩
    -- edge
    refine ⟨by show 5 ≤ sizeLine; decide, fun l nl => ?_⟩
    refine ⟨_, rfl, p, 5, rfl, (Same_upd nl).bgw bg, by decide, by decide, fun z1 H2 lo1 hi1 bg2 k2 => ?_⟩
    have hl2 := k2 l _ upd_same (bg.ne nl).symm
    refine ⟨l, ([0, 32767, 32768, 65535, 65536] : List Int).map V.int, _, _, rfl, rfl, SqL.of hl2, menu _ lo1 hi1, ?_⟩
    generalize ([0, 32767, 32768, 65535, 65536] : List Int).getD z1.toNat 0 = edge
    refine ⟨_, rfl, p, 7, rfl, bg2, by decide, by decide, fun z2 H3 lo2 hi2 bg3 k3 => ?_⟩
    refine ⟨_, _, rfl, rfl, _, _, rfl, rfl, ?_⟩
    have kk3 : Keep p H H3 := ((Same_upd nl).keepw.trans k2).trans k3
    -- times
    refine ⟨_, rfl, p, 1000, rfl, bg3, by decide, by decide, fun z3 H4 lo3 hi3 bg4 k4 => ?_⟩
    refine ⟨_, rfl, _, _, rfl, rfl, ⟨by decide, by decide, by decide⟩, p, _, rfl, bg4, by decide, by decide, fun z4 H5 lo4 hi4 bg5 k5 => ?_⟩
    have hi4' : z4 < 10 ^ 18 := hi4
    refine ⟨_, _, rfl, rfl, ⟨by decide, by decide, by decide⟩, _, _, rfl, rfl, mulX (sm (by omega)) (sm (by decide)), ?_⟩
    refine ⟨by show 5 ≤ sizeLine; decide, fun l6 nl6 => ?_⟩
    refine ⟨_, rfl, p, 5, rfl, (Same_upd nl6).bgw bg5, by decide, by decide, fun z6 H7 lo6 hi6 bg7 k7 => ?_⟩
    have hl7 := k7 l6 _ upd_same (bg5.ne nl6).symm
    refine ⟨l6, ([0, 0, 1, z3, z4 * 10 ^ 17] : List Int).map V.int, _, _, rfl, rfl, SqL.of hl7, menu _ lo6 hi6, ?_⟩
    have small : (([0, 0, 1, z3, z4 * 10 ^ 17] : List Int).getD z6.toNat 0).natAbs < 2 ^ 180 := by
      refine menu_all (q := fun x => x.natAbs < 2 ^ 180) _ (fun x hx => ?_) (by decide) _
      simp only [List.mem_cons, List.not_mem_nil, or_false] at hx
      rcases hx with rfl | rfl | rfl | rfl | rfl <;> omega
    revert small
    generalize ([0, 0, 1, z3, z4 * 10 ^ 17] : List Int).getD z6.toNat 0 = times
    intro small
    have kk7 : Keep p H H7 := ((((kk3.trans k4).trans k5).trans (Same_upd nl6).keepw).trans k7)
    -- number
    refine ⟨_, rfl, _, rfl, _, _, rfl, rfl, mulX (sm (by decide)) (sm (by omega)), _, _, rfl, rfl, ?_⟩
    refine ⟨_, rfl, p, 2, rfl, bg7, by decide, by decide, fun z8 H8 lo8 hi8 bg8 k8 => ?_⟩
    refine ⟨_, rfl, p, 65536, rfl, bg8, by decide, by decide, fun z9 H9 lo9 hi9 bg9 k9 => ?_⟩
    refine ⟨_, _, rfl, rfl, mulX (sm (by omega)) (sm (by omega)), _, _, rfl, rfl, ?_⟩
    -- the sign
    refine ⟨_, rfl, p, 2, rfl, bg9, by decide, by decide, fun z10 H10 lo10 hi10 bg10 k10 => ?_⟩
    have kk : Keep p H H10 := ((kk7.trans k8).trans k9).trans k10
    refine ⟨rfl, _, rfl, ifB (fun _ => ?_) (fun _ => ?_)⟩
    · exact ⟨_, rfl, _, rfl, q _ _ bg10 kk⟩
    · exact ⟨_, rfl, q _ _ bg10 kk⟩
end
end Pf
set_option Elab.async false
set_option linter.all false
set_option maxRecDepth 100000
set_option maxHeartbeats 4000000
namespace Pf
open PySem PySem.Spec PyProof.Rows L2 Wc
open C8 (Cal pe_c pe_gc)
section
variable {P : Program} {w : World} {K : PySem.W.Frag} {mg : Str → Option Value} {base : Heap}
def spLaw (K : PySem.W.Frag) : Sp := fun vs H Q _ => ∃ (a : Addr) (ns : List Int), vs = [.ref a] ∧ SqL K H a (ns.map V.int) ∧ ns.length ≤ 63 ∧ (∀ n ∈ ns, Builtin.Int.intBits n ≤ 1048576) ∧ ∀ H', Q (.bl true) H'
def LawI (a : Addr) (H0 : Hp) : Nat → L2.St → Hp → Prop := fun _ σ H => ∃ x1 x2 x3 x4 x5, σ = [some (V.ref a), x1, x2, x3, x4, x5] ∧ Same H0 H
theorem c_law {fd : FuncData} (T : Txt K mg) (F : FnP K "law" s_law (He.ga K "law") fd) : FnOk P w K mg base CX0 3 (He.ga K "law") fd ["script"] (spLaw K) := by
  have C__law_draw := c_draw (P := P) (w := w) (base := base) T
  have C__law_bag := c_bag (P := P) (w := w) (base := base) T
  have C__law_integer := c_integer (P := P) (w := w) (base := base) T
  have C_wrap := c_wrap (P := P) (w := w) (base := base) T
  have C_is_word := c_isword (P := P) (w := w) (base := base) T
  refine fnD F sc_law (fun vs H Q E h => ?_) (fun cdv A outer s H vs Q E hr h => ?_)
  · obtain ⟨p, ns, rfl, _⟩ := h
    rfl
  · obtain ⟨a, ns, rfl, hS, hlen, hb, q⟩ := h
    refine ⟨_, (pss_cons (ps_for PassesOwn.never rfl (pi_range1 rfl T.n_range (pa_cons (pe_callB (call_max2 rfl) rfl T.n_max (by rfl) (pa_cons pe_int (pa_cons (pe_callB (call_min2 rfl) rfl T.n_min (by rfl) (pa_cons pe_int (pa_cons (pe_callB call_len_seq rfl T.n_len (by rfl) (pa_cons (pv 0) pa_nil)) pa_nil))) pa_nil))) pa_nil)) (pg_name (i := 1) sc_law.nd rfl (Or.inl rfl))
      (pss_cons (ps_set (i := 2) sc_law.nd rfl (Or.inl rfl) (pe_c C__law_bag hr (by decide) rfl (pa_cons (pv 0) (pa_cons (pv 1) pa_nil))))
      (pss_cons (ps_set (i := 3) sc_law.nd rfl (Or.inl rfl) (pe_c C__law_integer hr (by decide) rfl (pa_cons (pv 2) pa_nil)))
      (pss_cons (ps_set (i := 4) sc_law.nd rfl (Or.inl rfl) (pe_c C_wrap hr (by decide) rfl (pa_cons (pv 3) pa_nil)))
      (pss_cons (ps_if (PW.pt (pw_or (pt_not (pt_val (pe_callB call_isi rfl T.n_isinstance (by rfl) (pa_cons (pv 4) (pa_cons (pe_ty "int" rfl T.n_int (by rfl)) pa_nil))))) (pw_or (pt_val (pe_callB call_isi rfl T.n_isinstance (by rfl) (pa_cons (pv 4) (pa_cons (pe_ty "bool" rfl T.n_bool (by rfl)) pa_nil)))) (pw_or (pt_cmpR op_lt (pv 4) (pe_un un_neg pe_int) (nomark _)) (pw_or1 (pt_cmpR op_gt (pv 4) pe_int (nomark _))))))) (pss_one (ps_ret pe_bl)) pss_nil)
      (pss_cons (ps_if (PW.pt (pw_or (pt_cmpR op_ne (pe_op op_mod (pe_callTy call_int1 rfl T.n_int (by rfl) (pa_cons (pe_op op_sub (pv 3) (pv 4)) pa_nil)) pe_int) pe_int (nomark _)) (pw_or1 (pt_cmpR op_ne (pe_c C_wrap hr (by decide) rfl (pa_cons (pv 4) pa_nil)) (pv 4) (nomark _))))) (pss_one (ps_ret pe_bl)) pss_nil)
      (pss_cons (ps_set (i := 5) sc_law.nd rfl (Or.inl rfl) (pe_c C_is_word hr (by decide) rfl (pa_cons (pv 3) pa_nil)))
      (pss_cons (ps_if (PW.pt (pw_or (pt_not (pt_val (pe_callB call_isi rfl T.n_isinstance (by rfl) (pa_cons (pv 5) (pa_cons (pe_ty "bool" rfl T.n_bool (by rfl)) pa_nil))))) (pw_or (pt_cmpR op_ne (pv 5) (pe_and (pe_cmpR op_le (pe_un un_neg pe_int) (pv 3) (nomark _)) (pe_one (pe_cmpR op_le (pv 3) pe_int (nomark _)))) (nomark _)) (pw_or1 (pt_cmpR op_notBl (pe_c C_is_word hr (by decide) rfl (pa_cons (pv 4) pa_nil)) pe_bl (nomark _)))))) (pss_one (ps_ret pe_bl)) pss_nil)
      (pss_one (ps_if (pt_cmpR op_notBl (pe_c C_is_word hr (by decide) rfl (pa_cons (pe_ix ix_list (pe_lst (pa_cons pe_non (pa_cons pe_bl (pa_cons pe_str (pa_cons (pe_tup (pa_cons pe_int pa_nil)) (pa_cons (pe_lst pa_nil) (pa_cons pe_bl pa_nil))))))) (pe_c C__law_draw hr (by decide) rfl (pa_cons (pv 2) (pa_cons pe_int pa_nil))) (fun _ _ => rfl)) pa_nil)) pe_bl (nomark _)) (pss_one (ps_ret pe_bl)) pss_nil))))))))))
      (pss_one (ps_ret pe_bl))), ?_⟩
    have hl : (ns.map V.int).length = ns.length := List.length_map _
    refine ⟨_, rfl, a, _, rfl, .inl hS, _, _, rfl, _, _, rfl, _, rfl, ?_, ?_, ?_⟩
    · split <;> (try split) <;> omega
    · split <;> (try split) <;> omega
    generalize hJ : Int.toNat _ = J
    have hJ2 : J ≤ 63 := by
      rw [← hJ]
      split <;> (try split) <;> omega
    refine for_range (LawI a H) ⟨_, _, _, _, _, rfl, Same.refl H⟩ ?_ ?_
    · rintro i σ H0 hi ⟨x1, x2, x3, x4, x5, rfl, s0⟩
      refine ⟨_, rfl, _, rfl, a, ns, _, rfl, s0.seq hS, hb, (by omega), (by omega), fun p H1 np bg s1 => ?_⟩
      refine ⟨_, rfl, p, rfl, bg, fun n H2 bg2 k2 => ?_⟩
      refine ⟨_, rfl, n, rfl, ?_⟩
      have s2 : Same H H2 := k2.same (s0.trans s1) (s0.free np)
      -- the word's kind and bounds
      refine ⟨_, rfl, _, _, _, _, _, rfl, ClsV.ty "int", TyX.base (TyOf.int _), kit_ty (r := true) (by decide +kernel), _, rfl, iteF ?_⟩
      refine ⟨_, rfl, _, _, _, _, _, rfl, ClsV.ty "bool", TyX.base (TyOf.int _), kit_ty (r := false) (by decide +kernel), _, rfl, iteF ?_⟩
      refine ⟨_, rfl, _, rfl, _, _, rfl, rfl, _, rfl, ifB (fun e => ?_) (fun _ => ?_)⟩
      · have := of_decide_eq_true e
        have := wr_lo n
        omega
      refine ⟨_, rfl, _, _, rfl, rfl, _, rfl, ifB (fun e => ?_) (fun _ => ?_)⟩
      · have := of_decide_eq_true e
        have := wr_hi n
        omega
      -- the difference; a word stays
      refine ⟨_, rfl, _, rfl, _, _, rfl, rfl, .inl ⟨_, rfl, _, _, rfl, rfl, (by show (0 : Int) < 65536; decide), ?_⟩⟩
      refine ⟨rfl, _, rfl, neqF (congrArg V.int (wr_mod n)) ?_⟩
      refine ⟨_, rfl, wr n, rfl, _, rfl, rfl, _, rfl, neqF (congrArg V.int (wr_wr n)) ?_⟩
      -- told
      refine ⟨_, rfl, _, some n, rfl, Kd.int n, ?_⟩
      refine ⟨_, rfl, _, _, _, _, _, rfl, ClsV.ty "bool", TyX.base (TyOf.bl _), kit_ty (r := true) (by decide +kernel), _, rfl, iteF ?_⟩
      have hin : inRange (some n) (-32768) 32767 = (decide (-32768 ≤ n) && decide (n ≤ 32767)) := rfl
      have fin : ∀ c : Bool, c = inRange (some n) (-32768) 32767 → V.bl (inRange (some n) (-32768) 32767) = V.bl c := fun c e => congrArg V.bl e.symm
      -- a word is a word; the other values are none
      have low : inRange (some (wr n)) (-32768) 32767 = true := by
        show (decide (-32768 ≤ wr n) && decide (wr n ≤ 32767)) = true
        rw [decide_eq_true (wr_lo n), decide_eq_true (wr_hi n)]
        rfl
      refine ⟨_, rfl, _, rfl, _, rfl, _, _, rfl, rfl, _, rfl, ifB (fun e1 => ⟨_, rfl, _, _, rfl, rfl, rfl, _, rfl, neqF (fin _ ?_) ?_⟩) (fun e1 => ⟨rfl, _, rfl, neqF (fin _ ?_) ?_⟩)⟩
      · rw [hin, e1]
        rfl
      rotate_left
      · rw [hin, e1]
        rfl
      all_goals
        refine ⟨_, rfl, _, some (wr n), rfl, Kd.int (wr n), _, _, rfl, rfl, _, rfl, ifNo (by rw [low]; rfl) ?_⟩
        -- the list of odd values
        refine ⟨by show 1 ≤ sizeLine; decide, fun t nt => ?_⟩
        refine ⟨by show 0 ≤ sizeLine; decide, fun l nl => ?_⟩
        refine ⟨by show 6 ≤ sizeLine; decide, fun m nm => ?_⟩
        have npt : p ≠ t := bg2.ne nt
        have npl : p ≠ l := ((Same_upd nt).bgw bg2).ne nl
        have npm : p ≠ m := ((Same_upd nl).bgw ((Same_upd nt).bgw bg2)).ne nm
        have sm3 : Same H2 (upd (upd (upd H2 t (.tup [.int 5])) l (.lst [])) m (.lst [.non, .bl true, .str (Str.ofString "5"), .ref t, .ref l, .bl false])) := (Same_upd nt).trans ((Same_upd nl).trans (Same_upd nm))
        refine ⟨_, rfl, p, 6, rfl, sm3.bgw bg2, by decide, by decide, fun z H3 lo hi3 bg3 k3 => ?_⟩
        obtain ⟨v, hv, ev⟩ := menuV [.non, .bl true, .str (Str.ofString "5"), .ref t, .ref l, .bl false] lo hi3
        have ntl : t ≠ l := ne_of_none upd_same nl
        have ntm : t ≠ m := ne_of_none (by rw [upd_ne ntl]; exact upd_same) nm
        have nlm : l ≠ m := ne_of_none upd_same nm
        have ht3 : H3 t = some (.tup [.int 5]) := k3 t _ (by rw [upd_ne ntm, upd_ne ntl]; exact upd_same) npt.symm
        have hl3 : H3 l = some (.lst []) := k3 l _ (by rw [upd_ne nlm]; exact upd_same) npl.symm
        have hm3 := k3 m _ upd_same npm.symm
        refine ⟨m, _, z, v, rfl, rfl, SqL.of hm3, ev, v, none, rfl, ?_, _, _, rfl, rfl, _, rfl, iteF ⟨_, _, _, _, _, rfl, ?_⟩⟩
        · simp only [List.mem_cons, List.not_mem_nil, or_false] at hv
          rcases hv with rfl | rfl | rfl | rfl | rfl | rfl
          · exact Kd.other (TyX.base TyOf.non) (by decide +kernel)
          · exact Kd.bl _
          · exact Kd.other (TyX.base (TyOf.str _)) (by decide +kernel)
          · exact Kd.other (TyX.base (TyOf.tup ht3)) (by decide +kernel)
          · exact Kd.other (TyX.base (TyOf.lst hl3)) (by decide +kernel)
          · exact Kd.bl _
        · exact k3.same (s2.trans sm3) (s0.free np)
    · rintro σ H0 ⟨x1, x2, x3, x4, x5, rfl, s0⟩
      exact q H0
end
end Pf
set_option Elab.async false
set_option linter.all false
set_option maxRecDepth 100000
set_option maxHeartbeats 0
namespace Pf
open PySem PySem.Spec PyProof.Rows L2 Wc
open C8 (Cal pe_c pe_gc)
section
def dd_is_integer : He.DefD := ⟨("is_integer", none), "is_integer", "is_integer", defArgs s_is_integer, defBody s_is_integer, defScope s_is_integer, [], []⟩
def dd_is_word : He.DefD := ⟨("is_word", none), "is_word", "is_word", defArgs s_is_word, defBody s_is_word, defScope s_is_word, [], []⟩
def dd_wrap : He.DefD := ⟨("wrap", none), "wrap", "wrap", defArgs s_wrap, defBody s_wrap, defScope s_wrap, [], []⟩
def dd__law_bag : He.DefD := ⟨("_law_bag", none), "_law_bag", "_law_bag", defArgs s__law_bag, defBody s__law_bag, defScope s__law_bag, [], []⟩
def dd__law_draw : He.DefD := ⟨("_law_draw", none), "_law_draw", "_law_draw", defArgs s__law_draw, defBody s__law_draw, defScope s__law_draw, [], []⟩
def dd__law_integer : He.DefD := ⟨("_law_integer", none), "_law_integer", "_law_integer", defArgs s__law_integer, defBody s__law_integer, defScope s__law_integer, [], []⟩
def dd_law : He.DefD := ⟨("law", none), "law", "law", defArgs s_law, defBody s_law, defScope s_law, [], []⟩
def fns : List He.DefD := [dd_is_integer, dd_is_word, dd_wrap, dd__law_bag, dd__law_draw, dd__law_integer, dd_law]
def facts : List He.Fa := [.glo "is_integer", .glo "is_word", .glo "wrap", .glo "_law_bag", .glo "_law_draw", .glo "_law_integer", .glo "law", .free "bool", .free "int", .free "isinstance", .free "len", .free "max", .free "min", .free "range"]
theorem txt_of {K : PySem.W.Frag} {h : Heap} {mg : Str → Option Value} (X : K.In h) (G : h.Ns mainGlobals mg) (c : He.SaysD facts fns K) : Txt K mg where
  d_is_integer := c.def_ 0 (d := dd_is_integer) rfl
  g_is_integer := He.glo_ok X G (c.fact 0 (f := .glo "is_integer") rfl)
  d_is_word := c.def_ 1 (d := dd_is_word) rfl
  g_is_word := He.glo_ok X G (c.fact 1 (f := .glo "is_word") rfl)
  d_wrap := c.def_ 2 (d := dd_wrap) rfl
  g_wrap := He.glo_ok X G (c.fact 2 (f := .glo "wrap") rfl)
  d__law_bag := c.def_ 3 (d := dd__law_bag) rfl
  g__law_bag := He.glo_ok X G (c.fact 3 (f := .glo "_law_bag") rfl)
  d__law_draw := c.def_ 4 (d := dd__law_draw) rfl
  g__law_draw := He.glo_ok X G (c.fact 4 (f := .glo "_law_draw") rfl)
  d__law_integer := c.def_ 5 (d := dd__law_integer) rfl
  g__law_integer := He.glo_ok X G (c.fact 5 (f := .glo "_law_integer") rfl)
  d_law := c.def_ 6 (d := dd_law) rfl
  g_law := He.glo_ok X G (c.fact 6 (f := .glo "law") rfl)
  n_bool := He.free_ok X G (c.fact 7 (f := .free "bool") rfl)
  n_int := He.free_ok X G (c.fact 8 (f := .free "int") rfl)
  n_isinstance := He.free_ok X G (c.fact 9 (f := .free "isinstance") rfl)
  n_len := He.free_ok X G (c.fact 10 (f := .free "len") rfl)
  n_max := He.free_ok X G (c.fact 11 (f := .free "max") rfl)
  n_min := He.free_ok X G (c.fact 12 (f := .free "min") rfl)
  n_range := He.free_ok X G (c.fact 13 (f := .free "range") rfl)
end
abbrev Rr : PySem.W.OpenRow := PySem.W.OpenLaw.row PySem.Challenge.rw_warycard_k02_words
abbrev hk : PySem.W.Hook := He.hookD 4 facts fns
def ob (s : PySem.W.SharedT) : He.AlD := He.obsDG 4 facts fns (HandSHeadRun.getT s)
theorem ob_eq (s : PySem.W.SharedT) : ob s = hk.obs s.abs := He.obsDG_eq (HandSHeadRun.getT_eq s)
theorem run (w : World) : HandSHeadRun.RunEq Rr (PySem.W.view Rr.prog [9]) hk ob 2000 ["is_integer", "is_word", "wrap", "_law_bag", "_law_draw", "_law_integer", "__name__"] w := by
  intro os
  kernel_rfl

theorem law_of {P : Program} {w : World} {K : PySem.W.Frag} {mg : Str → Option Value} {fa : Addr} (T : Txt K mg) (h : mg ("law" : Str) = some (.ref fa)) :
    ∃ (fd : FuncData) (sp : Sp), (∀ (s : Shared) (u : Value), BindsTo s fd ⟨[u], []⟩ [("script", u)]) ∧
      (∀ (H : Hp) (a : Addr) (ns : List Int), ns.length ≤ 63 → (∀ z ∈ ns, Builtin.Int.intBits z ≤ 1048576) → SqL K H a (ns.map V.int) → sp [.ref a] H (fun v _ => v = .bl true) fun _ _ _ => False) ∧
      ∀ base : Heap, K.In base → base.Ns mainGlobals mg → FnOk P w K mg base CX0 3 fa fd ["script"] sp :=
  lawD T.d_law T.g_law h (fun base fd F => c_law T F) (fun _ _ _ _ _ _ us hl => match us, hl with | [_], _ => rfl) fun H a ns hl hb hS => ⟨a, ns, rfl, hS, hl, hb, fun _ => rfl⟩
end Pf
open PySem PySem.W PySem.Calls PyProof.Rows
set_option maxRecDepth 100000 in
set_option maxHeartbeats 0 in
theorem PySem.Challenge.cw_warycard_k02_words_holds : PySem.Challenge.rw_warycard_k02_words.Holds := by
  w_on; o_law
  refine HandSHeadRun.head_any (r := OpenLaw.row PySem.Challenge.rw_warycard_k02_words) (q := view (OpenLaw.row PySem.Challenge.rw_warycard_k02_words).prog [9]) (H := Pf.hk) (ob := Pf.ob) (M := 2000) (loose := ["is_integer", "is_word", "wrap", "_law_bag", "_law_draw", "_law_integer", "__name__"]) (d := HandSHeadRun.topDef (OpenLaw.row PySem.Challenge.rw_warycard_k02_words).prog 9) (kwd := []) Pf.ob_eq
    (by kernel_rfl) (fun s => by kernel_rfl) Pf.run (by kernel_rfl) (by kernel_rfl) (by kernel_rfl) (by rfl) (by first | assumption | decide +kernel) (by decide +kernel) ⟨rfl, rfl, rfl, rfl, rfl, by decide +kernel⟩ ?hw ?hc
  case hw => w_witness2
  case hc =>
    refine Wc.walk_bits (l := PySem.Challenge.rw_warycard_k02_words) (n := 63) (k := 3) (x := "script") rfl (by decide) (by kernel_rfl) ⟨rfl, by decide, by decide⟩ ?F
    intro w mg fa h Y G hmg0
    obtain ⟨K, KX, c⟩ := Y
    have hmg : mg ("law" : PySem.Str) = some (.ref fa) := by
      have e : (HandSHeadRun.topDef (OpenLaw.row PySem.Challenge.rw_warycard_k02_words).prog 9).name = ("law" : PySem.Str) := by kernel_rfl
      rw [← e]
      exact hmg0
    exact ⟨K, KX, Pf.law_of (w := w) (Pf.txt_of KX G c) hmg⟩
