import PyProof.Rows.All
import Wide.All
import OpenK.AllK
import Wide.FinOn
import KE.KStateDown
import Lean
import HandS.ForMost
import HandS.Codes
import HandS.Wide
import HandS.IsInst
import HandS.Style
import HandS.Steps
import HandS.Defaults
import HandS.EndBits
import HandS.Head0
import HandS.Head1
import HandS.Head2
import HandS.HeadEnd
import HandS.HeadHook1
import HandS.HeadHook2
import HandS.HeadHook3
import HandS.HeadHook4
import HandS.CallLocal
import KE.KBits
import PySem.Challenge.RW_warycard_k03_operations
set_option Elab.async false
set_option linter.all false
set_option maxRecDepth 100000
set_option maxHeartbeats 4000000
/-! What the proofs of several laws share: defs by their facts, wide products, the drawing bag. -/
namespace Wc
open PySem PySem.Spec PyProof.Rows L2
open C8 (Cal pe_c pe_gc)

/-- a def of the row's top, where it stands -/
abbrev FnP (K : PySem.W.Frag) (x : Str) (st : Stmt) (f : Addr) (fd : FuncData) : Prop :=
  FunD K x x (defArgs st) (defBody st) (defScope st) [] [] f fd
/-- a def's promise, by its body's term and the reading of it -/
theorem fnD {P : Program} {w : World} {K : PySem.W.Frag} {mg : Str → Option Value} {base : Heap} {x : Str} {st : Stmt} {ps N : List Str} {k : Nat} {sp : Sp} {fd : FuncData}
    (F : FnP K x st (He.ga K x) fd) (S : FnScope N ps (defScope st)) (len : ∀ vs H Q E, sp vs H Q E → vs.length = ps.length)
    (body : ∀ (cdv : Value) (A : Around) (outer : List Env) (s : Shared) (H : Hp) (vs : List V) (Q : VK) (E : XK),
      Room k (A.deeper (envOfC x (defScope st) s.heap.objs.size (He.ga K x) cdv)) → sp vs H Q E →
      ∃ t, PSs (cxOf CX0 P w K mg base N x (defScope st) (He.ga K x) cdv A outer s H E).nox (defBody st) t ∧
        t { nx := fun _ H' => Q .non H', rt := Q } (start N vs) H) : FnOk P w K mg base CX0 (k + 1) (He.ga K x) fd ps sp := by
  refine F.ok S len fun cdv A outer s H vs Q E hr hs => ?_
  obtain ⟨t, h, q⟩ := body cdv A outer s H vs Q E hr hs
  exact ⟨t, PSs.nox h, q⟩
theorem calD {P : Program} {w : World} {K : PySem.W.Frag} {mg : Str → Option Value} {base : Heap} {x : Str} {st : Stmt} {ps N : List Str} {k : Nat} {sp : Sp}
    (F : ∃ fd, FnP K x st (He.ga K x) fd) (g : mg x = some (.ref (He.ga K x)))
    (b : ∀ (kV doc pm : Value) (an : Option Addr) (cdv ct : Value) (us : List Value), us.length = ps.length →
      bindArgs (PySem.W.fnOf x x (defArgs st) (defBody st) (defScope st) .none kV doc pm an cdv ct) ⟨us, []⟩ = pure (ps.zip us))
    (S : FnScope N ps (defScope st)) (len : ∀ vs H Q E, sp vs H Q E → vs.length = ps.length)
    (body : ∀ (cdv : Value) (A : Around) (outer : List Env) (s : Shared) (H : Hp) (vs : List V) (Q : VK) (E : XK),
      Room k (A.deeper (envOfC x (defScope st) s.heap.objs.size (He.ga K x) cdv)) → sp vs H Q E →
      ∃ t, PSs (cxOf CX0 P w K mg base N x (defScope st) (He.ga K x) cdv A outer s H E).nox (defBody st) t ∧
        t { nx := fun _ H' => Q .non H', rt := Q } (start N vs) H) : Cal P w K mg base (k + 1) x sp [] := by
  obtain ⟨fd, F⟩ := F
  exact ⟨He.ga K x, fd, ps, [], fnD F S len body, g, F.kp, F.bindsN b, .nil⟩
theorem ifB {c : Bool} {A B : Prop} (h : c = true → A) (g : c = false → B) : if c = true then A else B := by
  cases c with
  | true => exact iteT (h rfl)
  | false => exact iteF (g rfl)
theorem ifNo {c : Bool} {A B : Prop} (h : c = false) (b : B) : if c = true then A else B := by
  rw [h]
  exact iteF b
theorem ifYes {c : Bool} {A B : Prop} (h : c = true) (a : A) : if c = true then A else B := by
  rw [h]
  exact iteT a
/-- two values that are the same do not differ -/
theorem neqF {x y : V} {A B : Prop} (h : x = y) (b : B) : if (!decide (x = y)) = true then A else B := by
  rw [decide_eq_true h]
  exact iteF b
/-- a built-in class as a value -/
theorem pe_ty {X : Cx} {x : Str} {pos : Pos} (n : String) (hg : Gl X x) (hm : X.mg x = none) (hv : bootBuiltins x = some (.type n)) (hn : x ≠ "__name__" := by decide) (hd : (x == ("__debug__" : Str)) = false := by decide) :
    PE X (.Name x pos) (tC (.ty n)) := pe_bltn hg hm hv (show RelV (.ty n) (.type n) from rfl) hn hd
/-- from a law's promise to what the row's end asks -/
theorem lawD {P : Program} {w : World} {K : PySem.W.Frag} {mg : Str → Option Value} {st : Stmt} {k : Nat} {sp : Sp} {fa : Addr}
    (F : ∃ fd, FnP K "law" st (He.ga K "law") fd) (g : mg "law" = some (.ref (He.ga K "law"))) (h : mg "law" = some (.ref fa))
    (c : ∀ (base : Heap) (fd : FuncData), FnP K "law" st (He.ga K "law") fd → FnOk P w K mg base CX0 k (He.ga K "law") fd ["script"] sp)
    (b : ∀ (kV doc pm : Value) (an : Option Addr) (cdv ct : Value) (us : List Value), us.length = (["script"] : List Str).length →
      bindArgs (PySem.W.fnOf "law" "law" (defArgs st) (defBody st) (defScope st) .none kV doc pm an cdv ct) ⟨us, []⟩ = pure ((["script"] : List Str).zip us))
    (hsp : ∀ (H : Hp) (a : Addr) (ns : List Int), ns.length ≤ 63 → (∀ z ∈ ns, Builtin.Int.intBits z ≤ 1048576) → SqL K H a (ns.map V.int) → sp [.ref a] H (fun v _ => v = .bl true) fun _ _ _ => False) :
    ∃ (fd : FuncData) (sp : Sp), (∀ (s : Shared) (u : Value), BindsTo s fd ⟨[u], []⟩ [("script", u)]) ∧
      (∀ (H : Hp) (a : Addr) (ns : List Int), ns.length ≤ 63 → (∀ z ∈ ns, Builtin.Int.intBits z ≤ 1048576) → SqL K H a (ns.map V.int) → sp [.ref a] H (fun v _ => v = .bl true) fun _ _ _ => False) ∧
      ∀ base : Heap, K.In base → base.Ns mainGlobals mg → FnOk P w K mg base CX0 k fa fd ["script"] sp := by
  obtain ⟨fd, F⟩ := F
  have e : He.ga K "law" = fa := by
    have z := g.symm.trans h
    injection z with z
    injection z with z
  subst e
  exact ⟨fd, sp, fun s u => F.bindsA (ps := ["script"]) b s [u] rfl, hsp, fun base _ _ => c base fd F⟩
/-- an object of the module's as a value -/
theorem pe_gref {X : Cx} {x : Str} {pos : Pos} {a : Addr} (hg : Gl X x) (hm : X.mg x = some (.ref a)) (hd : (x == ("__debug__" : Str)) = false := by decide) : PE X (.Name x pos) (tC (.ref a)) :=
  pe_glob hg hm (show RelV (.ref a) (.ref a) from rfl) hd
theorem int_rel {i : Int} {o : Option Value} (h : ∃ t, o = some (.int i t)) : ∃ u, o = some u ∧ RelV (.int i) u := by
  obtain ⟨t, e⟩ := h
  exact ⟨_, e, t, rfl⟩
theorem str_rel {z : Str} {o : Option Value} (h : ∃ t, o = some (.str z t)) : ∃ u, o = some u ∧ RelV (.str z) u := by
  obtain ⟨t, e⟩ := h
  exact ⟨_, e, t, rfl⟩
theorem kdct_of {K : PySem.W.Frag} {w : World} {a : Addr} {kvs : List (Str × He.Dv)} (h : ∃ es n, KDict K w a es n) (v : He.valsB K a kvs = true) : ∀ q ∈ kvs, KDct K w a q.1 (q.2.v K) := fun q hq => by
  obtain ⟨es, n, D⟩ := h
  obtain ⟨u, e, r⟩ := He.valsB_ok v hq
  exact ⟨es, n, u, D.at_, D.lit, e, r⟩
/-- a call of a local name that holds the def called y -/
theorem pe_loc {X : Cx} {k j i : Nat} {y x : Str} {f : Addr} {sp : Sp} {p pos : Pos} {e : Expr} {es : List Expr} {t : TA} (g : X.mg y = some (.ref f)) (c : Cal X.prog X.w X.K X.mg X.base k y sp []) (hr : Room j X.A) (hk : k ≤ j)
    (hN : X.N[i]? = some x) (hv : Vis X.env.scope x) (ha : PA X (e :: es) t)
    (hdb : (x == ("__debug__" : Str)) = false := by decide) (hcd : (x == ("__classdict__" : Str)) = false := by decide)
    (he : starEach (e :: es) X.env = (false, eval e X.env) :: starEach es X.env := by rfl) (hpl : (backTo pos (starEach es X.env)).any (·.1) = false := by rfl) :
    PE X (.Call (.Name x p) (e :: es) [] pos) (tCallL i f sp [] E0 t) := by
  obtain ⟨f', fd, ps, ds, F, hm, kp, b, d⟩ := c.ex
  have e2 : f' = f := by
    have z := hm.symm.trans g
    injection z with z
    injection z
  subst e2
  exact pe_callL F (hr.mono hk) hN hv kp b d pass0 ha hdb hcd he hpl
/-! ### within a comprehension: the written part by name -/
theorem ixK {X : Cx} {K : PySem.W.Frag} (e : X.K = K) : IxR X (rIxL K) := by
  subst e
  exact ix_list
theorem ixTK {X : Cx} {K : PySem.W.Frag} (e : X.K = K) : IxR X (rIxT K) := by
  subst e
  exact ix_tup
theorem lenK {X : Cx} {K : PySem.W.Frag} (e : X.K = K) : CallR X (.builtin "len") (fun xs H Q => ∃ p ys, xs = [.ref p] ∧ (SqL K H p ys ∨ SqT K H p ys) ∧ Q (.int ys.length) H) := by
  subst e
  exact call_len_seq
theorem isiK {X : Cx} {K : PySem.W.Frag} (e : X.K = K) : CallR X (.builtin "isinstance") (rIsi K) := by
  subst e
  exact call_isi
theorem inK {X : Cx} {K : PySem.W.Frag} (e : X.K = K) : OpR X (compareOp .In) (rIn K false) := by
  subst e
  exact op_in_seq
/-! ### great ints -/
def CMulX (i j : Int) : Prop := i.natAbs.log2 + j.natAbs.log2 < 100000000
theorem CMulX.ok {i j : Int} (h : CMulX i j) : IntMulOk i j := by
  have b : ∀ x : Int, Builtin.Int.intBits x ≤ x.natAbs.log2 + 1 := fun x => by
    unfold Builtin.Int.intBits
    split <;> omega
  have h1 := b i
  have h2 := b j
  have h3 : i.natAbs.log2 + j.natAbs.log2 < 100000000 := h
  have e : bitsLine = 134217728 := by decide
  unfold IntMulOk
  intro z
  have z2 := (Bool.and_eq_true_iff.mp z).2
  unfold Builtin.Int.intTooBig at z2
  have z3 := of_decide_eq_true z2
  omega
theorem op_mulX {X : Cx} : OpR X (binaryOp .Mult) (rI CMulX fun i j => .int (i * j)) :=
  opI fun _ _ _ _ _ _ _ hc q => mul_int q hc.ok
theorem log2_le {i : Int} {n : Nat} (h : i.natAbs < 2 ^ (n + 1)) : i.natAbs.log2 ≤ n := by
  have := PySem.Flt.log2_lt_of (Nat.succ_pos n) h
  omega
theorem mulX {i j : Int} (hi : i.natAbs.log2 ≤ 2000000) (hj : j.natAbs.log2 ≤ 2000000) : CMulX i j := by
  unfold CMulX
  omega
/-- an int of at most 200 bits -/
theorem sm {i : Int} (h : i.natAbs < 2 ^ 200) : i.natAbs.log2 ≤ 2000000 := by
  have := PySem.Flt.log2_lt_of (by decide) h
  omega
theorem bits_log {i : Int} (h : Builtin.Int.intBits i ≤ 1048576) : i.natAbs.log2 ≤ 1048576 := by
  unfold Builtin.Int.intBits at h
  split at h
  · rename_i e
    have e2 : i = 0 := by simpa using e
    subst e2
    decide
  · omega

/-! ### the drawing bag -/
structure Bag where
  r : Int
  s : Int
  k : Int
namespace Bag
def seed (b : Bag) : Int := (b.s * 48271 + b.k * 69621 + 11) % 2147483647
def fill (b : Bag) : Bag := if b.r = 0 then ⟨b.seed * 2147483629 + (b.seed * b.seed + b.k * 16807) % 2147483629, b.seed, b.k⟩ else b
def val (b : Bag) (m : Int) : Int := b.fill.r % m
def next (b : Bag) (m : Int) : Bag := ⟨b.fill.r / m, b.fill.s, b.fill.k⟩
def vals (b : Bag) : List V := [.int b.r, .int b.s, .int b.k]
structure Ok (b : Bag) : Prop where
  s : b.s.natAbs.log2 ≤ 1048576
  k : b.k.natAbs < 2 ^ 60
theorem seed_lo (b : Bag) : 0 ≤ b.seed := Int.emod_nonneg _ (by decide)
theorem seed_hi (b : Bag) : b.seed < 2147483647 := Int.emod_lt_of_pos _ (by decide)
theorem Ok.fill {b : Bag} (h : b.Ok) : b.fill.Ok := by
  unfold Bag.fill
  split
  · exact ⟨Nat.le_trans (log2_le (n := 1048576) (Nat.lt_of_lt_of_le (show b.seed.natAbs < 2 ^ 31 by have := b.seed_lo; have := b.seed_hi; omega) (Nat.pow_le_pow_right (by decide) (by decide)))) (Nat.le_refl _), h.k⟩
  · exact h
theorem Ok.next {b : Bag} (h : b.Ok) (m : Int) : (b.next m).Ok := ⟨h.fill.s, h.fill.k⟩
theorem val_lo (b : Bag) {m : Int} (h : 0 < m) : 0 ≤ b.val m := Int.emod_nonneg _ (by omega)
theorem val_hi (b : Bag) {m : Int} (h : 0 < m) : b.val m < m := Int.emod_lt_of_pos _ h
end Bag
/-- the bag b stands at p -/
def BagAt (H : Hp) (p : Addr) (b : Bag) : Prop := H p = some (.lst b.vals)
/-- some bag stands at p -/
def Bg (H : Hp) (p : Addr) : Prop := ∃ b : Bag, b.Ok ∧ BagAt H p b
/-- all but what stands at p is kept -/
def Keep (p : Addr) (H H' : Hp) : Prop := ∀ c o, H c = some o → c ≠ p → H' c = some o
/-- a draw: some number below m, the bag turned -/
def spDraw : Sp := fun vs H Q _ => ∃ (p : Addr) (m : Int), vs = [.ref p, .int m] ∧ Bg H p ∧ 0 < m ∧ m.natAbs.log2 < 9000 ∧
  ∀ (z : Int) (H' : Hp), 0 ≤ z → z < m → Bg H' p → Keep p H H' → Q (.int z) H'
/-- a new bag from the script's k-th cell -/
def spBag (K : PySem.W.Frag) : Sp := fun vs H Q _ => ∃ (a : Addr) (ns : List Int) (k : Int), vs = [.ref a, .int k] ∧ SqL K H a (ns.map V.int) ∧ (∀ n ∈ ns, Builtin.Int.intBits n ≤ 1048576) ∧
  0 ≤ k ∧ k < 2 ^ 60 ∧ ∀ (p : Addr) (H' : Hp), H p = none → Bg H' p → Same H H' → Q (.ref p) H'
theorem Keep.refl (p : Addr) (H : Hp) : Keep p H H := fun _ _ h _ => h
theorem Keep.trans {p : Addr} {H H1 H2 : Hp} (a : Keep p H H1) (b : Keep p H1 H2) : Keep p H H2 := fun c o e n => b c o (a c o e n) n
theorem Keep.own {p : Addr} {H H1 : Hp} {o : HO} (a : Keep p H H1) : Keep p H (upd H1 p o) := fun c u e n => by rw [upd_ne n]; exact a c u e n
theorem Keep.new {p q : Addr} {H H1 : Hp} {o : HO} (a : Keep p H H1) (h : H1 q = none) : Keep p H (upd H1 q o) := fun c u e n => by
  have z := a c u e n
  rw [upd_ne (ne_of_none z h)]
  exact z
theorem Keep.same {p : Addr} {H H1 H2 : Hp} (a : Same H H1) (n : H p = none) (b : Keep p H1 H2) : Same H H2 := fun c o e => b c o (a c o e) (ne_of_none e n)
theorem _root_.L2.Same.neww {q : Addr} {H H1 : Hp} {o : HO} (a : Same H H1) (h : H1 q = none) : Same H (upd H1 q o) := fun c u e => by
  have z := a c u e
  rw [upd_ne (ne_of_none z h)]
  exact z
theorem Same_upd {q : Addr} {H : Hp} {o : HO} (h : H q = none) : Same H (L2.upd H q o) := (Same.refl H).neww h
/-- a new object, its heap a letter -/
theorem newO {H : Hp} {o : HO} {Q : VK} (h : ∀ p H', H p = none → H' p = some o → Same H H' → Q (.ref p) H') : ∀ p, H p = none → Q (.ref p) (L2.upd H p o) :=
  fun p n => h p _ n upd_same (Same_upd n)
/-- a change at p, its heap a letter -/
theorem setO {H : Hp} {p : Addr} {o : HO} {Q : Hp → Prop} (h : ∀ H', H' p = some o → Keep p H H' → Q H') : Q (L2.upd H p o) :=
  h _ upd_same (Keep.refl p H).own
theorem _root_.L2.Same.keepw {p : Addr} {H H' : Hp} (s : Same H H') : Keep p H H' := fun c o e _ => s c o e
theorem _root_.L2.Same.bgw {H H' : Hp} {p : Addr} (s : Same H H') (b : Bg H p) : Bg H' p := by
  obtain ⟨x, ok, h⟩ := b
  exact ⟨x, ok, s _ _ h⟩
theorem Bg.ne {H : Hp} {p q : Addr} (b : Bg H p) (h : H q = none) : p ≠ q := by
  obtain ⟨x, _, e⟩ := b
  exact ne_of_none e h
/-- an item of a written list of ints -/
theorem menu (xs : List Int) {i : Int} (h0 : 0 ≤ i) (h1 : i < xs.length) : atI (xs.map V.int) i = some (.int (xs.getD i.toNat 0)) := by
  obtain ⟨j, rfl⟩ := Int.eq_ofNat_of_zero_le h0
  have hl : j < xs.length := by omega
  refine atI_nat ?_
  rw [List.getElem?_map, List.getElem?_eq_getElem hl]
  simp [List.getD, List.getElem?_eq_getElem hl]
theorem menu_all {q : Int → Prop} (xs : List Int) (h : ∀ x ∈ xs, q x) (z : q 0) (n : Nat) : q (xs.getD n 0) := by
  by_cases hl : n < xs.length
  · have e : xs.getD n 0 = xs[n] := by simp [List.getD, List.getElem?_eq_getElem hl]
    rw [e]
    exact h _ (List.getElem_mem hl)
  · have e : xs.getD n 0 = 0 := by simp [List.getD, List.getElem?_eq_none (by omega : xs.length ≤ n)]
    rw [e]
    exact z
/-- an item of a written list of any values -/
theorem menuV (xs : List V) {i : Int} (h0 : 0 ≤ i) (h1 : i < xs.length) : ∃ v ∈ xs, atI xs i = some v := by
  obtain ⟨j, rfl⟩ := Int.eq_ofNat_of_zero_le h0
  have hl : j < xs.length := by omega
  exact ⟨xs[j], List.getElem_mem hl, atI_nat (List.getElem?_eq_getElem hl)⟩
/-- the end of a law's row, with the bits of the script's numbers -/
theorem walk_bits {l : PySem.W.OpenLaw} {n k : Nat} {q : Program} {loose : List Str} {XP : (Str → Option Value) → Heap → Prop} {YP : World → Heap → Prop} {d : DefRec} {x : Str}
    (hn : l.most = some n) (hn2 : n ≤ sizeLine) (hdf : d.params.defaults = []) (hr : Room k callerA)
    (F : ∀ (w : World) (mg : Str → Option Value) (fa : Addr) (h : Heap), YP w h → h.Ns mainGlobals mg → mg d.name = some (.ref fa) →
      ∃ K : PySem.W.Frag, K.In h ∧ ∃ (fd : FuncData) (sp : Sp), (∀ (s : Shared) (u : Value), BindsTo s fd ⟨[u], []⟩ [(x, u)]) ∧
        (∀ (H : Hp) (a : Addr) (ns : List Int), ns.length ≤ n → (∀ z ∈ ns, Builtin.Int.intBits z ≤ 1048576) → SqL K H a (ns.map V.int) → sp [.ref a] H (fun v _ => v = .bl true) fun _ _ _ => False) ∧
        ∀ base : Heap, K.In base → base.Ns mainGlobals mg → FnOk l.prog w K mg base CX0 k fa fd [x] sp) :
    PySem.W.WalkO q loose XP YP l.row.toRowW d [] (fun f vs => PySem.call f vs) := by
  refine Att.attach_callB hn hdf fun w s₀ s₁ mg mb fa o pm cd doc a vs ns G Y ho hd hcd hmg hobj hints hlen hbits hg => ?_
  obtain ⟨K, KX, fd, sp, hb, hsp, hF⟩ := F w mg fa _ Y G.T.g hmg
  exact law_call (CX := CX0) KX G.T.g G.T.b G.T.builtins G.T.nolimit hg hobj hints (Nat.le_trans hlen hn2) hr hF hb (fun H _ hS => hsp H a ns hlen hbits hS) fun _ _ _ z => z
end Wc
set_option Elab.async false
set_option linter.all false
set_option maxRecDepth 100000
set_option maxHeartbeats 4000000
/-! The operations on words, as mathematics. -/
namespace Wc
open PySem PySem.Spec PyProof.Rows L2 PySem.W

/-- the word of an int -/
def wr (n : Int) : Int := (n + 32768) % 65536 - 32768
theorem wr_lo (n : Int) : -32768 ≤ wr n := by
  unfold wr
  omega
theorem wr_hi (n : Int) : wr n ≤ 32767 := by
  unfold wr
  omega
theorem wr_wr (n : Int) : wr (wr n) = wr n := by
  unfold wr
  omega
theorem wr_mod (n : Int) : (n - wr n) % 65536 = 0 := by
  unfold wr
  omega
def Wd (n : Int) : Prop := -32768 ≤ n ∧ n ≤ 32767
theorem wr_wd (n : Int) : Wd (wr n) := ⟨wr_lo n, wr_hi n⟩
theorem wr_of {n : Int} (h : Wd n) : wr n = n := by
  unfold wr
  obtain ⟨h1, h2⟩ := h
  omega
/-- an int and its word differ by a multiple -/
theorem wr_at (n : Int) : ∃ q : Int, wr n = n + 65536 * q := ⟨-((n + 32768) / 65536), by
  unfold wr
  omega⟩
theorem wr_add_mul (n q : Int) : wr (n + 65536 * q) = wr n := by
  unfold wr
  omega
theorem wr_eq {a b : Int} (q : Int) (h : a = b + 65536 * q) : wr a = wr b := by
  rw [h, wr_add_mul]
theorem wr_mul_l (a b : Int) : wr (wr a * b) = wr (a * b) := by
  obtain ⟨q, h⟩ := wr_at a
  rw [h, Int.add_mul, Int.mul_assoc]
  exact wr_add_mul _ _
theorem wr_mul_r (a b : Int) : wr (a * wr b) = wr (a * b) := by
  rw [Int.mul_comm, wr_mul_l, Int.mul_comm]
theorem wr_add_l (a b : Int) : wr (wr a + b) = wr (a + b) := by
  unfold wr
  omega
theorem wr_add_r (a b : Int) : wr (a + wr b) = wr (a + b) := by
  unfold wr
  omega
theorem wr_sub_l (a b : Int) : wr (wr a - b) = wr (a - b) := by
  unfold wr
  omega
theorem wr_sub_r (a b : Int) : wr (a - wr b) = wr (a - b) := by
  unfold wr
  omega

/-! ### bits -/
def bit (x : Int) (k : Nat) : Int := x / 2 ^ k % 2
theorem div_pow_succ (x : Int) (k : Nat) : x / 2 ^ (k + 1) = x / 2 ^ k / 2 := by
  rw [Int.pow_succ, Int.ediv_ediv_of_nonneg (Int.le_of_lt (Int.pow_pos (by decide)))]
theorem div_pow_add (x : Int) (j k : Nat) : x / 2 ^ (j + k) = x / 2 ^ j / 2 ^ k := by
  rw [Int.pow_add, Int.ediv_ediv_of_nonneg (Int.le_of_lt (Int.pow_pos (by decide)))]
theorem bit_zero (x : Int) : bit x 0 = x % 2 := by
  unfold bit
  rw [Int.pow_zero, Int.ediv_one]
theorem bit_succ (x : Int) (k : Nat) : bit x (k + 1) = bit (x / 2) k := by
  unfold bit
  rw [Nat.add_comm k 1, div_pow_add, Int.pow_one]
theorem bit_01 (x : Int) (k : Nat) : bit x k = 0 ∨ bit x k = 1 := by
  unfold bit
  omega
theorem bit_div (x : Int) (j k : Nat) : bit (x / 2 ^ j) k = bit x (j + k) := by
  unfold bit
  rw [div_pow_add]
/-- the lowest n bits -/
theorem mod_pow_succ (x : Int) (n : Nat) : x % 2 ^ (n + 1) = x % 2 ^ n + 2 ^ n * bit x n := by
  unfold bit
  have h0 : (0 : Int) < 2 ^ n := Int.pow_pos (by decide)
  have h1 := Int.emod_add_mul_ediv x (2 ^ n)
  have h2 := Int.emod_add_mul_ediv x (2 ^ (n + 1))
  rw [div_pow_succ, Int.pow_succ] at h2
  have h3 : x / 2 ^ n = 2 * (x / 2 ^ n / 2) + x / 2 ^ n % 2 := by omega
  generalize x / 2 ^ n = y at *
  generalize y / 2 = z at *
  generalize y % 2 = b at *
  rw [Int.pow_succ]
  have h4 : (2 : Int) ^ n * 2 * z = 2 * (2 ^ n * z) := by rw [Int.mul_comm (2 ^ n) 2, Int.mul_assoc]
  have h5 : (2 : Int) ^ n * y = 2 * (2 ^ n * z) + 2 ^ n * b := by
    rw [h3, Int.mul_add, ← Int.mul_assoc, Int.mul_comm (2 ^ n) 2, Int.mul_assoc]
  omega
theorem mod_ext {x y : Int} : ∀ {n : Nat}, (∀ k, k < n → bit x k = bit y k) → x % 2 ^ n = y % 2 ^ n
  | 0, _ => by simp [Int.emod_one]
  | n + 1, h => by
    rw [mod_pow_succ, mod_pow_succ, mod_ext (n := n) fun k hk => h k (by omega), h n (by omega)]
theorem wd_ext {x y : Int} (hx : Wd x) (hy : Wd y) (h : ∀ k, k < 16 → bit x k = bit y k) : x = y := by
  have e := mod_ext h
  have e16 : (2 : Int) ^ 16 = 65536 := by decide
  rw [e16] at e
  obtain ⟨h1, h2⟩ := hx
  obtain ⟨h3, h4⟩ := hy
  omega
theorem bit_wr (x : Int) {k : Nat} (hk : k < 16) : bit (wr x) k = bit x k := by
  obtain ⟨q, e⟩ := wr_at x
  rw [e]
  unfold bit
  have e1 : (65536 : Int) = 2 ^ k * (2 * 2 ^ (15 - k)) := by
    have : (2 : Int) ^ 16 = 2 ^ (k + (1 + (15 - k))) := by
      congr 1
      omega
    rw [show (65536 : Int) = 2 ^ 16 by decide, this, Int.pow_add, Int.pow_add, Int.pow_one]
  rw [e1, Int.mul_assoc, Int.add_mul_ediv_left _ _ (by exact Int.ne_of_gt (Int.pow_pos (by decide)))]
  rw [Int.mul_assoc, Int.add_mul_emod_self_left]

/-! ### and, or, exclusive or -/
theorem and_half (x y : Int) : Builtin.bitAnd x y / 2 = Builtin.bitAnd (x / 2) (y / 2) := by
  have := kbt_halves x y
  split at this <;> omega
theorem and_low (x y : Int) : Builtin.bitAnd x y % 2 = (x % 2) * (y % 2) := by
  have := kbt_halves x y
  rcases Int.emod_two_eq x with a | a <;> rcases Int.emod_two_eq y with b | b <;> rw [a, b] <;> split at this <;> omega
theorem bit_and : ∀ (k : Nat) (x y : Int), bit (Builtin.bitAnd x y) k = bit x k * bit y k
  | 0, x, y => by rw [bit_zero, bit_zero, bit_zero, and_low]
  | k + 1, x, y => by rw [bit_succ, bit_succ, bit_succ, and_half, bit_and k]
theorem or_half (x y : Int) : Builtin.bitOr x y / 2 = Builtin.bitOr (x / 2) (y / 2) := by
  have := kbt_halves x y
  rw [bitOr_and, bitOr_and]
  split at this <;> omega
theorem or_low (x y : Int) : Builtin.bitOr x y % 2 = if x % 2 = 1 ∨ y % 2 = 1 then 1 else 0 := by
  have := kbt_halves x y
  rw [bitOr_and]
  split <;> split at this <;> omega
theorem bit_or : ∀ (k : Nat) (x y : Int), bit (Builtin.bitOr x y) k = if bit x k = 1 ∨ bit y k = 1 then 1 else 0
  | 0, x, y => by rw [bit_zero, bit_zero, bit_zero, or_low]
  | k + 1, x, y => by rw [bit_succ, bit_succ, bit_succ, or_half, bit_or k]
theorem xor_half (x y : Int) : Builtin.bitXor x y / 2 = Builtin.bitXor (x / 2) (y / 2) := by
  have := kbt_halves x y
  rw [bitXor_and, bitXor_and]
  split at this <;> omega
theorem xor_low (x y : Int) : Builtin.bitXor x y % 2 = if x % 2 = y % 2 then 0 else 1 := by
  have := kbt_halves x y
  rw [bitXor_and]
  split <;> split at this <;> omega
theorem bit_xor : ∀ (k : Nat) (x y : Int), bit (Builtin.bitXor x y) k = if bit x k = bit y k then 0 else 1
  | 0, x, y => by rw [bit_zero, bit_zero, bit_zero, xor_low]
  | k + 1, x, y => by rw [bit_succ, bit_succ, bit_succ, xor_half, bit_xor k]
/-- a word is what is 0 or -1 behind 15 bits -/
theorem wd_iff (x : Int) : Wd x ↔ x / 32768 = 0 ∨ x / 32768 = -1 := by
  unfold Wd
  omega
theorem half_n (f : Int → Int → Int) (h : ∀ x y, f x y / 2 = f (x / 2) (y / 2)) : ∀ (n : Nat) (x y : Int), f x y / 2 ^ n = f (x / 2 ^ n) (y / 2 ^ n)
  | 0, x, y => by rw [Int.pow_zero, Int.ediv_one, Int.ediv_one, Int.ediv_one]
  | n + 1, x, y => by rw [div_pow_succ, div_pow_succ, div_pow_succ, half_n f h n, h]
theorem wd_bits (f : Int → Int → Int) (h : ∀ x y, f x y / 2 = f (x / 2) (y / 2)) (h00 : f 0 0 = 0 ∨ f 0 0 = -1) (h01 : f 0 (-1) = 0 ∨ f 0 (-1) = -1) (h10 : f (-1) 0 = 0 ∨ f (-1) 0 = -1) (h11 : f (-1) (-1) = 0 ∨ f (-1) (-1) = -1)
    {x y : Int} (hx : Wd x) (hy : Wd y) : Wd (f x y) := by
  rw [wd_iff] at *
  have e := half_n f h 15 x y
  rw [show (2 : Int) ^ 15 = 32768 by decide] at e
  rw [e]
  rcases hx with a | a <;> rcases hy with b | b <;> rw [a, b] <;> assumption
theorem wd_and {x y : Int} (hx : Wd x) (hy : Wd y) : Wd (Builtin.bitAnd x y) := wd_bits Builtin.bitAnd and_half (by decide) (by decide) (by decide) (by decide) hx hy
theorem wd_or {x y : Int} (hx : Wd x) (hy : Wd y) : Wd (Builtin.bitOr x y) := wd_bits Builtin.bitOr or_half (by decide) (by decide) (by decide) (by decide) hx hy
theorem wd_xor {x y : Int} (hx : Wd x) (hy : Wd y) : Wd (Builtin.bitXor x y) := wd_bits Builtin.bitXor xor_half (by decide) (by decide) (by decide) (by decide) hx hy

/-! ### the sixteen operations -/
inductive Sg where
  | add | sub | mul | div | rem | and | or | xor | shl | shr | eq | ne | lt | le | gt | ge
  deriving DecidableEq
def Sg.z : Sg → Str
  | .add => "+" | .sub => "-" | .mul => "*" | .div => "/" | .rem => "mod" | .and => "&" | .or => "|" | .xor => "^" | .shl => "<<" | .shr => ">>"
  | .eq => "==" | .ne => "!=" | .lt => "<" | .le => "<=" | .gt => ">" | .ge => ">="
def Sg.f : Sg → Str
  | .add => "_plus" | .sub => "_minus" | .mul => "_times" | .div => "_divide" | .rem => "_rest" | .and => "_both_bits" | .or => "_any_bits" | .xor => "_other_bits" | .shl => "_up" | .shr => "_down"
  | .eq => "_equal" | .ne => "_unequal" | .lt => "_less" | .le => "_at_most" | .gt => "_more" | .ge => "_at_least"
/-- a quotient without its fraction -/
def ab (l : Int) : Int := if l < 0 then -l else l
def quo (l r : Int) : Int := if (decide (l < 0)) = (decide (r < 0)) then ab l / ab r else -(ab l / ab r)
def b01 (b : Bool) : Int := if b then 1 else 0
def opV : Sg → Int → Int → V
  | .add, l, r => .int (wr (l + r))
  | .sub, l, r => .int (wr (l - r))
  | .mul, l, r => .int (wr (l * r))
  | .div, l, r => if r = 0 then .non else .int (wr (quo l r))
  | .rem, l, r => if r = 0 then .non else .int (l - r * quo l r)
  | .and, l, r => .int (Builtin.bitAnd l r)
  | .or, l, r => .int (Builtin.bitOr l r)
  | .xor, l, r => .int (Builtin.bitXor l r)
  | .shl, l, r => .int (wr (l * 2 ^ (r % 16).toNat))
  | .shr, l, r => .int (l / 2 ^ (r % 16).toNat)
  | .eq, l, r => .int (b01 (decide (l = r)))
  | .ne, l, r => .int (b01 (!decide (l = r)))
  | .lt, l, r => .int (b01 (decide (l < r)))
  | .le, l, r => .int (b01 (decide (l ≤ r)))
  | .gt, l, r => .int (b01 (decide (r < l)))
  | .ge, l, r => .int (b01 (decide (r ≤ l)))
/-- what an action, and what op gives -/
def spAct (s : Sg) : Sp := fun vs H Q _ => ∃ l r : Int, vs = [.int l, .int r] ∧ Wd l ∧ Wd r ∧ Q (opV s l r) H
def spOp : Sp := fun vs H Q _ => ∃ (s : Sg) (l r : Int), vs = [.str s.z, .int l, .int r] ∧ Wd l ∧ Wd r ∧ Q (opV s l r) H
theorem Wd.sm {n : Int} (h : Wd n) : n.natAbs < 2 ^ 16 := by
  obtain ⟨h1, h2⟩ := h
  omega
theorem Wd.lg {n : Int} (h : Wd n) : n.natAbs.log2 ≤ 2000000 := Wc.sm (Nat.lt_of_lt_of_le h.sm (by decide))
def spWrap : Sp := fun vs H Q _ => ∃ n : Int, vs = [.int n] ∧ Q (.int (wr n)) H
/-- the product of a number with its quotient, and the rest -/
theorem quo_at (l : Int) {r : Int} (h : r ≠ 0) : ∃ m : Int, r * quo l r = l - m ∧ ab m < ab r ∧ (m = 0 ∨ (m < 0 ↔ l < 0)) ∧ -ab l ≤ quo l r ∧ quo l r ≤ ab l := by
  have hr : 0 < ab r := by
    unfold ab
    split <;> omega
  have h1 := Int.emod_add_mul_ediv (ab l) (ab r)
  have h2 := Int.emod_lt_of_pos (ab l) hr
  have h3 := Int.emod_nonneg (ab l) (show ab r ≠ 0 by omega)
  have hl : 0 ≤ ab l := by
    unfold ab
    split <;> omega
  have h4 : 0 ≤ ab l / ab r := Int.ediv_nonneg hl (by omega)
  have h5 : ab l / ab r ≤ ab l := Int.ediv_le_self _ hl
  unfold quo
  generalize ab l / ab r = q at *
  generalize ab l % ab r = m at *
  by_cases a : l < 0 <;> by_cases b : r < 0
  · have e1 : ab l = -l := if_pos a
    have e2 : ab r = -r := if_pos b
    rw [if_pos (by rw [decide_eq_true a, decide_eq_true b])]
    rw [e2, Int.neg_mul] at h1
    exact ⟨-m, by omega, by unfold ab; split <;> omega, by omega, by omega, by omega⟩
  · have e1 : ab l = -l := if_pos a
    have e2 : ab r = r := if_neg b
    rw [if_neg (by rw [decide_eq_true a, decide_eq_false b]; decide)]
    rw [e2] at h1
    rw [Int.mul_neg]
    exact ⟨-m, by omega, by unfold ab; split <;> omega, by omega, by omega, by omega⟩
  · have e1 : ab l = l := if_neg a
    have e2 : ab r = -r := if_pos b
    rw [if_neg (by rw [decide_eq_false a, decide_eq_true b]; decide)]
    rw [e2, Int.neg_mul] at h1
    rw [Int.mul_neg]
    exact ⟨m, by omega, by unfold ab; split <;> omega, by omega, by omega, by omega⟩
  · have e1 : ab l = l := if_neg a
    have e2 : ab r = r := if_neg b
    rw [if_pos (by rw [decide_eq_false a, decide_eq_false b])]
    rw [e2] at h1
    exact ⟨m, by omega, by unfold ab; split <;> omega, by omega, by omega, by omega⟩
end Wc
set_option Elab.async false
set_option linter.all false
set_option maxRecDepth 100000
set_option maxHeartbeats 4000000
/-! Words as rows of bits; new objects; comprehensions over a range. -/
namespace Wc
open PySem PySem.Spec PyProof.Rows L2 PySem.W
open C8 (Cal pe_c pe_gc)

/-- a new object that is o, all else kept -/
def New (H : Hp) (o : HO) (Q : VK) : Prop := ∀ (r : Addr) (H' : Hp), H r = none → H' r = some o → Same H H' → Q (.ref r) H'
theorem New.go {H : Hp} {o : HO} {Q : VK} (h : New H o Q) : ∀ p, H p = none → Q (.ref p) (upd H p o) := fun p n => h p _ n upd_same (Same_upd n)
theorem New.mono {H H1 : Hp} {o : HO} {Q : VK} (h : New H o Q) (s : Same H H1) : New H1 o Q := fun r H' n e s' => h r H' (s.free n) e (s.trans s')
/-- a comprehension over a range whose elements leave the heap as it is -/
theorem lcR {lo : Int} {n s : Nat} {te : TE} {σ : L2.St} {H1 : Hp} {D : Addr} {Qd : Hp → Prop} (f : Nat → V) (hn : n ≤ 1000) (hD : H1 D = none)
    (hw : ∀ v, wipe ((wipe σ [s]).set s v) [s] = wipe σ [s])
    (hs : ∀ (i : Nat) (H : Hp) (Q : VK), i < n → Same H1 H → Q (f i) H → te ((wipe σ [s]).set s (some (.int (lo + i)))) H Q)
    (hd : ∀ H, H D = some (.lst ((List.range n).map f)) → Same H1 H → Qd H) :
    ∃ W : Nat → Nat → Hp → Prop, (∃ m, W 0 m (upd H1 D (.lst []))) ∧ ∀ i m H, W i m H →
      ((Itr lo n).stop i H ∧ Qd H) ∨ ((Itr lo n).go i H ∧ ∃ Nx : Hp → Prop, (∀ H', Nx H' → ∃ m', m' < m ∧ W (i + 1) m' H') ∧ ∀ x H', (Itr lo n).yld i H x H' → gName s x (wipe σ [s]) H' fun σ2 H2 => wipe σ2 [s] = wipe σ [s] ∧ tYes σ2 H2 fun b H3 =>
        if b = true then te σ2 H3 fun y H4 => ∃ acc, H4 D = some (.lst acc) ∧ acc.length < sizeLine ∧ Nx (upd H4 D (.lst (acc ++ [y]))) else Nx H3) := by
  refine lc_range (fun i H => H D = some (.lst ((List.range i).map f)) ∧ Same H1 H) ⟨upd_same, Same_upd hD⟩ ?_ (fun H h => hd H h.1 h.2)
  rintro i H hi ⟨e, sm⟩
  refine ⟨hw _, ?_⟩
  unfold tYes
  simp only [if_true]
  refine hs i H _ hi sm ⟨_, e, ?_, ?_, ?_⟩
  · rw [List.length_map, List.length_range]
    exact small1000 (by omega)
  · rw [List.range_succ, List.map_append]
    exact upd_same
  · intro b o hb
    rw [upd_ne (ne_of_none hb hD)]
    exact sm b o hb

/-- a word's bits, the lowest first -/
def BL (a : Int) : List V := (List.range 16).map fun k => V.int (bit a k)
theorem BL_len (a : Int) : (BL a).length = 16 := by simp [BL]
theorem BL_congr {a b : Int} (h : wr a = wr b) : BL a = BL b := by
  refine List.map_congr_left fun k hk => ?_
  have hk2 := List.mem_range.mp hk
  rw [← bit_wr a hk2, ← bit_wr b hk2, h]
theorem BL_get (a : Int) {k : Nat} (h : k < 16) : (BL a)[k]? = some (.int (bit a k)) := by
  unfold BL
  rw [List.getElem?_map, List.getElem?_range h]
  rfl
theorem BL_at (a : Int) {k : Nat} (h : k < 16) {i : Int} (e : i = (k : Int)) : atI (BL a) i = some (.int (bit a k)) := by
  rw [e]
  exact atI_nat (BL_get a h)
/-- the value of bits -/
theorem wr_bits (a : Int) : a % 2 ^ 15 - 32768 * bit a 15 = wr a := by
  have e1 : (2 : Int) ^ 15 = 32768 := by decide
  unfold bit wr
  rw [e1]
  omega
theorem BL_shl (a : Int) {k : Nat} (hk : k ≤ 16) : (List.range k).map (fun _ => V.int 0) ++ (BL a).take (16 - k) = BL (a * 2 ^ k) := by
  refine List.ext_getElem? fun j => ?_
  have hp : (0 : Int) < 2 ^ k := Int.pow_pos (by decide)
  by_cases hj : j < 16
  · rw [BL_get _ hj]
    by_cases h : j < k
    · rw [List.getElem?_append_left (by simpa using h), List.getElem?_map, List.getElem?_range h]
      have : bit (a * 2 ^ k) j = 0 := by
        obtain ⟨m, rfl⟩ := Nat.exists_eq_add_of_lt h
        have e : a * 2 ^ (j + m + 1) = a * 2 ^ m * 2 * 2 ^ j := by
          rw [show j + m + 1 = m + 1 + j by omega, Int.pow_add, Int.pow_succ]
          simp only [Int.mul_assoc]
        unfold bit
        rw [e, Int.mul_ediv_cancel _ (Int.ne_of_gt (Int.pow_pos (by decide)))]
        omega
      rw [this]
      rfl
    · have hl : ((List.range k).map (fun _ => V.int 0)).length = k := by simp
      rw [List.getElem?_append_right (by omega), hl, List.getElem?_take_of_lt (by omega), BL_get a (by omega)]
      have : bit (a * 2 ^ k) j = bit a (j - k) := by
        rw [show j = k + (j - k) by omega, ← bit_div, Int.mul_ediv_cancel _ (Int.ne_of_gt hp)]
        congr 1
        omega
      rw [this]
  · rw [List.getElem?_eq_none (by simp [BL]; omega), List.getElem?_eq_none (by rw [BL_len]; omega)]
theorem BL_shr {a : Int} (ha : Wd a) {k : Nat} (hk : k ≤ 16) : (BL a).drop k ++ (List.range k).map (fun _ => V.int (bit a 15)) = BL (a / 2 ^ k) := by
  refine List.ext_getElem? fun j => ?_
  by_cases hj : j < 16
  · rw [BL_get _ hj, bit_div]
    by_cases h : k + j < 16
    · rw [List.getElem?_append_left (by rw [List.length_drop, BL_len]; omega), List.getElem?_drop, BL_get a h]
    · rw [List.getElem?_append_right (by rw [List.length_drop, BL_len]; omega), List.length_drop, BL_len, List.getElem?_map, List.getElem?_range (by omega)]
      have e : bit a (k + j) = bit a 15 := by
        have f0 : bit a 15 = bit (a / 2 ^ 15) 0 := (bit_div a 15 0).symm
        rw [show k + j = 15 + (k + j - 15) by omega, ← bit_div, f0]
        have e15 : (2 : Int) ^ 15 = 32768 := by decide
        rw [e15]
        rcases (wd_iff a).mp ha with z | z <;> rw [z]
        · unfold bit
          rw [Int.zero_ediv, Int.zero_ediv]
        · have m1 : ∀ n : Nat, (-1 : Int) / 2 ^ n = -1 := fun n => by
            have hp : (0 : Int) < 2 ^ n := Int.pow_pos (by decide)
            rw [Int.ediv_eq_iff_of_pos hp]
            omega
          unfold bit
          rw [m1, m1]
      rw [e]
      rfl
  · rw [List.getElem?_eq_none (by simp [BL]; omega), List.getElem?_eq_none (by rw [BL_len]; omega)]
end Wc
namespace Wc
open PySem PySem.Spec PyProof.Rows L2 PySem.W
theorem cut_take {xs : List V} {n : Nat} {i : Int} (e : i = (n : Int)) (h : n ≤ xs.length) : cutV xs none (some i) = xs.take n := by
  subst e
  unfold cutV
  rw [HT.sIx_none, HT.sIx_nat]
  simp [Nat.min_eq_left h]
theorem cut_drop {xs : List V} {n : Nat} {i : Int} (e : i = (n : Int)) (h : n ≤ xs.length) : cutV xs (some i) none = xs.drop n := by
  subst e
  unfold cutV
  rw [HT.sIx_none, HT.sIx_nat, Nat.min_eq_left h]
  exact List.take_of_length_le (by rw [List.length_drop]; omega)
end Wc
namespace Wc
open PySem PySem.Spec PyProof.Rows L2 PySem.W
theorem bit_neg : ∀ (k : Nat) (x : Int), bit (-x - 1) k = 1 - bit x k
  | 0, x => by
    rw [bit_zero, bit_zero]
    omega
  | k + 1, x => by
    rw [bit_succ, bit_succ, show (-x - 1) / 2 = -(x / 2) - 1 by omega, bit_neg k]
/-- a comprehension over a list whose elements leave the heap as it is -/
theorem lcL {K : PySem.W.Frag} {a : Addr} {xs : List V} {s : Nat} {te : TE} {σ : L2.St} {H1 : Hp} {D : Addr} {Qd : Hp → Prop} (f : V → V) (hn : xs.length ≤ 1000) (hD : H1 D = none) (hS : SqL K H1 a xs)
    (hw : ∀ v, wipe ((wipe σ [s]).set s v) [s] = wipe σ [s])
    (hs : ∀ (x : V) (H : Hp) (Q : VK), x ∈ xs → Same H1 H → Q (f x) H → te ((wipe σ [s]).set s (some x)) H Q)
    (hd : ∀ H, H D = some (.lst (xs.map f)) → Same H1 H → Qd H) :
    ∃ W : Nat → Nat → Hp → Prop, (∃ m, W 0 m (upd H1 D (.lst []))) ∧ ∀ i m H, W i m H →
      ((Itl K a).stop i H ∧ Qd H) ∨ ((Itl K a).go i H ∧ ∃ Nx : Hp → Prop, (∀ H', Nx H' → ∃ m', m' < m ∧ W (i + 1) m' H') ∧ ∀ x H', (Itl K a).yld i H x H' → gName s x (wipe σ [s]) H' fun σ2 H2 => wipe σ2 [s] = wipe σ [s] ∧ tYes σ2 H2 fun b H3 =>
        if b = true then te σ2 H3 fun y H4 => ∃ acc, H4 D = some (.lst acc) ∧ acc.length < sizeLine ∧ Nx (upd H4 D (.lst (acc ++ [y]))) else Nx H3) := by
  refine lc_list (xs := xs) (fun i H => H D = some (.lst ((xs.take i).map f)) ∧ Same H1 H) ⟨by rw [List.take_zero]; exact upd_same, Same_upd hD⟩ (fun i H _ h => h.2.seq hS) ?_ (fun H h => hd H (by rw [h.1, List.take_length]) h.2)
  rintro i x H hi ⟨e, sm⟩
  refine ⟨hw _, ?_⟩
  unfold tYes
  simp only [if_true]
  refine hs x H _ (List.mem_of_getElem? hi) sm ⟨_, e, ?_, ?_, ?_⟩
  · rw [List.length_map]
    exact small1000 (Nat.le_trans (List.length_take_le _ _) (by have := (List.getElem?_eq_some_iff.mp hi).1; omega))
  · rw [List.take_add_one, hi, List.map_append]
    exact upd_same
  · intro b o hb
    rw [upd_ne (ne_of_none hb hD)]
    exact sm b o hb
end Wc
set_option Elab.async false
set_option linter.all false
set_option maxRecDepth 100000
set_option maxHeartbeats 4000000
namespace Pf
open PySem PySem.Spec PyProof.Rows L2 Wc
open C8 (Cal pe_c pe_gc)
def top (i : Nat) : Stmt := PySem.Challenge.pw_warycard_k03_operations.main.body.getD i (.Pass ⟨0, 0, 0, 0⟩)
abbrev s_wrap : Stmt := top 2
abbrev N_wrap : List Str := ["number"]
theorem sc_wrap : FnScope N_wrap ["number"] (defScope s_wrap) := ⟨rfl, rfl, rfl, by decide +kernel, rfl, by decide +kernel, by decide +kernel⟩
abbrev s__plus : Stmt := top 3
abbrev N__plus : List Str := ["left", "right"]
theorem sc__plus : FnScope N__plus ["left", "right"] (defScope s__plus) := ⟨rfl, rfl, rfl, by decide +kernel, rfl, by decide +kernel, by decide +kernel⟩
abbrev s__minus : Stmt := top 4
abbrev N__minus : List Str := ["left", "right"]
theorem sc__minus : FnScope N__minus ["left", "right"] (defScope s__minus) := ⟨rfl, rfl, rfl, by decide +kernel, rfl, by decide +kernel, by decide +kernel⟩
abbrev s__times : Stmt := top 5
abbrev N__times : List Str := ["left", "right"]
theorem sc__times : FnScope N__times ["left", "right"] (defScope s__times) := ⟨rfl, rfl, rfl, by decide +kernel, rfl, by decide +kernel, by decide +kernel⟩
abbrev s__quotient : Stmt := top 6
abbrev N__quotient : List Str := ["left", "right", "size"]
theorem sc__quotient : FnScope N__quotient ["left", "right"] (defScope s__quotient) := ⟨rfl, rfl, rfl, by decide +kernel, rfl, by decide +kernel, by decide +kernel⟩
abbrev s__divide : Stmt := top 7
abbrev N__divide : List Str := ["left", "right"]
theorem sc__divide : FnScope N__divide ["left", "right"] (defScope s__divide) := ⟨rfl, rfl, rfl, by decide +kernel, rfl, by decide +kernel, by decide +kernel⟩
abbrev s__rest : Stmt := top 8
abbrev N__rest : List Str := ["left", "right"]
theorem sc__rest : FnScope N__rest ["left", "right"] (defScope s__rest) := ⟨rfl, rfl, rfl, by decide +kernel, rfl, by decide +kernel, by decide +kernel⟩
abbrev s__both_bits : Stmt := top 9
abbrev N__both_bits : List Str := ["left", "right"]
theorem sc__both_bits : FnScope N__both_bits ["left", "right"] (defScope s__both_bits) := ⟨rfl, rfl, rfl, by decide +kernel, rfl, by decide +kernel, by decide +kernel⟩
abbrev s__any_bits : Stmt := top 10
abbrev N__any_bits : List Str := ["left", "right"]
theorem sc__any_bits : FnScope N__any_bits ["left", "right"] (defScope s__any_bits) := ⟨rfl, rfl, rfl, by decide +kernel, rfl, by decide +kernel, by decide +kernel⟩
abbrev s__other_bits : Stmt := top 11
abbrev N__other_bits : List Str := ["left", "right"]
theorem sc__other_bits : FnScope N__other_bits ["left", "right"] (defScope s__other_bits) := ⟨rfl, rfl, rfl, by decide +kernel, rfl, by decide +kernel, by decide +kernel⟩
abbrev s__up : Stmt := top 12
abbrev N__up : List Str := ["left", "right"]
theorem sc__up : FnScope N__up ["left", "right"] (defScope s__up) := ⟨rfl, rfl, rfl, by decide +kernel, rfl, by decide +kernel, by decide +kernel⟩
abbrev s__down : Stmt := top 13
abbrev N__down : List Str := ["left", "right"]
theorem sc__down : FnScope N__down ["left", "right"] (defScope s__down) := ⟨rfl, rfl, rfl, by decide +kernel, rfl, by decide +kernel, by decide +kernel⟩
abbrev s__equal : Stmt := top 14
abbrev N__equal : List Str := ["left", "right"]
theorem sc__equal : FnScope N__equal ["left", "right"] (defScope s__equal) := ⟨rfl, rfl, rfl, by decide +kernel, rfl, by decide +kernel, by decide +kernel⟩
abbrev s__unequal : Stmt := top 15
abbrev N__unequal : List Str := ["left", "right"]
theorem sc__unequal : FnScope N__unequal ["left", "right"] (defScope s__unequal) := ⟨rfl, rfl, rfl, by decide +kernel, rfl, by decide +kernel, by decide +kernel⟩
abbrev s__less : Stmt := top 16
abbrev N__less : List Str := ["left", "right"]
theorem sc__less : FnScope N__less ["left", "right"] (defScope s__less) := ⟨rfl, rfl, rfl, by decide +kernel, rfl, by decide +kernel, by decide +kernel⟩
abbrev s__at_most : Stmt := top 17
abbrev N__at_most : List Str := ["left", "right"]
theorem sc__at_most : FnScope N__at_most ["left", "right"] (defScope s__at_most) := ⟨rfl, rfl, rfl, by decide +kernel, rfl, by decide +kernel, by decide +kernel⟩
abbrev s__more : Stmt := top 18
abbrev N__more : List Str := ["left", "right"]
theorem sc__more : FnScope N__more ["left", "right"] (defScope s__more) := ⟨rfl, rfl, rfl, by decide +kernel, rfl, by decide +kernel, by decide +kernel⟩
abbrev s__at_least : Stmt := top 19
abbrev N__at_least : List Str := ["left", "right"]
theorem sc__at_least : FnScope N__at_least ["left", "right"] (defScope s__at_least) := ⟨rfl, rfl, rfl, by decide +kernel, rfl, by decide +kernel, by decide +kernel⟩
abbrev s_op : Stmt := top 21
abbrev N_op : List Str := ["sign", "left", "right", "action"]
theorem sc_op : FnScope N_op ["sign", "left", "right"] (defScope s_op) := ⟨rfl, rfl, rfl, by decide +kernel, rfl, by decide +kernel, by decide +kernel⟩
abbrev s__law_bag : Stmt := top 23
abbrev N__law_bag : List Str := ["script", "k", "cell"]
theorem sc__law_bag : FnScope N__law_bag ["script", "k"] (defScope s__law_bag) := ⟨rfl, rfl, rfl, by decide +kernel, rfl, by decide +kernel, by decide +kernel⟩
abbrev s__law_draw : Stmt := top 24
abbrev N__law_draw : List Str := ["bag", "many", "seed", "rest"]
theorem sc__law_draw : FnScope N__law_draw ["bag", "many"] (defScope s__law_draw) := ⟨rfl, rfl, rfl, by decide +kernel, rfl, by decide +kernel, by decide +kernel⟩
abbrev s__law_word : Stmt := top 25
abbrev N__law_word : List Str := ["bag", "other", "pick"]
theorem sc__law_word : FnScope N__law_word ["bag", "other"] (defScope s__law_word) := ⟨rfl, rfl, rfl, by decide +kernel, rfl, by decide +kernel, by decide +kernel⟩
abbrev s__law_bits : Stmt := top 26
abbrev N__law_bits : List Str := ["word", "rest", "bits", "k"]
theorem sc__law_bits : FnScope N__law_bits ["word"] (defScope s__law_bits) := ⟨rfl, rfl, rfl, by decide +kernel, rfl, by decide +kernel, by decide +kernel⟩
abbrev s__law_value : Stmt := top 27
abbrev N__law_value : List Str := ["bits", "total", "k"]
theorem sc__law_value : FnScope N__law_value ["bits"] (defScope s__law_value) := ⟨rfl, rfl, rfl, by decide +kernel, rfl, by decide +kernel, by decide +kernel⟩
abbrev s__law_sum : Stmt := top 28
abbrev N__law_sum : List Str := ["one", "two", "carry", "bits", "k", "total"]
theorem sc__law_sum : FnScope N__law_sum ["one", "two", "carry"] (defScope s__law_sum) := ⟨rfl, rfl, rfl, by decide +kernel, rfl, by decide +kernel, by decide +kernel⟩
abbrev s__law_product : Stmt := top 29
abbrev N__law_product : List Str := ["one", "two", "k", "total", "j"]
theorem sc__law_product : FnScope N__law_product ["one", "two"] (defScope s__law_product) := ⟨rfl, rfl, rfl, by decide +kernel, rfl, by decide +kernel, by decide +kernel⟩
abbrev s__law_quotient : Stmt := top 30
abbrev N__law_quotient : List Str := ["left", "right", "rest", "size", "quotient", "k", "step"]
theorem sc__law_quotient : FnScope N__law_quotient ["left", "right"] (defScope s__law_quotient) := ⟨rfl, rfl, rfl, by decide +kernel, rfl, by decide +kernel, by decide +kernel⟩
abbrev s__law_bitwise : Stmt := top 31
abbrev N__law_bitwise : List Str := ["sign", "one", "two", "k"]
theorem sc__law_bitwise : FnScope N__law_bitwise ["sign", "one", "two"] (defScope s__law_bitwise) := ⟨rfl, rfl, rfl, by decide +kernel, rfl, by decide +kernel, by decide +kernel⟩
abbrev s__law_shifted : Stmt := top 32
abbrev N__law_shifted : List Str := ["sign", "one", "two", "many", "k"]
theorem sc__law_shifted : FnScope N__law_shifted ["sign", "one", "two"] (defScope s__law_shifted) := ⟨rfl, rfl, rfl, by decide +kernel, rfl, by decide +kernel, by decide +kernel⟩
abbrev s__law_compared : Stmt := top 33
abbrev N__law_compared : List Str := ["sign", "left", "right", "holds", "signs"]
theorem sc__law_compared : FnScope N__law_compared ["sign", "left", "right"] (defScope s__law_compared) := ⟨rfl, rfl, rfl, by decide +kernel, rfl, by decide +kernel, by decide +kernel⟩
abbrev s__law_expected : Stmt := top 34
abbrev N__law_expected : List Str := ["sign", "left", "right", "one", "two", "pair", "bit"]
theorem sc__law_expected : FnScope N__law_expected ["sign", "left", "right"] (defScope s__law_expected) := ⟨rfl, rfl, rfl, by decide +kernel, rfl, by decide +kernel, by decide +kernel⟩
abbrev s_law : Stmt := top 35
abbrev N_law : List Str := ["script", "signs", "k", "bag", "sign", "left", "right", "actual", "expected"]
theorem sc_law : FnScope N_law ["script"] (defScope s_law) := ⟨rfl, rfl, rfl, by decide +kernel, rfl, by decide +kernel, by decide +kernel⟩
def v_SIGNS : List He.Dv := [.str "+", .str "-", .str "*", .str "/", .str "mod", .str "&", .str "|", .str "^", .str "<<", .str ">>", .str "==", .str "!=", .str "<", .str "<=", .str ">", .str ">="]
def v_ACTIONS : List (Str × He.Dv) := [("+", .glo "_plus"), ("-", .glo "_minus"), ("*", .glo "_times"), ("/", .glo "_divide"), ("mod", .glo "_rest"), ("&", .glo "_both_bits"), ("|", .glo "_any_bits"), ("^", .glo "_other_bits"), ("<<", .glo "_up"), (">>", .glo "_down"), ("==", .glo "_equal"), ("!=", .glo "_unequal"), ("<", .glo "_less"), ("<=", .glo "_at_most"), (">", .glo "_more"), (">=", .glo "_at_least")]
/-- where all stands behind the top -/
structure Txt (w : World) (K : PySem.W.Frag) (mg : Str → Option Value) : Prop where
  d_wrap : ∃ fd, FnP K "wrap" s_wrap (He.ga K "wrap") fd
  g_wrap : mg "wrap" = some (.ref (He.ga K "wrap"))
  d__plus : ∃ fd, FnP K "_plus" s__plus (He.ga K "_plus") fd
  g__plus : mg "_plus" = some (.ref (He.ga K "_plus"))
  d__minus : ∃ fd, FnP K "_minus" s__minus (He.ga K "_minus") fd
  g__minus : mg "_minus" = some (.ref (He.ga K "_minus"))
  d__times : ∃ fd, FnP K "_times" s__times (He.ga K "_times") fd
  g__times : mg "_times" = some (.ref (He.ga K "_times"))
  d__quotient : ∃ fd, FnP K "_quotient" s__quotient (He.ga K "_quotient") fd
  g__quotient : mg "_quotient" = some (.ref (He.ga K "_quotient"))
  d__divide : ∃ fd, FnP K "_divide" s__divide (He.ga K "_divide") fd
  g__divide : mg "_divide" = some (.ref (He.ga K "_divide"))
  d__rest : ∃ fd, FnP K "_rest" s__rest (He.ga K "_rest") fd
  g__rest : mg "_rest" = some (.ref (He.ga K "_rest"))
  d__both_bits : ∃ fd, FnP K "_both_bits" s__both_bits (He.ga K "_both_bits") fd
  g__both_bits : mg "_both_bits" = some (.ref (He.ga K "_both_bits"))
  d__any_bits : ∃ fd, FnP K "_any_bits" s__any_bits (He.ga K "_any_bits") fd
  g__any_bits : mg "_any_bits" = some (.ref (He.ga K "_any_bits"))
  d__other_bits : ∃ fd, FnP K "_other_bits" s__other_bits (He.ga K "_other_bits") fd
  g__other_bits : mg "_other_bits" = some (.ref (He.ga K "_other_bits"))
  d__up : ∃ fd, FnP K "_up" s__up (He.ga K "_up") fd
  g__up : mg "_up" = some (.ref (He.ga K "_up"))
  d__down : ∃ fd, FnP K "_down" s__down (He.ga K "_down") fd
  g__down : mg "_down" = some (.ref (He.ga K "_down"))
  d__equal : ∃ fd, FnP K "_equal" s__equal (He.ga K "_equal") fd
  g__equal : mg "_equal" = some (.ref (He.ga K "_equal"))
  d__unequal : ∃ fd, FnP K "_unequal" s__unequal (He.ga K "_unequal") fd
  g__unequal : mg "_unequal" = some (.ref (He.ga K "_unequal"))
  d__less : ∃ fd, FnP K "_less" s__less (He.ga K "_less") fd
  g__less : mg "_less" = some (.ref (He.ga K "_less"))
  d__at_most : ∃ fd, FnP K "_at_most" s__at_most (He.ga K "_at_most") fd
  g__at_most : mg "_at_most" = some (.ref (He.ga K "_at_most"))
  d__more : ∃ fd, FnP K "_more" s__more (He.ga K "_more") fd
  g__more : mg "_more" = some (.ref (He.ga K "_more"))
  d__at_least : ∃ fd, FnP K "_at_least" s__at_least (He.ga K "_at_least") fd
  g__at_least : mg "_at_least" = some (.ref (He.ga K "_at_least"))
  d_op : ∃ fd, FnP K "op" s_op (He.ga K "op") fd
  g_op : mg "op" = some (.ref (He.ga K "op"))
  d__law_bag : ∃ fd, FnP K "_law_bag" s__law_bag (He.ga K "_law_bag") fd
  g__law_bag : mg "_law_bag" = some (.ref (He.ga K "_law_bag"))
  d__law_draw : ∃ fd, FnP K "_law_draw" s__law_draw (He.ga K "_law_draw") fd
  g__law_draw : mg "_law_draw" = some (.ref (He.ga K "_law_draw"))
  d__law_word : ∃ fd, FnP K "_law_word" s__law_word (He.ga K "_law_word") fd
  g__law_word : mg "_law_word" = some (.ref (He.ga K "_law_word"))
  d__law_bits : ∃ fd, FnP K "_law_bits" s__law_bits (He.ga K "_law_bits") fd
  g__law_bits : mg "_law_bits" = some (.ref (He.ga K "_law_bits"))
  d__law_value : ∃ fd, FnP K "_law_value" s__law_value (He.ga K "_law_value") fd
  g__law_value : mg "_law_value" = some (.ref (He.ga K "_law_value"))
  d__law_sum : ∃ fd, FnP K "_law_sum" s__law_sum (He.ga K "_law_sum") fd
  g__law_sum : mg "_law_sum" = some (.ref (He.ga K "_law_sum"))
  d__law_product : ∃ fd, FnP K "_law_product" s__law_product (He.ga K "_law_product") fd
  g__law_product : mg "_law_product" = some (.ref (He.ga K "_law_product"))
  d__law_quotient : ∃ fd, FnP K "_law_quotient" s__law_quotient (He.ga K "_law_quotient") fd
  g__law_quotient : mg "_law_quotient" = some (.ref (He.ga K "_law_quotient"))
  d__law_bitwise : ∃ fd, FnP K "_law_bitwise" s__law_bitwise (He.ga K "_law_bitwise") fd
  g__law_bitwise : mg "_law_bitwise" = some (.ref (He.ga K "_law_bitwise"))
  d__law_shifted : ∃ fd, FnP K "_law_shifted" s__law_shifted (He.ga K "_law_shifted") fd
  g__law_shifted : mg "_law_shifted" = some (.ref (He.ga K "_law_shifted"))
  d__law_compared : ∃ fd, FnP K "_law_compared" s__law_compared (He.ga K "_law_compared") fd
  g__law_compared : mg "_law_compared" = some (.ref (He.ga K "_law_compared"))
  d__law_expected : ∃ fd, FnP K "_law_expected" s__law_expected (He.ga K "_law_expected") fd
  g__law_expected : mg "_law_expected" = some (.ref (He.ga K "_law_expected"))
  d_law : ∃ fd, FnP K "law" s_law (He.ga K "law") fd
  g_law : mg "law" = some (.ref (He.ga K "law"))
  n_abs : mg "abs" = none
  n_bool : mg "bool" = none
  n_int : mg "int" = none
  n_isinstance : mg "isinstance" = none
  n_len : mg "len" = none
  n_list : mg "list" = none
  n_max : mg "max" = none
  n_min : mg "min" = none
  n_range : mg "range" = none
  n_tuple : mg "tuple" = none
  g_SIGNS : mg "SIGNS" = some (.ref (He.ga K "SIGNS"))
  t_SIGNS : ∀ H, SqT K H (He.ga K "SIGNS") (v_SIGNS.map (He.Dv.v K))
  g_ACTIONS : mg "ACTIONS" = some (.ref (He.ga K "ACTIONS"))
  k_ACTIONS : ∃ es n, KDict K w (He.ga K "ACTIONS") es n
  t_ACTIONS : ∀ q ∈ v_ACTIONS, KDct K w (He.ga K "ACTIONS") q.1 (q.2.v K)
section
variable {P : Program} {w : World} {K : PySem.W.Frag} {mg : Str → Option Value} {base : Heap}
theorem c_wrap (T : Txt w K mg) : Cal P w K mg base 1 "wrap" spWrap [] := by
  refine calD T.d_wrap T.g_wrap (fun _ _ _ _ _ _ us hl => match us, hl with | [_], _ => rfl) sc_wrap (fun vs H Q E h => ?_) (fun cdv A outer s H vs Q E hr h => ?_)
  · obtain ⟨n, rfl, _⟩ := h
    rfl
  · obtain ⟨n, rfl, q⟩ := h
    refine ⟨_, (pss_one (ps_ret (pe_op op_sub (pe_op op_mod (pe_op op_add (pv 0) pe_int) pe_int) pe_int))), ?_⟩
    exact ⟨_, rfl, _, _, rfl, rfl, _, _, rfl, rfl, (by show (0 : Int) < 65536; decide), _, _, rfl, rfl, q⟩
theorem bind2 {x : Str} {a b : Str} {st : Stmt} (hb : ∀ (kV doc pm : Value) (an : Option Addr) (cdv ct : Value) (u v : Value), bindArgs (PySem.W.fnOf x x (defArgs st) (defBody st) (defScope st) .none kV doc pm an cdv ct) ⟨[u, v], []⟩ = pure [(a, u), (b, v)]) :
    ∀ (kV doc pm : Value) (an : Option Addr) (cdv ct : Value) (us : List Value), us.length = ([a, b] : List Str).length → bindArgs (PySem.W.fnOf x x (defArgs st) (defBody st) (defScope st) .none kV doc pm an cdv ct) ⟨us, []⟩ = pure (([a, b] : List Str).zip us) :=
  fun kV doc pm an cdv ct us hl => match us, hl with | [u, v], _ => hb kV doc pm an cdv ct u v
theorem len2 {s : Sg} : ∀ vs H Q E, spAct s vs H Q E → vs.length = (["left", "right"] : List Str).length := by
  rintro vs H Q E ⟨l, r, rfl, _⟩
  rfl
theorem c_plus (T : Txt w K mg) : Cal P w K mg base 2 "_plus" (spAct .add) [] := by
  have C_wrap := c_wrap (P := P) (w := w) (base := base) T
  refine calD T.d__plus T.g__plus (bind2 fun _ _ _ _ _ _ _ _ => rfl) sc__plus len2 (fun cdv A outer s H vs Q E hr h => ?_)
  obtain ⟨l, r, rfl, hl, h2, q⟩ := h
  exact ⟨_, (pss_one (ps_ret (pe_c C_wrap hr (by decide) rfl (pa_cons (pe_op op_add (pv 0) (pv 1)) pa_nil)))), _, rfl, _, rfl, _, _, rfl, rfl, _, rfl, q⟩
theorem c_minus (T : Txt w K mg) : Cal P w K mg base 2 "_minus" (spAct .sub) [] := by
  have C_wrap := c_wrap (P := P) (w := w) (base := base) T
  refine calD T.d__minus T.g__minus (bind2 fun _ _ _ _ _ _ _ _ => rfl) sc__minus len2 (fun cdv A outer s H vs Q E hr h => ?_)
  obtain ⟨l, r, rfl, hl, h2, q⟩ := h
  exact ⟨_, (pss_one (ps_ret (pe_c C_wrap hr (by decide) rfl (pa_cons (pe_op op_sub (pv 0) (pv 1)) pa_nil)))), _, rfl, _, rfl, _, _, rfl, rfl, _, rfl, q⟩
theorem c_times (T : Txt w K mg) : Cal P w K mg base 2 "_times" (spAct .mul) [] := by
  have C_wrap := c_wrap (P := P) (w := w) (base := base) T
  refine calD T.d__times T.g__times (bind2 fun _ _ _ _ _ _ _ _ => rfl) sc__times len2 (fun cdv A outer s H vs Q E hr h => ?_)
  obtain ⟨l, r, rfl, hl, h2, q⟩ := h
  exact ⟨_, (pss_one (ps_ret (pe_c C_wrap hr (by decide) rfl (pa_cons (pe_op op_mulX (pv 0) (pv 1)) pa_nil)))), _, rfl, _, rfl, _, _, rfl, rfl, mulX hl.lg h2.lg, _, rfl, q⟩
def spQuo : Sp := fun vs H Q _ => ∃ l r : Int, vs = [.int l, .int r] ∧ Wd l ∧ Wd r ∧ r ≠ 0 ∧ Q (.int (quo l r)) H
theorem c_quo (T : Txt w K mg) : Cal P w K mg base 1 "_quotient" spQuo [] := by
  refine calD T.d__quotient T.g__quotient (bind2 fun _ _ _ _ _ _ _ _ => rfl) sc__quotient (fun vs H Q E h => ?_) (fun cdv A outer s H vs Q E hr h => ?_)
  · obtain ⟨l, r, rfl, _⟩ := h
    rfl
  · obtain ⟨l, r, rfl, hl, h2, h0, q⟩ := h
    refine ⟨_, (pss_cons (ps_set (i := 2) sc__quotient.nd rfl (Or.inl rfl) (pe_op op_fdivW (pe_callB call_abs rfl T.n_abs (by rfl) (pa_cons (pv 0) pa_nil)) (pe_callB call_abs rfl T.n_abs (by rfl) (pa_cons (pv 1) pa_nil))))
      (pss_one (ps_ret (pe_ifExp (pt_cmpR op_eq (pe_cmpR op_lt (pv 0) pe_int (nomark _)) (pe_cmpR op_lt (pv 1) pe_int (nomark _)) (nomark _)) (pv 2) (pe_un un_neg (pv 2)))))), ?_⟩
    have hr0 : 0 < ab r := by
      unfold ab
      split <;> omega
    have hr1 : (ab r).natAbs.log2 < 9000 := Nat.lt_of_le_of_lt (log2_le (n := 20) (by obtain ⟨z1, z2⟩ := h2; unfold ab; split <;> omega)) (by decide)
    refine ⟨_, rfl, _, rfl, _, rfl, _, rfl, _, _, rfl, rfl, ⟨hr0, hr1⟩, ?_⟩
    refine ⟨_, rfl, _, _, rfl, rfl, _, rfl, _, _, rfl, rfl, rfl, _, rfl, ?_⟩
    have q2 : Q (.int (if (decide (l < 0)) = (decide (r < 0)) then ab l / ab r else -(ab l / ab r))) H := q
    refine ifB (fun e => ?_) (fun e => ?_)
    · rw [if_pos (V.bl.inj (of_decide_eq_true e))] at q2
      exact ⟨_, rfl, q2⟩
    · rw [if_neg (fun z => of_decide_eq_false e (congrArg V.bl z))] at q2
      exact ⟨_, rfl, _, rfl, q2⟩
theorem c_divide (T : Txt w K mg) : Cal P w K mg base 2 "_divide" (spAct .div) [] := by
  have C_wrap := c_wrap (P := P) (w := w) (base := base) T
  have C__quotient := c_quo (P := P) (w := w) (base := base) T
  refine calD T.d__divide T.g__divide (bind2 fun _ _ _ _ _ _ _ _ => rfl) sc__divide len2 (fun cdv A outer s H vs Q E hr h => ?_)
  obtain ⟨l, r, rfl, hl, h2, q⟩ := h
  refine ⟨_, (pss_one (ps_ret (pe_ifExp (pt_cmpR op_eq (pv 1) pe_int (nomark _)) pe_non (pe_c C_wrap hr (by decide) rfl (pa_cons (pe_c C__quotient hr (by decide) rfl (pa_cons (pv 0) (pa_cons (pv 1) pa_nil))) pa_nil))))), ?_⟩
  have q2 : Q (if r = 0 then .non else .int (wr (quo l r))) H := q
  refine ⟨_, rfl, rfl, _, rfl, ifB (fun e => ?_) (fun e => ?_)⟩
  · rw [if_pos (V.int.inj (of_decide_eq_true e))] at q2
    exact q2
  · have h0 : r ≠ 0 := fun z => of_decide_eq_false e (congrArg V.int z)
    rw [if_neg h0] at q2
    exact ⟨_, rfl, _, rfl, l, r, rfl, hl, h2, h0, _, rfl, q2⟩
theorem c_rest (T : Txt w K mg) : Cal P w K mg base 2 "_rest" (spAct .rem) [] := by
  have C__quotient := c_quo (P := P) (w := w) (base := base) T
  refine calD T.d__rest T.g__rest (bind2 fun _ _ _ _ _ _ _ _ => rfl) sc__rest len2 (fun cdv A outer s H vs Q E hr h => ?_)
  obtain ⟨l, r, rfl, hl, h2, q⟩ := h
  refine ⟨_, (pss_one (ps_ret (pe_ifExp (pt_cmpR op_eq (pv 1) pe_int (nomark _)) pe_non (pe_op op_sub (pv 0) (pe_op op_mulX (pv 1) (pe_c C__quotient hr (by decide) rfl (pa_cons (pv 0) (pa_cons (pv 1) pa_nil)))))))), ?_⟩
  have q2 : Q (if r = 0 then .non else .int (l - r * quo l r)) H := q
  refine ⟨_, rfl, rfl, _, rfl, ifB (fun e => ?_) (fun e => ?_)⟩
  · rw [if_pos (V.int.inj (of_decide_eq_true e))] at q2
    exact q2
  · have h0 : r ≠ 0 := fun z => of_decide_eq_false e (congrArg V.int z)
    rw [if_neg h0] at q2
    have hq : (quo l r).natAbs.log2 ≤ 2000000 := by
      obtain ⟨m, _, _, _, lo, hi⟩ := quo_at l h0
      refine sm (Nat.lt_of_lt_of_le (show (quo l r).natAbs < 2 ^ 20 from ?_) (by decide))
      obtain ⟨z1, z2⟩ := hl
      unfold ab at lo hi
      split at lo <;> split at hi <;> omega
    exact ⟨_, rfl, _, rfl, _, rfl, _, rfl, l, r, rfl, hl, h2, h0, _, _, rfl, rfl, mulX h2.lg hq, _, _, rfl, rfl, q2⟩
theorem c_and (T : Txt w K mg) : Cal P w K mg base 1 "_both_bits" (spAct .and) [] := by
  refine calD T.d__both_bits T.g__both_bits (bind2 fun _ _ _ _ _ _ _ _ => rfl) sc__both_bits len2 (fun cdv A outer s H vs Q E hr h => ?_)
  obtain ⟨l, r, rfl, hl, h2, q⟩ := h
  exact ⟨_, (pss_one (ps_ret (pe_op op_and (pv 0) (pv 1)))), _, rfl, _, rfl, _, _, rfl, rfl, q⟩
theorem c_or (T : Txt w K mg) : Cal P w K mg base 1 "_any_bits" (spAct .or) [] := by
  refine calD T.d__any_bits T.g__any_bits (bind2 fun _ _ _ _ _ _ _ _ => rfl) sc__any_bits len2 (fun cdv A outer s H vs Q E hr h => ?_)
  obtain ⟨l, r, rfl, hl, h2, q⟩ := h
  exact ⟨_, (pss_one (ps_ret (pe_op op_or (pv 0) (pv 1)))), _, rfl, _, rfl, _, _, rfl, rfl, q⟩
theorem c_xor (T : Txt w K mg) : Cal P w K mg base 1 "_other_bits" (spAct .xor) [] := by
  refine calD T.d__other_bits T.g__other_bits (bind2 fun _ _ _ _ _ _ _ _ => rfl) sc__other_bits len2 (fun cdv A outer s H vs Q E hr h => ?_)
  obtain ⟨l, r, rfl, hl, h2, q⟩ := h
  exact ⟨_, (pss_one (ps_ret (pe_op op_xor (pv 0) (pv 1)))), _, rfl, _, rfl, _, _, rfl, rfl, q⟩
theorem c_up (T : Txt w K mg) : Cal P w K mg base 2 "_up" (spAct .shl) [] := by
  have C_wrap := c_wrap (P := P) (w := w) (base := base) T
  refine calD T.d__up T.g__up (bind2 fun _ _ _ _ _ _ _ _ => rfl) sc__up len2 (fun cdv A outer s H vs Q E hr h => ?_)
  obtain ⟨l, r, rfl, hl, h2, q⟩ := h
  refine ⟨_, (pss_one (ps_ret (pe_c C_wrap hr (by decide) rfl (pa_cons (pe_op op_shl (pv 0) (pe_op op_and (pv 1) pe_int)) pa_nil)))), ?_⟩
  have e : Builtin.bitAnd r 15 = r % 16 := bitAnd_m4 r
  refine ⟨_, rfl, _, rfl, _, _, rfl, rfl, l, Builtin.bitAnd r 15, rfl, rfl, ⟨by rw [e]; omega, by rw [e]; omega, Nat.lt_of_lt_of_le hl.sm (by decide)⟩, _, rfl, ?_⟩
  rw [e]
  exact q
theorem c_down (T : Txt w K mg) : Cal P w K mg base 1 "_down" (spAct .shr) [] := by
  refine calD T.d__down T.g__down (bind2 fun _ _ _ _ _ _ _ _ => rfl) sc__down len2 (fun cdv A outer s H vs Q E hr h => ?_)
  obtain ⟨l, r, rfl, hl, h2, q⟩ := h
  refine ⟨_, (pss_one (ps_ret (pe_op op_shr (pv 0) (pe_op op_and (pv 1) pe_int)))), ?_⟩
  have e : Builtin.bitAnd r 15 = r % 16 := bitAnd_m4 r
  refine ⟨_, rfl, _, rfl, _, _, rfl, rfl, l, Builtin.bitAnd r 15, rfl, rfl, by rw [e]; omega, ?_⟩
  rw [e]
  exact q
theorem c_equal (T : Txt w K mg) : Cal P w K mg base 1 "_equal" (spAct .eq) [] := by
  refine calD T.d__equal T.g__equal (bind2 fun _ _ _ _ _ _ _ _ => rfl) sc__equal len2 (fun cdv A outer s H vs Q E hr h => ?_)
  obtain ⟨l, r, rfl, hl, h2, q⟩ := h
  refine ⟨_, (pss_one (ps_ret (pe_callTy call_int1 rfl T.n_int (by rfl) (pa_cons (pe_cmpR op_eq (pv 0) (pv 1) (nomark _)) pa_nil)))), ?_⟩
  refine ⟨_, rfl, _, rfl, rfl, .inr ⟨_, rfl, ?_⟩⟩
  have e : decide (V.int l = V.int r) = decide (l = r) := decide_eq_decide.mpr ⟨V.int.inj, congrArg V.int⟩
  show Q (.int (b01 (decide (V.int l = V.int r)))) H
  rw [e]
  exact q
theorem c_unequal (T : Txt w K mg) : Cal P w K mg base 1 "_unequal" (spAct .ne) [] := by
  refine calD T.d__unequal T.g__unequal (bind2 fun _ _ _ _ _ _ _ _ => rfl) sc__unequal len2 (fun cdv A outer s H vs Q E hr h => ?_)
  obtain ⟨l, r, rfl, hl, h2, q⟩ := h
  refine ⟨_, (pss_one (ps_ret (pe_callTy call_int1 rfl T.n_int (by rfl) (pa_cons (pe_cmpR op_ne (pv 0) (pv 1) (nomark _)) pa_nil)))), ?_⟩
  refine ⟨_, rfl, _, rfl, rfl, .inr ⟨_, rfl, ?_⟩⟩
  have e : decide (V.int l = V.int r) = decide (l = r) := decide_eq_decide.mpr ⟨V.int.inj, congrArg V.int⟩
  show Q (.int (b01 (!decide (V.int l = V.int r)))) H
  rw [e]
  exact q
theorem c_less (T : Txt w K mg) : Cal P w K mg base 1 "_less" (spAct .lt) [] := by
  refine calD T.d__less T.g__less (bind2 fun _ _ _ _ _ _ _ _ => rfl) sc__less len2 (fun cdv A outer s H vs Q E hr h => ?_)
  obtain ⟨l, r, rfl, hl, h2, q⟩ := h
  refine ⟨_, (pss_one (ps_ret (pe_callTy call_int1 rfl T.n_int (by rfl) (pa_cons (pe_cmpR op_lt (pv 0) (pv 1) (nomark _)) pa_nil)))), ?_⟩
  refine ⟨_, rfl, _, rfl, _, _, rfl, rfl, .inr ⟨_, rfl, ?_⟩⟩
  exact q
theorem c_at_most (T : Txt w K mg) : Cal P w K mg base 1 "_at_most" (spAct .le) [] := by
  refine calD T.d__at_most T.g__at_most (bind2 fun _ _ _ _ _ _ _ _ => rfl) sc__at_most len2 (fun cdv A outer s H vs Q E hr h => ?_)
  obtain ⟨l, r, rfl, hl, h2, q⟩ := h
  refine ⟨_, (pss_one (ps_ret (pe_callTy call_int1 rfl T.n_int (by rfl) (pa_cons (pe_cmpR op_le (pv 0) (pv 1) (nomark _)) pa_nil)))), ?_⟩
  refine ⟨_, rfl, _, rfl, _, _, rfl, rfl, .inr ⟨_, rfl, ?_⟩⟩
  exact q
theorem c_more (T : Txt w K mg) : Cal P w K mg base 1 "_more" (spAct .gt) [] := by
  refine calD T.d__more T.g__more (bind2 fun _ _ _ _ _ _ _ _ => rfl) sc__more len2 (fun cdv A outer s H vs Q E hr h => ?_)
  obtain ⟨l, r, rfl, hl, h2, q⟩ := h
  refine ⟨_, (pss_one (ps_ret (pe_callTy call_int1 rfl T.n_int (by rfl) (pa_cons (pe_cmpR op_gt (pv 0) (pv 1) (nomark _)) pa_nil)))), ?_⟩
  refine ⟨_, rfl, _, rfl, _, _, rfl, rfl, .inr ⟨_, rfl, ?_⟩⟩
  exact q
theorem c_at_least (T : Txt w K mg) : Cal P w K mg base 1 "_at_least" (spAct .ge) [] := by
  refine calD T.d__at_least T.g__at_least (bind2 fun _ _ _ _ _ _ _ _ => rfl) sc__at_least len2 (fun cdv A outer s H vs Q E hr h => ?_)
  obtain ⟨l, r, rfl, hl, h2, q⟩ := h
  refine ⟨_, (pss_one (ps_ret (pe_callTy call_int1 rfl T.n_int (by rfl) (pa_cons (pe_cmpR op_ge (pv 0) (pv 1) (nomark _)) pa_nil)))), ?_⟩
  refine ⟨_, rfl, _, rfl, _, _, rfl, rfl, .inr ⟨_, rfl, ?_⟩⟩
  exact q
theorem c_op (T : Txt w K mg) : Cal P w K mg base 3 "op" spOp [] := by
  refine calD T.d_op T.g_op (fun _ _ _ _ _ _ us hl => match us, hl with | [_, _, _], _ => rfl) sc_op (fun vs H Q E h => ?_) (fun cdv A outer s H vs Q E hr h => ?_)
  · obtain ⟨z, l, r, rfl, _⟩ := h
    rfl
  · obtain ⟨z, l, r, rfl, hl, h2, q⟩ := h
    cases z with
    | add =>
      have LOCG := T.g__plus
      have LOCC := c_plus (P := P) (w := w) (base := base) T
      refine ⟨_, (pss_cons (ps_set (i := 3) sc_op.nd rfl (Or.inl rfl) (pe_ix ix_kdict (pe_gref rfl T.g_ACTIONS) (pv 0) (fun _ _ => rfl)))
      (pss_one (ps_ret (pe_loc LOCG LOCC hr (by decide) (i := 3) rfl (Or.inl rfl) (pa_cons (pv 1) (pa_cons (pv 2) pa_nil)))))), ?_⟩
      exact ⟨_, rfl, _, _, .ref (He.ga K "_plus"), rfl, rfl, T.t_ACTIONS _ (List.mem_of_getElem? (l := v_ACTIONS) (i := 0) rfl), rfl, _, rfl, _, rfl, l, r, rfl, hl, h2, q⟩
    | sub =>
      have LOCG := T.g__minus
      have LOCC := c_minus (P := P) (w := w) (base := base) T
      refine ⟨_, (pss_cons (ps_set (i := 3) sc_op.nd rfl (Or.inl rfl) (pe_ix ix_kdict (pe_gref rfl T.g_ACTIONS) (pv 0) (fun _ _ => rfl)))
      (pss_one (ps_ret (pe_loc LOCG LOCC hr (by decide) (i := 3) rfl (Or.inl rfl) (pa_cons (pv 1) (pa_cons (pv 2) pa_nil)))))), ?_⟩
      exact ⟨_, rfl, _, _, .ref (He.ga K "_minus"), rfl, rfl, T.t_ACTIONS _ (List.mem_of_getElem? (l := v_ACTIONS) (i := 1) rfl), rfl, _, rfl, _, rfl, l, r, rfl, hl, h2, q⟩
    | mul =>
      have LOCG := T.g__times
      have LOCC := c_times (P := P) (w := w) (base := base) T
      refine ⟨_, (pss_cons (ps_set (i := 3) sc_op.nd rfl (Or.inl rfl) (pe_ix ix_kdict (pe_gref rfl T.g_ACTIONS) (pv 0) (fun _ _ => rfl)))
      (pss_one (ps_ret (pe_loc LOCG LOCC hr (by decide) (i := 3) rfl (Or.inl rfl) (pa_cons (pv 1) (pa_cons (pv 2) pa_nil)))))), ?_⟩
      exact ⟨_, rfl, _, _, .ref (He.ga K "_times"), rfl, rfl, T.t_ACTIONS _ (List.mem_of_getElem? (l := v_ACTIONS) (i := 2) rfl), rfl, _, rfl, _, rfl, l, r, rfl, hl, h2, q⟩
    | div =>
      have LOCG := T.g__divide
      have LOCC := c_divide (P := P) (w := w) (base := base) T
      refine ⟨_, (pss_cons (ps_set (i := 3) sc_op.nd rfl (Or.inl rfl) (pe_ix ix_kdict (pe_gref rfl T.g_ACTIONS) (pv 0) (fun _ _ => rfl)))
      (pss_one (ps_ret (pe_loc LOCG LOCC hr (by decide) (i := 3) rfl (Or.inl rfl) (pa_cons (pv 1) (pa_cons (pv 2) pa_nil)))))), ?_⟩
      exact ⟨_, rfl, _, _, .ref (He.ga K "_divide"), rfl, rfl, T.t_ACTIONS _ (List.mem_of_getElem? (l := v_ACTIONS) (i := 3) rfl), rfl, _, rfl, _, rfl, l, r, rfl, hl, h2, q⟩
    | rem =>
      have LOCG := T.g__rest
      have LOCC := c_rest (P := P) (w := w) (base := base) T
      refine ⟨_, (pss_cons (ps_set (i := 3) sc_op.nd rfl (Or.inl rfl) (pe_ix ix_kdict (pe_gref rfl T.g_ACTIONS) (pv 0) (fun _ _ => rfl)))
      (pss_one (ps_ret (pe_loc LOCG LOCC hr (by decide) (i := 3) rfl (Or.inl rfl) (pa_cons (pv 1) (pa_cons (pv 2) pa_nil)))))), ?_⟩
      exact ⟨_, rfl, _, _, .ref (He.ga K "_rest"), rfl, rfl, T.t_ACTIONS _ (List.mem_of_getElem? (l := v_ACTIONS) (i := 4) rfl), rfl, _, rfl, _, rfl, l, r, rfl, hl, h2, q⟩
    | and =>
      have LOCG := T.g__both_bits
      have LOCC := c_and (P := P) (w := w) (base := base) T
      refine ⟨_, (pss_cons (ps_set (i := 3) sc_op.nd rfl (Or.inl rfl) (pe_ix ix_kdict (pe_gref rfl T.g_ACTIONS) (pv 0) (fun _ _ => rfl)))
      (pss_one (ps_ret (pe_loc LOCG LOCC hr (by decide) (i := 3) rfl (Or.inl rfl) (pa_cons (pv 1) (pa_cons (pv 2) pa_nil)))))), ?_⟩
      exact ⟨_, rfl, _, _, .ref (He.ga K "_both_bits"), rfl, rfl, T.t_ACTIONS _ (List.mem_of_getElem? (l := v_ACTIONS) (i := 5) rfl), rfl, _, rfl, _, rfl, l, r, rfl, hl, h2, q⟩
    | or =>
      have LOCG := T.g__any_bits
      have LOCC := c_or (P := P) (w := w) (base := base) T
      refine ⟨_, (pss_cons (ps_set (i := 3) sc_op.nd rfl (Or.inl rfl) (pe_ix ix_kdict (pe_gref rfl T.g_ACTIONS) (pv 0) (fun _ _ => rfl)))
      (pss_one (ps_ret (pe_loc LOCG LOCC hr (by decide) (i := 3) rfl (Or.inl rfl) (pa_cons (pv 1) (pa_cons (pv 2) pa_nil)))))), ?_⟩
      exact ⟨_, rfl, _, _, .ref (He.ga K "_any_bits"), rfl, rfl, T.t_ACTIONS _ (List.mem_of_getElem? (l := v_ACTIONS) (i := 6) rfl), rfl, _, rfl, _, rfl, l, r, rfl, hl, h2, q⟩
    | xor =>
      have LOCG := T.g__other_bits
      have LOCC := c_xor (P := P) (w := w) (base := base) T
      refine ⟨_, (pss_cons (ps_set (i := 3) sc_op.nd rfl (Or.inl rfl) (pe_ix ix_kdict (pe_gref rfl T.g_ACTIONS) (pv 0) (fun _ _ => rfl)))
      (pss_one (ps_ret (pe_loc LOCG LOCC hr (by decide) (i := 3) rfl (Or.inl rfl) (pa_cons (pv 1) (pa_cons (pv 2) pa_nil)))))), ?_⟩
      exact ⟨_, rfl, _, _, .ref (He.ga K "_other_bits"), rfl, rfl, T.t_ACTIONS _ (List.mem_of_getElem? (l := v_ACTIONS) (i := 7) rfl), rfl, _, rfl, _, rfl, l, r, rfl, hl, h2, q⟩
    | shl =>
      have LOCG := T.g__up
      have LOCC := c_up (P := P) (w := w) (base := base) T
      refine ⟨_, (pss_cons (ps_set (i := 3) sc_op.nd rfl (Or.inl rfl) (pe_ix ix_kdict (pe_gref rfl T.g_ACTIONS) (pv 0) (fun _ _ => rfl)))
      (pss_one (ps_ret (pe_loc LOCG LOCC hr (by decide) (i := 3) rfl (Or.inl rfl) (pa_cons (pv 1) (pa_cons (pv 2) pa_nil)))))), ?_⟩
      exact ⟨_, rfl, _, _, .ref (He.ga K "_up"), rfl, rfl, T.t_ACTIONS _ (List.mem_of_getElem? (l := v_ACTIONS) (i := 8) rfl), rfl, _, rfl, _, rfl, l, r, rfl, hl, h2, q⟩
    | shr =>
      have LOCG := T.g__down
      have LOCC := c_down (P := P) (w := w) (base := base) T
      refine ⟨_, (pss_cons (ps_set (i := 3) sc_op.nd rfl (Or.inl rfl) (pe_ix ix_kdict (pe_gref rfl T.g_ACTIONS) (pv 0) (fun _ _ => rfl)))
      (pss_one (ps_ret (pe_loc LOCG LOCC hr (by decide) (i := 3) rfl (Or.inl rfl) (pa_cons (pv 1) (pa_cons (pv 2) pa_nil)))))), ?_⟩
      exact ⟨_, rfl, _, _, .ref (He.ga K "_down"), rfl, rfl, T.t_ACTIONS _ (List.mem_of_getElem? (l := v_ACTIONS) (i := 9) rfl), rfl, _, rfl, _, rfl, l, r, rfl, hl, h2, q⟩
    | eq =>
      have LOCG := T.g__equal
      have LOCC := c_equal (P := P) (w := w) (base := base) T
      refine ⟨_, (pss_cons (ps_set (i := 3) sc_op.nd rfl (Or.inl rfl) (pe_ix ix_kdict (pe_gref rfl T.g_ACTIONS) (pv 0) (fun _ _ => rfl)))
      (pss_one (ps_ret (pe_loc LOCG LOCC hr (by decide) (i := 3) rfl (Or.inl rfl) (pa_cons (pv 1) (pa_cons (pv 2) pa_nil)))))), ?_⟩
      exact ⟨_, rfl, _, _, .ref (He.ga K "_equal"), rfl, rfl, T.t_ACTIONS _ (List.mem_of_getElem? (l := v_ACTIONS) (i := 10) rfl), rfl, _, rfl, _, rfl, l, r, rfl, hl, h2, q⟩
    | ne =>
      have LOCG := T.g__unequal
      have LOCC := c_unequal (P := P) (w := w) (base := base) T
      refine ⟨_, (pss_cons (ps_set (i := 3) sc_op.nd rfl (Or.inl rfl) (pe_ix ix_kdict (pe_gref rfl T.g_ACTIONS) (pv 0) (fun _ _ => rfl)))
      (pss_one (ps_ret (pe_loc LOCG LOCC hr (by decide) (i := 3) rfl (Or.inl rfl) (pa_cons (pv 1) (pa_cons (pv 2) pa_nil)))))), ?_⟩
      exact ⟨_, rfl, _, _, .ref (He.ga K "_unequal"), rfl, rfl, T.t_ACTIONS _ (List.mem_of_getElem? (l := v_ACTIONS) (i := 11) rfl), rfl, _, rfl, _, rfl, l, r, rfl, hl, h2, q⟩
    | lt =>
      have LOCG := T.g__less
      have LOCC := c_less (P := P) (w := w) (base := base) T
      refine ⟨_, (pss_cons (ps_set (i := 3) sc_op.nd rfl (Or.inl rfl) (pe_ix ix_kdict (pe_gref rfl T.g_ACTIONS) (pv 0) (fun _ _ => rfl)))
      (pss_one (ps_ret (pe_loc LOCG LOCC hr (by decide) (i := 3) rfl (Or.inl rfl) (pa_cons (pv 1) (pa_cons (pv 2) pa_nil)))))), ?_⟩
      exact ⟨_, rfl, _, _, .ref (He.ga K "_less"), rfl, rfl, T.t_ACTIONS _ (List.mem_of_getElem? (l := v_ACTIONS) (i := 12) rfl), rfl, _, rfl, _, rfl, l, r, rfl, hl, h2, q⟩
    | le =>
      have LOCG := T.g__at_most
      have LOCC := c_at_most (P := P) (w := w) (base := base) T
      refine ⟨_, (pss_cons (ps_set (i := 3) sc_op.nd rfl (Or.inl rfl) (pe_ix ix_kdict (pe_gref rfl T.g_ACTIONS) (pv 0) (fun _ _ => rfl)))
      (pss_one (ps_ret (pe_loc LOCG LOCC hr (by decide) (i := 3) rfl (Or.inl rfl) (pa_cons (pv 1) (pa_cons (pv 2) pa_nil)))))), ?_⟩
      exact ⟨_, rfl, _, _, .ref (He.ga K "_at_most"), rfl, rfl, T.t_ACTIONS _ (List.mem_of_getElem? (l := v_ACTIONS) (i := 13) rfl), rfl, _, rfl, _, rfl, l, r, rfl, hl, h2, q⟩
    | gt =>
      have LOCG := T.g__more
      have LOCC := c_more (P := P) (w := w) (base := base) T
      refine ⟨_, (pss_cons (ps_set (i := 3) sc_op.nd rfl (Or.inl rfl) (pe_ix ix_kdict (pe_gref rfl T.g_ACTIONS) (pv 0) (fun _ _ => rfl)))
      (pss_one (ps_ret (pe_loc LOCG LOCC hr (by decide) (i := 3) rfl (Or.inl rfl) (pa_cons (pv 1) (pa_cons (pv 2) pa_nil)))))), ?_⟩
      exact ⟨_, rfl, _, _, .ref (He.ga K "_more"), rfl, rfl, T.t_ACTIONS _ (List.mem_of_getElem? (l := v_ACTIONS) (i := 14) rfl), rfl, _, rfl, _, rfl, l, r, rfl, hl, h2, q⟩
    | ge =>
      have LOCG := T.g__at_least
      have LOCC := c_at_least (P := P) (w := w) (base := base) T
      refine ⟨_, (pss_cons (ps_set (i := 3) sc_op.nd rfl (Or.inl rfl) (pe_ix ix_kdict (pe_gref rfl T.g_ACTIONS) (pv 0) (fun _ _ => rfl)))
      (pss_one (ps_ret (pe_loc LOCG LOCC hr (by decide) (i := 3) rfl (Or.inl rfl) (pa_cons (pv 1) (pa_cons (pv 2) pa_nil)))))), ?_⟩
      exact ⟨_, rfl, _, _, .ref (He.ga K "_at_least"), rfl, rfl, T.t_ACTIONS _ (List.mem_of_getElem? (l := v_ACTIONS) (i := 15) rfl), rfl, _, rfl, _, rfl, l, r, rfl, hl, h2, q⟩
end
end Pf
set_option Elab.async false
set_option linter.all false
set_option maxRecDepth 100000
set_option maxHeartbeats 4000000
namespace Pf
open PySem PySem.Spec PyProof.Rows L2 Wc
open C8 (Cal pe_c pe_gc)
section
variable {P : Program} {w : World} {K : PySem.W.Frag} {mg : Str → Option Value} {base : Heap}
theorem c_draw (T : Txt w K mg) : Cal P w K mg base 1 "_law_draw" spDraw [] := by
  refine calD T.d__law_draw T.g__law_draw (fun _ _ _ _ _ _ us hl => match us, hl with | [_, _], _ => rfl) sc__law_draw (fun vs H Q E h => ?_) (fun cdv A outer s H vs Q E hr h => ?_)
  · obtain ⟨p, m, rfl, _⟩ := h
    rfl
  · obtain ⟨p, m, rfl, ⟨b, ok, hp⟩, hm, hm2, q0⟩ := h
    have q : Q (.int (b.val m)) (upd H p (.lst (b.next m).vals)) := q0 _ _ (b.val_lo hm) (b.val_hi hm) ⟨_, ok.next m, upd_same⟩ (Keep.refl p H).own
    refine ⟨_, (pss_cons (ps_if (pt_cmpR op_eq (pe_ix ix_list (pv 0) pe_int (fun _ _ => rfl)) pe_int (nomark _)) (pss_cons (ps_set (i := 2) sc__law_draw.nd rfl (Or.inl rfl) (pe_op op_mod (pe_callTy call_int1 rfl T.n_int (by rfl) (pa_cons (pe_op op_add (pe_op op_add (pe_op op_mulX (pe_ix ix_list (pv 0) pe_int (fun _ _ => rfl)) pe_int) (pe_op op_mulX (pe_ix ix_list (pv 0) pe_int (fun _ _ => rfl)) pe_int)) pe_int) pa_nil)) pe_int))
      (pss_cons (ps_asg (pe_op op_add (pe_op op_mulX (pv 2) pe_int) (pe_op op_mod (pe_callTy call_int1 rfl T.n_int (by rfl) (pa_cons (pe_op op_add (pe_op op_mulX (pv 2) (pv 2)) (pe_op op_mulX (pe_ix ix_list (pv 0) pe_int (fun _ _ => rfl)) pe_int)) pa_nil)) pe_int)) (pg_sub (pv 0) pe_int set_list))
      (pss_one (ps_asg (pv 2) (pg_sub (pv 0) pe_int set_list))))) pss_nil)
      (pss_cons (ps_set (i := 3) sc__law_draw.nd rfl (Or.inl rfl) (pe_ix ix_list (pv 0) pe_int (fun _ _ => rfl)))
      (pss_cons (ps_asg (pe_op op_fdivW (pv 3) (pv 1)) (pg_sub (pv 0) pe_int set_list))
      (pss_one (ps_ret (pe_op op_mod (pe_callTy call_int1 rfl T.n_int (by rfl) (pa_cons (pv 3) pa_nil)) (pv 1))))))), ?_⟩
    -- the first item: is it 0
    refine ⟨_, rfl, p, b.vals, 0, .int b.r, rfl, rfl, SqL.of hp, rfl, rfl, _, rfl, ?_⟩
    refine ifB (fun e => ?_) (fun e => ?_)
    · have e0 : b.r = 0 := V.int.inj (of_decide_eq_true e)
      have ef : b.fill = ⟨b.seed * 2147483629 + (b.seed * b.seed + b.k * 16807) % 2147483629, b.seed, b.k⟩ := if_pos e0
      have hs : b.s.natAbs.log2 ≤ 2000000 := Nat.le_trans ok.s (by decide)
      have hk : b.k.natAbs.log2 ≤ 2000000 := sm (Nat.lt_of_lt_of_le ok.k (by decide))
      have hz : b.seed.natAbs.log2 ≤ 2000000 := sm (by have := b.seed_lo; have := b.seed_hi; omega)
      refine ⟨_, rfl, p, b.vals, 1, .int b.s, rfl, rfl, SqL.of hp, rfl, _, _, rfl, rfl, mulX hs (sm (by decide)), ?_⟩
      refine ⟨_, rfl, p, b.vals, 2, .int b.k, rfl, rfl, SqL.of hp, rfl, _, _, rfl, rfl, mulX hk (sm (by decide)), _, _, rfl, rfl, _, _, rfl, rfl, .inl ⟨_, rfl, _, _, rfl, rfl, (by show (0 : Int) < 2147483647; decide), ?_⟩⟩
      refine ⟨_, rfl, b.seed, _, rfl, rfl, mulX hz (sm (by decide)), _, rfl, _, rfl, b.seed, b.seed, rfl, rfl, mulX hz hz, ?_⟩
      refine ⟨_, rfl, p, b.vals, 2, .int b.k, rfl, rfl, SqL.of hp, rfl, _, _, rfl, rfl, mulX hk (sm (by decide)), _, _, rfl, rfl, .inl ⟨_, rfl, _, _, rfl, rfl, (by show (0 : Int) < 2147483629; decide), ?_⟩⟩
      refine ⟨_, _, rfl, rfl, _, rfl, p, b.vals, 0, 0, rfl, rfl, hp, rfl, ?_⟩
      refine ⟨_, rfl, _, rfl, p, _, 1, 1, rfl, rfl, upd_same, rfl, ?_⟩
      refine ⟨_, rfl, p, _, 0, _, rfl, rfl, SqL.of upd_same, rfl, ?_⟩
      refine ⟨_, rfl, _, rfl, _, _, rfl, rfl, ⟨hm, hm2⟩, _, rfl, p, _, 0, 0, rfl, rfl, upd_same, rfl, ?_⟩
      refine ⟨_, rfl, .inl ⟨_, rfl, _, rfl, _, _, rfl, rfl, hm, ?_⟩⟩
      rw [upd_upd, upd_upd]
      unfold Bag.val Bag.next at q
      rw [ef] at q
      exact q
    · have e0 : ¬ b.r = 0 := fun z => of_decide_eq_false e (congrArg V.int z)
      have ef : b.fill = b := if_neg e0
      refine ⟨_, rfl, p, b.vals, 0, .int b.r, rfl, rfl, SqL.of hp, rfl, ?_⟩
      refine ⟨_, rfl, _, rfl, _, _, rfl, rfl, ⟨hm, hm2⟩, _, rfl, p, b.vals, 0, 0, rfl, rfl, hp, rfl, ?_⟩
      refine ⟨_, rfl, .inl ⟨_, rfl, _, rfl, _, _, rfl, rfl, hm, ?_⟩⟩
      unfold Bag.val Bag.next at q
      rw [ef] at q
      exact q
theorem c_bag (T : Txt w K mg) : Cal P w K mg base 1 "_law_bag" (spBag K) [] := by
  refine calD T.d__law_bag T.g__law_bag (fun _ _ _ _ _ _ us hl => match us, hl with | [_, _], _ => rfl) sc__law_bag (fun vs H Q E h => ?_) (fun cdv A outer s H vs Q E hr h => ?_)
  · obtain ⟨a, ns, k, rfl, _⟩ := h
    rfl
  · obtain ⟨a, ns, k, rfl, hS, hb, k0, k1, q⟩ := h
    have kk : k.natAbs < 2 ^ 60 := by omega
    have fin : ∀ c : Int, c.natAbs.log2 ≤ 1048576 → (∀ p, H p = none → Q (.ref p) (upd H p (.lst [.int c, .int c, .int k]))) ∧ ∀ p, H p = none → Q (.ref p) (upd H p (.lst [.int 0, .int c, .int k])) :=
      fun c hc => ⟨fun p hp => q p _ hp ⟨⟨c, c, k⟩, ⟨hc, kk⟩, upd_same⟩ (Same_upd hp), fun p hp => q p _ hp ⟨⟨0, c, k⟩, ⟨hc, kk⟩, upd_same⟩ (Same_upd hp)⟩
    refine ⟨_, (pss_cons (ps_set (i := 2) sc__law_bag.nd rfl (Or.inl rfl) pe_int)
      (pss_cons (ps_if (pt_cmpR op_lt (pv 1) (pe_callB call_len_seq rfl T.n_len (by rfl) (pa_cons (pv 0) pa_nil)) (nomark _)) (pss_one (ps_set (i := 2) sc__law_bag.nd rfl (Or.inl rfl) (pe_callTy call_int1 rfl T.n_int (by rfl) (pa_cons (pe_ix ix_list (pv 0) (pv 1) (fun _ _ => rfl)) pa_nil)))) pss_nil)
      (pss_cons (ps_if (pt_cmpR op_ge (pv 2) (pe_op op_pow pe_int pe_int) (nomark _)) (pss_one (ps_ret (pe_lst (pa_cons (pv 2) (pa_cons (pv 2) (pa_cons (pv 1) pa_nil)))))) pss_nil)
      (pss_one (ps_ret (pe_lst (pa_cons pe_int (pa_cons (pv 2) (pa_cons (pv 1) pa_nil))))))))), ?_⟩
    refine ⟨_, rfl, _, rfl, a, _, rfl, .inl hS, _, _, rfl, rfl, _, rfl, ?_⟩
    refine ifB (fun e => ?_) (fun e => ?_)
    · have hk : k < ns.length := by simpa using of_decide_eq_true e
      obtain ⟨j, rfl⟩ := Int.eq_ofNat_of_zero_le k0
      have hj : j < ns.length := by omega
      have hi : (ns.map V.int)[j]? = some (.int ns[j]) := by rw [List.getElem?_map, List.getElem?_eq_getElem hj] <;> rfl
      have fj := fin ns[j] (bits_log (hb _ (List.getElem_mem hj)))
      refine ⟨_, rfl, _, rfl, a, _, _, _, rfl, rfl, hS, atI_nat hi, .inl ⟨_, rfl, ?_⟩⟩
      refine ⟨_, rfl, _, _, rfl, rfl, ⟨by decide, by decide, by decide⟩, _, _, rfl, rfl, _, rfl, ?_⟩
      refine ifB (fun _ => ?_) (fun _ => ?_)
      · exact ⟨_, rfl, _, rfl, _, rfl, (by show 3 ≤ sizeLine; decide), fj.1⟩
      · exact ⟨_, rfl, _, rfl, (by show 3 ≤ sizeLine; decide), fj.2⟩
    · have f0 := fin 0 (by decide)
      refine ⟨_, rfl, _, _, rfl, rfl, ⟨by decide, by decide, by decide⟩, _, _, rfl, rfl, _, rfl, ?_⟩
      refine ifB (fun _ => ?_) (fun _ => ?_)
      · exact ⟨_, rfl, _, rfl, _, rfl, (by show 3 ≤ sizeLine; decide), f0.1⟩
      · exact ⟨_, rfl, _, rfl, (by show 3 ≤ sizeLine; decide), f0.2⟩
end
end Pf
set_option Elab.async false
set_option linter.all false
set_option maxRecDepth 100000
set_option maxHeartbeats 4000000
namespace Pf
open PySem PySem.Spec PyProof.Rows L2 Wc
open C8 (Cal pe_c pe_gc)
section
variable {P : Program} {w : World} {K : PySem.W.Frag} {mg : Str → Option Value} {base : Heap}
/-- a drawn word -/
def spWord : Sp := fun vs H Q _ => ∃ (p : Addr) (o : Int), vs = [.ref p, .int o] ∧ Bg H p ∧ Wd o ∧ ∀ (n : Int) (H' : Hp), Wd n → Bg H' p → Keep p H H' → Q (.int n) H'
theorem c_word (T : Txt w K mg) : Cal P w K mg base 2 "_law_word" spWord [] := by
  have C__law_draw := c_draw (P := P) (w := w) (base := base) T
  refine calD T.d__law_word T.g__law_word (fun _ _ _ _ _ _ us hl => match us, hl with | [_, _], _ => rfl) sc__law_word (fun vs H Q E h => ?_) (fun cdv A outer s H vs Q E hr h => ?_)
  · obtain ⟨p, o, rfl, _⟩ := h
    rfl
  · obtain ⟨p, o, rfl, bg, ho, q⟩ := h
    refine ⟨_, (pss_cons (ps_set (i := 2) sc__law_word.nd rfl (Or.inl rfl) (pe_c C__law_draw hr (by decide) rfl (pa_cons (pv 0) (pa_cons pe_int pa_nil))))
      (pss_cons (ps_if (pt_cmpR op_lt (pv 2) pe_int (nomark _)) (pss_one (ps_ret (pe_op op_sub (pe_c C__law_draw hr (by decide) rfl (pa_cons (pv 0) (pa_cons pe_int pa_nil))) pe_int))) pss_nil)
      (pss_cons (ps_if (pt_cmpR op_eq (pv 2) pe_int (nomark _)) (pss_one (ps_ret (pe_op op_sub (pe_c C__law_draw hr (by decide) rfl (pa_cons (pv 0) (pa_cons pe_int pa_nil))) pe_int))) pss_nil)
      (pss_cons (ps_if (pt_cmpR op_eq (pv 2) pe_int (nomark _)) (pss_one (ps_ret (pv 1))) pss_nil)
      (pss_one (ps_ret (pe_ix ix_list (pe_lst (pa_cons pe_int (pa_cons pe_int (pa_cons (pe_un un_neg pe_int) (pa_cons pe_int (pa_cons (pe_un un_neg pe_int) (pa_cons pe_int (pa_cons pe_int (pa_cons (pe_un un_neg pe_int) (pa_cons pe_int (pa_cons pe_int pa_nil))))))))))) (pe_c C__law_draw hr (by decide) rfl (pa_cons (pv 0) (pa_cons pe_int pa_nil))) (fun _ _ => rfl)))))))), ?_⟩
    refine ⟨_, rfl, p, 8, rfl, bg, by decide, by decide, fun z H1 lo hi bg1 k1 => ?_⟩
    refine ⟨_, rfl, _, _, rfl, rfl, _, rfl, ifB (fun _ => ?_) (fun _ => ?_)⟩
    · refine ⟨_, rfl, p, 65536, rfl, bg1, by decide, by decide, fun z H2 lo hi bg2 k2 => ⟨_, _, rfl, rfl, q _ _ ⟨by omega, by omega⟩ bg2 (k1.trans k2)⟩⟩
    refine ⟨_, rfl, rfl, _, rfl, ifB (fun _ => ?_) (fun _ => ?_)⟩
    · refine ⟨_, rfl, p, 41, rfl, bg1, by decide, by decide, fun z H2 lo hi bg2 k2 => ⟨_, _, rfl, rfl, q _ _ ⟨by omega, by omega⟩ bg2 (k1.trans k2)⟩⟩
    refine ⟨_, rfl, rfl, _, rfl, ifB (fun _ => ?_) (fun _ => ?_)⟩
    · exact ⟨_, rfl, q _ _ ho bg1 k1⟩
    refine ⟨_, rfl, _, rfl, _, rfl, by show 10 ≤ sizeLine; decide, fun l nl => ?_⟩
    refine ⟨_, rfl, p, 10, rfl, (Same_upd nl).bgw bg1, by decide, by decide, fun z2 H2 lo2 hi2 bg2 k2 => ?_⟩
    have hl2 := k2 l _ upd_same (bg1.ne nl).symm
    refine ⟨l, ([0, 1, -1, 32767, -32768, 16, 15, -32767, 256, 255] : List Int).map V.int, _, _, rfl, rfl, SqL.of hl2, menu _ lo2 hi2, ?_⟩
    refine q _ _ (menu_all (q := Wd) _ (fun x hx => ?_) ⟨by decide, by decide⟩ _) bg2 ((k1.trans (Same_upd nl).keepw).trans k2)
    simp only [List.mem_cons, List.not_mem_nil, or_false] at hx
    rcases hx with rfl | rfl | rfl | rfl | rfl | rfl | rfl | rfl | rfl | rfl <;> exact ⟨by decide, by decide⟩
/-- a word's bits, in a new list -/
def spBits : Sp := fun vs H Q _ => ∃ a : Int, vs = [.int a] ∧ Wd a ∧ New H (.lst (BL a)) Q
def BitI (a u : Int) (p : Addr) (H0 : Hp) : Nat → L2.St → Hp → Prop := fun i σ H => ∃ x, σ = [some (.int a), some (.int (u / 2 ^ i)), some (V.ref p), x] ∧ H p = some (.lst ((List.range i).map fun k => V.int (bit u k))) ∧ Same H0 H
theorem c_bits (T : Txt w K mg) : Cal P w K mg base 1 "_law_bits" spBits [] := by
  refine calD T.d__law_bits T.g__law_bits (fun _ _ _ _ _ _ us hl => match us, hl with | [_], _ => rfl) sc__law_bits (fun vs H Q E h => ?_) (fun cdv A outer s H vs Q E hr h => ?_)
  · obtain ⟨p, rfl, _⟩ := h
    rfl
  · obtain ⟨a, rfl, ha, q⟩ := h
    have rest : ∀ u : Int, BL u = BL a → ∀ p, H p = none → ∀ σ, σ = [some (.int a), some (.int u), some (V.ref p), none] → BitI a u p H 0 σ (upd H p (.lst [])) := fun u _ p np σ e => by
      rw [e]
      exact ⟨_, by rw [Int.pow_zero, Int.ediv_one], upd_same, Same_upd np⟩
    have turn : ∀ u : Int, ∀ p, H p = none → ∀ (i : Nat) (H1 : Hp), i < 16 → H1 p = some (.lst ((List.range i).map fun k => V.int (bit u k))) → Same H H1 →
        BitI a u p H (i + 1) [some (.int a), some (.int (u / 2 ^ i / 2)), some (V.ref p), some (.int (0 + i))] (upd H1 p (.lst ((List.range i).map (fun k => V.int (bit u k)) ++ [.int (u / 2 ^ i % 2)]))) := fun u p np i H1 hi hp sm => by
      refine ⟨_, by rw [Wc.div_pow_succ], ?_, ?_⟩
      · rw [List.range_succ, List.map_append]
        exact upd_same
      · intro b o hb
        rw [upd_ne (ne_of_none hb np)]
        exact sm b o hb
    refine ⟨_, (pss_cons (ps_set (i := 1) sc__law_bits.nd rfl (Or.inl rfl) (pv 0))
      (pss_cons (ps_if (pt_cmpR op_lt (pv 0) pe_int (nomark _)) (pss_one (ps_set (i := 1) sc__law_bits.nd rfl (Or.inl rfl) (pe_op op_add (pv 0) pe_int))) pss_nil)
      (pss_cons (ps_set (i := 2) sc__law_bits.nd rfl (Or.inl rfl) (pe_lst pa_nil))
      (pss_cons (ps_for PassesOwn.never rfl (pi_range1 rfl T.n_range (pa_cons pe_int pa_nil)) (pg_name (i := 3) sc__law_bits.nd rfl (Or.inl rfl))
      (pss_cons (ps_expr (pe_bm PySem.F.plainAttrs_list PySem.F.slot_list_append PySem.F.type_list_append mt_append (pv 2) (pa_cons (pe_op op_mod (pe_callTy call_int1 rfl T.n_int (by rfl) (pa_cons (pv 1) pa_nil)) pe_int) pa_nil)))
      (pss_one (ps_set (i := 1) sc__law_bits.nd rfl (Or.inl rfl) (pe_op op_fdivW (pv 1) pe_int)))))
      (pss_one (ps_ret (pv 2))))))), ?_⟩
    refine ⟨_, rfl, _, rfl, _, _, rfl, rfl, _, rfl, ifB (fun e => ?_) (fun e => ?_)⟩
    · have eu : BL (a + 65536) = BL a := BL_congr (wr_eq 1 (by omega))
      refine ⟨_, rfl, _, _, rfl, rfl, by show 0 ≤ sizeLine; decide, fun p np => ⟨16, rfl, by decide, by decide, for_range (n := 16) (BitI a (a + 65536) p H) (rest _ eu p np _ rfl) ?_ ?_⟩⟩
      · rintro i σ H1 hi ⟨x, rfl, hp, sm⟩
        refine ⟨_, rfl, .inl ⟨rfl, _, .inl (.inl hp)⟩, _, rfl, .inl ⟨_, rfl, _, _, rfl, rfl, (by show (0 : Int) < 2; decide), ?_⟩⟩
        refine ⟨p, _, _, rfl, rfl, hp, by rw [List.length_map, List.length_range]; exact small1000 (by omega), ?_⟩
        exact ⟨_, rfl, _, _, rfl, rfl, ⟨by decide, by decide⟩, turn _ p np i H1 hi hp sm⟩
      · rintro σ H1 ⟨x, rfl, hp, sm⟩
        refine ⟨_, rfl, q p H1 np ?_ sm⟩
        rw [hp, ← eu]
        rfl
    · refine ⟨by show 0 ≤ sizeLine; decide, fun p np => ⟨16, rfl, by decide, by decide, for_range (n := 16) (BitI a a p H) (rest _ rfl p np _ rfl) ?_ ?_⟩⟩
      · rintro i σ H1 hi ⟨x, rfl, hp, sm⟩
        refine ⟨_, rfl, .inl ⟨rfl, _, .inl (.inl hp)⟩, _, rfl, .inl ⟨_, rfl, _, _, rfl, rfl, (by show (0 : Int) < 2; decide), ?_⟩⟩
        refine ⟨p, _, _, rfl, rfl, hp, by rw [List.length_map, List.length_range]; exact small1000 (by omega), ?_⟩
        exact ⟨_, rfl, _, _, rfl, rfl, ⟨by decide, by decide⟩, turn _ p np i H1 hi hp sm⟩
      · rintro σ H1 ⟨x, rfl, hp, sm⟩
        exact ⟨_, rfl, q p H1 np hp sm⟩
end
end Pf
set_option Elab.async false
set_option linter.all false
set_option maxRecDepth 100000
set_option maxHeartbeats 4000000
namespace Pf
open PySem PySem.Spec PyProof.Rows L2 Wc
open C8 (Cal pe_c pe_gc)
section
variable {P : Program} {w : World} {K : PySem.W.Frag} {mg : Str → Option Value} {base : Heap}
/-- the value of bits -/
def spValue (K : PySem.W.Frag) : Sp := fun vs H Q _ => ∃ (p : Addr) (a : Int), vs = [.ref p] ∧ SqL K H p (BL a) ∧ ∀ H', Same H H' → Q (.int (wr a)) H'
def ValI (p : Addr) (a : Int) (H0 : Hp) : Nat → L2.St → Hp → Prop := fun i σ H => ∃ x, σ = [some (V.ref p), some (.int (a % 2 ^ i)), x] ∧ Same H0 H
theorem pows15 : ∀ k, k < 15 → ([1, 2, 4, 8, 16, 32, 64, 128, 256, 512, 1024, 2048, 4096, 8192, 16384] : List Int).getD k 0 = 2 ^ k := by decide
theorem c_value (T : Txt w K mg) : Cal P w K mg base 1 "_law_value" (spValue K) [] := by
  refine calD T.d__law_value T.g__law_value (fun _ _ _ _ _ _ us hl => match us, hl with | [_], _ => rfl) sc__law_value (fun vs H Q E h => ?_) (fun cdv A outer s H vs Q E hr h => ?_)
  · obtain ⟨p, a, rfl, _⟩ := h
    rfl
  · obtain ⟨p, a, rfl, hS, q⟩ := h
    refine ⟨_, (pss_cons (ps_set (i := 1) sc__law_value.nd rfl (Or.inl rfl) pe_int)
      (pss_cons (ps_for PassesOwn.never rfl (pi_range1 rfl T.n_range (pa_cons pe_int pa_nil)) (pg_name (i := 2) sc__law_value.nd rfl (Or.inl rfl))
      (pss_one (ps_set (i := 1) sc__law_value.nd rfl (Or.inl rfl) (pe_op op_add (pv 1) (pe_op op_mulX (pe_ix ix_list (pv 0) (pv 2) (fun _ _ => rfl)) (pe_ix ix_list (pe_lst (pa_cons pe_int (pa_cons pe_int (pa_cons pe_int (pa_cons pe_int (pa_cons pe_int (pa_cons pe_int (pa_cons pe_int (pa_cons pe_int (pa_cons pe_int (pa_cons pe_int (pa_cons pe_int (pa_cons pe_int (pa_cons pe_int (pa_cons pe_int (pa_cons pe_int pa_nil)))))))))))))))) (pv 2) (fun _ _ => rfl)))))))
      (pss_one (ps_ret (pe_op op_sub (pv 1) (pe_op op_mulX pe_int (pe_ix ix_list (pv 0) pe_int (fun _ _ => rfl)))))))), ?_⟩
    refine ⟨15, rfl, by decide, by decide, for_range (n := 15) (ValI p a H) ⟨_, by rw [Int.pow_zero, Int.emod_one]; rfl, Same.refl H⟩ ?_ ?_⟩
    · rintro i σ H1 hi ⟨x, rfl, sm⟩
      refine ⟨_, rfl, _, rfl, _, rfl, p, _, (0 + i : Int), _, rfl, rfl, sm.seq hS, BL_at a (k := i) (by omega) (by omega), ?_⟩
      refine ⟨by show 15 ≤ sizeLine; decide, fun l nl => ⟨_, rfl, l, ([1, 2, 4, 8, 16, 32, 64, 128, 256, 512, 1024, 2048, 4096, 8192, 16384] : List Int).map V.int, (0 + i : Int), _, rfl, rfl, SqL.of upd_same, menu _ (by omega) (by show (0 + i : Int) < 15; omega), ?_⟩⟩
      have ei : (0 + i : Int).toNat = i := by omega
      rw [ei, pows15 i hi]
      have hb : (bit a i).natAbs.log2 ≤ 2000000 := by
        rcases bit_01 a i with e | e <;> rw [e] <;> decide
      have hp : ((2 : Int) ^ i).natAbs.log2 ≤ 2000000 := by
        rw [← pows15 i hi]
        exact menu_all (q := fun x => x.natAbs.log2 ≤ 2000000) _ (by decide) (by decide) _
      refine ⟨_, _, rfl, rfl, mulX hb hp, _, _, rfl, rfl, some (.int (0 + i)), ?_, (sm.neww nl)⟩
      rw [mod_pow_succ, Int.mul_comm (bit a i)]
      rfl
    · rintro σ H1 ⟨x, rfl, sm⟩
      refine ⟨_, rfl, _, rfl, p, _, 15, _, rfl, rfl, sm.seq hS, BL_at a (k := 15) (by omega) (by omega), ?_⟩
      have hb : (bit a 15).natAbs.log2 ≤ 2000000 := by
        rcases bit_01 a 15 with e | e <;> rw [e] <;> decide
      refine ⟨_, _, rfl, rfl, mulX (by decide) hb, _, _, rfl, rfl, ?_⟩
      have e := wr_bits a
      rw [← e] at q
      exact q H1 sm
/-- the sum of bits -/
def spSum (K : PySem.W.Frag) : Sp := fun vs H Q _ => ∃ (p q : Addr) (a b c : Int), vs = [.ref p, .ref q, .int c] ∧ SqL K H p (BL a) ∧ SqL K H q (BL b) ∧ New H (.lst (BL (a + b + c))) Q
def SumI (p q l : Addr) (a b c : Int) (H0 : Hp) : Nat → L2.St → Hp → Prop := fun i σ H => ∃ x y, σ = [some (V.ref p), some (.ref q), some (.int ((a + b + c) / 2 ^ i - a / 2 ^ i - b / 2 ^ i)), some (.ref l), x, y] ∧
  H l = some (.lst ((List.range i).map fun k => V.int (bit (a + b + c) k))) ∧ Same H0 H
theorem c_sum (T : Txt w K mg) : Cal P w K mg base 1 "_law_sum" (spSum K) [] := by
  refine calD T.d__law_sum T.g__law_sum (fun _ _ _ _ _ _ us hl => match us, hl with | [_, _, _], _ => rfl) sc__law_sum (fun vs H Q E h => ?_) (fun cdv A outer s H vs Q E hr h => ?_)
  · obtain ⟨p, q, a, b, c, rfl, _⟩ := h
    rfl
  · obtain ⟨p, q, a, b, c, rfl, hp, hq, k⟩ := h
    refine ⟨_, (pss_cons (ps_set (i := 3) sc__law_sum.nd rfl (Or.inl rfl) (pe_lst pa_nil))
      (pss_cons (ps_for PassesOwn.never rfl (pi_range1 rfl T.n_range (pa_cons pe_int pa_nil)) (pg_name (i := 4) sc__law_sum.nd rfl (Or.inl rfl))
      (pss_cons (ps_set (i := 5) sc__law_sum.nd rfl (Or.inl rfl) (pe_op op_add (pe_op op_add (pe_ix ix_list (pv 0) (pv 4) (fun _ _ => rfl)) (pe_ix ix_list (pv 1) (pv 4) (fun _ _ => rfl))) (pv 2)))
      (pss_cons (ps_expr (pe_bm PySem.F.plainAttrs_list PySem.F.slot_list_append PySem.F.type_list_append mt_append (pv 3) (pa_cons (pe_op op_mod (pe_callTy call_int1 rfl T.n_int (by rfl) (pa_cons (pv 5) pa_nil)) pe_int) pa_nil)))
      (pss_one (ps_set (i := 2) sc__law_sum.nd rfl (Or.inl rfl) (pe_op op_fdivW (pv 5) pe_int))))))
      (pss_one (ps_ret (pv 3))))), ?_⟩
    refine ⟨by show 0 ≤ sizeLine; decide, fun l nl => ⟨16, rfl, by decide, by decide, for_range (n := 16) (SumI p q l a b c H) ⟨none, none, ?_, upd_same, Same_upd nl⟩ ?_ ?_⟩⟩
    · have e : (a + b + c) / 2 ^ 0 - a / 2 ^ 0 - b / 2 ^ 0 = c := by
        rw [Int.pow_zero, Int.ediv_one, Int.ediv_one, Int.ediv_one]
        omega
      rw [e]
      rfl
    · rintro i σ H1 hi ⟨x, y, rfl, hl, sm⟩
      refine ⟨_, rfl, _, rfl, p, _, (0 + i : Int), _, rfl, rfl, sm.seq hp, BL_at a (k := i) hi (by omega), ?_⟩
      refine ⟨_, rfl, _, rfl, q, _, (0 + i : Int), _, rfl, rfl, sm.seq hq, BL_at b (k := i) hi (by omega), ?_⟩
      refine ⟨_, _, rfl, rfl, _, rfl, _, _, rfl, rfl, ?_⟩
      have e1 : (bit a i + bit b i + ((a + b + c) / 2 ^ i - a / 2 ^ i - b / 2 ^ i)) % 2 = bit (a + b + c) i := by
        unfold bit
        omega
      have e2 : (bit a i + bit b i + ((a + b + c) / 2 ^ i - a / 2 ^ i - b / 2 ^ i)) / 2 = (a + b + c) / 2 ^ (i + 1) - a / 2 ^ (i + 1) - b / 2 ^ (i + 1) := by
        rw [Wc.div_pow_succ, Wc.div_pow_succ, Wc.div_pow_succ]
        unfold bit
        omega
      refine ⟨_, rfl, .inl ⟨rfl, _, .inl (.inl hl)⟩, _, rfl, .inl ⟨_, rfl, _, _, rfl, rfl, (by show (0 : Int) < 2; decide), ?_⟩⟩
      refine ⟨l, _, _, rfl, rfl, hl, by rw [List.length_map, List.length_range]; exact small1000 (by omega), ?_⟩
      refine ⟨_, rfl, _, _, rfl, rfl, ⟨by decide, by decide⟩, some (.int (0 + i)), some (.int (bit a i + bit b i + ((a + b + c) / 2 ^ i - a / 2 ^ i - b / 2 ^ i))), by rw [← e2]; rfl, ?_, ?_⟩
      · rw [List.range_succ, List.map_append]
        show upd H1 l _ l = some (.lst (_ ++ [.int (bit (a + b + c) i)]))
        rw [← e1]
        exact upd_same
      · intro z o hz
        rw [upd_ne (ne_of_none hz nl)]
        exact sm z o hz
    · rintro σ H1 ⟨x, y, rfl, hl, sm⟩
      exact ⟨_, rfl, k l H1 nl hl sm⟩
/-- the product of bits -/
def spProd (K : PySem.W.Frag) : Sp := fun vs H Q _ => ∃ (p q : Addr) (a b : Int), vs = [.ref p, .ref q] ∧ SqL K H p (BL a) ∧ SqL K H q (BL b) ∧ New H (.lst (BL (a * b))) Q
def ProdI (p q : Addr) (a b : Int) (H0 : Hp) : Nat → L2.St → Hp → Prop := fun i σ H => ∃ x t y, σ = [some (V.ref p), some (.ref q), x, some (.ref t), y] ∧ H0 t = none ∧ H t = some (.lst (BL (a * (b % 2 ^ i)))) ∧ Same H0 H
theorem c_prod (T : Txt w K mg) : Cal P w K mg base 2 "_law_product" (spProd K) [] := by
  have C__law_sum := c_sum (P := P) (w := w) (base := base) T
  refine calD T.d__law_product T.g__law_product (fun _ _ _ _ _ _ us hl => match us, hl with | [_, _], _ => rfl) sc__law_product (fun vs H Q E h => ?_) (fun cdv A outer s H vs Q E hr h => ?_)
  · obtain ⟨p, q, a, b, rfl, _⟩ := h
    rfl
  · obtain ⟨p, q, a, b, rfl, hp, hq, k⟩ := h
    refine ⟨_, (pss_cons (ps_setLc (i := 3) (own := [("k", 2)]) (g := gName 2) (tt := tYes) rfl sc__law_product.nd rfl rfl (sw_true rfl rfl rfl (by decide +kernel)) (pi_range1 rfl T.n_range (pa_cons pe_int pa_nil)) (blkOk_by (N := N__law_product) (sc := defScope s__law_product) (by decide +kernel)) (fun _ _ _ _ _ => pg_name (i := 2) sc__law_product.nd rfl (Or.inl rfl)) (fun _ _ _ _ _ => pts_nil) (fun _ _ _ _ _ => pe_int))
      (pss_cons (ps_for PassesOwn.never rfl (pi_range1 rfl T.n_range (pa_cons pe_int pa_nil)) (pg_name (i := 2) sc__law_product.nd rfl (Or.inl rfl))
      (pss_one (ps_if (pt_cmpR op_eq (pe_ix ix_list (pv 1) (pv 2) (fun _ _ => rfl)) pe_int (nomark _)) (pss_one (ps_set (i := 3) sc__law_product.nd rfl (Or.inl rfl) (pe_c C__law_sum hr (by decide) rfl (pa_cons (pv 3) (pa_cons (pe_op op_cat (pe_lc (own := [("j", 4)]) (g := gName 4) (tt := tYes) rfl sc__law_product.nd (pi_range1 rfl T.n_range (pa_cons (pv 2) pa_nil)) (blkOk_by (N := N__law_product) (sc := defScope s__law_product) (by decide +kernel)) (fun _ _ _ _ _ => pg_name (i := 4) sc__law_product.nd rfl (Or.inl rfl)) (fun _ _ _ _ _ => pts_nil) (fun _ _ _ _ _ => pe_int)) (pe_slice sl_list (pv 0) po_none (po_some (pe_op op_sub pe_int (pv 2))))) (pa_cons pe_int pa_nil)))))) pss_nil)))
      (pss_one (ps_ret (pv 3))))), ?_⟩
    refine ⟨16, rfl, by decide, by decide, fun D nD => lcR (fun _ => V.int 0) (by decide) nD (fun _ => rfl) (fun _ _ _ _ _ z => z) (fun H1 h1 s1 => ?_)⟩
    refine ⟨16, rfl, by decide, by decide, for_range (n := 16) (ProdI p q a b H) ⟨none, D, none, rfl, nD, ?_, s1⟩ ?_ ?_⟩
    · rw [Int.pow_zero, Int.emod_one, Int.mul_zero]
      exact h1
    · rintro i σ H1 hi ⟨x, t, y, rfl, nt, ht, sm⟩
      refine ⟨_, rfl, _, rfl, q, _, (0 + i : Int), _, rfl, rfl, sm.seq hq, BL_at b (k := i) hi (by omega), rfl, _, rfl, ifB (fun e => ?_) (fun e => ?_)⟩
      · have eb : bit b i = 1 := V.int.inj (of_decide_eq_true e)
        have ei : (0 + (i : Int)).toNat = i := by omega
        refine ⟨_, rfl, _, rfl, _, rfl, by omega, by omega, fun D nD => lcR (fun _ => V.int 0) (by omega) nD (fun _ => rfl) (fun _ _ _ _ _ z => z) (fun H2 h2 s2 => ?_)⟩
        rw [ei] at h2
        refine ⟨_, rfl, _, rfl, _, _, rfl, rfl, _, rfl, p, _, rfl, s2.seq (sm.seq hp), fun u nu => ?_⟩
        have eu : cutV (BL a) none (some (16 - (0 + (i : Int)))) = (BL a).take (16 - i) := cut_take (by omega) (by rw [BL_len]; omega)
        have nDu : D ≠ u := ne_of_none h2 nu
        refine ⟨D, u, _, _, rfl, rfl, by rw [upd_ne nDu]; exact h2, upd_same, ?_, fun v nv => ?_⟩
        · show _ + (cutV (BL a) none (some (16 - (0 + (i : Int))))).length ≤ sizeLine
          rw [eu, List.length_map, List.length_range, List.length_take, BL_len]
          exact Nat.le_trans (show i + min (16 - i) 16 ≤ 100 by omega) (by decide)
        have sv : Same H1 (upd (upd H2 u (.lst (cutV (BL a) none (some (16 - (0 + (i : Int))))))) v (.lst ((List.range i).map (fun _ => V.int 0) ++ cutV (BL a) none (some (16 - (0 + (i : Int))))))) := (s2.trans (Same_upd nu)).trans (Same_upd nv)
        have ew : (List.range i).map (fun _ => V.int 0) ++ cutV (BL a) none (some (16 - (0 + (i : Int)))) = BL (a * 2 ^ i) := by
          rw [eu]
          exact BL_shl a (by omega)
        refine ⟨t, v, a * (b % 2 ^ i), a * 2 ^ i, 0, rfl, SqL.of (sv _ _ ht), SqL.of (upd_same.trans (by rw [ew])), fun r H3 nr hr3 s3 => ?_⟩
        refine ⟨some (.int (0 + i)), r, y, rfl, (sm.trans sv).free nr, ?_, sm.trans (sv.trans s3)⟩
        rw [hr3, mod_pow_succ, eb, Int.mul_one, Int.mul_add, Int.add_zero]
      · have eb : bit b i = 0 := by
          rcases bit_01 b i with z | z
          · exact z
          · exact absurd (congrArg V.int z) (of_decide_eq_false e)
        refine ⟨some (.int (0 + i)), t, y, rfl, nt, ?_, sm⟩
        rw [mod_pow_succ, eb, Int.mul_zero, Int.add_zero]
        exact ht
    · rintro σ H1 ⟨x, t, y, rfl, nt, ht, sm⟩
      refine ⟨_, rfl, k t H1 nt ?_ sm⟩
      have e : BL (a * (b % 2 ^ 16)) = BL (a * b) := by
        refine BL_congr (wr_eq (-(a * (b / 65536))) ?_)
        rw [show (2 : Int) ^ 16 = 65536 by decide]
        have h := Int.emod_add_mul_ediv b 65536
        have h2 : b % 65536 = b - 65536 * (b / 65536) := by omega
        rw [h2, Int.mul_sub, ← Int.mul_assoc, Int.mul_comm a 65536, Int.mul_assoc, Int.mul_neg]
        omega
      rw [ht, e]
/-- a quotient and a rest -/
def spQR : Sp := fun vs H Q _ => ∃ l r : Int, vs = [.int l, .int r] ∧ Wd l ∧ Wd r ∧ r ≠ 0 ∧ New H (.tup [.int (quo l r), .int (l - r * quo l r)]) Q
def QuoI (l r : Int) (H0 : Hp) : Nat → L2.St → Hp → Prop := fun i σ H => ∃ n x y, σ = [some (.int l), some (.int r), some (.int (ab l - ab r * n)), some (.int (ab r)), some (.int n), x, y] ∧ 0 ≤ ab l - ab r * n ∧ ab l - ab r * n < ab r * 2 ^ (16 - i) ∧ Same H0 H
theorem pows16 : ∀ k, k < 16 → ([32768, 16384, 8192, 4096, 2048, 1024, 512, 256, 128, 64, 32, 16, 8, 4, 2, 1] : List Int).getD k 0 = 2 ^ (15 - k) := by decide
theorem max_ab (l : Int) : (if -l > l then -l else l) = ab l := by
  unfold ab
  split <;> split <;> omega
theorem c_qr (T : Txt w K mg) : Cal P w K mg base 1 "_law_quotient" spQR [] := by
  refine calD T.d__law_quotient T.g__law_quotient (fun _ _ _ _ _ _ us hl => match us, hl with | [_, _], _ => rfl) sc__law_quotient (fun vs H Q E h => ?_) (fun cdv A outer s H vs Q E hr h => ?_)
  · obtain ⟨l, r, rfl, _⟩ := h
    rfl
  · obtain ⟨l, r, rfl, hl, h2, h0, q⟩ := h
    have hr0 : 0 < ab r := by
      unfold ab
      split <;> omega
    have hr1 : (ab r).natAbs < 2 ^ 20 := by
      obtain ⟨z1, z2⟩ := h2
      unfold ab
      split <;> omega
    have hl0 : 0 ≤ ab l ∧ ab l ≤ 32768 := by
      obtain ⟨z1, z2⟩ := hl
      unfold ab
      split <;> omega
    refine ⟨_, (pss_cons (ps_set (i := 2) sc__law_quotient.nd rfl (Or.inl rfl) (pe_callB (call_max2 rfl) rfl T.n_max (by rfl) (pa_cons (pv 0) (pa_cons (pe_un un_neg (pv 0)) pa_nil))))
      (pss_cons (ps_set (i := 3) sc__law_quotient.nd rfl (Or.inl rfl) (pe_callB (call_max2 rfl) rfl T.n_max (by rfl) (pa_cons (pv 1) (pa_cons (pe_un un_neg (pv 1)) pa_nil))))
      (pss_cons (ps_set (i := 4) sc__law_quotient.nd rfl (Or.inl rfl) pe_int)
      (pss_cons (ps_for PassesOwn.never rfl (pi_range1 rfl T.n_range (pa_cons pe_int pa_nil)) (pg_name (i := 5) sc__law_quotient.nd rfl (Or.inl rfl))
      (pss_cons (ps_set (i := 6) sc__law_quotient.nd rfl (Or.inl rfl) (pe_ix ix_list (pe_lst (pa_cons pe_int (pa_cons pe_int (pa_cons pe_int (pa_cons pe_int (pa_cons pe_int (pa_cons pe_int (pa_cons pe_int (pa_cons pe_int (pa_cons pe_int (pa_cons pe_int (pa_cons pe_int (pa_cons pe_int (pa_cons pe_int (pa_cons pe_int (pa_cons pe_int (pa_cons pe_int pa_nil))))))))))))))))) (pv 5) (fun _ _ => rfl)))
      (pss_one (ps_if (pt_cmpR op_le (pe_op op_mulX (pv 3) (pv 6)) (pv 2) (nomark _)) (pss_cons (ps_set (i := 2) sc__law_quotient.nd rfl (Or.inl rfl) (pe_op op_sub (pv 2) (pe_op op_mulX (pv 3) (pv 6))))
      (pss_one (ps_set (i := 4) sc__law_quotient.nd rfl (Or.inl rfl) (pe_op op_add (pv 4) (pv 6))))) pss_nil))))
      (pss_cons (ps_if (pt_cmpR op_ne (pe_cmpR op_lt (pv 0) pe_int (nomark _)) (pe_cmpR op_lt (pv 1) pe_int (nomark _)) (nomark _)) (pss_one (ps_set (i := 4) sc__law_quotient.nd rfl (Or.inl rfl) (pe_un un_neg (pv 4)))) pss_nil)
      (pss_cons (ps_if (pt_cmpR op_lt (pv 0) pe_int (nomark _)) (pss_one (ps_set (i := 2) sc__law_quotient.nd rfl (Or.inl rfl) (pe_un un_neg (pv 2)))) pss_nil)
      (pss_one (ps_ret (pe_tup (pa_cons (pv 4) (pa_cons (pv 2) pa_nil))))))))))), ?_⟩
    refine ⟨_, rfl, _, rfl, _, rfl, _, _, rfl, ?_⟩
    refine ⟨_, rfl, _, rfl, _, rfl, _, _, rfl, ?_⟩
    rw [max_ab l, max_ab r]
    refine ⟨16, rfl, by decide, by decide, for_range (n := 16) (QuoI l r H) ⟨0, none, none, by rw [Int.mul_zero, Int.sub_zero]; rfl, by rw [Int.mul_zero, Int.sub_zero]; exact hl0.1, ?_, Same.refl H⟩ ?_ ?_⟩
    · rw [Int.mul_zero, Int.sub_zero, show (2 : Int) ^ (16 - 0) = 65536 by decide]
      omega
    · rintro i σ H1 hi ⟨n, x, y, rfl, lo, hi2, sm⟩
      refine ⟨by show 16 ≤ sizeLine; decide, fun t nt => ⟨_, rfl, t, ([32768, 16384, 8192, 4096, 2048, 1024, 512, 256, 128, 64, 32, 16, 8, 4, 2, 1] : List Int).map V.int, (0 + i : Int), _, rfl, rfl, SqL.of upd_same, menu _ (by omega) (by show (0 + i : Int) < 16; omega), ?_⟩⟩
      have ei : (0 + i : Int).toNat = i := by omega
      rw [ei, pows16 i hi]
      have hp : ((2 : Int) ^ (15 - i)).natAbs.log2 ≤ 2000000 := by
        rw [← pows16 i hi]
        exact menu_all (q := fun x => x.natAbs.log2 ≤ 2000000) _ (by decide) (by decide) _
      have e2 : ab r * (2 : Int) ^ (16 - i) = 2 * (ab r * 2 ^ (15 - i)) := by
        rw [show 16 - i = 15 - i + 1 by omega, Int.pow_succ, ← Int.mul_assoc, Int.mul_comm _ 2]
      rw [e2] at hi2
      refine ⟨_, rfl, _, rfl, _, _, rfl, rfl, mulX (Wc.sm (Nat.lt_of_lt_of_le hr1 (by decide))) hp, _, rfl, _, _, rfl, rfl, _, rfl, ifB (fun e => ?_) (fun e => ?_)⟩
      · have le := of_decide_eq_true e
        refine ⟨_, rfl, _, rfl, _, rfl, _, _, rfl, rfl, mulX (Wc.sm (Nat.lt_of_lt_of_le hr1 (by decide))) hp, _, _, rfl, rfl, ?_⟩
        refine ⟨_, rfl, _, rfl, _, _, rfl, rfl, n + 2 ^ (15 - i), some (.int (0 + i)), some (.int (2 ^ (15 - i))), ?_, ?_, ?_, sm.neww nt⟩
        · rw [Int.mul_add, ← Int.sub_sub]
          rfl
        · rw [Int.mul_add]
          omega
        · rw [Int.mul_add, show 16 - (i + 1) = 15 - i by omega]
          omega
      · have gt := of_decide_eq_false e
        refine ⟨n, some (.int (0 + i)), some (.int (2 ^ (15 - i))), rfl, lo, ?_, sm.neww nt⟩
        rw [show 16 - (i + 1) = 15 - i by omega]
        omega
    · rintro σ H1 ⟨n, x, y, rfl, lo, hi2, sm⟩
      rw [show (2 : Int) ^ (16 - 16) = 1 by decide, Int.mul_one] at hi2
      have en : ab l / ab r = n := by
        refine (Int.ediv_eq_iff_of_pos hr0).mpr ?_
        rw [Int.mul_comm]
        omega
      -- what is handed back
      have fin : ∀ (z m : Int), z = quo l r → m = l - r * quo l r → ∀ t, H1 t = none → Q (.ref t) (upd H1 t (.tup [.int z, .int m])) := by
        rintro z m rfl rfl t nt
        exact (q.mono sm).go t nt
      have hq : quo l r = if decide (l < 0) = decide (r < 0) then n else -n := by
        unfold quo
        rw [en]
      by_cases a : l < 0 <;> by_cases b : r < 0
      · have e1 : ab l = -l := if_pos a
        have e2 : ab r = -r := if_pos b
        have hq2 : quo l r = n := by rw [hq, if_pos (by rw [decide_eq_true a, decide_eq_true b])]
        refine ⟨_, rfl, _, _, rfl, rfl, _, rfl, _, _, rfl, rfl, rfl, _, rfl, neqF (congrArg V.bl (show decide (l < 0) = decide (r < 0) by rw [decide_eq_true a, decide_eq_true b])) ?_⟩
        refine ⟨_, rfl, _, _, rfl, rfl, _, rfl, ifYes (decide_eq_true a) ?_⟩
        refine ⟨_, rfl, _, rfl, _, rfl, _, rfl, by show 2 ≤ sizeLine; decide, fin n _ hq2.symm ?_⟩
        rw [hq2, e1, e2, Int.neg_mul]
        omega
      · have e1 : ab l = -l := if_pos a
        have e2 : ab r = r := if_neg b
        have hq2 : quo l r = -n := by rw [hq, if_neg (by rw [decide_eq_true a, decide_eq_false b]; decide)]
        refine ⟨_, rfl, _, _, rfl, rfl, _, rfl, _, _, rfl, rfl, rfl, _, rfl, ifYes (by show (!decide (V.bl (decide (l < 0)) = V.bl (decide (r < 0)))) = true; rw [decide_eq_true a, decide_eq_false b]; rfl) ?_⟩
        refine ⟨_, rfl, _, rfl, _, rfl, _, _, rfl, rfl, _, rfl, ifYes (decide_eq_true a) ?_⟩
        refine ⟨_, rfl, _, rfl, _, rfl, _, rfl, by show 2 ≤ sizeLine; decide, fin (-n) _ hq2.symm ?_⟩
        rw [hq2, e1, e2, Int.mul_neg]
        omega
      · have e1 : ab l = l := if_neg a
        have e2 : ab r = -r := if_pos b
        have hq2 : quo l r = -n := by rw [hq, if_neg (by rw [decide_eq_false a, decide_eq_true b]; decide)]
        refine ⟨_, rfl, _, _, rfl, rfl, _, rfl, _, _, rfl, rfl, rfl, _, rfl, ifYes (by show (!decide (V.bl (decide (l < 0)) = V.bl (decide (r < 0)))) = true; rw [decide_eq_false a, decide_eq_true b]; rfl) ?_⟩
        refine ⟨_, rfl, _, rfl, _, rfl, _, _, rfl, rfl, _, rfl, ifNo (decide_eq_false a) ?_⟩
        refine ⟨_, rfl, _, rfl, by show 2 ≤ sizeLine; decide, fin (-n) _ hq2.symm ?_⟩
        rw [hq2, e1, e2, Int.mul_neg, Int.neg_mul]
      · have e1 : ab l = l := if_neg a
        have e2 : ab r = r := if_neg b
        have hq2 : quo l r = n := by rw [hq, if_pos (by rw [decide_eq_false a, decide_eq_false b])]
        refine ⟨_, rfl, _, _, rfl, rfl, _, rfl, _, _, rfl, rfl, rfl, _, rfl, neqF (congrArg V.bl (show decide (l < 0) = decide (r < 0) by rw [decide_eq_false a, decide_eq_false b])) ?_⟩
        refine ⟨_, rfl, _, _, rfl, rfl, _, rfl, ifNo (decide_eq_false a) ?_⟩
        refine ⟨_, rfl, _, rfl, by show 2 ≤ sizeLine; decide, fin n _ hq2.symm ?_⟩
        rw [hq2, e1, e2]
end
end Pf
set_option Elab.async false
set_option linter.all false
set_option maxRecDepth 100000
set_option maxHeartbeats 4000000
namespace Pf
open PySem PySem.Spec PyProof.Rows L2 Wc
open C8 (Cal pe_c pe_gc)
section
variable {P : Program} {w : World} {K : PySem.W.Frag} {mg : Str → Option Value} {base : Heap}
def bw : Sg → Int → Int → Option Int
  | .and, a, b => some (Builtin.bitAnd a b)
  | .or, a, b => some (Builtin.bitOr a b)
  | .xor, a, b => some (Builtin.bitXor a b)
  | _, _, _ => none
def spBw (K : PySem.W.Frag) : Sp := fun vs H Q _ => ∃ (s : Sg) (p q : Addr) (a b c : Int), vs = [.str s.z, .ref p, .ref q] ∧ SqL K H p (BL a) ∧ SqL K H q (BL b) ∧ bw s a b = some c ∧ New H (.lst (BL c)) Q
theorem lg01 (a : Int) (k : Nat) : (bit a k).natAbs.log2 ≤ 2000000 := by
  rcases bit_01 a k with e | e <;> rw [e] <;> decide
theorem c_bw (T : Txt w K mg) : Cal P w K mg base 1 "_law_bitwise" (spBw K) [] := by
  refine calD T.d__law_bitwise T.g__law_bitwise (fun _ _ _ _ _ _ us hl => match us, hl with | [_, _, _], _ => rfl) sc__law_bitwise (fun vs H Q E h => ?_) (fun cdv A outer s H vs Q E hr h => ?_)
  · obtain ⟨s, p, q, a, b, c, rfl, _⟩ := h
    rfl
  · obtain ⟨s, p, q, a, b, c, rfl, hp, hq, hc, k⟩ := h
    refine ⟨_, (pss_cons (ps_if (pt_cmpR op_eq (pv 0) pe_str (nomark _)) (pss_one (ps_ret (pe_lc (own := [("k", 3)]) (g := gName 3) (tt := tYes) rfl sc__law_bitwise.nd (pi_range1 rfl T.n_range (pa_cons pe_int pa_nil)) (blkOk_by (N := N__law_bitwise) (sc := defScope s__law_bitwise) (by decide +kernel)) (fun _ _ _ _ _ => pg_name (i := 3) sc__law_bitwise.nd rfl (Or.inl rfl)) (fun _ _ _ _ _ => pts_nil) (fun _ _ _ _ _ => (pe_op op_mulX (pe_ix (ixK (K := K) rfl) (pv 1) (pv 3) (fun _ _ => rfl)) (pe_ix (ixK (K := K) rfl) (pv 2) (pv 3) (fun _ _ => rfl))))))) pss_nil)
      (pss_cons (ps_if (pt_cmpR op_eq (pv 0) pe_str (nomark _)) (pss_one (ps_ret (pe_lc (own := [("k", 3)]) (g := gName 3) (tt := tYes) rfl sc__law_bitwise.nd (pi_range1 rfl T.n_range (pa_cons pe_int pa_nil)) (blkOk_by (N := N__law_bitwise) (sc := defScope s__law_bitwise) (by decide +kernel)) (fun _ _ _ _ _ => pg_name (i := 3) sc__law_bitwise.nd rfl (Or.inl rfl)) (fun _ _ _ _ _ => pts_nil) (fun _ _ _ _ _ => (pe_callB (call_max2 rfl) rfl T.n_max (by rfl) (pa_cons (pe_ix (ixK (K := K) rfl) (pv 1) (pv 3) (fun _ _ => rfl)) (pa_cons (pe_ix (ixK (K := K) rfl) (pv 2) (pv 3) (fun _ _ => rfl)) pa_nil))))))) pss_nil)
      (pss_one (ps_ret (pe_lc (own := [("k", 3)]) (g := gName 3) (tt := tYes) rfl sc__law_bitwise.nd (pi_range1 rfl T.n_range (pa_cons pe_int pa_nil)) (blkOk_by (N := N__law_bitwise) (sc := defScope s__law_bitwise) (by decide +kernel)) (fun _ _ _ _ _ => pg_name (i := 3) sc__law_bitwise.nd rfl (Or.inl rfl)) (fun _ _ _ _ _ => pts_nil) (fun _ _ _ _ _ => (pe_callTy call_int1 rfl T.n_int (by rfl) (pa_cons (pe_cmpR op_ne (pe_ix (ixK (K := K) rfl) (pv 1) (pv 3) (fun _ _ => rfl)) (pe_ix (ixK (K := K) rfl) (pv 2) (pv 3) (fun _ _ => rfl)) (nomark _)) pa_nil)))))))), ?_⟩
    cases s with
    | and =>
      cases hc
      refine ⟨_, rfl, rfl, _, rfl, ifYes (by decide +kernel) ?_⟩
      refine ⟨16, rfl, by decide, by decide, fun D nD => lcR (fun j => V.int (bit (Builtin.bitAnd a b) j)) (by decide) nD (fun _ => rfl) (fun i H1 Q1 hi sm z => ?_) (fun H1 h1 s1 => k D H1 nD h1 s1)⟩
      refine ⟨_, rfl, _, rfl, p, _, _, _, rfl, rfl, sm.seq hp, BL_at a (k := i) hi (by omega), _, rfl, _, rfl, q, _, _, _, rfl, rfl, sm.seq hq, BL_at b (k := i) hi (by omega), _, _, rfl, rfl, mulX (lg01 _ _) (lg01 _ _), ?_⟩
      show Q1 (.int (bit a i * bit b i)) H1
      rw [← bit_and]
      exact z
    | or =>
      cases hc
      refine ⟨_, rfl, rfl, _, rfl, ifNo (by decide +kernel) ?_⟩
      refine ⟨_, rfl, rfl, _, rfl, ifYes (by decide +kernel) ?_⟩
      refine ⟨16, rfl, by decide, by decide, fun D nD => lcR (fun j => V.int (bit (Builtin.bitOr a b) j)) (by decide) nD (fun _ => rfl) (fun i H1 Q1 hi sm z => ?_) (fun H1 h1 s1 => k D H1 nD h1 s1)⟩
      refine ⟨_, rfl, _, rfl, p, _, _, _, rfl, rfl, sm.seq hp, BL_at a (k := i) hi (by omega), _, rfl, _, rfl, q, _, _, _, rfl, rfl, sm.seq hq, BL_at b (k := i) hi (by omega), _, _, rfl, ?_⟩
      have e : (if bit b i > bit a i then bit b i else bit a i) = bit (Builtin.bitOr a b) i := by
        rw [bit_or]
        rcases bit_01 a i with e1 | e1 <;> rcases bit_01 b i with e2 | e2 <;> rw [e1, e2] <;> decide
      rw [e]
      exact z
    | xor =>
      cases hc
      refine ⟨_, rfl, rfl, _, rfl, ifNo (by decide +kernel) ?_⟩
      refine ⟨_, rfl, rfl, _, rfl, ifNo (by decide +kernel) ?_⟩
      refine ⟨16, rfl, by decide, by decide, fun D nD => lcR (fun j => V.int (bit (Builtin.bitXor a b) j)) (by decide) nD (fun _ => rfl) (fun i H1 Q1 hi sm z => ?_) (fun H1 h1 s1 => k D H1 nD h1 s1)⟩
      refine ⟨_, rfl, _, rfl, p, _, _, _, rfl, rfl, sm.seq hp, BL_at a (k := i) hi (by omega), _, rfl, _, rfl, q, _, _, _, rfl, rfl, sm.seq hq, BL_at b (k := i) hi (by omega), rfl, .inr ⟨_, rfl, ?_⟩⟩
      have e : (if (!decide (V.int (bit a i) = V.int (bit b i))) = true then (1 : Int) else 0) = bit (Builtin.bitXor a b) i := by
        rw [bit_xor]
        rcases bit_01 a i with e1 | e1 <;> rcases bit_01 b i with e2 | e2 <;> rw [e1, e2] <;> decide
      rw [e]
      exact z
    | _ => cases hc
def shf : Sg → Int → Int → Option Int
  | .shl, a, b => some (a * 2 ^ (b % 16).toNat)
  | .shr, a, b => some (a / 2 ^ (b % 16).toNat)
  | _, _, _ => none
def spShf (K : PySem.W.Frag) : Sp := fun vs H Q _ => ∃ (s : Sg) (p q : Addr) (a b c : Int), vs = [.str s.z, .ref p, .ref q] ∧ SqL K H p (BL a) ∧ SqL K H q (BL b) ∧ Wd a ∧ shf s a b = some c ∧ New H (.lst (BL c)) Q
theorem many_eq (b : Int) : bit b 0 + 2 * bit b 1 + 4 * bit b 2 + 8 * bit b 3 = b % 16 := by
  unfold bit
  rw [show (2 : Int) ^ 0 = 1 by decide, show (2 : Int) ^ 1 = 2 by decide, show (2 : Int) ^ 2 = 4 by decide, show (2 : Int) ^ 3 = 8 by decide]
  omega
theorem c_shf (T : Txt w K mg) : Cal P w K mg base 1 "_law_shifted" (spShf K) [] := by
  refine calD T.d__law_shifted T.g__law_shifted (fun _ _ _ _ _ _ us hl => match us, hl with | [_, _, _], _ => rfl) sc__law_shifted (fun vs H Q E h => ?_) (fun cdv A outer s H vs Q E hr h => ?_)
  · obtain ⟨s, p, q, a, b, c, rfl, _⟩ := h
    rfl
  · obtain ⟨s, p, q, a, b, c, rfl, hp, hq, ha, hc, k⟩ := h
    refine ⟨_, (pss_cons (ps_set (i := 3) sc__law_shifted.nd rfl (Or.inl rfl) (pe_op op_add (pe_op op_add (pe_op op_add (pe_ix ix_list (pv 2) pe_int (fun _ _ => rfl)) (pe_op op_mulX pe_int (pe_ix ix_list (pv 2) pe_int (fun _ _ => rfl)))) (pe_op op_mulX pe_int (pe_ix ix_list (pv 2) pe_int (fun _ _ => rfl)))) (pe_op op_mulX pe_int (pe_ix ix_list (pv 2) pe_int (fun _ _ => rfl)))))
      (pss_cons (ps_if (pt_cmpR op_eq (pv 0) pe_str (nomark _)) (pss_one (ps_ret (pe_op op_cat (pe_lc (own := [("k", 4)]) (g := gName 4) (tt := tYes) rfl sc__law_shifted.nd (pi_range1 rfl T.n_range (pa_cons (pv 3) pa_nil)) (blkOk_by (N := N__law_shifted) (sc := defScope s__law_shifted) (by decide +kernel)) (fun _ _ _ _ _ => pg_name (i := 4) sc__law_shifted.nd rfl (Or.inl rfl)) (fun _ _ _ _ _ => pts_nil) (fun _ _ _ _ _ => pe_int)) (pe_slice sl_list (pv 1) po_none (po_some (pe_op op_sub pe_int (pv 3))))))) pss_nil)
      (pss_one (ps_ret (pe_op op_cat (pe_slice sl_list (pv 1) (po_some (pv 3)) po_none) (pe_lc (own := [("k", 4)]) (g := gName 4) (tt := tYes) rfl sc__law_shifted.nd (pi_range1 rfl T.n_range (pa_cons (pv 3) pa_nil)) (blkOk_by (N := N__law_shifted) (sc := defScope s__law_shifted) (by decide +kernel)) (fun _ _ _ _ _ => pg_name (i := 4) sc__law_shifted.nd rfl (Or.inl rfl)) (fun _ _ _ _ _ => pts_nil) (fun _ _ _ _ _ => (pe_ix (ixK (K := K) rfl) (pv 1) pe_int (fun _ _ => rfl))))))))), ?_⟩
    refine ⟨_, rfl, q, _, 0, _, rfl, rfl, hq, BL_at b (k := 0) (by omega) rfl, _, rfl, q, _, 1, _, rfl, rfl, hq, BL_at b (k := 1) (by omega) rfl, _, _, rfl, rfl, mulX (by decide) (lg01 _ _), _, _, rfl, rfl, ?_⟩
    refine ⟨_, rfl, q, _, 2, _, rfl, rfl, hq, BL_at b (k := 2) (by omega) rfl, _, _, rfl, rfl, mulX (by decide) (lg01 _ _), _, _, rfl, rfl, ?_⟩
    refine ⟨_, rfl, q, _, 3, _, rfl, rfl, hq, BL_at b (k := 3) (by omega) rfl, _, _, rfl, rfl, mulX (by decide) (lg01 _ _), _, _, rfl, rfl, ?_⟩
    have em : bit b 0 + 2 * bit b 1 + 4 * bit b 2 + 8 * bit b 3 = b % 16 := many_eq b
    have hm : (b % 16).toNat ≤ 16 := by omega
    have hm2 : b % 16 = (((b % 16).toNat : Nat) : Int) := by omega
    cases s with
    | shl =>
      cases hc
      refine ⟨_, rfl, rfl, _, rfl, ifYes (by decide +kernel) ?_⟩
      refine ⟨_, rfl, _, rfl, ?_, ?_, fun D nD => lcR (fun _ => V.int 0) ?_ nD (fun _ => rfl) (fun _ _ _ _ _ z => z) (fun H2 h2 s2 => ?_)⟩
      · show -(2 ^ 62) ≤ bit b 0 + 2 * bit b 1 + 4 * bit b 2 + 8 * bit b 3
        rw [em]
        omega
      · show bit b 0 + 2 * bit b 1 + 4 * bit b 2 + 8 * bit b 3 < 2 ^ 62
        rw [em]
        omega
      · show (bit b 0 + 2 * bit b 1 + 4 * bit b 2 + 8 * bit b 3).toNat ≤ 1000
        rw [em]
        omega
      have h3 : H2 D = some (.lst ((List.range (b % 16).toNat).map fun _ => V.int 0)) := by
        rw [← em]
        exact h2
      refine ⟨_, rfl, _, rfl, _, _, rfl, rfl, _, rfl, p, _, rfl, s2.seq hp, fun u nu => ?_⟩
      have eu : cutV (BL a) none (some (16 - (bit b 0 + 2 * bit b 1 + 4 * bit b 2 + 8 * bit b 3))) = (BL a).take (16 - (b % 16).toNat) := cut_take (by rw [em]; omega) (by rw [BL_len]; omega)
      have nDu : D ≠ u := ne_of_none h3 nu
      refine ⟨D, u, _, _, rfl, rfl, by rw [upd_ne nDu]; exact h3, upd_same, ?_, fun v nv => ?_⟩
      · show _ + (cutV (BL a) none (some (16 - (bit b 0 + 2 * bit b 1 + 4 * bit b 2 + 8 * bit b 3)))).length ≤ sizeLine
        rw [eu, List.length_map, List.length_range, List.length_take, BL_len]
        exact Nat.le_trans (show (b % 16).toNat + min (16 - (b % 16).toNat) 16 ≤ 100 by omega) (by decide)
      · refine k v _ ((s2.trans (Same_upd nu)).free nv) (upd_same.trans ?_) ((s2.trans (Same_upd nu)).trans (Same_upd nv))
        show some (HO.lst (_ ++ cutV (BL a) none (some (16 - (bit b 0 + 2 * bit b 1 + 4 * bit b 2 + 8 * bit b 3))))) = _
        rw [eu, BL_shl a hm]
    | shr =>
      cases hc
      refine ⟨_, rfl, rfl, _, rfl, ifNo (by decide +kernel) ?_⟩
      refine ⟨_, rfl, _, rfl, _, rfl, p, _, rfl, hp, fun u nu => ?_⟩
      have eu : cutV (BL a) (some (bit b 0 + 2 * bit b 1 + 4 * bit b 2 + 8 * bit b 3)) none = (BL a).drop (b % 16).toNat := cut_drop (by rw [em]; omega) (by rw [BL_len]; omega)
      refine ⟨_, rfl, _, rfl, ?_, ?_, fun D nD => lcR (fun _ => V.int (bit a 15)) ?_ nD (fun _ => rfl) (fun i H1 Q1 hi sm z => ?_) (fun H2 h2 s2 => ?_)⟩
      · show -(2 ^ 62) ≤ bit b 0 + 2 * bit b 1 + 4 * bit b 2 + 8 * bit b 3
        rw [em]
        omega
      · show bit b 0 + 2 * bit b 1 + 4 * bit b 2 + 8 * bit b 3 < 2 ^ 62
        rw [em]
        omega
      · show (bit b 0 + 2 * bit b 1 + 4 * bit b 2 + 8 * bit b 3).toNat ≤ 1000
        rw [em]
        omega
      · exact ⟨_, rfl, p, _, 15, _, rfl, rfl, sm.seq ((Same_upd nu).seq hp), BL_at a (k := 15) (by omega) rfl, z⟩
      have h3 : H2 D = some (.lst ((List.range (b % 16).toNat).map fun _ => V.int (bit a 15))) := by
        rw [← em]
        exact h2
      have hu2 := s2 u _ upd_same
      refine ⟨u, D, _, _, rfl, rfl, hu2, h3, ?_, fun v nv => ?_⟩
      · show (cutV (BL a) (some (bit b 0 + 2 * bit b 1 + 4 * bit b 2 + 8 * bit b 3)) none).length + _ ≤ sizeLine
        rw [eu, List.length_map, List.length_range, List.length_drop, BL_len]
        exact Nat.le_trans (show 16 - (b % 16).toNat + (b % 16).toNat ≤ 100 by omega) (by decide)
      · refine k v _ (((Same_upd nu).trans s2).free nv) (upd_same.trans ?_) (((Same_upd nu).trans s2).trans (Same_upd nv))
        show some (HO.lst (cutV (BL a) (some (bit b 0 + 2 * bit b 1 + 4 * bit b 2 + 8 * bit b 3)) none ++ _)) = _
        rw [eu, BL_shr ha hm]
    | _ => cases hc
end
end Pf
set_option Elab.async false
set_option linter.all false
set_option maxRecDepth 100000
set_option maxHeartbeats 4000000
namespace Pf
open PySem PySem.Spec PyProof.Rows L2 Wc
open C8 (Cal pe_c pe_gc)
section
variable {P : Program} {w : World} {K : PySem.W.Frag} {mg : Str → Option Value} {base : Heap}
def isCmp : Sg → Bool
  | .eq | .ne | .lt | .le | .gt | .ge => true
  | _ => false
def spCmp : Sp := fun vs H Q _ => ∃ (s : Sg) (l r : Int), vs = [.str s.z, .int l, .int r] ∧ isCmp s = true ∧ ∀ H', Same H H' → Q (opV s l r) H'
theorem c_cmp (T : Txt w K mg) : Cal P w K mg base 1 "_law_compared" spCmp [] := by
  refine calD T.d__law_compared T.g__law_compared (fun _ _ _ _ _ _ us hl => match us, hl with | [_, _, _], _ => rfl) sc__law_compared (fun vs H Q E h => ?_) (fun cdv A outer s H vs Q E hr h => ?_)
  · obtain ⟨s, l, r, rfl, _⟩ := h
    rfl
  · obtain ⟨s, l, r, rfl, hs, k⟩ := h
    refine ⟨_, (pss_cons (ps_set (i := 3) sc__law_compared.nd rfl (Or.inl rfl) (pe_lst (pa_cons (pe_cmpR op_eq (pv 1) (pv 2) (nomark _)) (pa_cons (pe_cmpR op_ne (pv 1) (pv 2) (nomark _)) (pa_cons (pe_cmpR op_lt (pv 1) (pv 2) (nomark _)) (pa_cons (pe_or (pe_cmpR op_lt (pv 1) (pv 2) (nomark _)) (pe_one (pe_cmpR op_eq (pv 1) (pv 2) (nomark _)))) (pa_cons (pe_cmpR op_lt (pv 2) (pv 1) (nomark _)) pa_nil)))))))
      (pss_cons (ps_expr (pe_bm PySem.F.plainAttrs_list PySem.F.slot_list_append PySem.F.type_list_append mt_append (pv 3) (pa_cons (pe_or (pe_cmpR op_lt (pv 2) (pv 1) (nomark _)) (pe_one (pe_cmpR op_eq (pv 1) (pv 2) (nomark _)))) pa_nil)))
      (pss_cons (ps_set (i := 4) sc__law_compared.nd rfl (Or.inl rfl) (pe_lst (pa_cons pe_str (pa_cons pe_str (pa_cons pe_str (pa_cons pe_str (pa_cons pe_str (pa_cons pe_str pa_nil))))))))
      (pss_one (ps_ret (pe_callTy call_int1 rfl T.n_int (by rfl) (pa_cons (pe_ix ix_list (pv 3) (pe_bm PySem.F.plainAttrs_list PySem.F.slot_list_index PySem.F.type_list_index mt_index (pv 4) (pa_cons (pv 0) pa_nil)) (fun _ _ => rfl)) pa_nil))))))), ?_⟩
    -- the two lists, and the answer at the sign's place
    have fin : ∀ (b1 b2 b3 b4 b5 b6 : Bool), b1 = decide (V.int l = V.int r) → b2 = (!decide (V.int l = V.int r)) → b3 = decide (l < r) → b4 = decide (l ≤ r) → b5 = decide (r < l) → b6 = decide (r ≤ l) →
        ∀ (u v : Addr) (H1 H2 : Hp), H1 u = some (.lst [.bl b1, .bl b2, .bl b3, .bl b4, .bl b5]) → Same H H1 → H u = none → H2 = upd (upd H1 u (.lst ([.bl b1, .bl b2, .bl b3, .bl b4, .bl b5] ++ [.bl b6]))) v (.lst [.str (Str.ofString "=="), .str (Str.ofString "!="), .str (Str.ofString "<"), .str (Str.ofString "<="), .str (Str.ofString ">"), .str (Str.ofString ">=")]) →
        upd H1 u (.lst ([.bl b1, .bl b2, .bl b3, .bl b4, .bl b5] ++ [.bl b6])) v = none →
        ∃ (j : Nat) (z : V) (b : Bool), ([.str (Str.ofString "=="), .str (Str.ofString "!="), .str (Str.ofString "<"), .str (Str.ofString "<="), .str (Str.ofString ">"), .str (Str.ofString ">=")] : List V)[j]? = some z ∧ eqV z (.str s.z) = true ∧
          (∀ (m : Nat) (z' : V), m < j → ([.str (Str.ofString "=="), .str (Str.ofString "!="), .str (Str.ofString "<"), .str (Str.ofString "<="), .str (Str.ofString ">"), .str (Str.ofString ">=")] : List V)[m]? = some z' → eqV z' (.str s.z) = false) ∧
          [V.bl b1, .bl b2, .bl b3, .bl b4, .bl b5, .bl b6][j]? = some (.bl b) ∧ H2 v = some (.lst [.str (Str.ofString "=="), .str (Str.ofString "!="), .str (Str.ofString "<"), .str (Str.ofString "<="), .str (Str.ofString ">"), .str (Str.ofString ">=")]) ∧
          H2 u = some (.lst [.bl b1, .bl b2, .bl b3, .bl b4, .bl b5, .bl b6]) ∧ Q (.int (if b = true then 1 else 0)) H2 := by
      rintro b1 b2 b3 b4 b5 b6 e1 e2 rfl rfl rfl rfl u v H1 H2 hu sm nu rfl nv
      have d : decide (V.int l = V.int r) = decide (l = r) := decide_eq_decide.mpr ⟨V.int.inj, congrArg V.int⟩
      rw [d] at e1 e2
      subst e1 e2
      have nuv : u ≠ v := ne_of_none upd_same nv
      have s2 : Same H (upd (upd H1 u (.lst ([.bl (decide (l = r)), .bl (!decide (l = r)), .bl (decide (l < r)), .bl (decide (l ≤ r)), .bl (decide (r < l))] ++ [.bl (decide (r ≤ l))]))) v (.lst [.str (Str.ofString "=="), .str (Str.ofString "!="), .str (Str.ofString "<"), .str (Str.ofString "<="), .str (Str.ofString ">"), .str (Str.ofString ">=")])) := by
        refine Same.trans ?_ (Same_upd nv)
        intro b o hb
        rw [upd_ne (ne_of_none hb nu)]
        exact sm b o hb
      have q := k _ s2
      have at_v := upd_same (H := upd H1 u (.lst ([.bl (decide (l = r)), .bl (!decide (l = r)), .bl (decide (l < r)), .bl (decide (l ≤ r)), .bl (decide (r < l))] ++ [.bl (decide (r ≤ l))]))) (a := v) (o := .lst [.str (Str.ofString "=="), .str (Str.ofString "!="), .str (Str.ofString "<"), .str (Str.ofString "<="), .str (Str.ofString ">"), .str (Str.ofString ">=")])
      have at_u : upd (upd H1 u (.lst ([.bl (decide (l = r)), .bl (!decide (l = r)), .bl (decide (l < r)), .bl (decide (l ≤ r)), .bl (decide (r < l))] ++ [.bl (decide (r ≤ l))]))) v (.lst [.str (Str.ofString "=="), .str (Str.ofString "!="), .str (Str.ofString "<"), .str (Str.ofString "<="), .str (Str.ofString ">"), .str (Str.ofString ">=")]) u = some (.lst [.bl (decide (l = r)), .bl (!decide (l = r)), .bl (decide (l < r)), .bl (decide (l ≤ r)), .bl (decide (r < l)), .bl (decide (r ≤ l))]) := by
        rw [upd_ne nuv]
        exact upd_same
      have no : ∀ (j : Nat) (p : Nat → Bool), (∀ m, m < j → p m = true) → True := fun _ _ _ => trivial
      cases s with
      | eq => exact ⟨0, _, _, rfl, by decide +kernel, fun m _ h => absurd h (Nat.not_lt_zero m), rfl, at_v, at_u, q⟩
      | ne =>
        refine ⟨1, _, _, rfl, by decide +kernel, fun m z h e => ?_, rfl, at_v, at_u, q⟩
        match m, h, e with
        | 0, _, e => cases e; decide +kernel
      | lt =>
        refine ⟨2, _, _, rfl, by decide +kernel, fun m z h e => ?_, rfl, at_v, at_u, q⟩
        match m, h, e with
        | 0, _, e => cases e; decide +kernel
        | 1, _, e => cases e; decide +kernel
      | le =>
        refine ⟨3, _, _, rfl, by decide +kernel, fun m z h e => ?_, rfl, at_v, at_u, q⟩
        match m, h, e with
        | 0, _, e => cases e; decide +kernel
        | 1, _, e => cases e; decide +kernel
        | 2, _, e => cases e; decide +kernel
      | gt =>
        refine ⟨4, _, _, rfl, by decide +kernel, fun m z h e => ?_, rfl, at_v, at_u, q⟩
        match m, h, e with
        | 0, _, e => cases e; decide +kernel
        | 1, _, e => cases e; decide +kernel
        | 2, _, e => cases e; decide +kernel
        | 3, _, e => cases e; decide +kernel
      | ge =>
        refine ⟨5, _, _, rfl, by decide +kernel, fun m z h e => ?_, rfl, at_v, at_u, q⟩
        match m, h, e with
        | 0, _, e => cases e; decide +kernel
        | 1, _, e => cases e; decide +kernel
        | 2, _, e => cases e; decide +kernel
        | 3, _, e => cases e; decide +kernel
        | 4, _, e => cases e; decide +kernel
      | _ => cases hs
    refine ⟨_, rfl, _, rfl, rfl, _, rfl, _, rfl, rfl, _, rfl, _, rfl, _, _, rfl, rfl, _, rfl, _, rfl, _, _, rfl, rfl, ?_⟩
    -- left < right or left == right
    have tail : ∀ (b4 : Bool), b4 = decide (l ≤ r) → ∀ (u : Addr), H u = none → ∀ (b6 : Bool), b6 = decide (r ≤ l) → ∀ v, upd (upd H u (.lst [.bl (decide (V.int l = V.int r)), .bl (!decide (V.int l = V.int r)), .bl (decide (l < r)), .bl b4, .bl (decide (r < l))])) u (.lst ([.bl (decide (V.int l = V.int r)), .bl (!decide (V.int l = V.int r)), .bl (decide (l < r)), .bl b4, .bl (decide (r < l))] ++ [.bl b6])) v = none → _ :=
      fun b4 e4 u nu b6 e6 v nv => fin _ _ _ b4 _ b6 rfl rfl rfl e4 rfl e6 u v _ _ upd_same (Same_upd nu) nu rfl nv
    rcases Int.lt_trichotomy l r with o | o | o
    · have d4 : true = decide (l ≤ r) := (decide_eq_true (Int.le_of_lt o)).symm
      have d6 : false = decide (r ≤ l) := (decide_eq_false (by omega)).symm
      refine ⟨_, rfl, ifYes (decide_eq_true o) ?_⟩
      refine ⟨_, rfl, _, rfl, _, _, rfl, rfl, by show 5 ≤ sizeLine; decide, fun u nu => ?_⟩
      refine ⟨_, rfl, .inl ⟨rfl, _, .inl (.inl upd_same)⟩, _, rfl, _, rfl, _, _, rfl, rfl, _, rfl, ifNo (decide_eq_false (by omega)) ⟨_, rfl, _, rfl, rfl, ?_⟩⟩
      refine ⟨u, _, _, rfl, rfl, upd_same, by show 5 < sizeLine; decide, by show 6 ≤ sizeLine; decide, fun v nv => ?_⟩
      obtain ⟨j, z, b, h1, h2, h3, h4, h5, h6, h7⟩ := tail true d4 u nu (decide (V.int l = V.int r)) (by rw [← d6]; exact decide_eq_false fun z => absurd (V.int.inj z) (by omega)) v nv
      exact ⟨_, rfl, _, rfl, .inl ⟨rfl, _, .inl (.inl h5)⟩, _, rfl, v, _, _, j, z, rfl, rfl, SqL.of h5, rfl, rfl, h1, h2, h3, u, _, _, _, rfl, rfl, SqL.of h6, atI_nat h4, .inr ⟨_, rfl, h7⟩⟩
    · have d4 : true = decide (l ≤ r) := (decide_eq_true (by omega)).symm
      have d6 : true = decide (r ≤ l) := (decide_eq_true (by omega)).symm
      have de : decide (V.int l = V.int r) = true := decide_eq_true (congrArg V.int o)
      refine ⟨_, rfl, ifNo (decide_eq_false (by omega)) ⟨_, rfl, _, rfl, rfl, ?_⟩⟩
      refine ⟨_, rfl, _, rfl, _, _, rfl, rfl, by show 5 ≤ sizeLine; decide, fun u nu => ?_⟩
      refine ⟨_, rfl, .inl ⟨rfl, _, .inl (.inl upd_same)⟩, _, rfl, _, rfl, _, _, rfl, rfl, _, rfl, ifNo (decide_eq_false (by omega)) ⟨_, rfl, _, rfl, rfl, ?_⟩⟩
      refine ⟨u, _, _, rfl, rfl, upd_same, by show 5 < sizeLine; decide, by show 6 ≤ sizeLine; decide, fun v nv => ?_⟩
      obtain ⟨j, z, b, h1, h2, h3, h4, h5, h6, h7⟩ := tail (decide (V.int l = V.int r)) (by rw [de]; exact d4) u nu (decide (V.int l = V.int r)) (by rw [de]; exact d6) v nv
      exact ⟨_, rfl, _, rfl, .inl ⟨rfl, _, .inl (.inl h5)⟩, _, rfl, v, _, _, j, z, rfl, rfl, SqL.of h5, rfl, rfl, h1, h2, h3, u, _, _, _, rfl, rfl, SqL.of h6, atI_nat h4, .inr ⟨_, rfl, h7⟩⟩
    · have d4 : false = decide (l ≤ r) := (decide_eq_false (by omega)).symm
      have d6 : true = decide (r ≤ l) := (decide_eq_true (by omega)).symm
      have de : decide (V.int l = V.int r) = false := decide_eq_false fun z => absurd (V.int.inj z) (by omega)
      refine ⟨_, rfl, ifNo (decide_eq_false (by omega)) ⟨_, rfl, _, rfl, rfl, ?_⟩⟩
      refine ⟨_, rfl, _, rfl, _, _, rfl, rfl, by show 5 ≤ sizeLine; decide, fun u nu => ?_⟩
      refine ⟨_, rfl, .inl ⟨rfl, _, .inl (.inl upd_same)⟩, _, rfl, _, rfl, _, _, rfl, rfl, _, rfl, ifYes (decide_eq_true o) ?_⟩
      refine ⟨u, _, _, rfl, rfl, upd_same, by show 5 < sizeLine; decide, by show 6 ≤ sizeLine; decide, fun v nv => ?_⟩
      obtain ⟨j, z, b, h1, h2, h3, h4, h5, h6, h7⟩ := tail (decide (V.int l = V.int r)) (by rw [de]; exact d4) u nu true d6 v nv
      exact ⟨_, rfl, _, rfl, .inl ⟨rfl, _, .inl (.inl h5)⟩, _, rfl, v, _, _, j, z, rfl, rfl, SqL.of h5, rfl, rfl, h1, h2, h3, u, _, _, _, rfl, rfl, SqL.of h6, atI_nat h4, .inr ⟨_, rfl, h7⟩⟩
end
end Pf
set_option Elab.async false
set_option linter.all false
set_option maxRecDepth 100000
set_option maxHeartbeats 4000000
namespace Pf
open PySem PySem.Spec PyProof.Rows L2 Wc
open C8 (Cal pe_c pe_gc)
section
variable {P : Program} {w : World} {K : PySem.W.Frag} {mg : Str → Option Value} {base : Heap}
theorem wd_shr {a : Int} (h : Wd a) (n : Nat) : Wd (a / 2 ^ n) := by
  have hp : (0 : Int) < 2 ^ n := Int.pow_pos (by decide)
  obtain ⟨h1, h2⟩ := h
  have h3 : (1 : Int) ≤ 2 ^ n := hp
  refine ⟨?_, ?_⟩
  · rw [Int.le_ediv_iff_mul_le hp]
    have : 32768 * (2 : Int) ^ n ≥ 32768 * 1 := Int.mul_le_mul_of_nonneg_left h3 (by decide)
    omega
  · have : a / 2 ^ n ≤ 32767 / 2 ^ n := Int.ediv_le_ediv hp h2
    have : (32767 : Int) / 2 ^ n ≤ 32767 := Int.ediv_le_self _ (by decide)
    omega
def spExp : Sp := fun vs H Q _ => ∃ (s : Sg) (l r : Int), vs = [.str s.z, .int l, .int r] ∧ Wd l ∧ Wd r ∧ ∀ H', Same H H' → Q (opV s l r) H'
theorem c_exp (T : Txt w K mg) : Cal P w K mg base 3 "_law_expected" spExp [] := by
  have C__law_bits := c_bits (P := P) (w := w) (base := base) T
  have C__law_quotient := c_qr (P := P) (w := w) (base := base) T
  have C__law_value := c_value (P := P) (w := w) (base := base) T
  have C__law_sum := c_sum (P := P) (w := w) (base := base) T
  have C__law_product := c_prod (P := P) (w := w) (base := base) T
  have C__law_bitwise := c_bw (P := P) (w := w) (base := base) T
  have C__law_shifted := c_shf (P := P) (w := w) (base := base) T
  have C__law_compared := c_cmp (P := P) (w := w) (base := base) T
  refine calD T.d__law_expected T.g__law_expected (fun _ _ _ _ _ _ us hl => match us, hl with | [_, _, _], _ => rfl) sc__law_expected (fun vs H Q E h => ?_) (fun cdv A outer s H vs Q E hr h => ?_)
  · obtain ⟨s, l, r, rfl, _⟩ := h
    rfl
  · obtain ⟨s, l, r, rfl, hl, h2, k⟩ := h
    refine ⟨_, (pss_cons (ps_set (i := 3) sc__law_expected.nd rfl (Or.inl rfl) (pe_c C__law_bits hr (by decide) rfl (pa_cons (pv 1) pa_nil)))
      (pss_cons (ps_set (i := 4) sc__law_expected.nd rfl (Or.inl rfl) (pe_c C__law_bits hr (by decide) rfl (pa_cons (pv 2) pa_nil)))
      (pss_cons (ps_if (PW.pt (pw_or (pt_cmpR op_eq (pv 0) pe_str (nomark _)) (pw_or1 (pt_cmpR op_eq (pv 0) pe_str (nomark _))))) (pss_cons (ps_if (pt_cmpR op_eq (pv 2) pe_int (nomark _)) (pss_one (ps_ret pe_non)) pss_nil)
      (pss_cons (ps_set (i := 5) sc__law_expected.nd rfl (Or.inl rfl) (pe_c C__law_quotient hr (by decide) rfl (pa_cons (pv 1) (pa_cons (pv 2) pa_nil))))
      (pss_cons (ps_if (pt_cmpR op_eq (pv 0) pe_str (nomark _)) (pss_one (ps_ret (pe_ix ix_tup (pv 5) pe_int (fun _ _ => rfl)))) pss_nil)
      (pss_one (ps_ret (pe_c C__law_value hr (by decide) rfl (pa_cons (pe_c C__law_bits hr (by decide) rfl (pa_cons (pe_op op_sub (pe_op op_mod (pe_callTy call_int1 rfl T.n_int (by rfl) (pa_cons (pe_op op_add (pe_ix ix_tup (pv 5) pe_int (fun _ _ => rfl)) pe_int) pa_nil)) pe_int) pe_int) pa_nil)) pa_nil))))))) pss_nil)
      (pss_cons (ps_if (pt_cmpR op_eq (pv 0) pe_str (nomark _)) (pss_one (ps_ret (pe_c C__law_value hr (by decide) rfl (pa_cons (pe_c C__law_sum hr (by decide) rfl (pa_cons (pv 3) (pa_cons (pv 4) (pa_cons pe_int pa_nil)))) pa_nil)))) pss_nil)
      (pss_cons (ps_if (pt_cmpR op_eq (pv 0) pe_str (nomark _)) (pss_one (ps_ret (pe_c C__law_value hr (by decide) rfl (pa_cons (pe_c C__law_sum hr (by decide) rfl (pa_cons (pv 3) (pa_cons (pe_lc (own := [("bit", 6)]) (g := gName 6) (tt := tYes) rfl sc__law_expected.nd (pi_list (pv 4)) (blkOk_by (N := N__law_expected) (sc := defScope s__law_expected) (by decide +kernel)) (fun _ _ _ _ _ => pg_name (i := 6) sc__law_expected.nd rfl (Or.inl rfl)) (fun _ _ _ _ _ => pts_nil) (fun _ _ _ _ _ => (pe_op op_sub pe_int (pv 6)))) (pa_cons pe_int pa_nil)))) pa_nil)))) pss_nil)
      (pss_cons (ps_if (pt_cmpR op_eq (pv 0) pe_str (nomark _)) (pss_one (ps_ret (pe_c C__law_value hr (by decide) rfl (pa_cons (pe_c C__law_product hr (by decide) rfl (pa_cons (pv 3) (pa_cons (pv 4) pa_nil))) pa_nil)))) pss_nil)
      (pss_cons (ps_if (pt_cmpR op_in_seq (pv 0) (pe_lst (pa_cons pe_str (pa_cons pe_str (pa_cons pe_str pa_nil)))) rfl) (pss_one (ps_ret (pe_c C__law_value hr (by decide) rfl (pa_cons (pe_c C__law_bitwise hr (by decide) rfl (pa_cons (pv 0) (pa_cons (pv 3) (pa_cons (pv 4) pa_nil)))) pa_nil)))) pss_nil)
      (pss_cons (ps_if (PW.pt (pw_or (pt_cmpR op_eq (pv 0) pe_str (nomark _)) (pw_or1 (pt_cmpR op_eq (pv 0) pe_str (nomark _))))) (pss_one (ps_ret (pe_c C__law_value hr (by decide) rfl (pa_cons (pe_c C__law_shifted hr (by decide) rfl (pa_cons (pv 0) (pa_cons (pv 3) (pa_cons (pv 4) pa_nil)))) pa_nil)))) pss_nil)
      (pss_one (ps_ret (pe_c C__law_compared hr (by decide) rfl (pa_cons (pv 0) (pa_cons (pv 1) (pa_cons (pv 2) pa_nil)))))))))))))), ?_⟩
    refine ⟨_, rfl, l, rfl, hl, fun one H1 n1 e1 s1 => ?_⟩
    refine ⟨_, rfl, r, rfl, h2, fun two H2 n2 e2 s2 => ?_⟩
    have o1 : H2 one = some (.lst (BL l)) := s2 _ _ e1
    have sm := s1.trans s2
    cases s with
    | div =>
      refine ⟨_, rfl, rfl, _, rfl, ifYes (by decide +kernel) ?_⟩
      refine iteT ?_
      refine ⟨_, rfl, rfl, _, rfl, ifB (fun e => ?_) (fun e => ?_)⟩
      · have e0 : r = 0 := V.int.inj (of_decide_eq_true e)
        have q := k _ sm
        unfold opV at q
        simp only [if_pos e0] at q
        exact q
      have h0 : r ≠ 0 := fun z => of_decide_eq_false e (congrArg V.int z)
      refine ⟨_, rfl, _, rfl, l, r, rfl, hl, h2, h0, fun t H3 n3 e3 s3 => ?_⟩
      refine ⟨_, rfl, rfl, _, rfl, ifNo (by decide +kernel) ?_⟩
      refine ⟨_, rfl, t, _, 0, _, rfl, rfl, SqT.of e3, rfl, _, _, rfl, rfl, .inl ⟨_, rfl, _, _, rfl, rfl, (by show (0 : Int) < 65536; decide), _, _, rfl, rfl, wr (quo l r), rfl, wr_wd _, fun b H4 n4 e4 s4 => ?_⟩⟩
      refine ⟨b, _, rfl, SqL.of e4, fun H5 s5 => ?_⟩
      have q := k _ (((sm.trans s3).trans s4).trans s5)
      unfold opV at q
      simp only [if_neg h0] at q
      rw [wr_wr]
      exact q
    | rem =>
      refine ⟨_, rfl, rfl, _, rfl, ifNo (by decide +kernel) ?_⟩
      refine ⟨_, rfl, rfl, _, rfl, ifYes (by decide +kernel) ?_⟩
      refine ⟨_, rfl, rfl, _, rfl, ifB (fun e => ?_) (fun e => ?_)⟩
      · have e0 : r = 0 := V.int.inj (of_decide_eq_true e)
        have q := k _ sm
        unfold opV at q
        simp only [if_pos e0] at q
        exact q
      have h0 : r ≠ 0 := fun z => of_decide_eq_false e (congrArg V.int z)
      refine ⟨_, rfl, _, rfl, l, r, rfl, hl, h2, h0, fun t H3 n3 e3 s3 => ?_⟩
      refine ⟨_, rfl, rfl, _, rfl, ifYes (by decide +kernel) ?_⟩
      refine ⟨_, rfl, t, _, 1, _, rfl, rfl, SqT.of e3, rfl, ?_⟩
      have q := k _ (sm.trans s3)
      unfold opV at q
      simp only [if_neg h0] at q
      exact q
    | add =>
      refine ⟨_, rfl, rfl, _, rfl, ifNo (by decide +kernel) ?_⟩
      refine ⟨_, rfl, rfl, _, rfl, ifNo (by decide +kernel) ?_⟩
      refine ⟨_, rfl, rfl, _, rfl, ifYes (by decide +kernel) ?_⟩
      refine ⟨_, rfl, _, rfl, one, two, l, r, 0, rfl, SqL.of o1, SqL.of e2, fun t H3 n3 e3 s3 => ⟨t, _, rfl, SqL.of e3, fun H4 s4 => ?_⟩⟩
      have q := k _ ((sm.trans s3).trans s4)
      rw [Int.add_zero]
      exact q
    | sub =>
      refine ⟨_, rfl, rfl, _, rfl, ifNo (by decide +kernel) ?_⟩
      refine ⟨_, rfl, rfl, _, rfl, ifNo (by decide +kernel) ?_⟩
      refine ⟨_, rfl, rfl, _, rfl, ifNo (by decide +kernel) ?_⟩
      refine ⟨_, rfl, rfl, _, rfl, ifYes (by decide +kernel) ?_⟩
      refine ⟨_, rfl, _, rfl, two, rfl, ⟨_, SqL.of e2⟩, fun D nD => lcL (xs := BL r) (fun x => match x with | .int i => .int (1 - i) | _ => .non) (by rw [BL_len]; decide) nD (SqL.of e2) (fun _ => rfl) (fun x H3 Q3 hx s3 z => ?_) (fun H3 h3 s3 => ?_)⟩
      · obtain ⟨j, _, rfl⟩ := List.mem_map.mp hx
        exact ⟨_, rfl, _, _, rfl, rfl, z⟩
      have h3' : H3 D = some (.lst (BL (-r - 1))) := by
        rw [h3]
        unfold BL
        rw [List.map_map]
        refine congrArg (fun z => some (HO.lst z)) (List.map_congr_left fun j _ => ?_)
        show V.int (1 - bit r j) = V.int (bit (-r - 1) j)
        rw [bit_neg]
      refine ⟨one, D, l, -r - 1, 1, rfl, SqL.of (s3 _ _ o1), SqL.of h3', fun t H4 n4 e4 s4 => ⟨t, _, rfl, SqL.of e4, fun H5 s5 => ?_⟩⟩
      have q := k _ (((sm.trans s3).trans s4).trans s5)
      rw [show l + (-r - 1) + 1 = l - r by omega]
      exact q
    | mul =>
      refine ⟨_, rfl, rfl, _, rfl, ifNo (by decide +kernel) ?_⟩
      refine ⟨_, rfl, rfl, _, rfl, ifNo (by decide +kernel) ?_⟩
      refine ⟨_, rfl, rfl, _, rfl, ifNo (by decide +kernel) ?_⟩
      refine ⟨_, rfl, rfl, _, rfl, ifNo (by decide +kernel) ?_⟩
      refine ⟨_, rfl, rfl, _, rfl, ifYes (by decide +kernel) ?_⟩
      refine ⟨_, rfl, _, rfl, one, two, l, r, rfl, SqL.of o1, SqL.of e2, fun t H3 n3 e3 s3 => ⟨t, _, rfl, SqL.of e3, fun H4 s4 => ?_⟩⟩
      exact k _ ((sm.trans s3).trans s4)
    | and =>
      refine ⟨_, rfl, rfl, _, rfl, ifNo (by decide +kernel) ?_⟩
      refine ⟨_, rfl, rfl, _, rfl, ifNo (by decide +kernel) ?_⟩
      refine ⟨_, rfl, rfl, _, rfl, ifNo (by decide +kernel) ?_⟩
      refine ⟨_, rfl, rfl, _, rfl, ifNo (by decide +kernel) ?_⟩
      refine ⟨_, rfl, rfl, _, rfl, ifNo (by decide +kernel) ?_⟩
      refine ⟨_, rfl, by show 3 ≤ sizeLine; decide, fun m nm => ⟨m, _, rfl, .inl (SqL.of upd_same), rfl, rfl, _, rfl, ifYes (by decide +kernel) ?_⟩⟩
      have sn := Same_upd (o := .lst [.str (Str.ofString "&"), .str (Str.ofString "|"), .str (Str.ofString "^")]) nm
      refine ⟨_, rfl, _, rfl, _, rfl, .and, one, two, l, r, _, rfl, SqL.of (sn _ _ o1), SqL.of (sn _ _ e2), rfl, fun t H3 n3 e3 s3 => ⟨t, _, rfl, SqL.of e3, fun H4 s4 => ?_⟩⟩
      rw [wr_of (wd_and hl h2)]
      exact k _ (((sm.trans sn).trans s3).trans s4)
    | or =>
      refine ⟨_, rfl, rfl, _, rfl, ifNo (by decide +kernel) ?_⟩
      refine ⟨_, rfl, rfl, _, rfl, ifNo (by decide +kernel) ?_⟩
      refine ⟨_, rfl, rfl, _, rfl, ifNo (by decide +kernel) ?_⟩
      refine ⟨_, rfl, rfl, _, rfl, ifNo (by decide +kernel) ?_⟩
      refine ⟨_, rfl, rfl, _, rfl, ifNo (by decide +kernel) ?_⟩
      refine ⟨_, rfl, by show 3 ≤ sizeLine; decide, fun m nm => ⟨m, _, rfl, .inl (SqL.of upd_same), rfl, rfl, _, rfl, ifYes (by decide +kernel) ?_⟩⟩
      have sn := Same_upd (o := .lst [.str (Str.ofString "&"), .str (Str.ofString "|"), .str (Str.ofString "^")]) nm
      refine ⟨_, rfl, _, rfl, _, rfl, .or, one, two, l, r, _, rfl, SqL.of (sn _ _ o1), SqL.of (sn _ _ e2), rfl, fun t H3 n3 e3 s3 => ⟨t, _, rfl, SqL.of e3, fun H4 s4 => ?_⟩⟩
      rw [wr_of (wd_or hl h2)]
      exact k _ (((sm.trans sn).trans s3).trans s4)
    | xor =>
      refine ⟨_, rfl, rfl, _, rfl, ifNo (by decide +kernel) ?_⟩
      refine ⟨_, rfl, rfl, _, rfl, ifNo (by decide +kernel) ?_⟩
      refine ⟨_, rfl, rfl, _, rfl, ifNo (by decide +kernel) ?_⟩
      refine ⟨_, rfl, rfl, _, rfl, ifNo (by decide +kernel) ?_⟩
      refine ⟨_, rfl, rfl, _, rfl, ifNo (by decide +kernel) ?_⟩
      refine ⟨_, rfl, by show 3 ≤ sizeLine; decide, fun m nm => ⟨m, _, rfl, .inl (SqL.of upd_same), rfl, rfl, _, rfl, ifYes (by decide +kernel) ?_⟩⟩
      have sn := Same_upd (o := .lst [.str (Str.ofString "&"), .str (Str.ofString "|"), .str (Str.ofString "^")]) nm
      refine ⟨_, rfl, _, rfl, _, rfl, .xor, one, two, l, r, _, rfl, SqL.of (sn _ _ o1), SqL.of (sn _ _ e2), rfl, fun t H3 n3 e3 s3 => ⟨t, _, rfl, SqL.of e3, fun H4 s4 => ?_⟩⟩
      rw [wr_of (wd_xor hl h2)]
      exact k _ (((sm.trans sn).trans s3).trans s4)
    | shl =>
      refine ⟨_, rfl, rfl, _, rfl, ifNo (by decide +kernel) ?_⟩
      refine ⟨_, rfl, rfl, _, rfl, ifNo (by decide +kernel) ?_⟩
      refine ⟨_, rfl, rfl, _, rfl, ifNo (by decide +kernel) ?_⟩
      refine ⟨_, rfl, rfl, _, rfl, ifNo (by decide +kernel) ?_⟩
      refine ⟨_, rfl, rfl, _, rfl, ifNo (by decide +kernel) ?_⟩
      refine ⟨_, rfl, by show 3 ≤ sizeLine; decide, fun m nm => ⟨m, _, rfl, .inl (SqL.of upd_same), rfl, rfl, _, rfl, ifNo (by decide +kernel) ?_⟩⟩
      have sn := Same_upd (o := .lst [.str (Str.ofString "&"), .str (Str.ofString "|"), .str (Str.ofString "^")]) nm
      refine ⟨_, rfl, rfl, _, rfl, ifYes (by decide +kernel) ?_⟩
      refine iteT ⟨_, rfl, _, rfl, _, rfl, .shl, one, two, l, r, _, rfl, SqL.of (sn _ _ o1), SqL.of (sn _ _ e2), hl, rfl, fun t H3 n3 e3 s3 => ⟨t, _, rfl, SqL.of e3, fun H4 s4 => ?_⟩⟩
      exact k _ (((sm.trans sn).trans s3).trans s4)
    | shr =>
      refine ⟨_, rfl, rfl, _, rfl, ifNo (by decide +kernel) ?_⟩
      refine ⟨_, rfl, rfl, _, rfl, ifNo (by decide +kernel) ?_⟩
      refine ⟨_, rfl, rfl, _, rfl, ifNo (by decide +kernel) ?_⟩
      refine ⟨_, rfl, rfl, _, rfl, ifNo (by decide +kernel) ?_⟩
      refine ⟨_, rfl, rfl, _, rfl, ifNo (by decide +kernel) ?_⟩
      refine ⟨_, rfl, by show 3 ≤ sizeLine; decide, fun m nm => ⟨m, _, rfl, .inl (SqL.of upd_same), rfl, rfl, _, rfl, ifNo (by decide +kernel) ?_⟩⟩
      have sn := Same_upd (o := .lst [.str (Str.ofString "&"), .str (Str.ofString "|"), .str (Str.ofString "^")]) nm
      refine ⟨_, rfl, rfl, _, rfl, ifNo (by decide +kernel) ?_⟩
      refine ⟨_, rfl, rfl, _, rfl, ifYes (by decide +kernel) ?_⟩
      refine ⟨_, rfl, _, rfl, _, rfl, .shr, one, two, l, r, _, rfl, SqL.of (sn _ _ o1), SqL.of (sn _ _ e2), hl, rfl, fun t H3 n3 e3 s3 => ⟨t, _, rfl, SqL.of e3, fun H4 s4 => ?_⟩⟩
      rw [wr_of (wd_shr hl _)]
      exact k _ (((sm.trans sn).trans s3).trans s4)
    | eq =>
      refine ⟨_, rfl, rfl, _, rfl, ifNo (by decide +kernel) ?_⟩
      refine ⟨_, rfl, rfl, _, rfl, ifNo (by decide +kernel) ?_⟩
      refine ⟨_, rfl, rfl, _, rfl, ifNo (by decide +kernel) ?_⟩
      refine ⟨_, rfl, rfl, _, rfl, ifNo (by decide +kernel) ?_⟩
      refine ⟨_, rfl, rfl, _, rfl, ifNo (by decide +kernel) ?_⟩
      refine ⟨_, rfl, by show 3 ≤ sizeLine; decide, fun m nm => ⟨m, _, rfl, .inl (SqL.of upd_same), rfl, rfl, _, rfl, ifNo (by decide +kernel) ?_⟩⟩
      have sn := Same_upd (o := .lst [.str (Str.ofString "&"), .str (Str.ofString "|"), .str (Str.ofString "^")]) nm
      refine ⟨_, rfl, rfl, _, rfl, ifNo (by decide +kernel) ?_⟩
      refine ⟨_, rfl, rfl, _, rfl, ifNo (by decide +kernel) ?_⟩
      exact ⟨_, rfl, _, rfl, _, rfl, .eq, l, r, rfl, rfl, fun H3 s3 => k _ ((sm.trans sn).trans s3)⟩
    | ne =>
      refine ⟨_, rfl, rfl, _, rfl, ifNo (by decide +kernel) ?_⟩
      refine ⟨_, rfl, rfl, _, rfl, ifNo (by decide +kernel) ?_⟩
      refine ⟨_, rfl, rfl, _, rfl, ifNo (by decide +kernel) ?_⟩
      refine ⟨_, rfl, rfl, _, rfl, ifNo (by decide +kernel) ?_⟩
      refine ⟨_, rfl, rfl, _, rfl, ifNo (by decide +kernel) ?_⟩
      refine ⟨_, rfl, by show 3 ≤ sizeLine; decide, fun m nm => ⟨m, _, rfl, .inl (SqL.of upd_same), rfl, rfl, _, rfl, ifNo (by decide +kernel) ?_⟩⟩
      have sn := Same_upd (o := .lst [.str (Str.ofString "&"), .str (Str.ofString "|"), .str (Str.ofString "^")]) nm
      refine ⟨_, rfl, rfl, _, rfl, ifNo (by decide +kernel) ?_⟩
      refine ⟨_, rfl, rfl, _, rfl, ifNo (by decide +kernel) ?_⟩
      exact ⟨_, rfl, _, rfl, _, rfl, .ne, l, r, rfl, rfl, fun H3 s3 => k _ ((sm.trans sn).trans s3)⟩
    | lt =>
      refine ⟨_, rfl, rfl, _, rfl, ifNo (by decide +kernel) ?_⟩
      refine ⟨_, rfl, rfl, _, rfl, ifNo (by decide +kernel) ?_⟩
      refine ⟨_, rfl, rfl, _, rfl, ifNo (by decide +kernel) ?_⟩
      refine ⟨_, rfl, rfl, _, rfl, ifNo (by decide +kernel) ?_⟩
      refine ⟨_, rfl, rfl, _, rfl, ifNo (by decide +kernel) ?_⟩
      refine ⟨_, rfl, by show 3 ≤ sizeLine; decide, fun m nm => ⟨m, _, rfl, .inl (SqL.of upd_same), rfl, rfl, _, rfl, ifNo (by decide +kernel) ?_⟩⟩
      have sn := Same_upd (o := .lst [.str (Str.ofString "&"), .str (Str.ofString "|"), .str (Str.ofString "^")]) nm
      refine ⟨_, rfl, rfl, _, rfl, ifNo (by decide +kernel) ?_⟩
      refine ⟨_, rfl, rfl, _, rfl, ifNo (by decide +kernel) ?_⟩
      exact ⟨_, rfl, _, rfl, _, rfl, .lt, l, r, rfl, rfl, fun H3 s3 => k _ ((sm.trans sn).trans s3)⟩
    | le =>
      refine ⟨_, rfl, rfl, _, rfl, ifNo (by decide +kernel) ?_⟩
      refine ⟨_, rfl, rfl, _, rfl, ifNo (by decide +kernel) ?_⟩
      refine ⟨_, rfl, rfl, _, rfl, ifNo (by decide +kernel) ?_⟩
      refine ⟨_, rfl, rfl, _, rfl, ifNo (by decide +kernel) ?_⟩
      refine ⟨_, rfl, rfl, _, rfl, ifNo (by decide +kernel) ?_⟩
      refine ⟨_, rfl, by show 3 ≤ sizeLine; decide, fun m nm => ⟨m, _, rfl, .inl (SqL.of upd_same), rfl, rfl, _, rfl, ifNo (by decide +kernel) ?_⟩⟩
      have sn := Same_upd (o := .lst [.str (Str.ofString "&"), .str (Str.ofString "|"), .str (Str.ofString "^")]) nm
      refine ⟨_, rfl, rfl, _, rfl, ifNo (by decide +kernel) ?_⟩
      refine ⟨_, rfl, rfl, _, rfl, ifNo (by decide +kernel) ?_⟩
      exact ⟨_, rfl, _, rfl, _, rfl, .le, l, r, rfl, rfl, fun H3 s3 => k _ ((sm.trans sn).trans s3)⟩
    | gt =>
      refine ⟨_, rfl, rfl, _, rfl, ifNo (by decide +kernel) ?_⟩
      refine ⟨_, rfl, rfl, _, rfl, ifNo (by decide +kernel) ?_⟩
      refine ⟨_, rfl, rfl, _, rfl, ifNo (by decide +kernel) ?_⟩
      refine ⟨_, rfl, rfl, _, rfl, ifNo (by decide +kernel) ?_⟩
      refine ⟨_, rfl, rfl, _, rfl, ifNo (by decide +kernel) ?_⟩
      refine ⟨_, rfl, by show 3 ≤ sizeLine; decide, fun m nm => ⟨m, _, rfl, .inl (SqL.of upd_same), rfl, rfl, _, rfl, ifNo (by decide +kernel) ?_⟩⟩
      have sn := Same_upd (o := .lst [.str (Str.ofString "&"), .str (Str.ofString "|"), .str (Str.ofString "^")]) nm
      refine ⟨_, rfl, rfl, _, rfl, ifNo (by decide +kernel) ?_⟩
      refine ⟨_, rfl, rfl, _, rfl, ifNo (by decide +kernel) ?_⟩
      exact ⟨_, rfl, _, rfl, _, rfl, .gt, l, r, rfl, rfl, fun H3 s3 => k _ ((sm.trans sn).trans s3)⟩
    | ge =>
      refine ⟨_, rfl, rfl, _, rfl, ifNo (by decide +kernel) ?_⟩
      refine ⟨_, rfl, rfl, _, rfl, ifNo (by decide +kernel) ?_⟩
      refine ⟨_, rfl, rfl, _, rfl, ifNo (by decide +kernel) ?_⟩
      refine ⟨_, rfl, rfl, _, rfl, ifNo (by decide +kernel) ?_⟩
      refine ⟨_, rfl, rfl, _, rfl, ifNo (by decide +kernel) ?_⟩
      refine ⟨_, rfl, by show 3 ≤ sizeLine; decide, fun m nm => ⟨m, _, rfl, .inl (SqL.of upd_same), rfl, rfl, _, rfl, ifNo (by decide +kernel) ?_⟩⟩
      have sn := Same_upd (o := .lst [.str (Str.ofString "&"), .str (Str.ofString "|"), .str (Str.ofString "^")]) nm
      refine ⟨_, rfl, rfl, _, rfl, ifNo (by decide +kernel) ?_⟩
      refine ⟨_, rfl, rfl, _, rfl, ifNo (by decide +kernel) ?_⟩
      exact ⟨_, rfl, _, rfl, _, rfl, .ge, l, r, rfl, rfl, fun H3 s3 => k _ ((sm.trans sn).trans s3)⟩
end
end Pf
set_option Elab.async false
set_option linter.all false
set_option maxRecDepth 100000
set_option maxHeartbeats 4000000
namespace Pf
open PySem PySem.Spec PyProof.Rows L2 Wc
open C8 (Cal pe_c pe_gc)
section
variable {P : Program} {w : World} {K : PySem.W.Frag} {mg : Str → Option Value} {base : Heap}
theorem opV_cases (s : Sg) (l r : Int) : opV s l r = .non ∨ ∃ n, opV s l r = .int n := by
  cases s with
  | div =>
    unfold opV
    by_cases h : r = 0
    · exact .inl (if_pos h)
    · exact .inr ⟨_, if_neg h⟩
  | rem =>
    unfold opV
    by_cases h : r = 0
    · exact .inl (if_pos h)
    · exact .inr ⟨_, if_neg h⟩
  | _ => exact .inr ⟨_, rfl⟩
def allSg : List Sg := [.add, .sub, .mul, .div, .rem, .and, .or, .xor, .shl, .shr, .eq, .ne, .lt, .le, .gt, .ge]
theorem tyT {H : Hp} {a : Addr} {xs : List V} (h : SqT K H a xs) : TyX K H (.ref a) (.type "tuple") := by
  rcases h with (h | ⟨o, h⟩) | ⟨o, its, n, h, c, _⟩
  · exact .base (.tup h)
  · exact .fTuple h
  · exact .kTuple h c
def spLaw (K : PySem.W.Frag) : Sp := fun vs H Q _ => ∃ (a : Addr) (ns : List Int), vs = [.ref a] ∧ SqL K H a (ns.map V.int) ∧ ns.length ≤ 63 ∧ (∀ n ∈ ns, Builtin.Int.intBits n ≤ 1048576) ∧ ∀ H', Q (.bl true) H'
def LawI (a u : Addr) (H0 : Hp) : Nat → L2.St → Hp → Prop := fun _ σ H => ∃ x1 x2 x3 x4 x5 x6 x7, σ = [some (V.ref a), some (.ref u), x1, x2, x3, x4, x5, x6, x7] ∧ Same H0 H
def signs : PyData := .list [.str (Str.ofString "+"), .str (Str.ofString "-"), .str (Str.ofString "*"), .str (Str.ofString "/"), .str (Str.ofString "mod"), .str (Str.ofString "&"), .str (Str.ofString "|"), .str (Str.ofString "^"), .str (Str.ofString "<<"), .str (Str.ofString ">>"), .str (Str.ofString "=="), .str (Str.ofString "!="), .str (Str.ofString "<"), .str (Str.ofString "<="), .str (Str.ofString ">"), .str (Str.ofString ">=")]
theorem signs_dp {H : Hp} : DpAll K H (allSg.map fun s => V.str s.z) (allSg.map fun s => PyData.str s.z) := by
  unfold allSg
  simp only [List.map]
  repeat (first | exact DpAll.nil | refine DpAll.cons (Dp.str _) ?_)
theorem c_law {fd : FuncData} (T : Txt w K mg) (F : FnP K "law" s_law (He.ga K "law") fd) : FnOk P w K mg base CX0 4 (He.ga K "law") fd ["script"] (spLaw K) := by
  have C__law_draw := c_draw (P := P) (w := w) (base := base) T
  have C__law_bag := c_bag (P := P) (w := w) (base := base) T
  have C__law_word := c_word (P := P) (w := w) (base := base) T
  have C_op := c_op (P := P) (w := w) (base := base) T
  have C__law_expected := c_exp (P := P) (w := w) (base := base) T
  refine fnD F sc_law (fun vs H Q E h => ?_) (fun cdv A outer s H vs Q E hr h => ?_)
  · obtain ⟨p, ns, rfl, _⟩ := h
    rfl
  · obtain ⟨a, ns, rfl, hS, hlen, hb, q⟩ := h
    refine ⟨_, (pss_cons (ps_set (i := 1) sc_law.nd rfl (Or.inl rfl) (pe_lst (pa_cons pe_str (pa_cons pe_str (pa_cons pe_str (pa_cons pe_str (pa_cons pe_str (pa_cons pe_str (pa_cons pe_str (pa_cons pe_str (pa_cons pe_str (pa_cons pe_str (pa_cons pe_str (pa_cons pe_str (pa_cons pe_str (pa_cons pe_str (pa_cons pe_str (pa_cons pe_str pa_nil))))))))))))))))))
      (pss_cons (ps_if (PW.pt (pw_or (pt_not (pt_val (pe_callB call_isi rfl T.n_isinstance (by rfl) (pa_cons (pe_gref rfl T.g_SIGNS) (pa_cons (pe_ty "tuple" rfl T.n_tuple (by rfl)) pa_nil))))) (pw_or1 (pt_cmpR (op_neD hr.units) (pe_callTy call_list_of rfl T.n_list (by rfl) (pa_cons (pe_gref rfl T.g_SIGNS) pa_nil)) (pv 1) (nomark _))))) (pss_one (ps_ret pe_bl)) pss_nil)
      (pss_cons (ps_for PassesOwn.never rfl (pi_range1 rfl T.n_range (pa_cons (pe_callB (call_max2 rfl) rfl T.n_max (by rfl) (pa_cons pe_int (pa_cons (pe_callB (call_min2 rfl) rfl T.n_min (by rfl) (pa_cons pe_int (pa_cons (pe_callB call_len_seq rfl T.n_len (by rfl) (pa_cons (pv 0) pa_nil)) pa_nil))) pa_nil))) pa_nil)) (pg_name (i := 2) sc_law.nd rfl (Or.inl rfl))
      (pss_cons (ps_set (i := 3) sc_law.nd rfl (Or.inl rfl) (pe_c C__law_bag hr (by decide) rfl (pa_cons (pv 0) (pa_cons (pv 2) pa_nil))))
      (pss_cons (ps_set (i := 4) sc_law.nd rfl (Or.inl rfl) (pe_ix ix_list (pv 1) (pe_c C__law_draw hr (by decide) rfl (pa_cons (pv 3) (pa_cons pe_int pa_nil))) (fun _ _ => rfl)))
      (pss_cons (ps_set (i := 5) sc_law.nd rfl (Or.inl rfl) (pe_c C__law_word hr (by decide) rfl (pa_cons (pv 3) (pa_cons pe_int pa_nil))))
      (pss_cons (ps_set (i := 6) sc_law.nd rfl (Or.inl rfl) (pe_c C__law_word hr (by decide) rfl (pa_cons (pv 3) (pa_cons (pv 5) pa_nil))))
      (pss_cons (ps_set (i := 7) sc_law.nd rfl (Or.inl rfl) (pe_c C_op hr (by decide) rfl (pa_cons (pv 4) (pa_cons (pv 5) (pa_cons (pv 6) pa_nil)))))
      (pss_cons (ps_set (i := 8) sc_law.nd rfl (Or.inl rfl) (pe_c C__law_expected hr (by decide) rfl (pa_cons (pv 4) (pa_cons (pv 5) (pa_cons (pv 6) pa_nil)))))
      (pss_one (ps_if (pt_cmpR op_isN (pv 8) pe_non (nomark _)) (pss_one (ps_if (pt_cmpR op_notN (pv 7) pe_non (nomark _)) (pss_one (ps_ret pe_bl)) pss_nil)) (pss_one (ps_if (PW.pt (pw_or (pt_not (pt_val (pe_callB call_isi rfl T.n_isinstance (by rfl) (pa_cons (pv 7) (pa_cons (pe_ty "int" rfl T.n_int (by rfl)) pa_nil))))) (pw_or (pt_val (pe_callB call_isi rfl T.n_isinstance (by rfl) (pa_cons (pv 7) (pa_cons (pe_ty "bool" rfl T.n_bool (by rfl)) pa_nil)))) (pw_or1 (pt_cmpR op_ne (pv 7) (pv 8) (nomark _)))))) (pss_one (ps_ret pe_bl)) pss_nil)))))))))))
      (pss_one (ps_ret pe_bl))))), ?_⟩
    have hl : (ns.map V.int).length = ns.length := List.length_map _
    refine ⟨by show 16 ≤ sizeLine; decide, fun u nu => ?_⟩
    have eu : upd H u (.lst (allSg.map fun s => V.str s.z)) u = some (.lst (allSg.map fun s => V.str s.z)) := upd_same
    refine ⟨_, _, _, _, _, rfl, ClsV.ty "tuple", tyT (T.t_SIGNS _), kit_ty (r := true) (by decide +kernel), _, rfl, iteF ?_⟩
    refine ⟨_, _, rfl, .inr (T.t_SIGNS _), fun v nv => ?_⟩
    have nuv : u ≠ v := ne_of_none upd_same nv
    refine ⟨_, rfl, .list (allSg.map fun s => PyData.str s.z), .list (allSg.map fun s => PyData.str s.z), Dp.lst (SqL.of upd_same) signs_dp, Dp.lst (SqL.of (by rw [upd_ne nuv]; exact eu)) signs_dp, by decide +kernel, by decide +kernel, _, rfl, ifNo (by decide +kernel) ?_⟩
    have sm0 : Same H (upd (upd H u (.lst (allSg.map fun s => V.str s.z))) v (.lst (v_SIGNS.map (He.Dv.v K)))) := (Same_upd nu).trans (Same_upd nv)
    have hu0 : (upd (upd H u (.lst (allSg.map fun s => V.str s.z))) v (.lst (v_SIGNS.map (He.Dv.v K)))) u = some (.lst (allSg.map fun s => V.str s.z)) := by rw [upd_ne nuv]; exact eu
    refine ⟨_, rfl, a, _, rfl, .inl (sm0.seq hS), _, _, rfl, _, _, rfl, _, rfl, ?_, ?_, ?_⟩
    · split <;> (try split) <;> omega
    · split <;> (try split) <;> omega
    generalize hJ : Int.toNat _ = J
    have hJ2 : J ≤ 63 := by
      rw [← hJ]
      split <;> (try split) <;> omega
    refine for_range (LawI a u (upd (upd H u (.lst (allSg.map fun s => V.str s.z))) v (.lst (v_SIGNS.map (He.Dv.v K))))) ⟨_, _, _, _, _, _, _, rfl, Same.refl _⟩ ?_ ?_
    · revert sm0 hu0
      generalize upd (upd H u (.lst (allSg.map fun s => V.str s.z))) v (.lst (v_SIGNS.map (He.Dv.v K))) = H00
      intro sm0 hu0
      rintro i σ H0 hi ⟨x1, x2, x3, x4, x5, x6, x7, rfl, s0⟩
      refine ⟨_, rfl, _, rfl, a, ns, _, rfl, (sm0.trans s0).seq hS, hb, (by omega), (by omega), fun p H1 np bg s1 => ?_⟩
      have npu : u ≠ p := ne_of_none (s0 _ _ hu0) np
      have nH : H00 p = none := s0.free np
      refine ⟨_, rfl, _, rfl, p, 16, rfl, bg, by decide, by decide, fun z H2 lo hi2 bg2 k2 => ?_⟩
      have hu2 := k2 u _ (s1 _ _ (s0 _ _ hu0)) npu
      have hz : z.toNat < allSg.length := by
        show z.toNat < 16
        omega
      have ez : atI (allSg.map fun s => V.str s.z) z = some (.str (allSg[z.toNat]).z) := by
        obtain ⟨j, rfl⟩ := Int.eq_ofNat_of_zero_le lo
        refine atI_nat ?_
        have hj : j < allSg.length := hz
        rw [List.getElem?_map, List.getElem?_eq_getElem hj]
        rfl
      generalize allSg[z.toNat] = sg at ez
      refine ⟨u, _, z, _, rfl, rfl, SqL.of hu2, ez, ?_⟩
      refine ⟨_, rfl, p, 7, rfl, bg2, ⟨by decide, by decide⟩, fun l H3 wl bg3 k3 => ?_⟩
      refine ⟨_, rfl, _, rfl, p, l, rfl, bg3, wl, fun r H4 w2 bg4 k4 => ?_⟩
      refine ⟨_, rfl, _, rfl, _, rfl, sg, l, r, rfl, wl, w2, ?_⟩
      refine ⟨_, rfl, _, rfl, _, rfl, sg, l, r, rfl, wl, w2, fun H5 s5 => ?_⟩
      have sm5 : Same H00 H5 := (Keep.same (s0.trans s1) nH ((k2.trans k3).trans k4)).trans s5
      rcases opV_cases sg l r with e | ⟨n, e⟩
      · rw [e]
        refine ⟨_, rfl, rfl, _, rfl, ifYes (by decide) ?_⟩
        refine ⟨_, rfl, rfl, _, rfl, ifNo (by decide) ?_⟩
        exact ⟨_, _, _, _, _, _, _, rfl, sm5⟩
      · rw [e]
        refine ⟨_, rfl, rfl, _, rfl, ifNo (decide_eq_false fun z => nomatch z) ?_⟩
        refine ⟨_, rfl, _, _, _, _, _, rfl, ClsV.ty "int", TyX.base (TyOf.int _), kit_ty (r := true) (by decide +kernel), _, rfl, iteF ?_⟩
        refine ⟨_, rfl, _, _, _, _, _, rfl, ClsV.ty "bool", TyX.base (TyOf.int _), kit_ty (r := false) (by decide +kernel), _, rfl, iteF ?_⟩
        refine ⟨_, rfl, _, rfl, rfl, _, rfl, neqF rfl ?_⟩
        exact ⟨_, _, _, _, _, _, _, rfl, sm5⟩
    · rintro σ H0 ⟨x1, x2, x3, x4, x5, x6, x7, rfl, s0⟩
      exact q H0
end
def dd_wrap : He.DefD := ⟨("wrap", none), "wrap", "wrap", defArgs s_wrap, defBody s_wrap, defScope s_wrap, [], []⟩
def dd__plus : He.DefD := ⟨("_plus", none), "_plus", "_plus", defArgs s__plus, defBody s__plus, defScope s__plus, [], []⟩
def dd__minus : He.DefD := ⟨("_minus", none), "_minus", "_minus", defArgs s__minus, defBody s__minus, defScope s__minus, [], []⟩
def dd__times : He.DefD := ⟨("_times", none), "_times", "_times", defArgs s__times, defBody s__times, defScope s__times, [], []⟩
def dd__quotient : He.DefD := ⟨("_quotient", none), "_quotient", "_quotient", defArgs s__quotient, defBody s__quotient, defScope s__quotient, [], []⟩
def dd__divide : He.DefD := ⟨("_divide", none), "_divide", "_divide", defArgs s__divide, defBody s__divide, defScope s__divide, [], []⟩
def dd__rest : He.DefD := ⟨("_rest", none), "_rest", "_rest", defArgs s__rest, defBody s__rest, defScope s__rest, [], []⟩
def dd__both_bits : He.DefD := ⟨("_both_bits", none), "_both_bits", "_both_bits", defArgs s__both_bits, defBody s__both_bits, defScope s__both_bits, [], []⟩
def dd__any_bits : He.DefD := ⟨("_any_bits", none), "_any_bits", "_any_bits", defArgs s__any_bits, defBody s__any_bits, defScope s__any_bits, [], []⟩
def dd__other_bits : He.DefD := ⟨("_other_bits", none), "_other_bits", "_other_bits", defArgs s__other_bits, defBody s__other_bits, defScope s__other_bits, [], []⟩
def dd__up : He.DefD := ⟨("_up", none), "_up", "_up", defArgs s__up, defBody s__up, defScope s__up, [], []⟩
def dd__down : He.DefD := ⟨("_down", none), "_down", "_down", defArgs s__down, defBody s__down, defScope s__down, [], []⟩
def dd__equal : He.DefD := ⟨("_equal", none), "_equal", "_equal", defArgs s__equal, defBody s__equal, defScope s__equal, [], []⟩
def dd__unequal : He.DefD := ⟨("_unequal", none), "_unequal", "_unequal", defArgs s__unequal, defBody s__unequal, defScope s__unequal, [], []⟩
def dd__less : He.DefD := ⟨("_less", none), "_less", "_less", defArgs s__less, defBody s__less, defScope s__less, [], []⟩
def dd__at_most : He.DefD := ⟨("_at_most", none), "_at_most", "_at_most", defArgs s__at_most, defBody s__at_most, defScope s__at_most, [], []⟩
def dd__more : He.DefD := ⟨("_more", none), "_more", "_more", defArgs s__more, defBody s__more, defScope s__more, [], []⟩
def dd__at_least : He.DefD := ⟨("_at_least", none), "_at_least", "_at_least", defArgs s__at_least, defBody s__at_least, defScope s__at_least, [], []⟩
def dd_op : He.DefD := ⟨("op", none), "op", "op", defArgs s_op, defBody s_op, defScope s_op, [], []⟩
def dd__law_bag : He.DefD := ⟨("_law_bag", none), "_law_bag", "_law_bag", defArgs s__law_bag, defBody s__law_bag, defScope s__law_bag, [], []⟩
def dd__law_draw : He.DefD := ⟨("_law_draw", none), "_law_draw", "_law_draw", defArgs s__law_draw, defBody s__law_draw, defScope s__law_draw, [], []⟩
def dd__law_word : He.DefD := ⟨("_law_word", none), "_law_word", "_law_word", defArgs s__law_word, defBody s__law_word, defScope s__law_word, [], []⟩
def dd__law_bits : He.DefD := ⟨("_law_bits", none), "_law_bits", "_law_bits", defArgs s__law_bits, defBody s__law_bits, defScope s__law_bits, [], []⟩
def dd__law_value : He.DefD := ⟨("_law_value", none), "_law_value", "_law_value", defArgs s__law_value, defBody s__law_value, defScope s__law_value, [], []⟩
def dd__law_sum : He.DefD := ⟨("_law_sum", none), "_law_sum", "_law_sum", defArgs s__law_sum, defBody s__law_sum, defScope s__law_sum, [], []⟩
def dd__law_product : He.DefD := ⟨("_law_product", none), "_law_product", "_law_product", defArgs s__law_product, defBody s__law_product, defScope s__law_product, [], []⟩
def dd__law_quotient : He.DefD := ⟨("_law_quotient", none), "_law_quotient", "_law_quotient", defArgs s__law_quotient, defBody s__law_quotient, defScope s__law_quotient, [], []⟩
def dd__law_bitwise : He.DefD := ⟨("_law_bitwise", none), "_law_bitwise", "_law_bitwise", defArgs s__law_bitwise, defBody s__law_bitwise, defScope s__law_bitwise, [], []⟩
def dd__law_shifted : He.DefD := ⟨("_law_shifted", none), "_law_shifted", "_law_shifted", defArgs s__law_shifted, defBody s__law_shifted, defScope s__law_shifted, [], []⟩
def dd__law_compared : He.DefD := ⟨("_law_compared", none), "_law_compared", "_law_compared", defArgs s__law_compared, defBody s__law_compared, defScope s__law_compared, [], []⟩
def dd__law_expected : He.DefD := ⟨("_law_expected", none), "_law_expected", "_law_expected", defArgs s__law_expected, defBody s__law_expected, defScope s__law_expected, [], []⟩
def dd_law : He.DefD := ⟨("law", none), "law", "law", defArgs s_law, defBody s_law, defScope s_law, [], []⟩
def fns : List He.DefD := [dd_wrap, dd__plus, dd__minus, dd__times, dd__quotient, dd__divide, dd__rest, dd__both_bits, dd__any_bits, dd__other_bits, dd__up, dd__down, dd__equal, dd__unequal, dd__less, dd__at_most, dd__more, dd__at_least, dd_op, dd__law_bag, dd__law_draw, dd__law_word, dd__law_bits, dd__law_value, dd__law_sum, dd__law_product, dd__law_quotient, dd__law_bitwise, dd__law_shifted, dd__law_compared, dd__law_expected, dd_law]
def facts : List He.Fa := [.glo "wrap", .glo "_plus", .glo "_minus", .glo "_times", .glo "_quotient", .glo "_divide", .glo "_rest", .glo "_both_bits", .glo "_any_bits", .glo "_other_bits", .glo "_up", .glo "_down", .glo "_equal", .glo "_unequal", .glo "_less", .glo "_at_most", .glo "_more", .glo "_at_least", .glo "op", .glo "_law_bag", .glo "_law_draw", .glo "_law_word", .glo "_law_bits", .glo "_law_value", .glo "_law_sum", .glo "_law_product", .glo "_law_quotient", .glo "_law_bitwise", .glo "_law_shifted", .glo "_law_compared", .glo "_law_expected", .glo "law", .free "abs", .free "bool", .free "int", .free "isinstance", .free "len", .free "list", .free "max", .free "min", .free "range", .free "tuple", .glo "SIGNS", .glo "ACTIONS"]
def tabs : List He.Tab := [(fun K => He.ga K "ACTIONS", ["+", "-", "*", "/", "mod", "&", "|", "^", "<<", ">>", "==", "!=", "<", "<=", ">", ">="])]
def ex (K : PySem.W.Frag) : Bool := He.tupB K "SIGNS" v_SIGNS && (He.valsB K (He.ga K "ACTIONS") v_ACTIONS && (true))
theorem ex_0 {K : PySem.W.Frag} (h : ex K = true) : He.tupB K "SIGNS" v_SIGNS = true := (He.ba h).1
theorem ex_1 {K : PySem.W.Frag} (h : ex K = true) : He.valsB K (He.ga K "ACTIONS") v_ACTIONS = true := (He.ba (He.ba h).2).1
theorem txt_of {w : World} {K : PySem.W.Frag} {h : Heap} {mg : Str → Option Value} (X : K.In h) (G : h.Ns mainGlobals mg) (c : He.SaysX facts fns tabs [] ex w h K) : Txt w K mg where
  d_wrap := c.t.d.def_ 0 (d := dd_wrap) rfl
  g_wrap := He.glo_ok X G (c.t.d.fact 0 (f := .glo "wrap") rfl)
  d__plus := c.t.d.def_ 1 (d := dd__plus) rfl
  g__plus := He.glo_ok X G (c.t.d.fact 1 (f := .glo "_plus") rfl)
  d__minus := c.t.d.def_ 2 (d := dd__minus) rfl
  g__minus := He.glo_ok X G (c.t.d.fact 2 (f := .glo "_minus") rfl)
  d__times := c.t.d.def_ 3 (d := dd__times) rfl
  g__times := He.glo_ok X G (c.t.d.fact 3 (f := .glo "_times") rfl)
  d__quotient := c.t.d.def_ 4 (d := dd__quotient) rfl
  g__quotient := He.glo_ok X G (c.t.d.fact 4 (f := .glo "_quotient") rfl)
  d__divide := c.t.d.def_ 5 (d := dd__divide) rfl
  g__divide := He.glo_ok X G (c.t.d.fact 5 (f := .glo "_divide") rfl)
  d__rest := c.t.d.def_ 6 (d := dd__rest) rfl
  g__rest := He.glo_ok X G (c.t.d.fact 6 (f := .glo "_rest") rfl)
  d__both_bits := c.t.d.def_ 7 (d := dd__both_bits) rfl
  g__both_bits := He.glo_ok X G (c.t.d.fact 7 (f := .glo "_both_bits") rfl)
  d__any_bits := c.t.d.def_ 8 (d := dd__any_bits) rfl
  g__any_bits := He.glo_ok X G (c.t.d.fact 8 (f := .glo "_any_bits") rfl)
  d__other_bits := c.t.d.def_ 9 (d := dd__other_bits) rfl
  g__other_bits := He.glo_ok X G (c.t.d.fact 9 (f := .glo "_other_bits") rfl)
  d__up := c.t.d.def_ 10 (d := dd__up) rfl
  g__up := He.glo_ok X G (c.t.d.fact 10 (f := .glo "_up") rfl)
  d__down := c.t.d.def_ 11 (d := dd__down) rfl
  g__down := He.glo_ok X G (c.t.d.fact 11 (f := .glo "_down") rfl)
  d__equal := c.t.d.def_ 12 (d := dd__equal) rfl
  g__equal := He.glo_ok X G (c.t.d.fact 12 (f := .glo "_equal") rfl)
  d__unequal := c.t.d.def_ 13 (d := dd__unequal) rfl
  g__unequal := He.glo_ok X G (c.t.d.fact 13 (f := .glo "_unequal") rfl)
  d__less := c.t.d.def_ 14 (d := dd__less) rfl
  g__less := He.glo_ok X G (c.t.d.fact 14 (f := .glo "_less") rfl)
  d__at_most := c.t.d.def_ 15 (d := dd__at_most) rfl
  g__at_most := He.glo_ok X G (c.t.d.fact 15 (f := .glo "_at_most") rfl)
  d__more := c.t.d.def_ 16 (d := dd__more) rfl
  g__more := He.glo_ok X G (c.t.d.fact 16 (f := .glo "_more") rfl)
  d__at_least := c.t.d.def_ 17 (d := dd__at_least) rfl
  g__at_least := He.glo_ok X G (c.t.d.fact 17 (f := .glo "_at_least") rfl)
  d_op := c.t.d.def_ 18 (d := dd_op) rfl
  g_op := He.glo_ok X G (c.t.d.fact 18 (f := .glo "op") rfl)
  d__law_bag := c.t.d.def_ 19 (d := dd__law_bag) rfl
  g__law_bag := He.glo_ok X G (c.t.d.fact 19 (f := .glo "_law_bag") rfl)
  d__law_draw := c.t.d.def_ 20 (d := dd__law_draw) rfl
  g__law_draw := He.glo_ok X G (c.t.d.fact 20 (f := .glo "_law_draw") rfl)
  d__law_word := c.t.d.def_ 21 (d := dd__law_word) rfl
  g__law_word := He.glo_ok X G (c.t.d.fact 21 (f := .glo "_law_word") rfl)
  d__law_bits := c.t.d.def_ 22 (d := dd__law_bits) rfl
  g__law_bits := He.glo_ok X G (c.t.d.fact 22 (f := .glo "_law_bits") rfl)
  d__law_value := c.t.d.def_ 23 (d := dd__law_value) rfl
  g__law_value := He.glo_ok X G (c.t.d.fact 23 (f := .glo "_law_value") rfl)
  d__law_sum := c.t.d.def_ 24 (d := dd__law_sum) rfl
  g__law_sum := He.glo_ok X G (c.t.d.fact 24 (f := .glo "_law_sum") rfl)
  d__law_product := c.t.d.def_ 25 (d := dd__law_product) rfl
  g__law_product := He.glo_ok X G (c.t.d.fact 25 (f := .glo "_law_product") rfl)
  d__law_quotient := c.t.d.def_ 26 (d := dd__law_quotient) rfl
  g__law_quotient := He.glo_ok X G (c.t.d.fact 26 (f := .glo "_law_quotient") rfl)
  d__law_bitwise := c.t.d.def_ 27 (d := dd__law_bitwise) rfl
  g__law_bitwise := He.glo_ok X G (c.t.d.fact 27 (f := .glo "_law_bitwise") rfl)
  d__law_shifted := c.t.d.def_ 28 (d := dd__law_shifted) rfl
  g__law_shifted := He.glo_ok X G (c.t.d.fact 28 (f := .glo "_law_shifted") rfl)
  d__law_compared := c.t.d.def_ 29 (d := dd__law_compared) rfl
  g__law_compared := He.glo_ok X G (c.t.d.fact 29 (f := .glo "_law_compared") rfl)
  d__law_expected := c.t.d.def_ 30 (d := dd__law_expected) rfl
  g__law_expected := He.glo_ok X G (c.t.d.fact 30 (f := .glo "_law_expected") rfl)
  d_law := c.t.d.def_ 31 (d := dd_law) rfl
  g_law := He.glo_ok X G (c.t.d.fact 31 (f := .glo "law") rfl)
  n_abs := He.free_ok X G (c.t.d.fact 32 (f := .free "abs") rfl)
  n_bool := He.free_ok X G (c.t.d.fact 33 (f := .free "bool") rfl)
  n_int := He.free_ok X G (c.t.d.fact 34 (f := .free "int") rfl)
  n_isinstance := He.free_ok X G (c.t.d.fact 35 (f := .free "isinstance") rfl)
  n_len := He.free_ok X G (c.t.d.fact 36 (f := .free "len") rfl)
  n_list := He.free_ok X G (c.t.d.fact 37 (f := .free "list") rfl)
  n_max := He.free_ok X G (c.t.d.fact 38 (f := .free "max") rfl)
  n_min := He.free_ok X G (c.t.d.fact 39 (f := .free "min") rfl)
  n_range := He.free_ok X G (c.t.d.fact 40 (f := .free "range") rfl)
  n_tuple := He.free_ok X G (c.t.d.fact 41 (f := .free "tuple") rfl)
  g_SIGNS := He.glo_ok X G (c.t.d.fact 42 (f := .glo "SIGNS") rfl)
  t_SIGNS := He.tupB_ok (ex_0 c.more)
  g_ACTIONS := He.glo_ok X G (c.t.d.fact 43 (f := .glo "ACTIONS") rfl)
  k_ACTIONS := c.t.tab 0 (t := (fun K => He.ga K "ACTIONS", ["+", "-", "*", "/", "mod", "&", "|", "^", "<<", ">>", "==", "!=", "<", "<=", ">", ">="])) rfl
  t_ACTIONS := kdct_of (c.t.tab 0 (t := (fun K => He.ga K "ACTIONS", ["+", "-", "*", "/", "mod", "&", "|", "^", "<<", ">>", "==", "!=", "<", "<=", ">", ">="])) rfl) (ex_1 c.more)
abbrev loose : List Str := (["wrap", "_plus", "_minus", "_times", "_quotient", "_divide", "_rest", "_both_bits", "_any_bits", "_other_bits", "_up", "_down", "_equal", "_unequal", "_less", "_at_most", "_more", "_at_least", "op", "_law_bag", "_law_draw", "_law_word", "_law_bits", "_law_value", "_law_sum", "_law_product", "_law_quotient", "_law_bitwise", "_law_shifted", "_law_compared"] : List Str) ++ (["_law_expected", "SIGNS", "ACTIONS", "__name__"] : List Str)
abbrev Rr : PySem.W.OpenRow := PySem.W.OpenLaw.row PySem.Challenge.rw_warycard_k03_operations
abbrev hk : PySem.W.Hook := He.hookX 4 facts fns tabs [] ex
def ob (s : PySem.W.SharedT) : He.AlX := He.obsX 4 facts fns tabs [] ex (HandSHeadRun.getT s)
theorem ob_eq (s : PySem.W.SharedT) : ob s = hk.obs s.abs := He.obsX_eq (HandSHeadRun.getT_eq s)
theorem run (w : World) : HandSHeadRun.RunEq Rr (PySem.W.view Rr.prog [35]) hk ob 3000 loose w := by
  refine PySem.W.byRow2 "special-get-raises" (P := fun w => HandSHeadRun.RunEq Rr (PySem.W.view Rr.prog [35]) hk ob 3000 loose w) (fun w => ?_) (fun w => ?_) w
  · intro os
    kernel_rfl
  · intro os
    kernel_rfl

theorem law_of {P : Program} {w : World} {K : PySem.W.Frag} {mg : Str → Option Value} {fa : Addr} (T : Txt w K mg) (h : mg ("law" : Str) = some (.ref fa)) :
    ∃ (fd : FuncData) (sp : Sp), (∀ (s : Shared) (u : Value), BindsTo s fd ⟨[u], []⟩ [("script", u)]) ∧
      (∀ (H : Hp) (a : Addr) (ns : List Int), ns.length ≤ 63 → (∀ z ∈ ns, Builtin.Int.intBits z ≤ 1048576) → SqL K H a (ns.map V.int) → sp [.ref a] H (fun v _ => v = .bl true) fun _ _ _ => False) ∧
      ∀ base : Heap, K.In base → base.Ns mainGlobals mg → FnOk P w K mg base CX0 4 fa fd ["script"] sp :=
  lawD T.d_law T.g_law h (fun base fd F => c_law T F) (fun _ _ _ _ _ _ us hl => match us, hl with | [_], _ => rfl) fun H a ns hl hb hS => ⟨a, ns, rfl, hS, hl, hb, fun _ => rfl⟩
end Pf
open PySem PySem.W PySem.Calls PyProof.Rows
set_option maxRecDepth 100000 in
set_option maxHeartbeats 0 in
theorem PySem.Challenge.cw_warycard_k03_operations_holds : PySem.Challenge.rw_warycard_k03_operations.Holds := by
  w_on; o_law
  refine HandSHeadRun.head_any (r := OpenLaw.row PySem.Challenge.rw_warycard_k03_operations) (q := view (OpenLaw.row PySem.Challenge.rw_warycard_k03_operations).prog [35]) (H := Pf.hk) (ob := Pf.ob) (M := 3000) (loose := Pf.loose) (d := HandSHeadRun.topDef (OpenLaw.row PySem.Challenge.rw_warycard_k03_operations).prog 35) (kwd := []) Pf.ob_eq
    (by kernel_rfl) (fun s => by kernel_rfl) Pf.run (by kernel_rfl) (by kernel_rfl) (by kernel_rfl) (by rfl) (by first | assumption | decide +kernel) (by decide +kernel) ⟨rfl, rfl, rfl, rfl, rfl, by decide +kernel⟩ ?hw ?hc
  case hw => w_witness2
  case hc =>
    refine Wc.walk_bits (l := PySem.Challenge.rw_warycard_k03_operations) (n := 63) (k := 4) (x := "script") rfl (by decide) (by kernel_rfl) ⟨rfl, by decide, by decide⟩ ?F
    intro w mg fa h Y G hmg0
    obtain ⟨K, KX, c⟩ := Y
    have hmg : mg ("law" : PySem.Str) = some (.ref fa) := by
      have e : (HandSHeadRun.topDef (OpenLaw.row PySem.Challenge.rw_warycard_k03_operations).prog 35).name = ("law" : PySem.Str) := by kernel_rfl
      rw [← e]
      exact hmg0
    exact ⟨K, KX, Pf.law_of (w := w) (Pf.txt_of KX G c) hmg⟩
