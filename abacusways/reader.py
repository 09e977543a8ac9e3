"""Goes through a method's bytes from the left, as far as they are what is wanted."""

from abacusways.faults import NO_METHOD, Fault


class Reader:
    """A text's bytes, which are only read, and how many of them have been read."""

    def __init__(self, text):
        self.text = text
        self.place = 0

    def ended(self):
        """Whether all has been read."""
        return self.place == len(self.text)

    def shows(self, signs):
        """Whether there is a next byte and it is one of these signs."""
        return not self.ended() and self.text[self.place] in [ord(sign) for sign in signs]

    def read_sign(self, signs):
        """Reads the next byte, which is to be one of these signs, and gives back which."""
        for sign in signs:
            if self.shows(sign):
                self.place += 1
                return sign
        raise Fault(NO_METHOD, self.place)

    def read_word(self, words):
        """Reads one of these words, the longest that stands here, and gives back which."""
        word = ""
        signs = signs_behind(word, words)
        while self.shows(signs):
            word += self.read_sign(signs)
            signs = signs_behind(word, words)
        if word not in words:
            raise Fault(NO_METHOD, self.place)
        return word


def signs_behind(beginning, words):
    """The signs with which those of the words that begin so go on."""
    size = len(beginning)
    return [word[size] for word in words if len(word) > size and word.startswith(beginning)]
